/-
  The program's reader of words: contract of node. For every list of words that are none of them empty. The model's reader of words: contract of l06Node, at every word. For every list of words that are none of them empty. append of strings to a row of strings of the call's own: one string, or a whole slice of them. No walk.
-/
import Derived.Test.YtfpbhedophlnkaaGreatDoorIPrD
import Derived.Test.YtfpbhedophlnkaaGreatDoorJT5x
import Derived.Test.YtfpbhedophlnkaaGreatDoorJT14x
import Derived.Test.YtfpbhedophlnkaaGreatDoorJT15x
import Derived.Maps.AppendAt
import Derived.OwnWalk
namespace Go.Proofs.YtfpbhedophlnkaaGreatDoor
open Go.RowKit
set_option linter.unusedSimpArgs false
set_option linter.unusedVariables false

theorem verbsB_ways (s : ByteArray) : (s = ⟨#[115, 99, 97, 110]⟩ ∧ findB verbsB s = 0) ∨ (s = ⟨#[102, 105, 108, 116, 101, 114]⟩ ∧ findB verbsB s = 1) ∨ (s = ⟨#[107, 101, 101, 112]⟩ ∧ findB verbsB s = 2) ∨ (s = ⟨#[106, 111, 105, 110]⟩ ∧ findB verbsB s = 3) ∨ (s = ⟨#[98, 111, 116, 104]⟩ ∧ findB verbsB s = 4) ∨ (s = ⟨#[115, 111, 114, 116]⟩ ∧ findB verbsB s = 5) ∨ (s = ⟨#[108, 105, 109, 105, 116]⟩ ∧ findB verbsB s = 6) ∨ (s = ⟨#[111, 110, 99, 101]⟩ ∧ findB verbsB s = 7) ∨ (findB verbsB s = -1 ∧ (s.toList == [115, 99, 97, 110]) = false ∧ (s.toList == [102, 105, 108, 116, 101, 114]) = false ∧ (s.toList == [107, 101, 101, 112]) = false ∧ (s.toList == [106, 111, 105, 110]) = false ∧ (s.toList == [98, 111, 116, 104]) = false ∧ (s.toList == [115, 111, 114, 116]) = false ∧ (s.toList == [108, 105, 109, 105, 116]) = false ∧ (s.toList == [111, 110, 99, 101]) = false) := by
  have key : ∀ (l : List UInt8), (s.toList == l) = decide (s = ⟨l.toArray⟩) := fun l => by
    have h := str_same s ⟨l.toArray⟩
    rw [show (⟨l.toArray⟩ : ByteArray).toList = l by rw [ByteArray.toList_eq]] at h
    exact h
  by_cases h0 : s = ⟨#[115, 99, 97, 110]⟩
  · left; subst h0; exact ⟨rfl, by decide⟩
  by_cases h1 : s = ⟨#[102, 105, 108, 116, 101, 114]⟩
  · right; left; subst h1; exact ⟨rfl, by decide⟩
  by_cases h2 : s = ⟨#[107, 101, 101, 112]⟩
  · right; right; left; subst h2; exact ⟨rfl, by decide⟩
  by_cases h3 : s = ⟨#[106, 111, 105, 110]⟩
  · right; right; right; left; subst h3; exact ⟨rfl, by decide⟩
  by_cases h4 : s = ⟨#[98, 111, 116, 104]⟩
  · right; right; right; right; left; subst h4; exact ⟨rfl, by decide⟩
  by_cases h5 : s = ⟨#[115, 111, 114, 116]⟩
  · right; right; right; right; right; left; subst h5; exact ⟨rfl, by decide⟩
  by_cases h6 : s = ⟨#[108, 105, 109, 105, 116]⟩
  · right; right; right; right; right; right; left; subst h6; exact ⟨rfl, by decide⟩
  by_cases h7 : s = ⟨#[111, 110, 99, 101]⟩
  · right; right; right; right; right; right; right; left; subst h7; exact ⟨rfl, by decide⟩
  · right; right; right; right; right; right; right; right
    refine ⟨?_, by rw [key]; simpa using h0, by rw [key]; simpa using h1, by rw [key]; simpa using h2, by rw [key]; simpa using h3, by rw [key]; simpa using h4, by rw [key]; simpa using h5, by rw [key]; simpa using h6, by rw [key]; simpa using h7⟩
    simp [verbsB, findB, Ne.symm h0, Ne.symm h1, Ne.symm h2, Ne.symm h3, Ne.symm h4, Ne.symm h5, Ne.symm h6, Ne.symm h7]
theorem rest0 (ws : List ByteArray) (p : Nat) : restQ ws 0 p = (match nameW ws p with | none => .inl p | some s => .inr (⟨0, s, 0, 0, 0, false, []⟩, p + 1)) := by
  unfold restQ nameW; simp only [if_true]
  cases ws[p]? with
  | none => rfl
  | some s => simp only; split <;> rfl
theorem rest2 (ws : List ByteArray) (p : Nat) : restQ ws 2 p = (match keepQ ws p with | .inl q => .inl q | .inr l => .inr (⟨2, emptyB, 0, 0, 0, false, l⟩, p + 1 + l.length)) := by
  unfold restQ keepQ; simp only [Int.reduceEq, if_false, if_true]
  cases intQ false ws p with
  | none => rfl
  | some m =>
    simp only
    split
    · cases hc : colsQ ws (p + 1) m.1.toNat with
      | inl q => rfl
      | inr l => simp only; rw [(colsQ_len hc).1]
    · rfl
theorem rest3 (ws : List ByteArray) (p : Nat) : restQ ws 3 p = (match intQ false ws p with | none => .inl p | some c => match intQ false ws (p + 1) with | none => .inl (p + 1) | some d => .inr (⟨3, emptyB, c.1, 0, d.1, false, []⟩, p + 2)) := by
  unfold restQ; simp only [Int.reduceEq, if_false, if_true]; rfl
theorem rest5 (ws : List ByteArray) (p : Nat) : restQ ws 5 p = (match intQ false ws p with | none => .inl p | some c => .inr (⟨5, emptyB, c.1, 0, 0, false, []⟩, p + 1)) := by
  unfold restQ; simp only [Int.reduceEq, if_false, if_true]; rfl
theorem rest6 (ws : List ByteArray) (p : Nat) : restQ ws 6 p = (match intQ true ws p with | none => .inl p | some x => .inr (⟨6, emptyB, 0, 0, x.1, x.2, []⟩, p + 1)) := by
  unfold restQ; simp only [Int.reduceEq, if_false, if_true]; rfl
theorem rest4 (ws : List ByteArray) (p : Nat) : restQ ws 4 p = .inr (⟨4, emptyB, 0, 0, 0, false, []⟩, p) := by
  unfold restQ; simp only [Int.reduceEq, if_false]
theorem rest7 (ws : List ByteArray) (p : Nat) : restQ ws 7 p = .inr (⟨7, emptyB, 0, 0, 0, false, []⟩, p) := by
  unfold restQ; simp only [Int.reduceEq, if_false]

set_option maxRecDepth 100000 in
set_option maxHeartbeats 3200000 in
theorem node0 {R c p : Nat} {ao : Option Addr} {ws : List ByteArray} (w : World) (hw : WdsI ws) (hg : GKeep R w) (h : Prd w R ao c ws p) (hx : ws[p]? = some ⟨#[115, 99, 97, 110]⟩) :
    Calls Tryz.prog 208 #[.pointer (some ⟨R, 0, none⟩)] w (NodeI (restQ ws 0 (p + 1)) R ao c ws w) := by
  have G := Lib.hid hg
  have HR := h.lt
  have HWD := Lib.hid h.words
  have HN := Lib.hid hw
  have BA := ((Below.refl w.heap.size w).alloc (Nat.le_refl _) (.cells #[.int .i64 0, .string ⟨#[]⟩, .int .i64 0, .int .i64 0, .int .i64 0, .bool false, .slice none 0 0] 92)).alloc (by simp) (.cells #[.int .i64 0, .string ⟨#[]⟩, .int .i64 0, .int .i64 0, .int .i64 0, .bool false, .slice none 0 0] 92)
  have GA : w.grownBy ((w.alloc (.cells #[.int .i64 0, .string ⟨#[]⟩, .int .i64 0, .int .i64 0, .int .i64 0, .bool false, .slice none 0 0] 92)).alloc (.cells #[.int .i64 0, .string ⟨#[]⟩, .int .i64 0, .int .i64 0, .int .i64 0, .bool false, .slice none 0 0] 92)) (some R) := grownBy_trans (World.grownBy_alloc w _ _) (World.grownBy_alloc _ _ _)
  have HGA := Lib.hid GA
  have HX : Hid (((w.alloc (.cells #[.int .i64 0, .string ⟨#[]⟩, .int .i64 0, .int .i64 0, .int .i64 0, .bool false, .slice none 0 0] 92)).alloc (.cells #[.int .i64 0, .string ⟨#[]⟩, .int .i64 0, .int .i64 0, .int .i64 0, .bool false, .slice none 0 0] 92)).heap[w.heap.size + 1]? = some (.cells #[.int .i64 0, .string ⟨#[]⟩, .int .i64 0, .int .i64 0, .int .i64 0, .bool false, .slice none 0 0] 92 (0, 0))) := by
    show _ = _
    have h1 := heap_alloc_new (w.alloc (.cells #[.int .i64 0, .string ⟨#[]⟩, .int .i64 0, .int .i64 0, .int .i64 0, .bool false, .slice none 0 0] 92)) (.cells #[.int .i64 0, .string ⟨#[]⟩, .int .i64 0, .int .i64 0, .int .i64 0, .bool false, .slice none 0 0] 92)
    simpa using h1
  have HZ : Hid (((w.alloc (.cells #[.int .i64 0, .string ⟨#[]⟩, .int .i64 0, .int .i64 0, .int .i64 0, .bool false, .slice none 0 0] 92)).alloc (.cells #[.int .i64 0, .string ⟨#[]⟩, .int .i64 0, .int .i64 0, .int .i64 0, .bool false, .slice none 0 0] 92)).heap[w.heap.size]? = some (.cells #[.int .i64 0, .string ⟨#[]⟩, .int .i64 0, .int .i64 0, .int .i64 0, .bool false, .slice none 0 0] 92 (0, 0))) := by
    show _ = _
    have h1 := heap_alloc_new w (.cells #[.int .i64 0, .string ⟨#[]⟩, .int .i64 0, .int .i64 0, .int .i64 0, .bool false, .slice none 0 0] 92)
    exact ((World.grownBy_alloc (w.alloc (.cells #[.int .i64 0, .string ⟨#[]⟩, .int .i64 0, .int .i64 0, .int .i64 0, .bool false, .slice none 0 0] 92)) _ none).block _ (Array.getElem?_eq_some_iff.1 h1).1 (by simp)).trans h1
  have T := Lib.hid (next_yes _ (h.below BA) hx)
  have K := Lib.hid (rest0 ws (p + 1))
  obtain ⟨rr, hrr⟩ : ∃ rr, rr = restQ ws 0 (p + 1) := ⟨_, rfl⟩
  rw [← hrr] at K ⊢
  clear h hw hg hrr GA BA hx
  have N2 := Lib.hid (fun W (h : Prd W R ao c ws (p + 1)) (_ : GKeep R W) => name_any W (fun s hs => (HN.out s hs).2) h)
  obtain ⟨r2, hr2⟩ : ∃ r2, r2 = nameW ws (p + 1) := ⟨_, rfl⟩
  rw [← hr2] at K N2
  clear hr2
  go_enter Tryz.func208, Tryz.ntmps208
  go_wp2_with fail
  refine T.out.mono ?_
  rintro e w1 ⟨rfl, h1, g1⟩
  have H1 := Lib.hid h1; have G1 := Lib.hid (grownBy_trans HGA.out g1)
  have z1 := g1.size
  simp at z1
  have B1 := Lib.hid (blk_keep HZ.out g1 (by omega)); have X1 := Lib.hid (blk_keep HX.out g1 (by omega))
  have r0 : ¬ (w.heap.size + 1 = w.heap.size) := by omega
  have r0' : ¬ (w.heap.size = w.heap.size + 1) := by omega
  clear h1 g1 T HGA HX HZ
  go_wp2_with fail
  refine (N2.out _ H1.out (G.out.step G1.out)).mono ?_
  cases r2 with
  | none =>
    have E := Lib.hid K.out
    rintro e w2 ⟨rfl, g2⟩
    have G2 := Lib.hid (grownBy_trans G1.out g2)
    clear g2
    go_wp2_with fail
    rw [E.out]
    exact ⟨rfl, rfl, G2.out⟩
  | some y =>
      have E := Lib.hid K.out
      rintro e w2 ⟨rfl, h2, g2⟩
      have H2 := Lib.hid h2; have G2 := Lib.hid (grownBy_trans G1.out g2)
      obtain ⟨⟨b0, b1, b2, b3, b4, b5, b6⟩, bf⟩ := nd7 (blk_keep B1.out g2 (by omega))
      obtain ⟨⟨x0, x1, x2, x3, x4, x5, x6⟩, xf⟩ := nd7 (blk_keep X1.out g2 (by omega))
      have z2 := g2.size
      clear h2 g2
      go_wp2_with fail
      rw [E.out]
      refine bodyPost_ret (v := .agg #[.int .i64 0, .string y, .int .i64 0, .int .i64 0, .int .i64 0, .bool false, .slice none 0 0]) (by simp [results, Tryz.results208, go_sem, b0, b1, b2, b3, b4, b5, b6]) rfl ⟨none, 0, rfl, Own.none_, H2.out.belowB HR HWD.out ?_, grown_belowI G2.out ?_⟩
      all_goals
        repeat (refine Below.setCell ?_ (by simp; try omega) _)
        exact Below.refl _ _

set_option maxRecDepth 100000 in
set_option maxHeartbeats 3200000 in
theorem node4 {R c p : Nat} {ao : Option Addr} {ws : List ByteArray} (w : World) (hw : WdsI ws) (hg : GKeep R w) (h : Prd w R ao c ws p) (hx : ws[p]? = some ⟨#[98, 111, 116, 104]⟩) :
    Calls Tryz.prog 208 #[.pointer (some ⟨R, 0, none⟩)] w (NodeI (restQ ws 4 (p + 1)) R ao c ws w) := by
  have G := Lib.hid hg
  have HR := h.lt
  have HWD := Lib.hid h.words
  have HN := Lib.hid hw
  have BA := ((Below.refl w.heap.size w).alloc (Nat.le_refl _) (.cells #[.int .i64 0, .string ⟨#[]⟩, .int .i64 0, .int .i64 0, .int .i64 0, .bool false, .slice none 0 0] 92)).alloc (by simp) (.cells #[.int .i64 0, .string ⟨#[]⟩, .int .i64 0, .int .i64 0, .int .i64 0, .bool false, .slice none 0 0] 92)
  have GA : w.grownBy ((w.alloc (.cells #[.int .i64 0, .string ⟨#[]⟩, .int .i64 0, .int .i64 0, .int .i64 0, .bool false, .slice none 0 0] 92)).alloc (.cells #[.int .i64 0, .string ⟨#[]⟩, .int .i64 0, .int .i64 0, .int .i64 0, .bool false, .slice none 0 0] 92)) (some R) := grownBy_trans (World.grownBy_alloc w _ _) (World.grownBy_alloc _ _ _)
  have HGA := Lib.hid GA
  have HX : Hid (((w.alloc (.cells #[.int .i64 0, .string ⟨#[]⟩, .int .i64 0, .int .i64 0, .int .i64 0, .bool false, .slice none 0 0] 92)).alloc (.cells #[.int .i64 0, .string ⟨#[]⟩, .int .i64 0, .int .i64 0, .int .i64 0, .bool false, .slice none 0 0] 92)).heap[w.heap.size + 1]? = some (.cells #[.int .i64 0, .string ⟨#[]⟩, .int .i64 0, .int .i64 0, .int .i64 0, .bool false, .slice none 0 0] 92 (0, 0))) := by
    show _ = _
    have h1 := heap_alloc_new (w.alloc (.cells #[.int .i64 0, .string ⟨#[]⟩, .int .i64 0, .int .i64 0, .int .i64 0, .bool false, .slice none 0 0] 92)) (.cells #[.int .i64 0, .string ⟨#[]⟩, .int .i64 0, .int .i64 0, .int .i64 0, .bool false, .slice none 0 0] 92)
    simpa using h1
  have HZ : Hid (((w.alloc (.cells #[.int .i64 0, .string ⟨#[]⟩, .int .i64 0, .int .i64 0, .int .i64 0, .bool false, .slice none 0 0] 92)).alloc (.cells #[.int .i64 0, .string ⟨#[]⟩, .int .i64 0, .int .i64 0, .int .i64 0, .bool false, .slice none 0 0] 92)).heap[w.heap.size]? = some (.cells #[.int .i64 0, .string ⟨#[]⟩, .int .i64 0, .int .i64 0, .int .i64 0, .bool false, .slice none 0 0] 92 (0, 0))) := by
    show _ = _
    have h1 := heap_alloc_new w (.cells #[.int .i64 0, .string ⟨#[]⟩, .int .i64 0, .int .i64 0, .int .i64 0, .bool false, .slice none 0 0] 92)
    exact ((World.grownBy_alloc (w.alloc (.cells #[.int .i64 0, .string ⟨#[]⟩, .int .i64 0, .int .i64 0, .int .i64 0, .bool false, .slice none 0 0] 92)) _ none).block _ (Array.getElem?_eq_some_iff.1 h1).1 (by simp)).trans h1
  have T := Lib.hid (next_yes _ (h.below BA) hx)
  have K := Lib.hid (rest4 ws (p + 1))
  obtain ⟨rr, hrr⟩ : ∃ rr, rr = restQ ws 4 (p + 1) := ⟨_, rfl⟩
  rw [← hrr] at K ⊢
  clear h hw hg hrr GA BA hx
  go_enter Tryz.func208, Tryz.ntmps208
  go_wp2_with fail
  refine T.out.mono ?_
  rintro e w1 ⟨rfl, h1, g1⟩
  have H1 := Lib.hid h1; have G1 := Lib.hid (grownBy_trans HGA.out g1)
  have z1 := g1.size
  simp at z1
  have B1 := Lib.hid (blk_keep HZ.out g1 (by omega)); have X1 := Lib.hid (blk_keep HX.out g1 (by omega))
  have r0 : ¬ (w.heap.size + 1 = w.heap.size) := by omega
  have r0' : ¬ (w.heap.size = w.heap.size + 1) := by omega
  clear h1 g1 T HGA HX HZ
  have E := Lib.hid K.out
  obtain ⟨⟨b0, b1, b2, b3, b4, b5, b6⟩, bf⟩ := nd7 B1.out
  obtain ⟨⟨x0, x1, x2, x3, x4, x5, x6⟩, xf⟩ := nd7 X1.out
  have G2 := G1
  go_wp2_with fail
  rw [E.out]
  refine bodyPost_ret (v := .agg #[.int .i64 4, .string ⟨#[]⟩, .int .i64 0, .int .i64 0, .int .i64 0, .bool false, .slice none 0 0]) (by simp [results, Tryz.results208, go_sem, b0, b1, b2, b3, b4, b5, b6]) rfl ⟨none, 0, rfl, Own.none_, H1.out.belowB HR HWD.out ?_, grown_belowI G2.out ?_⟩
  all_goals
    repeat (refine Below.setCell ?_ (by simp; try omega) _)
    exact Below.refl _ _

set_option maxRecDepth 100000 in
set_option maxHeartbeats 3200000 in
theorem node7 {R c p : Nat} {ao : Option Addr} {ws : List ByteArray} (w : World) (hw : WdsI ws) (hg : GKeep R w) (h : Prd w R ao c ws p) (hx : ws[p]? = some ⟨#[111, 110, 99, 101]⟩) :
    Calls Tryz.prog 208 #[.pointer (some ⟨R, 0, none⟩)] w (NodeI (restQ ws 7 (p + 1)) R ao c ws w) := by
  have G := Lib.hid hg
  have HR := h.lt
  have HWD := Lib.hid h.words
  have HN := Lib.hid hw
  have BA := ((Below.refl w.heap.size w).alloc (Nat.le_refl _) (.cells #[.int .i64 0, .string ⟨#[]⟩, .int .i64 0, .int .i64 0, .int .i64 0, .bool false, .slice none 0 0] 92)).alloc (by simp) (.cells #[.int .i64 0, .string ⟨#[]⟩, .int .i64 0, .int .i64 0, .int .i64 0, .bool false, .slice none 0 0] 92)
  have GA : w.grownBy ((w.alloc (.cells #[.int .i64 0, .string ⟨#[]⟩, .int .i64 0, .int .i64 0, .int .i64 0, .bool false, .slice none 0 0] 92)).alloc (.cells #[.int .i64 0, .string ⟨#[]⟩, .int .i64 0, .int .i64 0, .int .i64 0, .bool false, .slice none 0 0] 92)) (some R) := grownBy_trans (World.grownBy_alloc w _ _) (World.grownBy_alloc _ _ _)
  have HGA := Lib.hid GA
  have HX : Hid (((w.alloc (.cells #[.int .i64 0, .string ⟨#[]⟩, .int .i64 0, .int .i64 0, .int .i64 0, .bool false, .slice none 0 0] 92)).alloc (.cells #[.int .i64 0, .string ⟨#[]⟩, .int .i64 0, .int .i64 0, .int .i64 0, .bool false, .slice none 0 0] 92)).heap[w.heap.size + 1]? = some (.cells #[.int .i64 0, .string ⟨#[]⟩, .int .i64 0, .int .i64 0, .int .i64 0, .bool false, .slice none 0 0] 92 (0, 0))) := by
    show _ = _
    have h1 := heap_alloc_new (w.alloc (.cells #[.int .i64 0, .string ⟨#[]⟩, .int .i64 0, .int .i64 0, .int .i64 0, .bool false, .slice none 0 0] 92)) (.cells #[.int .i64 0, .string ⟨#[]⟩, .int .i64 0, .int .i64 0, .int .i64 0, .bool false, .slice none 0 0] 92)
    simpa using h1
  have HZ : Hid (((w.alloc (.cells #[.int .i64 0, .string ⟨#[]⟩, .int .i64 0, .int .i64 0, .int .i64 0, .bool false, .slice none 0 0] 92)).alloc (.cells #[.int .i64 0, .string ⟨#[]⟩, .int .i64 0, .int .i64 0, .int .i64 0, .bool false, .slice none 0 0] 92)).heap[w.heap.size]? = some (.cells #[.int .i64 0, .string ⟨#[]⟩, .int .i64 0, .int .i64 0, .int .i64 0, .bool false, .slice none 0 0] 92 (0, 0))) := by
    show _ = _
    have h1 := heap_alloc_new w (.cells #[.int .i64 0, .string ⟨#[]⟩, .int .i64 0, .int .i64 0, .int .i64 0, .bool false, .slice none 0 0] 92)
    exact ((World.grownBy_alloc (w.alloc (.cells #[.int .i64 0, .string ⟨#[]⟩, .int .i64 0, .int .i64 0, .int .i64 0, .bool false, .slice none 0 0] 92)) _ none).block _ (Array.getElem?_eq_some_iff.1 h1).1 (by simp)).trans h1
  have T := Lib.hid (next_yes _ (h.below BA) hx)
  have K := Lib.hid (rest7 ws (p + 1))
  obtain ⟨rr, hrr⟩ : ∃ rr, rr = restQ ws 7 (p + 1) := ⟨_, rfl⟩
  rw [← hrr] at K ⊢
  clear h hw hg hrr GA BA hx
  go_enter Tryz.func208, Tryz.ntmps208
  go_wp2_with fail
  refine T.out.mono ?_
  rintro e w1 ⟨rfl, h1, g1⟩
  have H1 := Lib.hid h1; have G1 := Lib.hid (grownBy_trans HGA.out g1)
  have z1 := g1.size
  simp at z1
  have B1 := Lib.hid (blk_keep HZ.out g1 (by omega)); have X1 := Lib.hid (blk_keep HX.out g1 (by omega))
  have r0 : ¬ (w.heap.size + 1 = w.heap.size) := by omega
  have r0' : ¬ (w.heap.size = w.heap.size + 1) := by omega
  clear h1 g1 T HGA HX HZ
  have E := Lib.hid K.out
  obtain ⟨⟨b0, b1, b2, b3, b4, b5, b6⟩, bf⟩ := nd7 B1.out
  obtain ⟨⟨x0, x1, x2, x3, x4, x5, x6⟩, xf⟩ := nd7 X1.out
  have G2 := G1
  go_wp2_with fail
  rw [E.out]
  refine bodyPost_ret (v := .agg #[.int .i64 7, .string ⟨#[]⟩, .int .i64 0, .int .i64 0, .int .i64 0, .bool false, .slice none 0 0]) (by simp [results, Tryz.results208, go_sem, b0, b1, b2, b3, b4, b5, b6]) rfl ⟨none, 0, rfl, Own.none_, H1.out.belowB HR HWD.out ?_, grown_belowI G2.out ?_⟩
  all_goals
    repeat (refine Below.setCell ?_ (by simp; try omega) _)
    exact Below.refl _ _

set_option maxRecDepth 100000 in
set_option maxHeartbeats 3200000 in
theorem node5 {R c p : Nat} {ao : Option Addr} {ws : List ByteArray} (w : World) (hw : WdsI ws) (hg : GKeep R w) (h : Prd w R ao c ws p) (hx : ws[p]? = some ⟨#[115, 111, 114, 116]⟩) :
    Calls Tryz.prog 208 #[.pointer (some ⟨R, 0, none⟩)] w (NodeI (restQ ws 5 (p + 1)) R ao c ws w) := by
  have G := Lib.hid hg
  have HR := h.lt
  have HWD := Lib.hid h.words
  have HN := Lib.hid hw
  have BA := ((Below.refl w.heap.size w).alloc (Nat.le_refl _) (.cells #[.int .i64 0, .string ⟨#[]⟩, .int .i64 0, .int .i64 0, .int .i64 0, .bool false, .slice none 0 0] 92)).alloc (by simp) (.cells #[.int .i64 0, .string ⟨#[]⟩, .int .i64 0, .int .i64 0, .int .i64 0, .bool false, .slice none 0 0] 92)
  have GA : w.grownBy ((w.alloc (.cells #[.int .i64 0, .string ⟨#[]⟩, .int .i64 0, .int .i64 0, .int .i64 0, .bool false, .slice none 0 0] 92)).alloc (.cells #[.int .i64 0, .string ⟨#[]⟩, .int .i64 0, .int .i64 0, .int .i64 0, .bool false, .slice none 0 0] 92)) (some R) := grownBy_trans (World.grownBy_alloc w _ _) (World.grownBy_alloc _ _ _)
  have HGA := Lib.hid GA
  have HX : Hid (((w.alloc (.cells #[.int .i64 0, .string ⟨#[]⟩, .int .i64 0, .int .i64 0, .int .i64 0, .bool false, .slice none 0 0] 92)).alloc (.cells #[.int .i64 0, .string ⟨#[]⟩, .int .i64 0, .int .i64 0, .int .i64 0, .bool false, .slice none 0 0] 92)).heap[w.heap.size + 1]? = some (.cells #[.int .i64 0, .string ⟨#[]⟩, .int .i64 0, .int .i64 0, .int .i64 0, .bool false, .slice none 0 0] 92 (0, 0))) := by
    show _ = _
    have h1 := heap_alloc_new (w.alloc (.cells #[.int .i64 0, .string ⟨#[]⟩, .int .i64 0, .int .i64 0, .int .i64 0, .bool false, .slice none 0 0] 92)) (.cells #[.int .i64 0, .string ⟨#[]⟩, .int .i64 0, .int .i64 0, .int .i64 0, .bool false, .slice none 0 0] 92)
    simpa using h1
  have HZ : Hid (((w.alloc (.cells #[.int .i64 0, .string ⟨#[]⟩, .int .i64 0, .int .i64 0, .int .i64 0, .bool false, .slice none 0 0] 92)).alloc (.cells #[.int .i64 0, .string ⟨#[]⟩, .int .i64 0, .int .i64 0, .int .i64 0, .bool false, .slice none 0 0] 92)).heap[w.heap.size]? = some (.cells #[.int .i64 0, .string ⟨#[]⟩, .int .i64 0, .int .i64 0, .int .i64 0, .bool false, .slice none 0 0] 92 (0, 0))) := by
    show _ = _
    have h1 := heap_alloc_new w (.cells #[.int .i64 0, .string ⟨#[]⟩, .int .i64 0, .int .i64 0, .int .i64 0, .bool false, .slice none 0 0] 92)
    exact ((World.grownBy_alloc (w.alloc (.cells #[.int .i64 0, .string ⟨#[]⟩, .int .i64 0, .int .i64 0, .int .i64 0, .bool false, .slice none 0 0] 92)) _ none).block _ (Array.getElem?_eq_some_iff.1 h1).1 (by simp)).trans h1
  have T := Lib.hid (next_yes _ (h.below BA) hx)
  have K := Lib.hid (rest5 ws (p + 1))
  obtain ⟨rr, hrr⟩ : ∃ rr, rr = restQ ws 5 (p + 1) := ⟨_, rfl⟩
  rw [← hrr] at K ⊢
  clear h hw hg hrr GA BA hx
  have N2 := Lib.hid (fun W (h : Prd W R ao c ws (p + 1)) g => number_any W HN.out g h)
  obtain ⟨r2, hr2⟩ : ∃ r2, r2 = intQ false ws (p + 1) := ⟨_, rfl⟩
  rw [← hr2] at K N2
  clear hr2
  go_enter Tryz.func208, Tryz.ntmps208
  go_wp2_with fail
  refine T.out.mono ?_
  rintro e w1 ⟨rfl, h1, g1⟩
  have H1 := Lib.hid h1; have G1 := Lib.hid (grownBy_trans HGA.out g1)
  have z1 := g1.size
  simp at z1
  have B1 := Lib.hid (blk_keep HZ.out g1 (by omega)); have X1 := Lib.hid (blk_keep HX.out g1 (by omega))
  have r0 : ¬ (w.heap.size + 1 = w.heap.size) := by omega
  have r0' : ¬ (w.heap.size = w.heap.size + 1) := by omega
  clear h1 g1 T HGA HX HZ
  go_wp2_with fail
  refine (N2.out _ H1.out (G.out.step G1.out)).mono ?_
  cases r2 with
  | none =>
    have E := Lib.hid K.out
    rintro e w2 ⟨rfl, g2⟩
    have G2 := Lib.hid (grownBy_trans G1.out g2)
    clear g2
    go_wp2_with fail
    rw [E.out]
    exact ⟨rfl, rfl, G2.out⟩
  | some y =>
      have E := Lib.hid K.out
      rintro e w2 ⟨rfl, h2, g2⟩
      have H2 := Lib.hid h2; have G2 := Lib.hid (grownBy_trans G1.out g2)
      obtain ⟨⟨b0, b1, b2, b3, b4, b5, b6⟩, bf⟩ := nd7 (blk_keep B1.out g2 (by omega))
      obtain ⟨⟨x0, x1, x2, x3, x4, x5, x6⟩, xf⟩ := nd7 (blk_keep X1.out g2 (by omega))
      have z2 := g2.size
      clear h2 g2
      go_wp2_with fail
      rw [E.out]
      refine bodyPost_ret (v := .agg #[.int .i64 5, .string ⟨#[]⟩, .int .i64 y.1, .int .i64 0, .int .i64 0, .bool false, .slice none 0 0]) (by simp [results, Tryz.results208, go_sem, b0, b1, b2, b3, b4, b5, b6]) rfl ⟨none, 0, rfl, Own.none_, H2.out.belowB HR HWD.out ?_, grown_belowI G2.out ?_⟩
      all_goals
        repeat (refine Below.setCell ?_ (by simp; try omega) _)
        exact Below.refl _ _
end Go.Proofs.YtfpbhedophlnkaaGreatDoor
namespace Go.Proofs.YtfpbhedophlnkaaGreatDoor
open Go.RowKit
set_option linter.unusedSimpArgs false
set_option linter.unusedVariables false

theorem nodeQ_no {ws : List ByteArray} {p : Nat} (h : findB verbsB (wordS ws (p, false)).1 = -1) : nodeQ ws p = .inl (badS (wordS ws (p, false)).2).1 := by
  unfold nodeQ wordS badS at *
  cases hx : ws[p]? with
  | none => simp
  | some s => simp [hx] at h ⊢; simp [h]

set_option maxRecDepth 100000 in
set_option maxHeartbeats 3200000 in
theorem specNodeN {R c p : Nat} {ao : Option Addr} {ws : List ByteArray} (w : World) (hw : Wds ws) (h : Lrd w R ao c ws p false) (hx : findB verbsB (wordS ws (p, false)).1 = -1) :
    Calls Tryz.prog 139 #[.pointer (some ⟨R, 0, none⟩)] w (NodeR (nodeQ ws p) R ao c ws w) := by
  have HR := h.lt
  have HWD := Lib.hid h.words
  have HN := Lib.hid hw
  obtain ⟨⟨yx, ys⟩, yh⟩ : ∃ y, y = wordS ws (p, false) := ⟨_, rfl⟩
  have Y1 := Lib.hid (fun W (hb : Below w.heap.size w W) => wordS_any (p, false) W (h.belowB HR HWD.out hb))
  have YP := Lib.hid (wordS_pos ws (p, false))
  have E := Lib.hid (nodeQ_no hx)
  rw [← yh] at Y1 YP E hx
  have FB := Lib.hid hx
  have IB := Lib.hid (fun W (h : Lrd W R ao c ws ys.1 ys.2) => badS_any ys W h YP.out)
  clear yh YP
  have BA := Lib.hid ((Below.refl w.heap.size w).alloc (Nat.le_refl _) (.cells #[.int .i64 0, .string ⟨#[]⟩, .int .i64 0, .int .i64 0, .int .i64 0, .bool false, .slice none 0 0] 92))
  clear h hw hx
  go_enter Tryz.func139, Tryz.ntmps139
  go_wp2_with fail
  refine (verbs_any _).mono ?_
  rintro e w1 ⟨rfl, rfl⟩
  have RV := Lib.hid (rdS_verbs (w := w.alloc (.cells #[.int .i64 0, .string ⟨#[]⟩, .int .i64 0, .int .i64 0, .int .i64 0, .bool false, .slice none 0 0] 92)) (g := w.heap.size + 1) (by simp))
  have BV := Lib.hid (BA.out.alloc (by simp) (.cells #[.string ⟨#[115, 99, 97, 110]⟩, .string ⟨#[102, 105, 108, 116, 101, 114]⟩, .string ⟨#[107, 101, 101, 112]⟩, .string ⟨#[106, 111, 105, 110]⟩, .string ⟨#[98, 111, 116, 104]⟩, .string ⟨#[115, 111, 114, 116]⟩, .string ⟨#[108, 105, 109, 105, 116]⟩, .string ⟨#[111, 110, 99, 101]⟩] 9))
  go_wp2_with fail
  refine (Y1.out _ BV.out).mono ?_
  rintro e w2 ⟨rfl, h2, g2⟩
  have RV2 := Lib.hid (findVerb_any _ w2 (rdS_grown RV.out g2 (by omega)) yx)
  rw [FB.out] at RV2
  have N0 := Lib.hid (ni_new (w := w) (s := ys) (v := .int .i64 (-1)) h2 (grownBy_trans (World.grownBy_alloc _ _ _) g2) HR HWD.out)
  clear h2 g2
  go_wp2_with fail
  refine RV2.out.mono ?_
  rintro e w3 ⟨rfl, rfl⟩
  have r0 : ¬ (w2.heap.size = w.heap.size) := by have := N0.out.hB; omega
  have r0' : ¬ (w.heap.size = w2.heap.size) := fun e => r0 e.symm
  have r1 : w.heap.size ≤ w2.heap.size := Nat.le_of_lt N0.out.hB
  obtain ⟨⟨a0, a1, a2, a3, a4, a5, a6⟩, af⟩ := sd7 N0.out.ra
  obtain ⟨⟨b0, b1, b2, b3, b4, b5, b6⟩, bf⟩ := sd7 N0.out.rb
  clear Y1 FB BA RV BV RV2
  go_wp2_with fail
  refine (IB.out _ N0.out.lrd).mono ?_
  rintro e w4 ⟨rfl, h4, g4⟩
  have N1 := Lib.hid (N0.out.call h4 g4)
  clear h4 g4 a0 a1 a2 a3 a4 a5 a6 b0 b1 b2 b3 b4 b5 b6 af bf
  obtain ⟨⟨a0, a1, a2, a3, a4, a5, a6⟩, af⟩ := sd7 N1.out.ra
  obtain ⟨⟨b0, b1, b2, b3, b4, b5, b6⟩, bf⟩ := sd7 N1.out.rb
  go_wp2_with fail
  refine bodyPost_ret (v := .agg #[.int .i64 (-1), .string ⟨#[]⟩, .int .i64 0, .int .i64 0, .int .i64 0, .bool false, .slice none 0 0]) (by simp [results, Tryz.results139, go_sem, a0, a1, a2, a3, a4, a5, a6]) rfl (nodeR_no (x := ⟨-1, emptyB, 0, 0, 0, false, []⟩) (s := badS ys) E.out (badS_two _) ⟨none, 0, rfl, Own.none_, (ni_fin N1.out ?_).1, (ni_fin N1.out ?_).2⟩)
  all_goals
    repeat (refine Below.setCell ?_ (by first | exact Nat.le_refl _ | exact r1) _)
    exact Below.refl _ _

theorem specNode_any {R c p : Nat} {ao : Option Addr} {ws : List ByteArray} (w : World) (hw : Wds ws) (h : Lrd w R ao c ws p false) :
    Calls Tryz.prog 139 #[.pointer (some ⟨R, 0, none⟩)] w (NodeR (nodeQ ws p) R ao c ws w) := by
  cases hx : ws[p]? with
  | none => exact specNodeN w hw h (by simp only [wordS, hx, Bool.false_eq_true, if_false]; decide)
  | some s =>
    have e : nodeQ ws p = if findB verbsB s = -1 then .inl p else restQ ws (findB verbsB s) (p + 1) := by unfold nodeQ; rw [hx]
    rcases verbsB_ways s with ⟨rfl, hf⟩ | ⟨rfl, hf⟩ | ⟨rfl, hf⟩ | ⟨rfl, hf⟩ | ⟨rfl, hf⟩ | ⟨rfl, hf⟩ | ⟨rfl, hf⟩ | ⟨rfl, hf⟩ | ⟨hf, _⟩
    · rw [e, hf, if_neg (by decide)]; exact specNode0 w hw h hx
    · rw [e, hf, if_neg (by decide)]; exact specNode1 w hw h hx
    · rw [e, hf, if_neg (by decide)]; exact specNode2 w hw h hx
    · rw [e, hf, if_neg (by decide)]; exact specNode3 w hw h hx
    · rw [e, hf, if_neg (by decide)]; exact specNode4 w hw h hx
    · rw [e, hf, if_neg (by decide)]; exact specNode5 w hw h hx
    · rw [e, hf, if_neg (by decide)]; exact specNode6 w hw h hx
    · rw [e, hf, if_neg (by decide)]; exact specNode7 w hw h hx
    · exact specNodeN w hw h (by unfold wordS; simp only [hx]; simpa using hf)
end Go.Proofs.YtfpbhedophlnkaaGreatDoor
namespace Go.Proofs.YtfpbhedophlnkaaGreatDoor
open Go.RowKit
set_option linter.unusedSimpArgs false
set_option linter.unusedVariables false

theorem Tryz.infoStr : (Tryz.prog.info? 9).map (fun i => (i.zero, i.size, i.bytes)) = some (some (.string ⟨#[]⟩), 1, 16) := by kernel_rfl

/-- 'append(xs, ys...)' at a slice of strings of the call's own. -/
theorem wpList_appendSs {P : Program} (w : World) {ops : Array Oper} {rest : List Oper} {o : Oper} {a : Act} {Q : Exit → Act → World → Prop} (hgd : o.guard = none) (s x : Operand) (t : TypeId)
    (ho : o.op = .call { callee := .builtin .append, args := #[s, x], argTypes := #[t, t] }) (base : Nat) (ht : P.underlying t = some (.slice 9))
    (hi : (P.info? 9).map (fun i => (i.zero, i.size, i.bytes)) = some (some (.string ⟨#[]⟩), 1, 16))
    (ao : Option Addr) (c n : Nat) (l : List ByteArray) (hs : a.eval s = .slice ao n c) (hn : n = l.length) (hown : OwnS w base ao c l)
    (bl m cx : Nat) (ys : List ByteArray) (hx : a.eval x = .slice (some ⟨bl, 0, none⟩) m cx) (hm : m = ys.length) (hv : ∀ i, i < ys.length → w.cell? ⟨bl, i, none⟩ = some (.string (ys.getD i ByteArray.empty)))
    (hby : l.length + ys.length ≤ 1048576) (hbase : base ≤ w.heap.size)
    (h : ∀ ao' c' w', OwnS w' base ao' c' (l ++ ys) → w.grownBy w' (ao.map (·.block)) → wpList P ops Q rest (a.put o.dst (.slice ao' (l ++ ys).length c')) w') :
    wpList P ops Q (o :: rest) a w := by
  obtain ⟨i, hi0, hz0, hz1, hz2⟩ := info_parts hi
  subst hn hm
  refine wpList_append_own_at w hgd s x t ho base 9 i (.string ⟨#[]⟩) 1 16 ht hi0 hz0 hz1 hz2 rfl (by omega) _ l.length (l.map Value.string) hs hown ⟨bl, 0, none⟩ ys.length cx (ys.map Value.string) hx (by simp) ?_ ?_ (by unfold maxLen; omega) (by omega) hbase ?_
  · intro j u hj
    rw [List.getElem?_map] at hj
    cases hy : ys[j]? with
    | none => rw [hy] at hj; cases hj
    | some y =>
      rw [hy] at hj; simp at hj; subst hj
      have hlt : j < ys.length := by
        rcases Nat.lt_or_ge j ys.length with h1 | h1
        · exact h1
        · rw [List.getElem?_eq_none h1] at hy; cases hy
      have := hv j hlt
      rw [List.getD_eq_getElem?_getD, hy] at this
      by_cases h0 : j = 0
      · subst h0; simpa [Addr.add] using this
      · simpa [Addr.add, h0] using this
  · intro u hu
    obtain ⟨y, _, rfl⟩ := List.mem_map.1 hu
    rfl
  · intro v' w' ho' hg' _ hblk
    have hg2 : w.grownBy w' (ao.map (·.block)) := by
      cases ao with
      | none => exact hg'
      | some x => exact hg'
    have hlen : (l ++ ys).length = l.length + ys.length := by simp
    rw [← List.map_append] at ho'
    rcases ho'.2 with ⟨rfl, hz⟩ | ⟨g, cap, cur, rfl, r⟩
    · have hl0 : l ++ ys = [] := List.eq_nil_of_length_eq_zero (by omega)
      have := h none 0 w' (by rw [hl0]; exact OwnS.none_) hg2
      rw [hl0] at this; exact this
    · have := h _ _ _ (by unfold OwnS; rw [hlen]; exact ho') hg2
      rw [hlen] at this; exact this
theorem below_appS {w wr w1 : World} {ao : Option Addr} {c : Nat} {l : List ByteArray} {o : Obj} (hb : Below w.heap.size w wr) (ho : OwnS wr w.heap.size ao c l) (hg : (wr.alloc o).grownBy w1 (ao.map (·.block))) : Below w.heap.size w w1 := by
  refine (hb.alloc hb.size o).grown hg (by have := hb.size; simp; omega) ?_
  intro g hg'
  rcases ao with _ | a
  · cases hg'
  · simp at hg'; subst hg'; exact (ho.lt a rfl).1
theorem below_appS0 {w wr w1 : World} {ao : Option Addr} {c : Nat} {l : List ByteArray} (hb : Below w.heap.size w wr) (ho : OwnS wr w.heap.size ao c l) (hg : wr.grownBy w1 (ao.map (·.block))) : Below w.heap.size w w1 := by
  refine hb.grown hg hb.size ?_
  intro g hg'
  rcases ao with _ | a
  · cases hg'
  · simp at hg'; subst hg'; exact (ho.lt a rfl).1
theorem OwnS.alloc {w : World} {base : Nat} {ao : Option Addr} {c : Nat} {l : List ByteArray} (h : OwnS w base ao c l) (o : Obj) : OwnS (w.alloc o) base ao c l :=
  h.below ((Below.refl _ _).alloc (Nat.le_refl _) o)
end Go.Proofs.YtfpbhedophlnkaaGreatDoor
