/-
  The model's reader of words: contract of l06Node. For every list of words that are none of them empty.
-/
import Derived.Test.YtfpbhedophlnkaaGreatDoorJT12x
namespace Go.Proofs.YtfpbhedophlnkaaGreatDoor
open Go.RowKit
set_option linter.unusedSimpArgs false
set_option linter.unusedVariables false

def NodeS (x : Nd) (s : Nat × Bool) (R : Nat) (ao : Option Addr) (c : Nat) (ws : List ByteArray) (w : World) (e : Ending) (w' : World) : Prop :=
  ∃ a cc, e = .returned (.agg #[.int .i64 x.kind, .string x.name, .int .i64 x.col, .int .i64 x.op, .int .i64 x.num, .bool x.slot, .slice a x.cols.length cc]) ∧ Own w' w.heap.size 3 .i64 a cc x.cols ∧ Lrd w' R ao c ws s.1 s.2 ∧ w.grownBy w' (some R)
/-- The seven cells of a block. -/
theorem sd7 {w : World} {X : Nat} {T : TypeId} {v0 v1 v2 v3 v4 v5 v6 : Value} (h : w.heap[X]? = some (.cells #[v0, v1, v2, v3, v4, v5, v6] T (0, 0))) :
    (w.cell? ⟨X, 0, none⟩ = some v0 ∧ w.cell? ⟨X, 1, none⟩ = some v1 ∧ w.cell? ⟨X, 2, none⟩ = some v2 ∧ w.cell? ⟨X, 3, none⟩ = some v3 ∧ w.cell? ⟨X, 4, none⟩ = some v4 ∧ w.cell? ⟨X, 5, none⟩ = some v5 ∧ w.cell? ⟨X, 6, none⟩ = some v6) ∧ ∀ o, w.frozen? ⟨X, o, none⟩ = false :=
  ⟨⟨cell_of_row w X 0 _ _ _ h, cell_of_row w X 1 _ _ _ h, cell_of_row w X 2 _ _ _ h, cell_of_row w X 3 _ _ _ h, cell_of_row w X 4 _ _ _ h, cell_of_row w X 5 _ _ _ h, cell_of_row w X 6 _ _ _ h⟩, fun o => by simp [World.frozen?, h]⟩
theorem rdS_verbs {w : World} {g : Nat} (hg : g = w.heap.size) : RdS (w.alloc (.cells #[.string ⟨#[115, 99, 97, 110]⟩, .string ⟨#[102, 105, 108, 116, 101, 114]⟩, .string ⟨#[107, 101, 101, 112]⟩, .string ⟨#[106, 111, 105, 110]⟩, .string ⟨#[98, 111, 116, 104]⟩, .string ⟨#[115, 111, 114, 116]⟩, .string ⟨#[108, 105, 109, 105, 116]⟩, .string ⟨#[111, 110, 99, 101]⟩] 9)) (some ⟨g, 0, none⟩) verbsB := by
  subst hg
  refine .inr ⟨w.heap.size, 0, rfl, fun i hi => ?_⟩
  have hc := fun o => cell_of_row (w.alloc (.cells #[.string ⟨#[115, 99, 97, 110]⟩, .string ⟨#[102, 105, 108, 116, 101, 114]⟩, .string ⟨#[107, 101, 101, 112]⟩, .string ⟨#[106, 111, 105, 110]⟩, .string ⟨#[98, 111, 116, 104]⟩, .string ⟨#[115, 111, 114, 116]⟩, .string ⟨#[108, 105, 109, 105, 116]⟩, .string ⟨#[111, 110, 99, 101]⟩] 9)) w.heap.size o _ _ _ (heap_alloc_new w _)
  rw [Nat.zero_add, hc]
  have hi' : i < 8 := hi
  have hk : i = 0 ∨ i = 1 ∨ i = 2 ∨ i = 3 ∨ i = 4 ∨ i = 5 ∨ i = 6 ∨ i = 7 := by omega
  rcases hk with rfl | rfl | rfl | rfl | rfl | rfl | rfl | rfl <;> rfl
/-- Where the node's block has been made. -/
theorem ni_new {w W : World} {R c : Nat} {ao : Option Addr} {ws : List ByteArray} {s : Nat × Bool} {v : Value} (hl : Lrd W R ao c ws s.1 s.2) (hg : (w.alloc (.cells #[.int .i64 0, .string ⟨#[]⟩, .int .i64 0, .int .i64 0, .int .i64 0, .bool false, .slice none 0 0] 92)).grownBy W (some R)) (hR : R < w.heap.size) (hw : ∀ a, ao = some a → ws ≠ [] → a.block < w.heap.size) :
    NI w R ao c ws W.heap.size v (.string ⟨#[]⟩) (.int .i64 0) (.int .i64 0) (.int .i64 0) (.bool false) (.slice none 0 0) s (W.alloc (.cells #[v, .string ⟨#[]⟩, .int .i64 0, .int .i64 0, .int .i64 0, .bool false, .slice none 0 0] 92)) := by
  have hz := hg.size
  simp at hz
  have ha : W.heap[w.heap.size]? = some (.cells #[.int .i64 0, .string ⟨#[]⟩, .int .i64 0, .int .i64 0, .int .i64 0, .bool false, .slice none 0 0] 92 (0, 0)) := (hg.block w.heap.size (by simp) (by simp; omega)).trans (heap_alloc_new w _)
  refine ⟨hl.below ((Below.refl _ W).alloc (Nat.le_refl _) _), ?_, heap_alloc_new W _, grownBy_trans (grownBy_trans (World.grownBy_alloc w _ _) hg) (World.grownBy_alloc _ _ _), hR, hw, by omega⟩
  rw [Below.heap_alloc _ _ _ (by omega)]; exact ha

theorem rdS_grown {w w' : World} {g R : Nat} {l : List ByteArray} (h : RdS w (some ⟨g, 0, none⟩) l) (hg : w.grownBy w' (some R)) (hne : g ≠ R) : RdS w' (some ⟨g, 0, none⟩) l := by
  rcases h with h | ⟨b, off, hb, hc⟩
  · exact .inl h
  · cases hb
    refine .inr ⟨g, 0, rfl, fun i hi => ?_⟩
    have hc' := hc i hi
    have hlt := World.block_lt_of_cell? w ⟨g, 0 + i, none⟩ hc'
    rw [World.cell?_of_block (w := w) (hg.block g hlt (by simp; exact hne))]
    exact hc'
theorem findVerb_any (g : Nat) (w : World) (h : RdS w (some ⟨g, 0, none⟩) verbsB) (s : ByteArray) :
    Calls Tryz.prog 210 #[.slice (some ⟨g, 0, none⟩) 8 8, .string s] w fun e w' => e = .returned (.int .i64 (findB verbsB s)) ∧ w = w' := findL_any _ 8 verbsB s w h (by decide)
def NodeR (r : Nat ⊕ (Nd × Nat)) (R : Nat) (ao : Option Addr) (c : Nat) (ws : List ByteArray) (w : World) (e : Ending) (w' : World) : Prop :=
  match r with
  | .inl q => ∃ x, NodeS x (q, true) R ao c ws w e w'
  | .inr x => NodeS x.1 (x.2, false) R ao c ws w e w'
theorem ni_fin {w W W' : World} {R c B : Nat} {ao : Option Addr} {ws : List ByteArray} {v0 v1 v2 v3 v4 v5 v6 : Value} {s : Nat × Bool} (h : NI w R ao c ws B v0 v1 v2 v3 v4 v5 v6 s W) (hb : Below w.heap.size W W') : Lrd W' R ao c ws s.1 s.2 ∧ w.grownBy W' (some R) :=
  ⟨h.lrd.belowB h.hR h.hw hb, hb.os.trans h.gr.os, hb.tape.trans h.gr.tape, hb.output.trans h.gr.output, Nat.le_trans h.gr.size hb.size, fun i hi hne => (hb.block i hi).trans (h.gr.block i hi hne)⟩
theorem badS_two (s : Nat × Bool) : (badS s).2 = true := by unfold badS; split <;> simp_all
theorem wordS_size {ws : List ByteArray} (hw : Wds ws) (s : Nat × Bool) : (wordS ws s).1.size ≤ 2000 := by
  unfold wordS
  split
  · exact Nat.zero_le _
  · split
    · exact Nat.zero_le _
    · rename_i x hx
      exact (hw _ (List.mem_of_getElem? hx)).2
theorem wordS_pos (ws : List ByteArray) (s : Nat × Bool) : (wordS ws s).2.2 = false → 1 ≤ (wordS ws s).2.1 := by
  intro h
  unfold wordS at h ⊢
  split
  · rename_i h2; rw [if_pos h2] at h; rw [h2] at h; cases h
  · rename_i h2
    rw [if_neg h2] at h
    split
    · rename_i hx; rw [hx] at h; cases h
    · simp
theorem intS_pos (slot : Bool) (ws : List ByteArray) (s : Nat × Bool) : (intS slot ws s).2.2 = false → 1 ≤ (intS slot ws s).2.1 := by
  intro h
  unfold intS at h ⊢
  split
  · rename_i h2; rw [if_pos h2] at h; simp at h; rw [h2] at h; cases h
  · rename_i h2
    rw [if_neg h2] at h
    split
    · rename_i hx; rw [hx] at h; cases h
    · simp
theorem restW0 (ws : List ByteArray) (q : Nat) : (wordB (wordS ws (q, false)).1.data.toList = true → restQ ws 0 q = .inr (⟨0, (wordS ws (q, false)).1, 0, 0, 0, false, []⟩, (wordS ws (q, false)).2.1) ∧ (wordS ws (q, false)).2.2 = false) ∧
    (wordB (wordS ws (q, false)).1.data.toList = false → restQ ws 0 q = .inl (badS (wordS ws (q, false)).2).1) := by
  unfold restQ wordS badS
  cases hx : ws[q]? with
  | none =>
    refine ⟨fun h => ?_, fun _ => by simp⟩
    exact absurd h (show ¬ wordB (⟨#[]⟩ : ByteArray).data.toList = true by decide)
  | some x =>
    refine ⟨fun h => ?_, fun h => ?_⟩
    · simp at h ⊢; simp [h]
    · simp at h ⊢; simp [h]
theorem restW4 (ws : List ByteArray) (q : Nat) : restQ ws 4 q = .inr (⟨4, emptyB, 0, 0, 0, false, []⟩, q) := by unfold restQ; simp only [Int.reduceEq, if_false]
theorem restW7 (ws : List ByteArray) (q : Nat) : restQ ws 7 q = .inr (⟨7, emptyB, 0, 0, 0, false, []⟩, q) := by unfold restQ; simp only [Int.reduceEq, if_false]
theorem restW5 (ws : List ByteArray) (q : Nat) : restQ ws 5 q = if (intS false ws (q, false)).2.2 = true then .inl (intS false ws (q, false)).2.1 else .inr (⟨5, emptyB, (intS false ws (q, false)).1.1, 0, 0, false, []⟩, (intS false ws (q, false)).2.1) := by
  unfold restQ intS; cases hx : intQ false ws q <;> simp [hx]
theorem restW6 (ws : List ByteArray) (q : Nat) : restQ ws 6 q = if (intS true ws (q, false)).2.2 = true then .inl (intS true ws (q, false)).2.1 else .inr (⟨6, emptyB, 0, 0, (intS true ws (q, false)).1.1, (intS true ws (q, false)).1.2, []⟩, (intS true ws (q, false)).2.1) := by
  unfold restQ intS; cases hx : intQ true ws q <;> simp [hx]
theorem restW3 (ws : List ByteArray) (q : Nat) : restQ ws 3 q = if (intS false ws (intS false ws (q, false)).2).2.2 = true then .inl (intS false ws (intS false ws (q, false)).2).2.1 else .inr (⟨3, emptyB, (intS false ws (q, false)).1.1, 0, (intS false ws (intS false ws (q, false)).2).1.1, false, []⟩, (intS false ws (intS false ws (q, false)).2).2.1) := by
  unfold restQ
  cases hx : intQ false ws q with
  | none => simp [intS, hx]
  | some x =>
    cases hy : intQ false ws (q + 1) <;> simp [intS, hx, hy]
theorem nodeR_no {r : Nat ⊕ (Nd × Nat)} {x : Nd} {s : Nat × Bool} {R c : Nat} {ao : Option Addr} {ws : List ByteArray} {w w' : World} {e : Ending} (hr : r = .inl s.1) (hs : s.2 = true) (h : NodeS x s R ao c ws w e w') : NodeR r R ao c ws w e w' := by
  subst hr; obtain ⟨p, f⟩ := s; simp only at hs; subst hs; exact ⟨x, h⟩
theorem nodeR_yes {r : Nat ⊕ (Nd × Nat)} {x : Nd} {s : Nat × Bool} {R c : Nat} {ao : Option Addr} {ws : List ByteArray} {w w' : World} {e : Ending} (hr : r = .inr (x, s.1)) (hs : s.2 = false) (h : NodeS x s R ao c ws w e w') : NodeR r R ao c ws w e w' := by
  subst hr; obtain ⟨p, f⟩ := s; simp only at hs; subst hs; exact h
theorem nodeR_if {r : Nat ⊕ (Nd × Nat)} {x : Nd} {s : Nat × Bool} {R c : Nat} {ao : Option Addr} {ws : List ByteArray} {w w' : World} {e : Ending} (hr : r = if s.2 = true then .inl s.1 else .inr (x, s.1)) (h : NodeS x s R ao c ws w e w') : NodeR r R ao c ws w e w' := by
  by_cases hs : s.2 = true
  · exact nodeR_no (by rw [hr, if_pos hs]) hs h
  · exact nodeR_yes (by rw [hr, if_neg hs]) (by simpa using hs) h

set_option maxRecDepth 100000 in
set_option maxHeartbeats 3200000 in
theorem specNode4 {R c p : Nat} {ao : Option Addr} {ws : List ByteArray} (w : World) (hw : Wds ws) (h : Lrd w R ao c ws p false) (hx : ws[p]? = some ⟨#[98, 111, 116, 104]⟩) :
    Calls Tryz.prog 139 #[.pointer (some ⟨R, 0, none⟩)] w (NodeR (restQ ws 4 (p + 1)) R ao c ws w) := by
  have HR := h.lt
  have HWD := Lib.hid h.words
  have HN := Lib.hid hw
  have Y1 := Lib.hid (fun W (hb : Below w.heap.size w W) => l06Word_yes W (h.belowB HR HWD.out hb) hx)
  have FB := Lib.hid (show findB verbsB ⟨#[98, 111, 116, 104]⟩ = 4 by decide)
  have BA := Lib.hid ((Below.refl w.heap.size w).alloc (Nat.le_refl _) (.cells #[.int .i64 0, .string ⟨#[]⟩, .int .i64 0, .int .i64 0, .int .i64 0, .bool false, .slice none 0 0] 92))
  clear h hw hx
  go_enter Tryz.func139, Tryz.ntmps139
  go_wp2_with fail
  refine (verbs_any _).mono ?_
  rintro e w1 ⟨rfl, rfl⟩
  have RV := Lib.hid (rdS_verbs (w := w.alloc (.cells #[.int .i64 0, .string ⟨#[]⟩, .int .i64 0, .int .i64 0, .int .i64 0, .bool false, .slice none 0 0] 92)) (g := w.heap.size + 1) (by simp))
  have BV := Lib.hid (BA.out.alloc (by simp) (.cells #[.string ⟨#[115, 99, 97, 110]⟩, .string ⟨#[102, 105, 108, 116, 101, 114]⟩, .string ⟨#[107, 101, 101, 112]⟩, .string ⟨#[106, 111, 105, 110]⟩, .string ⟨#[98, 111, 116, 104]⟩, .string ⟨#[115, 111, 114, 116]⟩, .string ⟨#[108, 105, 109, 105, 116]⟩, .string ⟨#[111, 110, 99, 101]⟩] 9))
  go_wp2_with fail
  refine (Y1.out _ BV.out).mono ?_
  rintro e w2 ⟨rfl, h2, g2⟩
  have RV2 := Lib.hid (findVerb_any _ w2 (rdS_grown RV.out g2 (by omega)) ⟨#[98, 111, 116, 104]⟩)
  rw [FB.out] at RV2
  have N0 := Lib.hid (ni_new (w := w) (s := (p + 1, false)) (v := .int .i64 4) h2 (grownBy_trans (World.grownBy_alloc _ _ _) g2) HR HWD.out)
  clear h2 g2
  go_wp2_with fail
  refine RV2.out.mono ?_
  rintro e w3 ⟨rfl, rfl⟩
  have r0 : ¬ (w2.heap.size = w.heap.size) := by have := N0.out.hB; omega
  have r0' : ¬ (w.heap.size = w2.heap.size) := fun e => r0 e.symm
  have r1 : w.heap.size ≤ w2.heap.size := Nat.le_of_lt N0.out.hB
  obtain ⟨⟨a0, a1, a2, a3, a4, a5, a6⟩, af⟩ := sd7 N0.out.ra
  obtain ⟨⟨b0, b1, b2, b3, b4, b5, b6⟩, bf⟩ := sd7 N0.out.rb
  clear Y1 FB BA RV BV RV2
  go_wp2_with fail
  refine bodyPost_ret (v := .agg #[.int .i64 4, .string ⟨#[]⟩, .int .i64 0, .int .i64 0, .int .i64 0, .bool false, .slice none 0 0]) (by simp [results, Tryz.results139, go_sem, a0, a1, a2, a3, a4, a5, a6]) rfl (nodeR_yes (x := ⟨4, emptyB, 0, 0, 0, false, []⟩) (s := (p + 1, false)) (restW4 ws (p + 1)) rfl ⟨none, 0, rfl, Own.none_, (ni_fin N0.out ?_).1, (ni_fin N0.out ?_).2⟩)
  all_goals
    repeat (refine Below.setCell ?_ (by first | exact Nat.le_refl _ | exact r1) _)
    exact Below.refl _ _

set_option maxRecDepth 100000 in
set_option maxHeartbeats 3200000 in
theorem specNode7 {R c p : Nat} {ao : Option Addr} {ws : List ByteArray} (w : World) (hw : Wds ws) (h : Lrd w R ao c ws p false) (hx : ws[p]? = some ⟨#[111, 110, 99, 101]⟩) :
    Calls Tryz.prog 139 #[.pointer (some ⟨R, 0, none⟩)] w (NodeR (restQ ws 7 (p + 1)) R ao c ws w) := by
  have HR := h.lt
  have HWD := Lib.hid h.words
  have HN := Lib.hid hw
  have Y1 := Lib.hid (fun W (hb : Below w.heap.size w W) => l06Word_yes W (h.belowB HR HWD.out hb) hx)
  have FB := Lib.hid (show findB verbsB ⟨#[111, 110, 99, 101]⟩ = 7 by decide)
  have BA := Lib.hid ((Below.refl w.heap.size w).alloc (Nat.le_refl _) (.cells #[.int .i64 0, .string ⟨#[]⟩, .int .i64 0, .int .i64 0, .int .i64 0, .bool false, .slice none 0 0] 92))
  clear h hw hx
  go_enter Tryz.func139, Tryz.ntmps139
  go_wp2_with fail
  refine (verbs_any _).mono ?_
  rintro e w1 ⟨rfl, rfl⟩
  have RV := Lib.hid (rdS_verbs (w := w.alloc (.cells #[.int .i64 0, .string ⟨#[]⟩, .int .i64 0, .int .i64 0, .int .i64 0, .bool false, .slice none 0 0] 92)) (g := w.heap.size + 1) (by simp))
  have BV := Lib.hid (BA.out.alloc (by simp) (.cells #[.string ⟨#[115, 99, 97, 110]⟩, .string ⟨#[102, 105, 108, 116, 101, 114]⟩, .string ⟨#[107, 101, 101, 112]⟩, .string ⟨#[106, 111, 105, 110]⟩, .string ⟨#[98, 111, 116, 104]⟩, .string ⟨#[115, 111, 114, 116]⟩, .string ⟨#[108, 105, 109, 105, 116]⟩, .string ⟨#[111, 110, 99, 101]⟩] 9))
  go_wp2_with fail
  refine (Y1.out _ BV.out).mono ?_
  rintro e w2 ⟨rfl, h2, g2⟩
  have RV2 := Lib.hid (findVerb_any _ w2 (rdS_grown RV.out g2 (by omega)) ⟨#[111, 110, 99, 101]⟩)
  rw [FB.out] at RV2
  have N0 := Lib.hid (ni_new (w := w) (s := (p + 1, false)) (v := .int .i64 7) h2 (grownBy_trans (World.grownBy_alloc _ _ _) g2) HR HWD.out)
  clear h2 g2
  go_wp2_with fail
  refine RV2.out.mono ?_
  rintro e w3 ⟨rfl, rfl⟩
  have r0 : ¬ (w2.heap.size = w.heap.size) := by have := N0.out.hB; omega
  have r0' : ¬ (w.heap.size = w2.heap.size) := fun e => r0 e.symm
  have r1 : w.heap.size ≤ w2.heap.size := Nat.le_of_lt N0.out.hB
  obtain ⟨⟨a0, a1, a2, a3, a4, a5, a6⟩, af⟩ := sd7 N0.out.ra
  obtain ⟨⟨b0, b1, b2, b3, b4, b5, b6⟩, bf⟩ := sd7 N0.out.rb
  clear Y1 FB BA RV BV RV2
  go_wp2_with fail
  refine bodyPost_ret (v := .agg #[.int .i64 7, .string ⟨#[]⟩, .int .i64 0, .int .i64 0, .int .i64 0, .bool false, .slice none 0 0]) (by simp [results, Tryz.results139, go_sem, a0, a1, a2, a3, a4, a5, a6]) rfl (nodeR_yes (x := ⟨7, emptyB, 0, 0, 0, false, []⟩) (s := (p + 1, false)) (restW7 ws (p + 1)) rfl ⟨none, 0, rfl, Own.none_, (ni_fin N0.out ?_).1, (ni_fin N0.out ?_).2⟩)
  all_goals
    repeat (refine Below.setCell ?_ (by first | exact Nat.le_refl _ | exact r1) _)
    exact Below.refl _ _

set_option maxRecDepth 100000 in
set_option maxHeartbeats 3200000 in
theorem specNode5 {R c p : Nat} {ao : Option Addr} {ws : List ByteArray} (w : World) (hw : Wds ws) (h : Lrd w R ao c ws p false) (hx : ws[p]? = some ⟨#[115, 111, 114, 116]⟩) :
    Calls Tryz.prog 139 #[.pointer (some ⟨R, 0, none⟩)] w (NodeR (restQ ws 5 (p + 1)) R ao c ws w) := by
  have HR := h.lt
  have HWD := Lib.hid h.words
  have HN := Lib.hid hw
  have Y1 := Lib.hid (fun W (hb : Below w.heap.size w W) => l06Word_yes W (h.belowB HR HWD.out hb) hx)
  have FB := Lib.hid (show findB verbsB ⟨#[115, 111, 114, 116]⟩ = 5 by decide)
  have BA := Lib.hid ((Below.refl w.heap.size w).alloc (Nat.le_refl _) (.cells #[.int .i64 0, .string ⟨#[]⟩, .int .i64 0, .int .i64 0, .int .i64 0, .bool false, .slice none 0 0] 92))
  clear h hw hx
  obtain ⟨⟨⟨yx, ym⟩, ys⟩, yh⟩ : ∃ y, y = intS false ws (p + 1, false) := ⟨_, rfl⟩
  have Iy := Lib.hid (fun W (h : Lrd W R ao c ws (p + 1) false) => intS_any false (p + 1, false) W HN.out h)
  have K := Lib.hid (restW5 ws (p + 1))
  rw [← yh] at K Iy
  clear yh
  go_enter Tryz.func139, Tryz.ntmps139
  go_wp2_with fail
  refine (verbs_any _).mono ?_
  rintro e w1 ⟨rfl, rfl⟩
  have RV := Lib.hid (rdS_verbs (w := w.alloc (.cells #[.int .i64 0, .string ⟨#[]⟩, .int .i64 0, .int .i64 0, .int .i64 0, .bool false, .slice none 0 0] 92)) (g := w.heap.size + 1) (by simp))
  have BV := Lib.hid (BA.out.alloc (by simp) (.cells #[.string ⟨#[115, 99, 97, 110]⟩, .string ⟨#[102, 105, 108, 116, 101, 114]⟩, .string ⟨#[107, 101, 101, 112]⟩, .string ⟨#[106, 111, 105, 110]⟩, .string ⟨#[98, 111, 116, 104]⟩, .string ⟨#[115, 111, 114, 116]⟩, .string ⟨#[108, 105, 109, 105, 116]⟩, .string ⟨#[111, 110, 99, 101]⟩] 9))
  go_wp2_with fail
  refine (Y1.out _ BV.out).mono ?_
  rintro e w2 ⟨rfl, h2, g2⟩
  have RV2 := Lib.hid (findVerb_any _ w2 (rdS_grown RV.out g2 (by omega)) ⟨#[115, 111, 114, 116]⟩)
  rw [FB.out] at RV2
  have N0 := Lib.hid (ni_new (w := w) (s := (p + 1, false)) (v := .int .i64 5) h2 (grownBy_trans (World.grownBy_alloc _ _ _) g2) HR HWD.out)
  clear h2 g2
  go_wp2_with fail
  refine RV2.out.mono ?_
  rintro e w3 ⟨rfl, rfl⟩
  have r0 : ¬ (w2.heap.size = w.heap.size) := by have := N0.out.hB; omega
  have r0' : ¬ (w.heap.size = w2.heap.size) := fun e => r0 e.symm
  have r1 : w.heap.size ≤ w2.heap.size := Nat.le_of_lt N0.out.hB
  obtain ⟨⟨a0, a1, a2, a3, a4, a5, a6⟩, af⟩ := sd7 N0.out.ra
  obtain ⟨⟨b0, b1, b2, b3, b4, b5, b6⟩, bf⟩ := sd7 N0.out.rb
  clear Y1 FB BA RV BV RV2
  go_wp2_with fail
  refine (Iy.out _ N0.out.lrd).mono ?_
  rintro e w4 ⟨rfl, h4, g4⟩
  have M1 := Lib.hid (N0.out.call h4 g4)
  clear a0 a1 a2 a3 a4 a5 a6 b0 b1 b2 b3 b4 b5 b6 af bf h4 g4
  obtain ⟨⟨a0, a1, a2, a3, a4, a5, a6⟩, af⟩ := sd7 M1.out.ra
  obtain ⟨⟨b0, b1, b2, b3, b4, b5, b6⟩, bf⟩ := sd7 M1.out.rb
  have N1 := Lib.hid (M1.out.set 2 (.int .i64 yx) rfl)
  go_wp2_with fail
  refine bodyPost_ret (v := .agg #[.int .i64 5, .string ⟨#[]⟩, .int .i64 yx, .int .i64 0, .int .i64 0, .bool false, .slice none 0 0]) (by simp [results, Tryz.results139, go_sem, a0, a1, a2, a3, a4, a5, a6]) rfl (nodeR_if (x := ⟨5, emptyB, yx, 0, 0, false, []⟩) (s := ys) K.out ⟨none, 0, rfl, Own.none_, (ni_fin M1.out ?_).1, (ni_fin M1.out ?_).2⟩)
  all_goals
    repeat (refine Below.setCell ?_ (by first | exact Nat.le_refl _ | exact r1) _)
    exact Below.refl _ _

set_option maxRecDepth 100000 in
set_option maxHeartbeats 3200000 in
theorem specNode6 {R c p : Nat} {ao : Option Addr} {ws : List ByteArray} (w : World) (hw : Wds ws) (h : Lrd w R ao c ws p false) (hx : ws[p]? = some ⟨#[108, 105, 109, 105, 116]⟩) :
    Calls Tryz.prog 139 #[.pointer (some ⟨R, 0, none⟩)] w (NodeR (restQ ws 6 (p + 1)) R ao c ws w) := by
  have HR := h.lt
  have HWD := Lib.hid h.words
  have HN := Lib.hid hw
  have Y1 := Lib.hid (fun W (hb : Below w.heap.size w W) => l06Word_yes W (h.belowB HR HWD.out hb) hx)
  have FB := Lib.hid (show findB verbsB ⟨#[108, 105, 109, 105, 116]⟩ = 6 by decide)
  have BA := Lib.hid ((Below.refl w.heap.size w).alloc (Nat.le_refl _) (.cells #[.int .i64 0, .string ⟨#[]⟩, .int .i64 0, .int .i64 0, .int .i64 0, .bool false, .slice none 0 0] 92))
  clear h hw hx
  obtain ⟨⟨⟨yx, ym⟩, ys⟩, yh⟩ : ∃ y, y = intS true ws (p + 1, false) := ⟨_, rfl⟩
  have Iy := Lib.hid (fun W (h : Lrd W R ao c ws (p + 1) false) => intS_any true (p + 1, false) W HN.out h)
  have K := Lib.hid (restW6 ws (p + 1))
  rw [← yh] at K Iy
  clear yh
  go_enter Tryz.func139, Tryz.ntmps139
  go_wp2_with fail
  refine (verbs_any _).mono ?_
  rintro e w1 ⟨rfl, rfl⟩
  have RV := Lib.hid (rdS_verbs (w := w.alloc (.cells #[.int .i64 0, .string ⟨#[]⟩, .int .i64 0, .int .i64 0, .int .i64 0, .bool false, .slice none 0 0] 92)) (g := w.heap.size + 1) (by simp))
  have BV := Lib.hid (BA.out.alloc (by simp) (.cells #[.string ⟨#[115, 99, 97, 110]⟩, .string ⟨#[102, 105, 108, 116, 101, 114]⟩, .string ⟨#[107, 101, 101, 112]⟩, .string ⟨#[106, 111, 105, 110]⟩, .string ⟨#[98, 111, 116, 104]⟩, .string ⟨#[115, 111, 114, 116]⟩, .string ⟨#[108, 105, 109, 105, 116]⟩, .string ⟨#[111, 110, 99, 101]⟩] 9))
  go_wp2_with fail
  refine (Y1.out _ BV.out).mono ?_
  rintro e w2 ⟨rfl, h2, g2⟩
  have RV2 := Lib.hid (findVerb_any _ w2 (rdS_grown RV.out g2 (by omega)) ⟨#[108, 105, 109, 105, 116]⟩)
  rw [FB.out] at RV2
  have N0 := Lib.hid (ni_new (w := w) (s := (p + 1, false)) (v := .int .i64 6) h2 (grownBy_trans (World.grownBy_alloc _ _ _) g2) HR HWD.out)
  clear h2 g2
  go_wp2_with fail
  refine RV2.out.mono ?_
  rintro e w3 ⟨rfl, rfl⟩
  have r0 : ¬ (w2.heap.size = w.heap.size) := by have := N0.out.hB; omega
  have r0' : ¬ (w.heap.size = w2.heap.size) := fun e => r0 e.symm
  have r1 : w.heap.size ≤ w2.heap.size := Nat.le_of_lt N0.out.hB
  obtain ⟨⟨a0, a1, a2, a3, a4, a5, a6⟩, af⟩ := sd7 N0.out.ra
  obtain ⟨⟨b0, b1, b2, b3, b4, b5, b6⟩, bf⟩ := sd7 N0.out.rb
  clear Y1 FB BA RV BV RV2
  go_wp2_with fail
  refine (Iy.out _ N0.out.lrd).mono ?_
  rintro e w4 ⟨rfl, h4, g4⟩
  have M1 := Lib.hid (N0.out.call h4 g4)
  clear a0 a1 a2 a3 a4 a5 a6 b0 b1 b2 b3 b4 b5 b6 af bf h4 g4
  obtain ⟨⟨a0, a1, a2, a3, a4, a5, a6⟩, af⟩ := sd7 M1.out.ra
  obtain ⟨⟨b0, b1, b2, b3, b4, b5, b6⟩, bf⟩ := sd7 M1.out.rb
  have M10 := Lib.hid (M1.out.set 4 (.int .i64 yx) rfl)
  have N1 := Lib.hid (M10.out.set 5 (.bool ym) rfl)
  go_wp2_with fail
  refine bodyPost_ret (v := .agg #[.int .i64 6, .string ⟨#[]⟩, .int .i64 0, .int .i64 0, .int .i64 yx, .bool ym, .slice none 0 0]) (by simp [results, Tryz.results139, go_sem, a0, a1, a2, a3, a4, a5, a6]) rfl (nodeR_if (x := ⟨6, emptyB, 0, 0, yx, ym, []⟩) (s := ys) K.out ⟨none, 0, rfl, Own.none_, (ni_fin M1.out ?_).1, (ni_fin M1.out ?_).2⟩)
  all_goals
    repeat (refine Below.setCell ?_ (by first | exact Nat.le_refl _ | exact r1) _)
    exact Below.refl _ _

set_option maxRecDepth 100000 in
set_option maxHeartbeats 3200000 in
theorem specNode3 {R c p : Nat} {ao : Option Addr} {ws : List ByteArray} (w : World) (hw : Wds ws) (h : Lrd w R ao c ws p false) (hx : ws[p]? = some ⟨#[106, 111, 105, 110]⟩) :
    Calls Tryz.prog 139 #[.pointer (some ⟨R, 0, none⟩)] w (NodeR (restQ ws 3 (p + 1)) R ao c ws w) := by
  have HR := h.lt
  have HWD := Lib.hid h.words
  have HN := Lib.hid hw
  have Y1 := Lib.hid (fun W (hb : Below w.heap.size w W) => l06Word_yes W (h.belowB HR HWD.out hb) hx)
  have FB := Lib.hid (show findB verbsB ⟨#[106, 111, 105, 110]⟩ = 3 by decide)
  have BA := Lib.hid ((Below.refl w.heap.size w).alloc (Nat.le_refl _) (.cells #[.int .i64 0, .string ⟨#[]⟩, .int .i64 0, .int .i64 0, .int .i64 0, .bool false, .slice none 0 0] 92))
  clear h hw hx
  obtain ⟨⟨⟨yx, ym⟩, ys⟩, yh⟩ : ∃ y, y = intS false ws (p + 1, false) := ⟨_, rfl⟩
  have Iy := Lib.hid (fun W (h : Lrd W R ao c ws (p + 1) false) => intS_any false (p + 1, false) W HN.out h)
  have K := Lib.hid (restW3 ws (p + 1))
  rw [← yh] at K Iy
  clear yh
  obtain ⟨⟨⟨zx, zm⟩, zs⟩, zh⟩ : ∃ y, y = intS false ws ys := ⟨_, rfl⟩
  have Iz := Lib.hid (fun W (h : Lrd W R ao c ws ys.1 ys.2) => intS_any false ys W HN.out h)
  rw [← zh] at K Iz
  clear zh
  go_enter Tryz.func139, Tryz.ntmps139
  go_wp2_with fail
  refine (verbs_any _).mono ?_
  rintro e w1 ⟨rfl, rfl⟩
  have RV := Lib.hid (rdS_verbs (w := w.alloc (.cells #[.int .i64 0, .string ⟨#[]⟩, .int .i64 0, .int .i64 0, .int .i64 0, .bool false, .slice none 0 0] 92)) (g := w.heap.size + 1) (by simp))
  have BV := Lib.hid (BA.out.alloc (by simp) (.cells #[.string ⟨#[115, 99, 97, 110]⟩, .string ⟨#[102, 105, 108, 116, 101, 114]⟩, .string ⟨#[107, 101, 101, 112]⟩, .string ⟨#[106, 111, 105, 110]⟩, .string ⟨#[98, 111, 116, 104]⟩, .string ⟨#[115, 111, 114, 116]⟩, .string ⟨#[108, 105, 109, 105, 116]⟩, .string ⟨#[111, 110, 99, 101]⟩] 9))
  go_wp2_with fail
  refine (Y1.out _ BV.out).mono ?_
  rintro e w2 ⟨rfl, h2, g2⟩
  have RV2 := Lib.hid (findVerb_any _ w2 (rdS_grown RV.out g2 (by omega)) ⟨#[106, 111, 105, 110]⟩)
  rw [FB.out] at RV2
  have N0 := Lib.hid (ni_new (w := w) (s := (p + 1, false)) (v := .int .i64 3) h2 (grownBy_trans (World.grownBy_alloc _ _ _) g2) HR HWD.out)
  clear h2 g2
  go_wp2_with fail
  refine RV2.out.mono ?_
  rintro e w3 ⟨rfl, rfl⟩
  have r0 : ¬ (w2.heap.size = w.heap.size) := by have := N0.out.hB; omega
  have r0' : ¬ (w.heap.size = w2.heap.size) := fun e => r0 e.symm
  have r1 : w.heap.size ≤ w2.heap.size := Nat.le_of_lt N0.out.hB
  obtain ⟨⟨a0, a1, a2, a3, a4, a5, a6⟩, af⟩ := sd7 N0.out.ra
  obtain ⟨⟨b0, b1, b2, b3, b4, b5, b6⟩, bf⟩ := sd7 N0.out.rb
  clear Y1 FB BA RV BV RV2
  go_wp2_with fail
  refine (Iy.out _ N0.out.lrd).mono ?_
  rintro e w4 ⟨rfl, h4, g4⟩
  have M1 := Lib.hid (N0.out.call h4 g4)
  clear a0 a1 a2 a3 a4 a5 a6 b0 b1 b2 b3 b4 b5 b6 af bf h4 g4
  obtain ⟨⟨a0, a1, a2, a3, a4, a5, a6⟩, af⟩ := sd7 M1.out.ra
  obtain ⟨⟨b0, b1, b2, b3, b4, b5, b6⟩, bf⟩ := sd7 M1.out.rb
  have N1 := Lib.hid (M1.out.set 2 (.int .i64 yx) rfl)
  go_wp2_with fail
  refine (Iz.out _ N1.out.lrd).mono ?_
  rintro e w5 ⟨rfl, h4, g4⟩
  have M2 := Lib.hid (N1.out.call h4 g4)
  clear a0 a1 a2 a3 a4 a5 a6 b0 b1 b2 b3 b4 b5 b6 af bf h4 g4
  obtain ⟨⟨a0, a1, a2, a3, a4, a5, a6⟩, af⟩ := sd7 M2.out.ra
  obtain ⟨⟨b0, b1, b2, b3, b4, b5, b6⟩, bf⟩ := sd7 M2.out.rb
  have N2 := Lib.hid (M2.out.set 4 (.int .i64 zx) rfl)
  go_wp2_with fail
  refine bodyPost_ret (v := .agg #[.int .i64 3, .string ⟨#[]⟩, .int .i64 yx, .int .i64 0, .int .i64 zx, .bool false, .slice none 0 0]) (by simp [results, Tryz.results139, go_sem, a0, a1, a2, a3, a4, a5, a6]) rfl (nodeR_if (x := ⟨3, emptyB, yx, 0, zx, false, []⟩) (s := zs) K.out ⟨none, 0, rfl, Own.none_, (ni_fin M2.out ?_).1, (ni_fin M2.out ?_).2⟩)
  all_goals
    repeat (refine Below.setCell ?_ (by first | exact Nat.le_refl _ | exact r1) _)
    exact Below.refl _ _

set_option maxRecDepth 100000 in
set_option maxHeartbeats 3200000 in
theorem specNode0 {R c p : Nat} {ao : Option Addr} {ws : List ByteArray} (w : World) (hw : Wds ws) (h : Lrd w R ao c ws p false) (hx : ws[p]? = some ⟨#[115, 99, 97, 110]⟩) :
    Calls Tryz.prog 139 #[.pointer (some ⟨R, 0, none⟩)] w (NodeR (restQ ws 0 (p + 1)) R ao c ws w) := by
  have HR := h.lt
  have HWD := Lib.hid h.words
  have HN := Lib.hid hw
  have Y1 := Lib.hid (fun W (hb : Below w.heap.size w W) => l06Word_yes W (h.belowB HR HWD.out hb) hx)
  have FB := Lib.hid (show findB verbsB ⟨#[115, 99, 97, 110]⟩ = 0 by decide)
  have BA := Lib.hid ((Below.refl w.heap.size w).alloc (Nat.le_refl _) (.cells #[.int .i64 0, .string ⟨#[]⟩, .int .i64 0, .int .i64 0, .int .i64 0, .bool false, .slice none 0 0] 92))
  clear h hw hx
  obtain ⟨⟨yx, ys⟩, yh⟩ : ∃ y, y = wordS ws (p + 1, false) := ⟨_, rfl⟩
  have Iy := Lib.hid (fun W (h : Lrd W R ao c ws (p + 1) false) => wordS_any (p + 1, false) W h)
  have YS := Lib.hid (wordS_size HN.out (p + 1, false))
  have YP := Lib.hid (wordS_pos ws (p + 1, false))
  have K := Lib.hid (restW0 ws (p + 1))
  rw [← yh] at K Iy YS YP
  have YW := Lib.hid (fun W => specWordOk_any yx W (by have := YS.out; simp only at this; unfold maxLen; omega))
  have IB := Lib.hid (fun W (h : Lrd W R ao c ws ys.1 ys.2) => badS_any ys W h YP.out)
  clear yh YS YP
  go_enter Tryz.func139, Tryz.ntmps139
  go_wp2_with fail
  refine (verbs_any _).mono ?_
  rintro e w1 ⟨rfl, rfl⟩
  have RV := Lib.hid (rdS_verbs (w := w.alloc (.cells #[.int .i64 0, .string ⟨#[]⟩, .int .i64 0, .int .i64 0, .int .i64 0, .bool false, .slice none 0 0] 92)) (g := w.heap.size + 1) (by simp))
  have BV := Lib.hid (BA.out.alloc (by simp) (.cells #[.string ⟨#[115, 99, 97, 110]⟩, .string ⟨#[102, 105, 108, 116, 101, 114]⟩, .string ⟨#[107, 101, 101, 112]⟩, .string ⟨#[106, 111, 105, 110]⟩, .string ⟨#[98, 111, 116, 104]⟩, .string ⟨#[115, 111, 114, 116]⟩, .string ⟨#[108, 105, 109, 105, 116]⟩, .string ⟨#[111, 110, 99, 101]⟩] 9))
  go_wp2_with fail
  refine (Y1.out _ BV.out).mono ?_
  rintro e w2 ⟨rfl, h2, g2⟩
  have RV2 := Lib.hid (findVerb_any _ w2 (rdS_grown RV.out g2 (by omega)) ⟨#[115, 99, 97, 110]⟩)
  rw [FB.out] at RV2
  have N0 := Lib.hid (ni_new (w := w) (s := (p + 1, false)) (v := .int .i64 0) h2 (grownBy_trans (World.grownBy_alloc _ _ _) g2) HR HWD.out)
  clear h2 g2
  go_wp2_with fail
  refine RV2.out.mono ?_
  rintro e w3 ⟨rfl, rfl⟩
  have r0 : ¬ (w2.heap.size = w.heap.size) := by have := N0.out.hB; omega
  have r0' : ¬ (w.heap.size = w2.heap.size) := fun e => r0 e.symm
  have r1 : w.heap.size ≤ w2.heap.size := Nat.le_of_lt N0.out.hB
  obtain ⟨⟨a0, a1, a2, a3, a4, a5, a6⟩, af⟩ := sd7 N0.out.ra
  obtain ⟨⟨b0, b1, b2, b3, b4, b5, b6⟩, bf⟩ := sd7 N0.out.rb
  clear Y1 FB BA RV BV RV2
  go_wp2_with fail
  refine (Iy.out _ N0.out.lrd).mono ?_
  rintro e w4 ⟨rfl, h4, g4⟩
  have M1 := Lib.hid (N0.out.call h4 g4)
  clear a0 a1 a2 a3 a4 a5 a6 b0 b1 b2 b3 b4 b5 b6 af bf h4 g4
  obtain ⟨⟨a0, a1, a2, a3, a4, a5, a6⟩, af⟩ := sd7 M1.out.ra
  obtain ⟨⟨b0, b1, b2, b3, b4, b5, b6⟩, bf⟩ := sd7 M1.out.rb
  have N1 := Lib.hid (M1.out.set 1 (.string yx) rfl)
  go_wp2_with fail
  refine (YW.out _).mono ?_
  rintro e w5 ⟨rfl, rfl⟩
  cases hb : wordB yx.data.toList with
  | true =>
    obtain ⟨K1, K2⟩ := K.out.1 hb
    have KK1 := Lib.hid K1; have KK2 := Lib.hid K2
    clear K1 K2 K
    go_wp2_with fail
    refine bodyPost_ret (v := .agg #[.int .i64 0, .string yx, .int .i64 0, .int .i64 0, .int .i64 0, .bool false, .slice none 0 0]) (by simp [results, Tryz.results139, go_sem, a0, a1, a2, a3, a4, a5, a6]) rfl (nodeR_yes (x := ⟨0, yx, 0, 0, 0, false, []⟩) (s := ys) KK1.out KK2.out ⟨none, 0, rfl, Own.none_, (ni_fin M1.out ?_).1, (ni_fin M1.out ?_).2⟩)
    all_goals
      repeat (refine Below.setCell ?_ (by first | exact Nat.le_refl _ | exact r1) _)
      exact Below.refl _ _
  | false =>
    have KK1 := Lib.hid (K.out.2 hb)
    clear K
    go_wp2_with fail
    refine (IB.out _ N1.out.lrd).mono ?_
    rintro e w6 ⟨rfl, h4, g4⟩
    have N2 := Lib.hid (N1.out.call h4 g4)
    clear a0 a1 a2 a3 a4 a5 a6 b0 b1 b2 b3 b4 b5 b6 af bf h4 g4
    obtain ⟨⟨a0, a1, a2, a3, a4, a5, a6⟩, af⟩ := sd7 N2.out.ra
    obtain ⟨⟨b0, b1, b2, b3, b4, b5, b6⟩, bf⟩ := sd7 N2.out.rb
    go_wp2_with fail
    refine bodyPost_ret (v := .agg #[.int .i64 0, .string yx, .int .i64 0, .int .i64 0, .int .i64 0, .bool false, .slice none 0 0]) (by simp [results, Tryz.results139, go_sem, a0, a1, a2, a3, a4, a5, a6]) rfl (nodeR_no (x := ⟨0, yx, 0, 0, 0, false, []⟩) (s := badS ys) KK1.out (badS_two _) ⟨none, 0, rfl, Own.none_, (ni_fin N2.out ?_).1, (ni_fin N2.out ?_).2⟩)
    all_goals
      repeat (refine Below.setCell ?_ (by first | exact Nat.le_refl _ | exact r1) _)
      exact Below.refl _ _
end Go.Proofs.YtfpbhedophlnkaaGreatDoor
