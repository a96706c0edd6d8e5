/-
  The program's reader of words: contract of node at further kinds. For every list of words that are none of them empty.
-/
import Derived.Test.YtfpbhedophlnkaaGreatDoorJT19x
namespace Go.Proofs.YtfpbhedophlnkaaGreatDoor
open Go.RowKit
set_option linter.unusedSimpArgs false
set_option linter.unusedVariables false

set_option maxRecDepth 100000 in
set_option maxHeartbeats 3200000 in
theorem node1 {R c p : Nat} {ao : Option Addr} {ws : List ByteArray} (w : World) (hw : WdsI ws) (hg : GKeep R w) (h : Prd w R ao c ws p) (hx : ws[p]? = some ⟨#[102, 105, 108, 116, 101, 114]⟩) :
    Calls Tryz.prog 208 #[.pointer (some ⟨R, 0, none⟩)] w (NodeI (restQ ws 1 (p + 1)) R ao c ws w) := by
  have G := Lib.hid hg
  have HR := h.lt
  have HWD := Lib.hid h.words
  have HN := Lib.hid hw
  have BA := ((Below.refl w.heap.size w).alloc (Nat.le_refl _) (.cells #[.int .i64 0, .string ⟨#[]⟩, .int .i64 0, .int .i64 0, .int .i64 0, .bool false, .slice none 0 0] 92)).alloc (by simp) (.cells #[.int .i64 0, .string ⟨#[]⟩, .int .i64 0, .int .i64 0, .int .i64 0, .bool false, .slice none 0 0] 92)
  have GA : w.grownBy ((w.alloc (.cells #[.int .i64 0, .string ⟨#[]⟩, .int .i64 0, .int .i64 0, .int .i64 0, .bool false, .slice none 0 0] 92)).alloc (.cells #[.int .i64 0, .string ⟨#[]⟩, .int .i64 0, .int .i64 0, .int .i64 0, .bool false, .slice none 0 0] 92)) (some R) := grownBy_trans (World.grownBy_alloc w _ _) (World.grownBy_alloc _ _ _)
  have HGA := Lib.hid GA
  have HX : Hid (((w.alloc (.cells #[.int .i64 0, .string ⟨#[]⟩, .int .i64 0, .int .i64 0, .int .i64 0, .bool false, .slice none 0 0] 92)).alloc (.cells #[.int .i64 0, .string ⟨#[]⟩, .int .i64 0, .int .i64 0, .int .i64 0, .bool false, .slice none 0 0] 92)).heap[w.heap.size + 1]? = some (.cells #[.int .i64 0, .string ⟨#[]⟩, .int .i64 0, .int .i64 0, .int .i64 0, .bool false, .slice none 0 0] 92 (0, 0))) := by
    show _ = _
    have h1 := heap_alloc_new (w.alloc (.cells #[.int .i64 0, .string ⟨#[]⟩, .int .i64 0, .int .i64 0, .int .i64 0, .bool false, .slice none 0 0] 92)) (.cells #[.int .i64 0, .string ⟨#[]⟩, .int .i64 0, .int .i64 0, .int .i64 0, .bool false, .slice none 0 0] 92)
    simpa using h1
  have HZ : Hid (((w.alloc (.cells #[.int .i64 0, .string ⟨#[]⟩, .int .i64 0, .int .i64 0, .int .i64 0, .bool false, .slice none 0 0] 92)).alloc (.cells #[.int .i64 0, .string ⟨#[]⟩, .int .i64 0, .int .i64 0, .int .i64 0, .bool false, .slice none 0 0] 92)).heap[w.heap.size]? = some (.cells #[.int .i64 0, .string ⟨#[]⟩, .int .i64 0, .int .i64 0, .int .i64 0, .bool false, .slice none 0 0] 92 (0, 0))) := by
    show _ = _
    have h1 := heap_alloc_new w (.cells #[.int .i64 0, .string ⟨#[]⟩, .int .i64 0, .int .i64 0, .int .i64 0, .bool false, .slice none 0 0] 92)
    exact ((World.grownBy_alloc (w.alloc (.cells #[.int .i64 0, .string ⟨#[]⟩, .int .i64 0, .int .i64 0, .int .i64 0, .bool false, .slice none 0 0] 92)) _ none).block _ (Array.getElem?_eq_some_iff.1 h1).1 (by simp)).trans h1
  have T := Lib.hid (next_yes _ (h.below BA) hx)
  obtain ⟨rr, hrr⟩ : ∃ rr, rr = restQ ws 1 (p + 1) := ⟨_, rfl⟩
  have N2 := Lib.hid (fun W (h : Prd W R ao c ws (p + 1)) g => filter_any W HN.out g h)
  rw [← hrr] at N2 ⊢
  clear h hw hg hrr GA BA hx
  go_enter Tryz.func208, Tryz.ntmps208
  go_wp2_with fail
  refine T.out.mono ?_
  rintro e w1 ⟨rfl, h1, g1⟩
  have H1 := Lib.hid h1; have G1 := Lib.hid (grownBy_trans HGA.out g1)
  have z1 := g1.size
  simp at z1
  have B1 := Lib.hid (blk_keep HZ.out g1 (by omega)); have X1 := Lib.hid (blk_keep HX.out g1 (by omega))
  have r0 : ¬ (w.heap.size + 1 = w.heap.size) := by omega
  have r0' : ¬ (w.heap.size = w.heap.size + 1) := by omega
  clear h1 g1 T HGA HX HZ
  go_wp2_with fail
  refine (N2.out _ H1.out (G.out.step G1.out)).mono ?_
  cases rr with
  | inl q =>
    rintro e w2 ⟨rfl, g2⟩
    have G2 := Lib.hid (grownBy_trans G1.out g2)
    clear g2
    go_wp2_with fail
    exact ⟨rfl, rfl, G2.out⟩
  | inr y =>
      obtain ⟨⟨yk, yn, yc, yo, yu, ys, yl⟩, yp⟩ := y
      rintro e w2 ⟨a, cc, rfl, ho, h2, g2⟩
      simp only at ho h2 ⊢
      have H2 := Lib.hid h2; have G2 := Lib.hid (grownBy_trans G1.out g2); have HO := Lib.hid ho
      have HOL := Lib.hid (fun x hx => (ho.lt x hx).1)
      obtain ⟨⟨b0, b1, b2, b3, b4, b5, b6⟩, bf⟩ := nd7 (blk_keep B1.out g2 (by omega))
      obtain ⟨⟨x0, x1, x2, x3, x4, x5, x6⟩, xf⟩ := nd7 (blk_keep X1.out g2 (by omega))
      have z2 := g2.size
      clear h2 g2 ho
      go_wp2_with fail
      refine bodyPost_ret (v := .agg #[.int .i64 yk, .string yn, .int .i64 yc, .int .i64 yo, .int .i64 yu, .bool ys, .slice a yl.length cc]) (by simp [results, Tryz.results208, go_sem, b0, b1, b2, b3, b4, b5, b6]) rfl ⟨a, cc, rfl, ?_, H2.out.belowB HR HWD.out ?_, grown_belowI G2.out ?_⟩
      · refine Own.base_le (base := w1.heap.size) ?_ (by omega)
        repeat (refine Own.far ?_ (fun x hx => by have := HOL.out x hx; simp at this ⊢; omega) _)
        exact HO.out
      all_goals
        repeat (refine Below.setCell ?_ (by simp; try omega) _)
        exact Below.refl _ _

set_option maxRecDepth 100000 in
set_option maxHeartbeats 3200000 in
theorem node2 {R c p : Nat} {ao : Option Addr} {ws : List ByteArray} (w : World) (hw : WdsI ws) (hg : GKeep R w) (h : Prd w R ao c ws p) (hx : ws[p]? = some ⟨#[107, 101, 101, 112]⟩) :
    Calls Tryz.prog 208 #[.pointer (some ⟨R, 0, none⟩)] w (NodeI (restQ ws 2 (p + 1)) R ao c ws w) := by
  have G := Lib.hid hg
  have HR := h.lt
  have HWD := Lib.hid h.words
  have HN := Lib.hid hw
  have BA := ((Below.refl w.heap.size w).alloc (Nat.le_refl _) (.cells #[.int .i64 0, .string ⟨#[]⟩, .int .i64 0, .int .i64 0, .int .i64 0, .bool false, .slice none 0 0] 92)).alloc (by simp) (.cells #[.int .i64 0, .string ⟨#[]⟩, .int .i64 0, .int .i64 0, .int .i64 0, .bool false, .slice none 0 0] 92)
  have GA : w.grownBy ((w.alloc (.cells #[.int .i64 0, .string ⟨#[]⟩, .int .i64 0, .int .i64 0, .int .i64 0, .bool false, .slice none 0 0] 92)).alloc (.cells #[.int .i64 0, .string ⟨#[]⟩, .int .i64 0, .int .i64 0, .int .i64 0, .bool false, .slice none 0 0] 92)) (some R) := grownBy_trans (World.grownBy_alloc w _ _) (World.grownBy_alloc _ _ _)
  have HGA := Lib.hid GA
  have HX : Hid (((w.alloc (.cells #[.int .i64 0, .string ⟨#[]⟩, .int .i64 0, .int .i64 0, .int .i64 0, .bool false, .slice none 0 0] 92)).alloc (.cells #[.int .i64 0, .string ⟨#[]⟩, .int .i64 0, .int .i64 0, .int .i64 0, .bool false, .slice none 0 0] 92)).heap[w.heap.size + 1]? = some (.cells #[.int .i64 0, .string ⟨#[]⟩, .int .i64 0, .int .i64 0, .int .i64 0, .bool false, .slice none 0 0] 92 (0, 0))) := by
    show _ = _
    have h1 := heap_alloc_new (w.alloc (.cells #[.int .i64 0, .string ⟨#[]⟩, .int .i64 0, .int .i64 0, .int .i64 0, .bool false, .slice none 0 0] 92)) (.cells #[.int .i64 0, .string ⟨#[]⟩, .int .i64 0, .int .i64 0, .int .i64 0, .bool false, .slice none 0 0] 92)
    simpa using h1
  have HZ : Hid (((w.alloc (.cells #[.int .i64 0, .string ⟨#[]⟩, .int .i64 0, .int .i64 0, .int .i64 0, .bool false, .slice none 0 0] 92)).alloc (.cells #[.int .i64 0, .string ⟨#[]⟩, .int .i64 0, .int .i64 0, .int .i64 0, .bool false, .slice none 0 0] 92)).heap[w.heap.size]? = some (.cells #[.int .i64 0, .string ⟨#[]⟩, .int .i64 0, .int .i64 0, .int .i64 0, .bool false, .slice none 0 0] 92 (0, 0))) := by
    show _ = _
    have h1 := heap_alloc_new w (.cells #[.int .i64 0, .string ⟨#[]⟩, .int .i64 0, .int .i64 0, .int .i64 0, .bool false, .slice none 0 0] 92)
    exact ((World.grownBy_alloc (w.alloc (.cells #[.int .i64 0, .string ⟨#[]⟩, .int .i64 0, .int .i64 0, .int .i64 0, .bool false, .slice none 0 0] 92)) _ none).block _ (Array.getElem?_eq_some_iff.1 h1).1 (by simp)).trans h1
  have T := Lib.hid (next_yes _ (h.below BA) hx)
  have K := Lib.hid (rest2 ws (p + 1))
  obtain ⟨rr, hrr⟩ : ∃ rr, rr = restQ ws 2 (p + 1) := ⟨_, rfl⟩
  rw [← hrr] at K ⊢
  clear h hw hg hrr GA BA hx
  have N2 := Lib.hid (fun W (h : Prd W R ao c ws (p + 1)) g => cols_any W HN.out g h)
  obtain ⟨r2, hr2⟩ : ∃ r2, r2 = keepQ ws (p + 1) := ⟨_, rfl⟩
  rw [← hr2] at K N2
  clear hr2
  go_enter Tryz.func208, Tryz.ntmps208
  go_wp2_with fail
  refine T.out.mono ?_
  rintro e w1 ⟨rfl, h1, g1⟩
  have H1 := Lib.hid h1; have G1 := Lib.hid (grownBy_trans HGA.out g1)
  have z1 := g1.size
  simp at z1
  have B1 := Lib.hid (blk_keep HZ.out g1 (by omega)); have X1 := Lib.hid (blk_keep HX.out g1 (by omega))
  have r0 : ¬ (w.heap.size + 1 = w.heap.size) := by omega
  have r0' : ¬ (w.heap.size = w.heap.size + 1) := by omega
  clear h1 g1 T HGA HX HZ
  go_wp2_with fail
  refine (N2.out _ H1.out (G.out.step G1.out)).mono ?_
  cases r2 with
  | inl q =>
    have E := Lib.hid K.out
    rintro e w2 ⟨rfl, g2⟩
    have G2 := Lib.hid (grownBy_trans G1.out g2)
    clear g2
    go_wp2_with fail
    rw [E.out]
    exact ⟨rfl, rfl, G2.out⟩
  | inr y =>
      have E := Lib.hid K.out
      rintro e w2 ⟨a, cc, rfl, ho, h2, g2⟩
      have H2 := Lib.hid h2; have G2 := Lib.hid (grownBy_trans G1.out g2); have HO := Lib.hid ho
      have HOL := Lib.hid (fun x hx => (ho.lt x hx).1)
      obtain ⟨⟨b0, b1, b2, b3, b4, b5, b6⟩, bf⟩ := nd7 (blk_keep B1.out g2 (by omega))
      obtain ⟨⟨x0, x1, x2, x3, x4, x5, x6⟩, xf⟩ := nd7 (blk_keep X1.out g2 (by omega))
      have z2 := g2.size
      clear h2 g2 ho
      go_wp2_with fail
      rw [E.out]
      refine bodyPost_ret (v := .agg #[.int .i64 2, .string ⟨#[]⟩, .int .i64 0, .int .i64 0, .int .i64 0, .bool false, .slice a y.length cc]) (by simp [results, Tryz.results208, go_sem, b0, b1, b2, b3, b4, b5, b6]) rfl ⟨a, cc, rfl, ?_, H2.out.belowB HR HWD.out ?_, grown_belowI G2.out ?_⟩
      · refine Own.base_le (base := w1.heap.size) ?_ (by omega)
        repeat (refine Own.far ?_ (fun x hx => by have := HOL.out x hx; simp at this ⊢; omega) _)
        exact HO.out
      all_goals
        repeat (refine Below.setCell ?_ (by simp; try omega) _)
        exact Below.refl _ _

set_option maxRecDepth 100000 in
set_option maxHeartbeats 3200000 in
theorem node3 {R c p : Nat} {ao : Option Addr} {ws : List ByteArray} (w : World) (hw : WdsI ws) (hg : GKeep R w) (h : Prd w R ao c ws p) (hx : ws[p]? = some ⟨#[106, 111, 105, 110]⟩) :
    Calls Tryz.prog 208 #[.pointer (some ⟨R, 0, none⟩)] w (NodeI (restQ ws 3 (p + 1)) R ao c ws w) := by
  have G := Lib.hid hg
  have HR := h.lt
  have HWD := Lib.hid h.words
  have HN := Lib.hid hw
  have BA := ((Below.refl w.heap.size w).alloc (Nat.le_refl _) (.cells #[.int .i64 0, .string ⟨#[]⟩, .int .i64 0, .int .i64 0, .int .i64 0, .bool false, .slice none 0 0] 92)).alloc (by simp) (.cells #[.int .i64 0, .string ⟨#[]⟩, .int .i64 0, .int .i64 0, .int .i64 0, .bool false, .slice none 0 0] 92)
  have GA : w.grownBy ((w.alloc (.cells #[.int .i64 0, .string ⟨#[]⟩, .int .i64 0, .int .i64 0, .int .i64 0, .bool false, .slice none 0 0] 92)).alloc (.cells #[.int .i64 0, .string ⟨#[]⟩, .int .i64 0, .int .i64 0, .int .i64 0, .bool false, .slice none 0 0] 92)) (some R) := grownBy_trans (World.grownBy_alloc w _ _) (World.grownBy_alloc _ _ _)
  have HGA := Lib.hid GA
  have HX : Hid (((w.alloc (.cells #[.int .i64 0, .string ⟨#[]⟩, .int .i64 0, .int .i64 0, .int .i64 0, .bool false, .slice none 0 0] 92)).alloc (.cells #[.int .i64 0, .string ⟨#[]⟩, .int .i64 0, .int .i64 0, .int .i64 0, .bool false, .slice none 0 0] 92)).heap[w.heap.size + 1]? = some (.cells #[.int .i64 0, .string ⟨#[]⟩, .int .i64 0, .int .i64 0, .int .i64 0, .bool false, .slice none 0 0] 92 (0, 0))) := by
    show _ = _
    have h1 := heap_alloc_new (w.alloc (.cells #[.int .i64 0, .string ⟨#[]⟩, .int .i64 0, .int .i64 0, .int .i64 0, .bool false, .slice none 0 0] 92)) (.cells #[.int .i64 0, .string ⟨#[]⟩, .int .i64 0, .int .i64 0, .int .i64 0, .bool false, .slice none 0 0] 92)
    simpa using h1
  have HZ : Hid (((w.alloc (.cells #[.int .i64 0, .string ⟨#[]⟩, .int .i64 0, .int .i64 0, .int .i64 0, .bool false, .slice none 0 0] 92)).alloc (.cells #[.int .i64 0, .string ⟨#[]⟩, .int .i64 0, .int .i64 0, .int .i64 0, .bool false, .slice none 0 0] 92)).heap[w.heap.size]? = some (.cells #[.int .i64 0, .string ⟨#[]⟩, .int .i64 0, .int .i64 0, .int .i64 0, .bool false, .slice none 0 0] 92 (0, 0))) := by
    show _ = _
    have h1 := heap_alloc_new w (.cells #[.int .i64 0, .string ⟨#[]⟩, .int .i64 0, .int .i64 0, .int .i64 0, .bool false, .slice none 0 0] 92)
    exact ((World.grownBy_alloc (w.alloc (.cells #[.int .i64 0, .string ⟨#[]⟩, .int .i64 0, .int .i64 0, .int .i64 0, .bool false, .slice none 0 0] 92)) _ none).block _ (Array.getElem?_eq_some_iff.1 h1).1 (by simp)).trans h1
  have T := Lib.hid (next_yes _ (h.below BA) hx)
  have K := Lib.hid (rest3 ws (p + 1))
  obtain ⟨rr, hrr⟩ : ∃ rr, rr = restQ ws 3 (p + 1) := ⟨_, rfl⟩
  rw [← hrr] at K ⊢
  clear h hw hg hrr GA BA hx
  have N2 := Lib.hid (fun W q (h : Prd W R ao c ws q) g => number_any W HN.out g h)
  obtain ⟨r2, hr2⟩ : ∃ r2, r2 = intQ false ws (p + 1) := ⟨_, rfl⟩
  obtain ⟨r3, hr3⟩ : ∃ r3, r3 = intQ false ws (p + 1 + 1) := ⟨_, rfl⟩
  have NA := Lib.hid (fun W h g => N2.out W (p + 1) h g)
  have NB := Lib.hid (fun W h g => N2.out W (p + 1 + 1) h g)
  rw [← hr2] at K NA
  rw [← hr3] at K NB
  clear hr2 hr3 N2
  go_enter Tryz.func208, Tryz.ntmps208
  go_wp2_with fail
  refine T.out.mono ?_
  rintro e w1 ⟨rfl, h1, g1⟩
  have H1 := Lib.hid h1; have G1 := Lib.hid (grownBy_trans HGA.out g1)
  have z1 := g1.size
  simp at z1
  have B1 := Lib.hid (blk_keep HZ.out g1 (by omega)); have X1 := Lib.hid (blk_keep HX.out g1 (by omega))
  have r0 : ¬ (w.heap.size + 1 = w.heap.size) := by omega
  have r0' : ¬ (w.heap.size = w.heap.size + 1) := by omega
  clear h1 g1 T HGA HX HZ
  go_wp2_with fail
  refine (NA.out _ H1.out (G.out.step G1.out)).mono ?_
  cases r2 with
  | none =>
    have E := Lib.hid K.out
    rintro e w2 ⟨rfl, g2⟩
    have G2 := Lib.hid (grownBy_trans G1.out g2)
    clear g2
    go_wp2_with fail
    rw [E.out]
    exact ⟨rfl, rfl, G2.out⟩
  | some y =>
    have K' := K.out
    simp only at K'
    have K2 := Lib.hid K'
    clear K' K
    rintro e w2 ⟨rfl, h2, g2⟩
    have H2 := Lib.hid h2; have G2 := Lib.hid (grownBy_trans G1.out g2)
    have B2 := Lib.hid (blk_keep B1.out g2 (by omega)); have X2 := Lib.hid (blk_keep X1.out g2 (by omega))
    have z2 := g2.size
    clear h2 g2 B1 X1
    go_wp2_with fail
    refine (NB.out _ H2.out (G.out.step G2.out)).mono ?_
    cases r3 with
    | none =>
      have E := Lib.hid K2.out
      rintro e w3 ⟨rfl, g3⟩
      have G3 := Lib.hid (grownBy_trans G2.out g3)
      clear g3
      go_wp2_with fail
      rw [E.out]
      exact ⟨rfl, rfl, G3.out⟩
    | some u =>
      have E := Lib.hid K2.out
      rintro e w3 ⟨rfl, h3, g3⟩
      have H3 := Lib.hid h3; have G3 := Lib.hid (grownBy_trans G2.out g3)
      obtain ⟨⟨b0, b1, b2, b3, b4, b5, b6⟩, bf⟩ := nd7 (blk_keep B2.out g3 (by omega))
      obtain ⟨⟨x0, x1, x2, x3, x4, x5, x6⟩, xf⟩ := nd7 (blk_keep X2.out g3 (by omega))
      have z3 := g3.size
      clear h3 g3
      go_wp2_with fail
      rw [E.out]
      refine bodyPost_ret (v := .agg #[.int .i64 3, .string ⟨#[]⟩, .int .i64 y.1, .int .i64 0, .int .i64 u.1, .bool false, .slice none 0 0]) (by simp [results, Tryz.results208, go_sem, b0, b1, b2, b3, b4, b5, b6]) rfl ⟨none, 0, rfl, Own.none_, H3.out.belowB HR HWD.out ?_, grown_belowI G3.out ?_⟩
      all_goals
        repeat (refine Below.setCell ?_ (by simp; try omega) _)
        exact Below.refl _ _

set_option maxRecDepth 100000 in
set_option maxHeartbeats 3200000 in
theorem node6 {R c p : Nat} {ao : Option Addr} {ws : List ByteArray} (w : World) (hw : WdsI ws) (hg : GKeep R w) (h : Prd w R ao c ws p) (hx : ws[p]? = some ⟨#[108, 105, 109, 105, 116]⟩) :
    Calls Tryz.prog 208 #[.pointer (some ⟨R, 0, none⟩)] w (NodeI (restQ ws 6 (p + 1)) R ao c ws w) := by
  have G := Lib.hid hg
  have HR := h.lt
  have HWD := Lib.hid h.words
  have HN := Lib.hid hw
  have BA := ((Below.refl w.heap.size w).alloc (Nat.le_refl _) (.cells #[.int .i64 0, .string ⟨#[]⟩, .int .i64 0, .int .i64 0, .int .i64 0, .bool false, .slice none 0 0] 92)).alloc (by simp) (.cells #[.int .i64 0, .string ⟨#[]⟩, .int .i64 0, .int .i64 0, .int .i64 0, .bool false, .slice none 0 0] 92)
  have GA : w.grownBy ((w.alloc (.cells #[.int .i64 0, .string ⟨#[]⟩, .int .i64 0, .int .i64 0, .int .i64 0, .bool false, .slice none 0 0] 92)).alloc (.cells #[.int .i64 0, .string ⟨#[]⟩, .int .i64 0, .int .i64 0, .int .i64 0, .bool false, .slice none 0 0] 92)) (some R) := grownBy_trans (World.grownBy_alloc w _ _) (World.grownBy_alloc _ _ _)
  have HGA := Lib.hid GA
  have HX : Hid (((w.alloc (.cells #[.int .i64 0, .string ⟨#[]⟩, .int .i64 0, .int .i64 0, .int .i64 0, .bool false, .slice none 0 0] 92)).alloc (.cells #[.int .i64 0, .string ⟨#[]⟩, .int .i64 0, .int .i64 0, .int .i64 0, .bool false, .slice none 0 0] 92)).heap[w.heap.size + 1]? = some (.cells #[.int .i64 0, .string ⟨#[]⟩, .int .i64 0, .int .i64 0, .int .i64 0, .bool false, .slice none 0 0] 92 (0, 0))) := by
    show _ = _
    have h1 := heap_alloc_new (w.alloc (.cells #[.int .i64 0, .string ⟨#[]⟩, .int .i64 0, .int .i64 0, .int .i64 0, .bool false, .slice none 0 0] 92)) (.cells #[.int .i64 0, .string ⟨#[]⟩, .int .i64 0, .int .i64 0, .int .i64 0, .bool false, .slice none 0 0] 92)
    simpa using h1
  have HZ : Hid (((w.alloc (.cells #[.int .i64 0, .string ⟨#[]⟩, .int .i64 0, .int .i64 0, .int .i64 0, .bool false, .slice none 0 0] 92)).alloc (.cells #[.int .i64 0, .string ⟨#[]⟩, .int .i64 0, .int .i64 0, .int .i64 0, .bool false, .slice none 0 0] 92)).heap[w.heap.size]? = some (.cells #[.int .i64 0, .string ⟨#[]⟩, .int .i64 0, .int .i64 0, .int .i64 0, .bool false, .slice none 0 0] 92 (0, 0))) := by
    show _ = _
    have h1 := heap_alloc_new w (.cells #[.int .i64 0, .string ⟨#[]⟩, .int .i64 0, .int .i64 0, .int .i64 0, .bool false, .slice none 0 0] 92)
    exact ((World.grownBy_alloc (w.alloc (.cells #[.int .i64 0, .string ⟨#[]⟩, .int .i64 0, .int .i64 0, .int .i64 0, .bool false, .slice none 0 0] 92)) _ none).block _ (Array.getElem?_eq_some_iff.1 h1).1 (by simp)).trans h1
  have T := Lib.hid (next_yes _ (h.below BA) hx)
  have K := Lib.hid (rest6 ws (p + 1))
  obtain ⟨rr, hrr⟩ : ∃ rr, rr = restQ ws 6 (p + 1) := ⟨_, rfl⟩
  rw [← hrr] at K ⊢
  clear h hw hg hrr GA BA hx
  have N2 := Lib.hid (fun W (h : Prd W R ao c ws (p + 1)) g => literal_any W HN.out g h)
  obtain ⟨r2, hr2⟩ : ∃ r2, r2 = intQ true ws (p + 1) := ⟨_, rfl⟩
  rw [← hr2] at K N2
  clear hr2
  go_enter Tryz.func208, Tryz.ntmps208
  go_wp2_with fail
  refine T.out.mono ?_
  rintro e w1 ⟨rfl, h1, g1⟩
  have H1 := Lib.hid h1; have G1 := Lib.hid (grownBy_trans HGA.out g1)
  have z1 := g1.size
  simp at z1
  have B1 := Lib.hid (blk_keep HZ.out g1 (by omega)); have X1 := Lib.hid (blk_keep HX.out g1 (by omega))
  have r0 : ¬ (w.heap.size + 1 = w.heap.size) := by omega
  have r0' : ¬ (w.heap.size = w.heap.size + 1) := by omega
  clear h1 g1 T HGA HX HZ
  have BS := (Below.refl w.heap.size w1).setCell (p := ⟨w.heap.size + 1, 0, none⟩) (by simp) (.int .i64 6)
  have H1b := Lib.hid (H1.out.belowB HR HWD.out BS); have G1b := Lib.hid (grown_belowI G1.out BS)
  have X1b := Lib.hid (heap_setCell_same w1 (w.heap.size + 1) 0 _ _ (.int .i64 6) X1.out)
  have B1b := Lib.hid ((heap_setCell_other w1 ⟨w.heap.size + 1, 0, none⟩ w.heap.size (.int .i64 6) (by simp)).trans B1.out)
  obtain ⟨⟨v0, v1, v2, v3, v4, v5, v6⟩, vf⟩ := nd7 X1.out
  clear BS
  go_wp2_with fail
  refine (N2.out _ H1b.out (G.out.step G1b.out)).mono ?_
  cases r2 with
  | none =>
    have E := Lib.hid K.out
    rintro e w2 ⟨rfl, g2⟩
    have G2 := Lib.hid (grownBy_trans G1b.out g2)
    clear g2
    go_wp2_with fail
    rw [E.out]
    exact ⟨rfl, rfl, G2.out⟩
  | some y =>
      have E := Lib.hid K.out
      rintro e w2 ⟨rfl, h2, g2⟩
      have H2 := Lib.hid h2; have G2 := Lib.hid (grownBy_trans G1b.out g2)
      have z2 := g2.size
      simp [World.setCell] at z2
      obtain ⟨⟨b0, b1, b2, b3, b4, b5, b6⟩, bf⟩ := nd7 (blk_keep B1b.out g2 (by omega))
      obtain ⟨⟨x0, x1, x2, x3, x4, x5, x6⟩, xf⟩ := nd7 (blk_keep X1b.out g2 (by omega))
      clear h2 g2 v0 v1 v2 v3 v4 v5 v6 vf
      go_wp2_with fail
      rw [E.out]
      refine bodyPost_ret (v := .agg #[.int .i64 6, .string ⟨#[]⟩, .int .i64 0, .int .i64 0, .int .i64 y.1, .bool y.2, .slice none 0 0]) (by simp [results, Tryz.results208, go_sem, b0, b1, b2, b3, b4, b5, b6]) rfl ⟨none, 0, rfl, Own.none_, H2.out.belowB HR HWD.out ?_, grown_belowI G2.out ?_⟩
      all_goals
        repeat (refine Below.setCell ?_ (by simp; try omega) _)
        exact Below.refl _ _

set_option maxRecDepth 100000 in
theorem nodeI_any {R c p : Nat} {ao : Option Addr} {ws : List ByteArray} (w : World) (hw : WdsI ws) (hg : GKeep R w) (h : Prd w R ao c ws p) :
    Calls Tryz.prog 208 #[.pointer (some ⟨R, 0, none⟩)] w (NodeI (nodeQ ws p) R ao c ws w) := by
  have BA := ((Below.refl w.heap.size w).alloc (Nat.le_refl _) (.cells #[.int .i64 0, .string ⟨#[]⟩, .int .i64 0, .int .i64 0, .int .i64 0, .bool false, .slice none 0 0] 92)).alloc (by simp) (.cells #[.int .i64 0, .string ⟨#[]⟩, .int .i64 0, .int .i64 0, .int .i64 0, .bool false, .slice none 0 0] 92)
  have HGA := Lib.hid (grownBy_trans (World.grownBy_alloc w (.cells #[.int .i64 0, .string ⟨#[]⟩, .int .i64 0, .int .i64 0, .int .i64 0, .bool false, .slice none 0 0] 92) (some R)) (World.grownBy_alloc _ (.cells #[.int .i64 0, .string ⟨#[]⟩, .int .i64 0, .int .i64 0, .int .i64 0, .bool false, .slice none 0 0] 92) (some R)))
  cases hx : ws[p]? with
  | none =>
    rw [show nodeQ ws p = .inl p by unfold nodeQ; rw [hx]]
    have T := Lib.hid (next_end _ (h.below BA) hx)
    clear h hw hg BA hx
    go_enter Tryz.func208, Tryz.ntmps208
    go_wp2_with fail
    refine T.out.mono ?_
    rintro e w1 ⟨rfl, g1⟩
    have G1 := Lib.hid (grownBy_trans HGA.out g1)
    clear g1
    go_wp2_with fail
    exact ⟨rfl, rfl, G1.out⟩
  | some s =>
    have e : nodeQ ws p = if findB verbsB s = -1 then .inl p else restQ ws (findB verbsB s) (p + 1) := by unfold nodeQ; rw [hx]
    rcases verbsB_ways s with ⟨rfl, hf⟩ | ⟨rfl, hf⟩ | ⟨rfl, hf⟩ | ⟨rfl, hf⟩ | ⟨rfl, hf⟩ | ⟨rfl, hf⟩ | ⟨rfl, hf⟩ | ⟨rfl, hf⟩ | ⟨hf, q0, q1, q2, q3, q4, q5, q6, q7⟩
    · rw [e, hf, if_neg (by decide)]; exact node0 w hw hg h hx
    · rw [e, hf, if_neg (by decide)]; exact node1 w hw hg h hx
    · rw [e, hf, if_neg (by decide)]; exact node2 w hw hg h hx
    · rw [e, hf, if_neg (by decide)]; exact node3 w hw hg h hx
    · rw [e, hf, if_neg (by decide)]; exact node4 w hw hg h hx
    · rw [e, hf, if_neg (by decide)]; exact node5 w hw hg h hx
    · rw [e, hf, if_neg (by decide)]; exact node6 w hw hg h hx
    · rw [e, hf, if_neg (by decide)]; exact node7 w hw hg h hx
    · rw [e, hf, if_pos rfl]
      have T := Lib.hid (next_yes _ (h.below BA) hx)
      clear h hw hg BA hx e hf
      go_enter Tryz.func208, Tryz.ntmps208
      go_wp2_with fail
      refine T.out.mono ?_
      rintro e w1 ⟨rfl, h1, g1⟩
      have LA := Lib.hid (last_any w1 h1)
      have G1 := Lib.hid (grownBy_trans HGA.out g1)
      clear h1 g1
      go_wp2_with fail
      refine LA.out.mono ?_
      rintro e w' ⟨rfl, rfl⟩
      go_wp2_with fail
      exact ⟨rfl, rfl, G1.out⟩
end Go.Proofs.YtfpbhedophlnkaaGreatDoor
