/-
  The program's reader of words: contract of node at further kinds. For every list of words that are none of them empty. The program's reader of words: contract of nodes. For every list of words that are none of them empty. The program's ParsePlan: contracts of its deferred closure, as it is called where the reader has panicked and where it has returned.
-/
import Derived.Test.YtfpbhedophlnkaaGreatDoorKIP1
import Derived.Test.YtfpbhedophlnkaaGreatDoorGrNd
import Derived.Test.YtfpbhedophlnkaaGreatDoorKind
import Derived.Defers
import Derived.Recover
import Derived.Laws.Pointers
namespace Go.Proofs.YtfpbhedophlnkaaGreatDoor
open Go.RowKit
set_option linter.unusedSimpArgs false
set_option linter.unusedVariables false

set_option maxRecDepth 100000 in
set_option maxHeartbeats 3200000 in
theorem node1 {R c p : Nat} {ao : Option Addr} {ws : List ByteArray} (w : World) (hw : WdsI ws) (hg : GKeep R w) (h : Prd w R ao c ws p) (hx : ws[p]? = some ⟨#[102, 105, 108, 116, 101, 114]⟩) :
    Calls Tryz.prog 208 #[.pointer (some ⟨R, 0, none⟩)] w (NodeI (restQ ws 1 (p + 1)) R ao c ws w) := by
  have G := Lib.hid hg
  have HR := h.lt
  have HWD := Lib.hid h.words
  have HN := Lib.hid hw
  have BA := ((Below.refl w.heap.size w).alloc (Nat.le_refl _) (.cells #[.int .i64 0, .string ⟨#[]⟩, .int .i64 0, .int .i64 0, .int .i64 0, .bool false, .slice none 0 0] 92)).alloc (by simp) (.cells #[.int .i64 0, .string ⟨#[]⟩, .int .i64 0, .int .i64 0, .int .i64 0, .bool false, .slice none 0 0] 92)
  have GA : w.grownBy ((w.alloc (.cells #[.int .i64 0, .string ⟨#[]⟩, .int .i64 0, .int .i64 0, .int .i64 0, .bool false, .slice none 0 0] 92)).alloc (.cells #[.int .i64 0, .string ⟨#[]⟩, .int .i64 0, .int .i64 0, .int .i64 0, .bool false, .slice none 0 0] 92)) (some R) := grownBy_trans (World.grownBy_alloc w _ _) (World.grownBy_alloc _ _ _)
  have HGA := Lib.hid GA
  have HX : Hid (((w.alloc (.cells #[.int .i64 0, .string ⟨#[]⟩, .int .i64 0, .int .i64 0, .int .i64 0, .bool false, .slice none 0 0] 92)).alloc (.cells #[.int .i64 0, .string ⟨#[]⟩, .int .i64 0, .int .i64 0, .int .i64 0, .bool false, .slice none 0 0] 92)).heap[w.heap.size + 1]? = some (.cells #[.int .i64 0, .string ⟨#[]⟩, .int .i64 0, .int .i64 0, .int .i64 0, .bool false, .slice none 0 0] 92 (0, 0))) := by
    show _ = _
    have h1 := heap_alloc_new (w.alloc (.cells #[.int .i64 0, .string ⟨#[]⟩, .int .i64 0, .int .i64 0, .int .i64 0, .bool false, .slice none 0 0] 92)) (.cells #[.int .i64 0, .string ⟨#[]⟩, .int .i64 0, .int .i64 0, .int .i64 0, .bool false, .slice none 0 0] 92)
    simpa using h1
  have HZ : Hid (((w.alloc (.cells #[.int .i64 0, .string ⟨#[]⟩, .int .i64 0, .int .i64 0, .int .i64 0, .bool false, .slice none 0 0] 92)).alloc (.cells #[.int .i64 0, .string ⟨#[]⟩, .int .i64 0, .int .i64 0, .int .i64 0, .bool false, .slice none 0 0] 92)).heap[w.heap.size]? = some (.cells #[.int .i64 0, .string ⟨#[]⟩, .int .i64 0, .int .i64 0, .int .i64 0, .bool false, .slice none 0 0] 92 (0, 0))) := by
    show _ = _
    have h1 := heap_alloc_new w (.cells #[.int .i64 0, .string ⟨#[]⟩, .int .i64 0, .int .i64 0, .int .i64 0, .bool false, .slice none 0 0] 92)
    exact ((World.grownBy_alloc (w.alloc (.cells #[.int .i64 0, .string ⟨#[]⟩, .int .i64 0, .int .i64 0, .int .i64 0, .bool false, .slice none 0 0] 92)) _ none).block _ (Array.getElem?_eq_some_iff.1 h1).1 (by simp)).trans h1
  have T := Lib.hid (next_yes _ (h.below BA) hx)
  obtain ⟨rr, hrr⟩ : ∃ rr, rr = restQ ws 1 (p + 1) := ⟨_, rfl⟩
  have N2 := Lib.hid (fun W (h : Prd W R ao c ws (p + 1)) g => filter_any W HN.out g h)
  rw [← hrr] at N2 ⊢
  clear h hw hg hrr GA BA hx
  go_enter Tryz.func208, Tryz.ntmps208
  go_wp2_with fail
  refine T.out.mono ?_
  rintro e w1 ⟨rfl, h1, g1⟩
  have H1 := Lib.hid h1; have G1 := Lib.hid (grownBy_trans HGA.out g1)
  have z1 := g1.size
  simp at z1
  have B1 := Lib.hid (blk_keep HZ.out g1 (by omega)); have X1 := Lib.hid (blk_keep HX.out g1 (by omega))
  have r0 : ¬ (w.heap.size + 1 = w.heap.size) := by omega
  have r0' : ¬ (w.heap.size = w.heap.size + 1) := by omega
  clear h1 g1 T HGA HX HZ
  go_wp2_with fail
  refine (N2.out _ H1.out (G.out.step G1.out)).mono ?_
  cases rr with
  | inl q =>
    rintro e w2 ⟨rfl, g2⟩
    have G2 := Lib.hid (grownBy_trans G1.out g2)
    clear g2
    go_wp2_with fail
    exact ⟨rfl, rfl, G2.out⟩
  | inr y =>
      obtain ⟨⟨yk, yn, yc, yo, yu, ys, yl⟩, yp⟩ := y
      rintro e w2 ⟨a, cc, rfl, ho, h2, g2⟩
      simp only at ho h2 ⊢
      have H2 := Lib.hid h2; have G2 := Lib.hid (grownBy_trans G1.out g2); have HO := Lib.hid ho
      have HOL := Lib.hid (fun x hx => (ho.lt x hx).1)
      obtain ⟨⟨b0, b1, b2, b3, b4, b5, b6⟩, bf⟩ := nd7 (blk_keep B1.out g2 (by omega))
      obtain ⟨⟨x0, x1, x2, x3, x4, x5, x6⟩, xf⟩ := nd7 (blk_keep X1.out g2 (by omega))
      have z2 := g2.size
      clear h2 g2 ho
      go_wp2_with fail
      refine bodyPost_ret (v := .agg #[.int .i64 yk, .string yn, .int .i64 yc, .int .i64 yo, .int .i64 yu, .bool ys, .slice a yl.length cc]) (by simp [results, Tryz.results208, go_sem, b0, b1, b2, b3, b4, b5, b6]) rfl ⟨a, cc, rfl, ?_, H2.out.belowB HR HWD.out ?_, grown_belowI G2.out ?_⟩
      · refine Own.base_le (base := w1.heap.size) ?_ (by omega)
        repeat (refine Own.far ?_ (fun x hx => by have := HOL.out x hx; simp at this ⊢; omega) _)
        exact HO.out
      all_goals
        repeat (refine Below.setCell ?_ (by simp; try omega) _)
        exact Below.refl _ _

set_option maxRecDepth 100000 in
set_option maxHeartbeats 3200000 in
theorem node2 {R c p : Nat} {ao : Option Addr} {ws : List ByteArray} (w : World) (hw : WdsI ws) (hg : GKeep R w) (h : Prd w R ao c ws p) (hx : ws[p]? = some ⟨#[107, 101, 101, 112]⟩) :
    Calls Tryz.prog 208 #[.pointer (some ⟨R, 0, none⟩)] w (NodeI (restQ ws 2 (p + 1)) R ao c ws w) := by
  have G := Lib.hid hg
  have HR := h.lt
  have HWD := Lib.hid h.words
  have HN := Lib.hid hw
  have BA := ((Below.refl w.heap.size w).alloc (Nat.le_refl _) (.cells #[.int .i64 0, .string ⟨#[]⟩, .int .i64 0, .int .i64 0, .int .i64 0, .bool false, .slice none 0 0] 92)).alloc (by simp) (.cells #[.int .i64 0, .string ⟨#[]⟩, .int .i64 0, .int .i64 0, .int .i64 0, .bool false, .slice none 0 0] 92)
  have GA : w.grownBy ((w.alloc (.cells #[.int .i64 0, .string ⟨#[]⟩, .int .i64 0, .int .i64 0, .int .i64 0, .bool false, .slice none 0 0] 92)).alloc (.cells #[.int .i64 0, .string ⟨#[]⟩, .int .i64 0, .int .i64 0, .int .i64 0, .bool false, .slice none 0 0] 92)) (some R) := grownBy_trans (World.grownBy_alloc w _ _) (World.grownBy_alloc _ _ _)
  have HGA := Lib.hid GA
  have HX : Hid (((w.alloc (.cells #[.int .i64 0, .string ⟨#[]⟩, .int .i64 0, .int .i64 0, .int .i64 0, .bool false, .slice none 0 0] 92)).alloc (.cells #[.int .i64 0, .string ⟨#[]⟩, .int .i64 0, .int .i64 0, .int .i64 0, .bool false, .slice none 0 0] 92)).heap[w.heap.size + 1]? = some (.cells #[.int .i64 0, .string ⟨#[]⟩, .int .i64 0, .int .i64 0, .int .i64 0, .bool false, .slice none 0 0] 92 (0, 0))) := by
    show _ = _
    have h1 := heap_alloc_new (w.alloc (.cells #[.int .i64 0, .string ⟨#[]⟩, .int .i64 0, .int .i64 0, .int .i64 0, .bool false, .slice none 0 0] 92)) (.cells #[.int .i64 0, .string ⟨#[]⟩, .int .i64 0, .int .i64 0, .int .i64 0, .bool false, .slice none 0 0] 92)
    simpa using h1
  have HZ : Hid (((w.alloc (.cells #[.int .i64 0, .string ⟨#[]⟩, .int .i64 0, .int .i64 0, .int .i64 0, .bool false, .slice none 0 0] 92)).alloc (.cells #[.int .i64 0, .string ⟨#[]⟩, .int .i64 0, .int .i64 0, .int .i64 0, .bool false, .slice none 0 0] 92)).heap[w.heap.size]? = some (.cells #[.int .i64 0, .string ⟨#[]⟩, .int .i64 0, .int .i64 0, .int .i64 0, .bool false, .slice none 0 0] 92 (0, 0))) := by
    show _ = _
    have h1 := heap_alloc_new w (.cells #[.int .i64 0, .string ⟨#[]⟩, .int .i64 0, .int .i64 0, .int .i64 0, .bool false, .slice none 0 0] 92)
    exact ((World.grownBy_alloc (w.alloc (.cells #[.int .i64 0, .string ⟨#[]⟩, .int .i64 0, .int .i64 0, .int .i64 0, .bool false, .slice none 0 0] 92)) _ none).block _ (Array.getElem?_eq_some_iff.1 h1).1 (by simp)).trans h1
  have T := Lib.hid (next_yes _ (h.below BA) hx)
  have K := Lib.hid (rest2 ws (p + 1))
  obtain ⟨rr, hrr⟩ : ∃ rr, rr = restQ ws 2 (p + 1) := ⟨_, rfl⟩
  rw [← hrr] at K ⊢
  clear h hw hg hrr GA BA hx
  have N2 := Lib.hid (fun W (h : Prd W R ao c ws (p + 1)) g => cols_any W HN.out g h)
  obtain ⟨r2, hr2⟩ : ∃ r2, r2 = keepQ ws (p + 1) := ⟨_, rfl⟩
  rw [← hr2] at K N2
  clear hr2
  go_enter Tryz.func208, Tryz.ntmps208
  go_wp2_with fail
  refine T.out.mono ?_
  rintro e w1 ⟨rfl, h1, g1⟩
  have H1 := Lib.hid h1; have G1 := Lib.hid (grownBy_trans HGA.out g1)
  have z1 := g1.size
  simp at z1
  have B1 := Lib.hid (blk_keep HZ.out g1 (by omega)); have X1 := Lib.hid (blk_keep HX.out g1 (by omega))
  have r0 : ¬ (w.heap.size + 1 = w.heap.size) := by omega
  have r0' : ¬ (w.heap.size = w.heap.size + 1) := by omega
  clear h1 g1 T HGA HX HZ
  go_wp2_with fail
  refine (N2.out _ H1.out (G.out.step G1.out)).mono ?_
  cases r2 with
  | inl q =>
    have E := Lib.hid K.out
    rintro e w2 ⟨rfl, g2⟩
    have G2 := Lib.hid (grownBy_trans G1.out g2)
    clear g2
    go_wp2_with fail
    rw [E.out]
    exact ⟨rfl, rfl, G2.out⟩
  | inr y =>
      have E := Lib.hid K.out
      rintro e w2 ⟨a, cc, rfl, ho, h2, g2⟩
      have H2 := Lib.hid h2; have G2 := Lib.hid (grownBy_trans G1.out g2); have HO := Lib.hid ho
      have HOL := Lib.hid (fun x hx => (ho.lt x hx).1)
      obtain ⟨⟨b0, b1, b2, b3, b4, b5, b6⟩, bf⟩ := nd7 (blk_keep B1.out g2 (by omega))
      obtain ⟨⟨x0, x1, x2, x3, x4, x5, x6⟩, xf⟩ := nd7 (blk_keep X1.out g2 (by omega))
      have z2 := g2.size
      clear h2 g2 ho
      go_wp2_with fail
      rw [E.out]
      refine bodyPost_ret (v := .agg #[.int .i64 2, .string ⟨#[]⟩, .int .i64 0, .int .i64 0, .int .i64 0, .bool false, .slice a y.length cc]) (by simp [results, Tryz.results208, go_sem, b0, b1, b2, b3, b4, b5, b6]) rfl ⟨a, cc, rfl, ?_, H2.out.belowB HR HWD.out ?_, grown_belowI G2.out ?_⟩
      · refine Own.base_le (base := w1.heap.size) ?_ (by omega)
        repeat (refine Own.far ?_ (fun x hx => by have := HOL.out x hx; simp at this ⊢; omega) _)
        exact HO.out
      all_goals
        repeat (refine Below.setCell ?_ (by simp; try omega) _)
        exact Below.refl _ _

set_option maxRecDepth 100000 in
set_option maxHeartbeats 3200000 in
theorem node3 {R c p : Nat} {ao : Option Addr} {ws : List ByteArray} (w : World) (hw : WdsI ws) (hg : GKeep R w) (h : Prd w R ao c ws p) (hx : ws[p]? = some ⟨#[106, 111, 105, 110]⟩) :
    Calls Tryz.prog 208 #[.pointer (some ⟨R, 0, none⟩)] w (NodeI (restQ ws 3 (p + 1)) R ao c ws w) := by
  have G := Lib.hid hg
  have HR := h.lt
  have HWD := Lib.hid h.words
  have HN := Lib.hid hw
  have BA := ((Below.refl w.heap.size w).alloc (Nat.le_refl _) (.cells #[.int .i64 0, .string ⟨#[]⟩, .int .i64 0, .int .i64 0, .int .i64 0, .bool false, .slice none 0 0] 92)).alloc (by simp) (.cells #[.int .i64 0, .string ⟨#[]⟩, .int .i64 0, .int .i64 0, .int .i64 0, .bool false, .slice none 0 0] 92)
  have GA : w.grownBy ((w.alloc (.cells #[.int .i64 0, .string ⟨#[]⟩, .int .i64 0, .int .i64 0, .int .i64 0, .bool false, .slice none 0 0] 92)).alloc (.cells #[.int .i64 0, .string ⟨#[]⟩, .int .i64 0, .int .i64 0, .int .i64 0, .bool false, .slice none 0 0] 92)) (some R) := grownBy_trans (World.grownBy_alloc w _ _) (World.grownBy_alloc _ _ _)
  have HGA := Lib.hid GA
  have HX : Hid (((w.alloc (.cells #[.int .i64 0, .string ⟨#[]⟩, .int .i64 0, .int .i64 0, .int .i64 0, .bool false, .slice none 0 0] 92)).alloc (.cells #[.int .i64 0, .string ⟨#[]⟩, .int .i64 0, .int .i64 0, .int .i64 0, .bool false, .slice none 0 0] 92)).heap[w.heap.size + 1]? = some (.cells #[.int .i64 0, .string ⟨#[]⟩, .int .i64 0, .int .i64 0, .int .i64 0, .bool false, .slice none 0 0] 92 (0, 0))) := by
    show _ = _
    have h1 := heap_alloc_new (w.alloc (.cells #[.int .i64 0, .string ⟨#[]⟩, .int .i64 0, .int .i64 0, .int .i64 0, .bool false, .slice none 0 0] 92)) (.cells #[.int .i64 0, .string ⟨#[]⟩, .int .i64 0, .int .i64 0, .int .i64 0, .bool false, .slice none 0 0] 92)
    simpa using h1
  have HZ : Hid (((w.alloc (.cells #[.int .i64 0, .string ⟨#[]⟩, .int .i64 0, .int .i64 0, .int .i64 0, .bool false, .slice none 0 0] 92)).alloc (.cells #[.int .i64 0, .string ⟨#[]⟩, .int .i64 0, .int .i64 0, .int .i64 0, .bool false, .slice none 0 0] 92)).heap[w.heap.size]? = some (.cells #[.int .i64 0, .string ⟨#[]⟩, .int .i64 0, .int .i64 0, .int .i64 0, .bool false, .slice none 0 0] 92 (0, 0))) := by
    show _ = _
    have h1 := heap_alloc_new w (.cells #[.int .i64 0, .string ⟨#[]⟩, .int .i64 0, .int .i64 0, .int .i64 0, .bool false, .slice none 0 0] 92)
    exact ((World.grownBy_alloc (w.alloc (.cells #[.int .i64 0, .string ⟨#[]⟩, .int .i64 0, .int .i64 0, .int .i64 0, .bool false, .slice none 0 0] 92)) _ none).block _ (Array.getElem?_eq_some_iff.1 h1).1 (by simp)).trans h1
  have T := Lib.hid (next_yes _ (h.below BA) hx)
  have K := Lib.hid (rest3 ws (p + 1))
  obtain ⟨rr, hrr⟩ : ∃ rr, rr = restQ ws 3 (p + 1) := ⟨_, rfl⟩
  rw [← hrr] at K ⊢
  clear h hw hg hrr GA BA hx
  have N2 := Lib.hid (fun W q (h : Prd W R ao c ws q) g => number_any W HN.out g h)
  obtain ⟨r2, hr2⟩ : ∃ r2, r2 = intQ false ws (p + 1) := ⟨_, rfl⟩
  obtain ⟨r3, hr3⟩ : ∃ r3, r3 = intQ false ws (p + 1 + 1) := ⟨_, rfl⟩
  have NA := Lib.hid (fun W h g => N2.out W (p + 1) h g)
  have NB := Lib.hid (fun W h g => N2.out W (p + 1 + 1) h g)
  rw [← hr2] at K NA
  rw [← hr3] at K NB
  clear hr2 hr3 N2
  go_enter Tryz.func208, Tryz.ntmps208
  go_wp2_with fail
  refine T.out.mono ?_
  rintro e w1 ⟨rfl, h1, g1⟩
  have H1 := Lib.hid h1; have G1 := Lib.hid (grownBy_trans HGA.out g1)
  have z1 := g1.size
  simp at z1
  have B1 := Lib.hid (blk_keep HZ.out g1 (by omega)); have X1 := Lib.hid (blk_keep HX.out g1 (by omega))
  have r0 : ¬ (w.heap.size + 1 = w.heap.size) := by omega
  have r0' : ¬ (w.heap.size = w.heap.size + 1) := by omega
  clear h1 g1 T HGA HX HZ
  go_wp2_with fail
  refine (NA.out _ H1.out (G.out.step G1.out)).mono ?_
  cases r2 with
  | none =>
    have E := Lib.hid K.out
    rintro e w2 ⟨rfl, g2⟩
    have G2 := Lib.hid (grownBy_trans G1.out g2)
    clear g2
    go_wp2_with fail
    rw [E.out]
    exact ⟨rfl, rfl, G2.out⟩
  | some y =>
    have K' := K.out
    simp only at K'
    have K2 := Lib.hid K'
    clear K' K
    rintro e w2 ⟨rfl, h2, g2⟩
    have H2 := Lib.hid h2; have G2 := Lib.hid (grownBy_trans G1.out g2)
    have B2 := Lib.hid (blk_keep B1.out g2 (by omega)); have X2 := Lib.hid (blk_keep X1.out g2 (by omega))
    have z2 := g2.size
    clear h2 g2 B1 X1
    go_wp2_with fail
    refine (NB.out _ H2.out (G.out.step G2.out)).mono ?_
    cases r3 with
    | none =>
      have E := Lib.hid K2.out
      rintro e w3 ⟨rfl, g3⟩
      have G3 := Lib.hid (grownBy_trans G2.out g3)
      clear g3
      go_wp2_with fail
      rw [E.out]
      exact ⟨rfl, rfl, G3.out⟩
    | some u =>
      have E := Lib.hid K2.out
      rintro e w3 ⟨rfl, h3, g3⟩
      have H3 := Lib.hid h3; have G3 := Lib.hid (grownBy_trans G2.out g3)
      obtain ⟨⟨b0, b1, b2, b3, b4, b5, b6⟩, bf⟩ := nd7 (blk_keep B2.out g3 (by omega))
      obtain ⟨⟨x0, x1, x2, x3, x4, x5, x6⟩, xf⟩ := nd7 (blk_keep X2.out g3 (by omega))
      have z3 := g3.size
      clear h3 g3
      go_wp2_with fail
      rw [E.out]
      refine bodyPost_ret (v := .agg #[.int .i64 3, .string ⟨#[]⟩, .int .i64 y.1, .int .i64 0, .int .i64 u.1, .bool false, .slice none 0 0]) (by simp [results, Tryz.results208, go_sem, b0, b1, b2, b3, b4, b5, b6]) rfl ⟨none, 0, rfl, Own.none_, H3.out.belowB HR HWD.out ?_, grown_belowI G3.out ?_⟩
      all_goals
        repeat (refine Below.setCell ?_ (by simp; try omega) _)
        exact Below.refl _ _

set_option maxRecDepth 100000 in
set_option maxHeartbeats 3200000 in
theorem node6 {R c p : Nat} {ao : Option Addr} {ws : List ByteArray} (w : World) (hw : WdsI ws) (hg : GKeep R w) (h : Prd w R ao c ws p) (hx : ws[p]? = some ⟨#[108, 105, 109, 105, 116]⟩) :
    Calls Tryz.prog 208 #[.pointer (some ⟨R, 0, none⟩)] w (NodeI (restQ ws 6 (p + 1)) R ao c ws w) := by
  have G := Lib.hid hg
  have HR := h.lt
  have HWD := Lib.hid h.words
  have HN := Lib.hid hw
  have BA := ((Below.refl w.heap.size w).alloc (Nat.le_refl _) (.cells #[.int .i64 0, .string ⟨#[]⟩, .int .i64 0, .int .i64 0, .int .i64 0, .bool false, .slice none 0 0] 92)).alloc (by simp) (.cells #[.int .i64 0, .string ⟨#[]⟩, .int .i64 0, .int .i64 0, .int .i64 0, .bool false, .slice none 0 0] 92)
  have GA : w.grownBy ((w.alloc (.cells #[.int .i64 0, .string ⟨#[]⟩, .int .i64 0, .int .i64 0, .int .i64 0, .bool false, .slice none 0 0] 92)).alloc (.cells #[.int .i64 0, .string ⟨#[]⟩, .int .i64 0, .int .i64 0, .int .i64 0, .bool false, .slice none 0 0] 92)) (some R) := grownBy_trans (World.grownBy_alloc w _ _) (World.grownBy_alloc _ _ _)
  have HGA := Lib.hid GA
  have HX : Hid (((w.alloc (.cells #[.int .i64 0, .string ⟨#[]⟩, .int .i64 0, .int .i64 0, .int .i64 0, .bool false, .slice none 0 0] 92)).alloc (.cells #[.int .i64 0, .string ⟨#[]⟩, .int .i64 0, .int .i64 0, .int .i64 0, .bool false, .slice none 0 0] 92)).heap[w.heap.size + 1]? = some (.cells #[.int .i64 0, .string ⟨#[]⟩, .int .i64 0, .int .i64 0, .int .i64 0, .bool false, .slice none 0 0] 92 (0, 0))) := by
    show _ = _
    have h1 := heap_alloc_new (w.alloc (.cells #[.int .i64 0, .string ⟨#[]⟩, .int .i64 0, .int .i64 0, .int .i64 0, .bool false, .slice none 0 0] 92)) (.cells #[.int .i64 0, .string ⟨#[]⟩, .int .i64 0, .int .i64 0, .int .i64 0, .bool false, .slice none 0 0] 92)
    simpa using h1
  have HZ : Hid (((w.alloc (.cells #[.int .i64 0, .string ⟨#[]⟩, .int .i64 0, .int .i64 0, .int .i64 0, .bool false, .slice none 0 0] 92)).alloc (.cells #[.int .i64 0, .string ⟨#[]⟩, .int .i64 0, .int .i64 0, .int .i64 0, .bool false, .slice none 0 0] 92)).heap[w.heap.size]? = some (.cells #[.int .i64 0, .string ⟨#[]⟩, .int .i64 0, .int .i64 0, .int .i64 0, .bool false, .slice none 0 0] 92 (0, 0))) := by
    show _ = _
    have h1 := heap_alloc_new w (.cells #[.int .i64 0, .string ⟨#[]⟩, .int .i64 0, .int .i64 0, .int .i64 0, .bool false, .slice none 0 0] 92)
    exact ((World.grownBy_alloc (w.alloc (.cells #[.int .i64 0, .string ⟨#[]⟩, .int .i64 0, .int .i64 0, .int .i64 0, .bool false, .slice none 0 0] 92)) _ none).block _ (Array.getElem?_eq_some_iff.1 h1).1 (by simp)).trans h1
  have T := Lib.hid (next_yes _ (h.below BA) hx)
  have K := Lib.hid (rest6 ws (p + 1))
  obtain ⟨rr, hrr⟩ : ∃ rr, rr = restQ ws 6 (p + 1) := ⟨_, rfl⟩
  rw [← hrr] at K ⊢
  clear h hw hg hrr GA BA hx
  have N2 := Lib.hid (fun W (h : Prd W R ao c ws (p + 1)) g => literal_any W HN.out g h)
  obtain ⟨r2, hr2⟩ : ∃ r2, r2 = intQ true ws (p + 1) := ⟨_, rfl⟩
  rw [← hr2] at K N2
  clear hr2
  go_enter Tryz.func208, Tryz.ntmps208
  go_wp2_with fail
  refine T.out.mono ?_
  rintro e w1 ⟨rfl, h1, g1⟩
  have H1 := Lib.hid h1; have G1 := Lib.hid (grownBy_trans HGA.out g1)
  have z1 := g1.size
  simp at z1
  have B1 := Lib.hid (blk_keep HZ.out g1 (by omega)); have X1 := Lib.hid (blk_keep HX.out g1 (by omega))
  have r0 : ¬ (w.heap.size + 1 = w.heap.size) := by omega
  have r0' : ¬ (w.heap.size = w.heap.size + 1) := by omega
  clear h1 g1 T HGA HX HZ
  have BS := (Below.refl w.heap.size w1).setCell (p := ⟨w.heap.size + 1, 0, none⟩) (by simp) (.int .i64 6)
  have H1b := Lib.hid (H1.out.belowB HR HWD.out BS); have G1b := Lib.hid (grown_belowI G1.out BS)
  have X1b := Lib.hid (heap_setCell_same w1 (w.heap.size + 1) 0 _ _ (.int .i64 6) X1.out)
  have B1b := Lib.hid ((heap_setCell_other w1 ⟨w.heap.size + 1, 0, none⟩ w.heap.size (.int .i64 6) (by simp)).trans B1.out)
  obtain ⟨⟨v0, v1, v2, v3, v4, v5, v6⟩, vf⟩ := nd7 X1.out
  clear BS
  go_wp2_with fail
  refine (N2.out _ H1b.out (G.out.step G1b.out)).mono ?_
  cases r2 with
  | none =>
    have E := Lib.hid K.out
    rintro e w2 ⟨rfl, g2⟩
    have G2 := Lib.hid (grownBy_trans G1b.out g2)
    clear g2
    go_wp2_with fail
    rw [E.out]
    exact ⟨rfl, rfl, G2.out⟩
  | some y =>
      have E := Lib.hid K.out
      rintro e w2 ⟨rfl, h2, g2⟩
      have H2 := Lib.hid h2; have G2 := Lib.hid (grownBy_trans G1b.out g2)
      have z2 := g2.size
      simp [World.setCell] at z2
      obtain ⟨⟨b0, b1, b2, b3, b4, b5, b6⟩, bf⟩ := nd7 (blk_keep B1b.out g2 (by omega))
      obtain ⟨⟨x0, x1, x2, x3, x4, x5, x6⟩, xf⟩ := nd7 (blk_keep X1b.out g2 (by omega))
      clear h2 g2 v0 v1 v2 v3 v4 v5 v6 vf
      go_wp2_with fail
      rw [E.out]
      refine bodyPost_ret (v := .agg #[.int .i64 6, .string ⟨#[]⟩, .int .i64 0, .int .i64 0, .int .i64 y.1, .bool y.2, .slice none 0 0]) (by simp [results, Tryz.results208, go_sem, b0, b1, b2, b3, b4, b5, b6]) rfl ⟨none, 0, rfl, Own.none_, H2.out.belowB HR HWD.out ?_, grown_belowI G2.out ?_⟩
      all_goals
        repeat (refine Below.setCell ?_ (by simp; try omega) _)
        exact Below.refl _ _

set_option maxRecDepth 100000 in
theorem nodeI_any {R c p : Nat} {ao : Option Addr} {ws : List ByteArray} (w : World) (hw : WdsI ws) (hg : GKeep R w) (h : Prd w R ao c ws p) :
    Calls Tryz.prog 208 #[.pointer (some ⟨R, 0, none⟩)] w (NodeI (nodeQ ws p) R ao c ws w) := by
  have BA := ((Below.refl w.heap.size w).alloc (Nat.le_refl _) (.cells #[.int .i64 0, .string ⟨#[]⟩, .int .i64 0, .int .i64 0, .int .i64 0, .bool false, .slice none 0 0] 92)).alloc (by simp) (.cells #[.int .i64 0, .string ⟨#[]⟩, .int .i64 0, .int .i64 0, .int .i64 0, .bool false, .slice none 0 0] 92)
  have HGA := Lib.hid (grownBy_trans (World.grownBy_alloc w (.cells #[.int .i64 0, .string ⟨#[]⟩, .int .i64 0, .int .i64 0, .int .i64 0, .bool false, .slice none 0 0] 92) (some R)) (World.grownBy_alloc _ (.cells #[.int .i64 0, .string ⟨#[]⟩, .int .i64 0, .int .i64 0, .int .i64 0, .bool false, .slice none 0 0] 92) (some R)))
  cases hx : ws[p]? with
  | none =>
    rw [show nodeQ ws p = .inl p by unfold nodeQ; rw [hx]]
    have T := Lib.hid (next_end _ (h.below BA) hx)
    clear h hw hg BA hx
    go_enter Tryz.func208, Tryz.ntmps208
    go_wp2_with fail
    refine T.out.mono ?_
    rintro e w1 ⟨rfl, g1⟩
    have G1 := Lib.hid (grownBy_trans HGA.out g1)
    clear g1
    go_wp2_with fail
    exact ⟨rfl, rfl, G1.out⟩
  | some s =>
    have e : nodeQ ws p = if findB verbsB s = -1 then .inl p else restQ ws (findB verbsB s) (p + 1) := by unfold nodeQ; rw [hx]
    rcases verbsB_ways s with ⟨rfl, hf⟩ | ⟨rfl, hf⟩ | ⟨rfl, hf⟩ | ⟨rfl, hf⟩ | ⟨rfl, hf⟩ | ⟨rfl, hf⟩ | ⟨rfl, hf⟩ | ⟨rfl, hf⟩ | ⟨hf, q0, q1, q2, q3, q4, q5, q6, q7⟩
    · rw [e, hf, if_neg (by decide)]; exact node0 w hw hg h hx
    · rw [e, hf, if_neg (by decide)]; exact node1 w hw hg h hx
    · rw [e, hf, if_neg (by decide)]; exact node2 w hw hg h hx
    · rw [e, hf, if_neg (by decide)]; exact node3 w hw hg h hx
    · rw [e, hf, if_neg (by decide)]; exact node4 w hw hg h hx
    · rw [e, hf, if_neg (by decide)]; exact node5 w hw hg h hx
    · rw [e, hf, if_neg (by decide)]; exact node6 w hw hg h hx
    · rw [e, hf, if_neg (by decide)]; exact node7 w hw hg h hx
    · rw [e, hf, if_pos rfl]
      have T := Lib.hid (next_yes _ (h.below BA) hx)
      clear h hw hg BA hx e hf
      go_enter Tryz.func208, Tryz.ntmps208
      go_wp2_with fail
      refine T.out.mono ?_
      rintro e w1 ⟨rfl, h1, g1⟩
      have LA := Lib.hid (last_any w1 h1)
      have G1 := Lib.hid (grownBy_trans HGA.out g1)
      clear h1 g1
      go_wp2_with fail
      refine LA.out.mono ?_
      rintro e w' ⟨rfl, rfl⟩
      go_wp2_with fail
      exact ⟨rfl, rfl, G1.out⟩
end Go.Proofs.YtfpbhedophlnkaaGreatDoor
namespace Go.Proofs.YtfpbhedophlnkaaGreatDoor
open Go.RowKit
set_option linter.unusedSimpArgs false
set_option linter.unusedVariables false

theorem arI_eq {k : Int} (h : 0 ≤ k ∧ k ≤ 7) : arI k = arity k := by
  have hc : k = 0 ∨ k = 1 ∨ k = 2 ∨ k = 3 ∨ k = 4 ∨ k = 5 ∨ k = 6 ∨ k = 7 := by omega
  rcases hc with rfl | rfl | rfl | rfl | rfl | rfl | rfl | rfl <;> decide
theorem arI_bd (k : Int) : 0 ≤ arI k ∧ arI k ≤ 2 := by unfold arI; split <;> (try split) <;> omega
/-- The place at which the reader in block R stands. -/
def posOf (R : Nat) (w : World) : Nat := match w.cell? ⟨R, 1, none⟩ with | some (.int _ z) => z.toNat | _ => 0
theorem posOf_prd {w : World} {R c p : Nat} {ao : Option Addr} {ws : List ByteArray} (h : Prd w R ao c ws p) : posOf R w = p := by
  unfold posOf; rw [prd_c1 h]; simp
def NodesI (r : Nat ⊕ (List Nd × Nat)) (R : Nat) (ao : Option Addr) (c : Nat) (ws : List ByteArray) (w : World) (e : Ending) (w' : World) : Prop :=
  match r with
  | .inl q => Pnk q R w e w'
  | .inr x => if x.2 < ws.length then Pnk x.2 R w e w' else ∃ a cc, e = .returned (.slice a x.1.length cc) ∧ OwnN w' w.heap.size a cc x.1 ∧ Prd w' R ao c ws x.2 ∧ w.grownBy w' (some R)
def NsRel (w : World) (R : Nat) (ao : Option Addr) (c : Nat) (ws : List ByteArray) (RES : Nat ⊕ (List Nd × Nat)) (wr : World) (v i : Value) : Prop :=
  ∃ (f q n cc : Nat) (need : Int) (acc : List Nd) (a : Option Addr), v = .slice a n cc ∧ i = .int .i64 need ∧ n = acc.length ∧ goQ ws f acc need q = RES ∧ GrowN wr w.heap.size wr.heap.size (.slice a acc.length cc) acc ∧ Prd wr R ao c ws q ∧ w.grownBy wr (some R) ∧ ws.length + 2 ≤ f + q ∧ acc.length ≤ q ∧ (0 ≤ need ∧ need ≤ acc.length + 1)
theorem nsRel_next {w w4 : World} {R c : Nat} {ao : Option Addr} {ws : List ByteArray} {RES : Nat ⊕ (List Nd × Nat)} {f q q' n cc : Nat} {need z : Int} {acc : List Nd} {nd : Nd} {a : Option Addr}
    (hg : goQ ws f acc need q = RES) (h0 : 0 < need) (hq : nodeQ ws q = .inr (nd, q')) (ho : GrowN w4 w.heap.size w4.heap.size (.slice a (acc.length + 1) cc) (acc ++ [nd])) (hp : Prd w4 R ao c ws q') (hgr : w.grownBy w4 (some R)) (hf : ws.length + 2 ≤ f + q) (hal : acc.length ≤ q) (hn : need ≤ acc.length + 1) (hz : z = need + (arI nd.kind - 1)) (hlen : n = acc.length + 1) :
    NsRel w R ao c ws RES w4 (.slice a n cc) (.int .i64 z) := by
  have hb := nodeQ_bd hq
  have ha := arI_bd nd.kind
  cases f with
  | zero => omega
  | succ f =>
    simp only [goQ, if_neg (show ¬ need ≤ 0 by omega), hq] at hg
    refine ⟨f, q', n, cc, need + arI nd.kind - 1, acc ++ [nd], a, rfl, by rw [hz]; congr 1; omega, by simp [hlen], hg, by simpa using ho, hp, hgr, by omega, by simp; omega, by simp; omega⟩

set_option maxRecDepth 100000 in
set_option maxHeartbeats 1600000 in
theorem nodes_any {R c : Nat} {ao : Option Addr} {ws : List ByteArray} (w : World) (hw : WdsI ws) (hg : GKeep R w) (h : Prd w R ao c ws 0) :
    Calls Tryz.prog 136 #[.pointer (some ⟨R, 0, none⟩)] w (NodesI (goQ ws (ws.length + 2) [] 1 0) R ao c ws w) := by
  have G := Lib.hid hg
  have HR := h.lt
  have HWD := Lib.hid h.words
  have HN := Lib.hid hw
  have hwl := h.2.2.2.2
  have ND := Lib.hid (fun W q (g : GKeep R W) (h : Prd W R ao c ws q) => nodeI_any W hw g h)
  obtain ⟨RES, hres⟩ : ∃ r, r = goQ ws (ws.length + 2) [] 1 0 := ⟨_, rfl⟩
  have P0 := Lib.hid (show NsRel w R ao c ws RES w (.slice none 0 0) (.int .i64 1) from ⟨ws.length + 2, 0, 0, 0, 1, [], none, rfl, rfl, rfl, hres.symm, GrowN.nil, h, World.grownBy.refl w (some R), by omega, by simp, by simp⟩)
  rw [← hres]
  clear h hw hg hres
  go_enter Tryz.func136, Tryz.ntmps136
  go_wp2_with fail
  go_loopw [3, 4] (fun v i wr => NsRel w R ao c ws RES wr v i) (fun _ _ wr => ws.length - posOf R wr)
  case atStart => exact P0.out
  case round =>
    clear P0
    obtain ⟨f, q, n, cc, need, acc, a, rfl, rfl, hn, hgo, ho, hp, hgr, hf, hal, hnd⟩ := hrel
    have GO := Lib.hid hgo; have HO := Lib.hid ho; have HP := Lib.hid hp; have GR := Lib.hid hgr; have HNL := Lib.hid hn
    have hql := hp.2.2.1
    have po := Lib.hid (posOf_prd hp)
    have szr := hgr.size
    clear hgo ho hp hgr hn
    by_cases h0 : 0 < need
    · have d0 : decide (0 < need) = true := by simpa using h0
      have NQ := Lib.hid (ND.out wr q (G.out.step GR.out) HP.out)
      obtain ⟨r2, hr2⟩ : ∃ r2, r2 = nodeQ ws q := ⟨_, rfl⟩
      rw [← hr2] at NQ
      have HQ := Lib.hid hr2.symm
      clear hr2
      cases r2 with
      | inl q2 =>
        have E : Hid (RES = .inl q2) := by
          show _ = _
          rw [← GO.out]
          cases f with
          | zero => omega
          | succ f => simp only [goQ, if_neg (show ¬ need ≤ 0 by omega), HQ.out]
        go_wp2_with fail
        refine NQ.out.mono ?_
        rintro e w2 ⟨rfl, g2⟩
        have G2 := Lib.hid (grownBy_trans GR.out g2)
        clear g2
        go_wp2_with fail
        rw [E.out]
        exact ⟨rfl, rfl, G2.out⟩
      | inr x =>
        obtain ⟨nd, q'⟩ := x
        have hb := nodeQ_bd HQ.out
        have hab := arI_bd nd.kind
        have AR := Lib.hid (fun W => implArity_any nd.kind W)
        rw [← arI_eq hb.2.2.2.1] at AR
        go_wp2_with fail
        refine NQ.out.mono ?_
        rintro e w2 ⟨a2, c2, rfl, ho2, h2, g2⟩
        simp only at ho2 h2 ⊢
        have hz2 := g2.size
        have OW2 := Lib.hid (HO.out.grown g2 (fun r hr => by cases hr; exact HR))
        have H2 := Lib.hid h2; have G2 := Lib.hid (grownBy_trans GR.out g2)
        have BX := Lib.hid ((Below.refl w.heap.size w2).alloc (by omega) (.cells #[.int .i64 nd.kind, .string nd.name, .int .i64 nd.col, .int .i64 nd.op, .int .i64 nd.num, .bool nd.slot, .slice a2 nd.cols.length c2] 92))
        have BA := Lib.hid (BX.out.alloc (by have := BX.out.size; simp at this ⊢; omega) (.cells #[.int .i64 nd.kind, .string nd.name, .int .i64 nd.col, .int .i64 nd.op, .int .i64 nd.num, .bool nd.slot, .slice a2 nd.cols.length c2] 92))
        have CA := Lib.hid ((ho2.alloc (.cells #[.int .i64 nd.kind, .string nd.name, .int .i64 nd.col, .int .i64 nd.op, .int .i64 nd.num, .bool nd.slot, .slice a2 nd.cols.length c2] 92)).alloc (.cells #[.int .i64 nd.kind, .string nd.name, .int .i64 nd.col, .int .i64 nd.op, .int .i64 nd.num, .bool nd.slot, .slice a2 nd.cols.length c2] 92))
        have W2 := Lib.hid (((Below.refl _ w2).alloc (Nat.le_refl _) (.cells #[.int .i64 nd.kind, .string nd.name, .int .i64 nd.col, .int .i64 nd.op, .int .i64 nd.num, .bool nd.slot, .slice a2 nd.cols.length c2] 92)).alloc (by simp) (.cells #[.int .i64 nd.kind, .string nd.name, .int .i64 nd.col, .int .i64 nd.op, .int .i64 nd.num, .bool nd.slot, .slice a2 nd.cols.length c2] 92))
        have OL := Lib.hid (fun x hx => (HO.out.lt x hx).1)
        have OU := Lib.hid (fun x hx => (HO.out.lt x hx).2)
        have K0 : Hid (((w2.alloc (.cells #[.int .i64 nd.kind, .string nd.name, .int .i64 nd.col, .int .i64 nd.op, .int .i64 nd.num, .bool nd.slot, .slice a2 nd.cols.length c2] 92)).alloc (.cells #[.int .i64 nd.kind, .string nd.name, .int .i64 nd.col, .int .i64 nd.op, .int .i64 nd.num, .bool nd.slot, .slice a2 nd.cols.length c2] 92)).cell? ⟨w2.heap.size, 0, none⟩ = some (.int .i64 nd.kind)) := by
          show _ = _
          rw [World.cell?_alloc_lt _ _ ⟨w2.heap.size, 0, none⟩ (by simp)]
          exact (cell_of_row _ _ _ _ _ _ (heap_alloc_new w2 _)).trans rfl
        have hs12 : nd.name.size ≤ maxLen := by have := hb.2.2.2.2; unfold maxLen; omega
        clear ho2 h2 g2
        go_wp2_with (at_builtin; go_must (refine wpList_appendG _ rfl (.tmp 10) (.tmp 12) 25 rfl w.heap.size wr.heap.size Tryz.underlying25 Tryz.infoNodeG rfl a cc n acc rfl HNL.out (OW2.out.below W2.out) (by simp; omega) szr (w2.heap.size + 1) 1 nd a2 c2 rfl (ndRow_at (by simp)) CA.out hs12 (by omega) ?_; intro ao' c' w4 o4 g4; have O4 := Lib.hid o4; have B4 := Lib.hid (below_grow BA.out (by omega) g4 (fun x hx => OL.out x hx)); have k0 : w4.cell? ⟨w2.heap.size, 0, none⟩ = some (.int .i64 nd.kind) := g4.cell K0.out (by cases a with | none => simp | some x => simp; have := OU.out x rfl; omega); clear o4 g4))
        refine (AR.out _).mono ?_
        rintro e w5 ⟨rfl, b5⟩
        have H5 := Lib.hid ((H2.out.belowB HR HWD.out B4.out).below b5)
        have G5 := Lib.hid (grown_belowI (grown_belowI G2.out B4.out) (b5.mono (Nat.le_trans G2.out.size B4.out.size)))
        have O5 := Lib.hid ((O4.out.below b5).top_)
        clear b5 k0
        go_wp2_with fail
        go_roundw
        case rel => exact nsRel_next GO.out h0 HQ.out O5.out H5.out G5.out hf hal hnd.2 (by first | rfl | (unfold RowKit.wrap64; omega)) (by first | rfl | simp)
        case measure => rw [posOf_prd H5.out, po.out]; omega
    · have d0 : decide (0 < need) = false := by simpa using h0
      have E : Hid (RES = .inr (acc, q)) := by
        show _ = _
        rw [← GO.out]
        cases f with
        | zero => omega
        | succ f => simp only [goQ, if_pos (show need ≤ 0 by omega)]
      have c0 : wr.cell? ⟨R, 0, none⟩ = some (.slice ao ws.length c) := cell_of_row wr R 0 _ _ _ HP.out.1
      have c1 := prd_c1 HP.out
      by_cases hq : q < ws.length
      · have d1 : decide ((q : Int) < (ws.length : Int)) = true := by simp; omega
        go_wp2_with fail
        go_quiet (fail)
        go_wp2_with fail
        rw [E.out]
        show _ ∧ NodesI _ _ _ _ _ _ _ _
        refine ⟨rfl, ?_⟩
        unfold NodesI
        simp only [if_pos hq]
        exact ⟨rfl, grown_belowI GR.out (below_drewN (Below.refl _ _) _)⟩
      · have d1 : decide ((q : Int) < (ws.length : Int)) = false := by simp; omega
        go_wp2_with fail
        go_quiet (fail)
        go_wp2_with fail
        go_ret
        rw [E.out]
        unfold NodesI
        simp only [if_neg hq]
        exact ⟨a, cc, by rw [HNL.out]; rfl, (HO.out.below (below_drewN (Below.refl _ _) _)).ownN, HP.out.below (below_drewN (Below.refl _ _) _), grown_belowI GR.out (below_drewN (Below.refl _ _) _)⟩
end Go.Proofs.YtfpbhedophlnkaaGreatDoor
namespace Go.Proofs.YtfpbhedophlnkaaGreatDoor
open Go.RowKit
set_option linter.unusedSimpArgs false
set_option linter.unusedVariables false

theorem Tryz.as_bad (v : Value) (W : World) : (Instr.typeAssert (.iface 146 v) 20 146 true).run Tryz.prog W = .ok (.tuple #[v, .bool true]) W := by kernel_rfl
theorem Tryz.as_none (W : World) : (Instr.typeAssert .nilIface 20 146 true).run Tryz.prog W = .ok (.tuple #[.int .i64 0, .bool false]) W := by kernel_rfl

set_option maxRecDepth 100000 in
set_option maxHeartbeats 1600000 in
theorem catchB (B1 B2 q : Nat) (v1 v2 : Value) (t1 t2 : TypeId) (older : List PanicEntry) (w : World) (h1 : w.heap[B1]? = some (.cells #[v1] t1 (0, 0))) (h2 : w.heap[B2]? = some (.cells #[v2] t2 (0, 0))) (hne : B1 ≠ B2) :
    CallsD Tryz.prog 134 #[.pointer (some ⟨B1, 0, none⟩), .pointer (some ⟨B2, 0, none⟩)] (.panicking ({ v := .iface 146 (.int .i64 q), recovered := false } :: older)) w fun e u' w' =>
      e = .returned (.tuple #[]) ∧ u' = .panicking ({ v := .iface 146 (.int .i64 q), recovered := true } :: older) ∧ w' = (w.setCell ⟨B1, 0, none⟩ (.slice none 0 0)).setCell ⟨B2, 0, none⟩ (.int .i64 q) := by
  have c1 : w.cell? ⟨B1, 0, none⟩ = some v1 := cell_of_row w B1 0 _ _ _ h1
  have f1 : w.frozen? ⟨B1, 0, none⟩ = false := by simp [World.frozen?, h1]
  have c2 : (w.setCell ⟨B1, 0, none⟩ (.slice none 0 0)).cell? ⟨B2, 0, none⟩ = some v2 := by
    rw [World.cell?_setCell_other _ _ _ _ (show (⟨B1, 0, none⟩ : Addr) ≠ ⟨B2, 0, none⟩ from fun e => hne (congrArg Addr.block e))]
    exact cell_of_row w B2 0 _ _ _ h2
  have f2 : (w.setCell ⟨B1, 0, none⟩ (.slice none 0 0)).frozen? ⟨B2, 0, none⟩ = false := by
    have hh : (w.setCell ⟨B1, 0, none⟩ (.slice none 0 0)).heap[B2]? = some (.cells #[v2] t2 (0, 0)) := by rw [heap_setCell_other _ _ _ _ (fun e => hne e.symm)]; exact h2
    simp [World.frozen?, hh]
  refine callsD_of_wpS Tryz.func134 rfl fun c₀ cs hu => ?_
  apply wpS_seq
  apply wpS_region
  simp [wpOpsS, go_sem, recoverD, hu, Tryz.ntmps134, Exit.thenS, Tryz.as_bad]
  apply wpS_seq
  apply wpS_region
  simp [wpOpsS, go_sem, Exit.thenS]
  refine wpS_cond (t := true) (by simp [Act.eval, Array.replicate]) ?_
  simp only [if_true]
  apply wpS_region
  simp [wpOpsS, go_sem, c1, f1, c2, f2, bodyPostS, results, Tryz.results134]
set_option maxRecDepth 100000 in
set_option maxHeartbeats 1600000 in
theorem catchN (B1 B2 : Nat) (w : World) :
    CallsD Tryz.prog 134 #[.pointer (some ⟨B1, 0, none⟩), .pointer (some ⟨B2, 0, none⟩)] .returning w fun e u' w' => e = .returned (.tuple #[]) ∧ u' = .returning ∧ w' = w := by
  refine callsD_of_wpS Tryz.func134 rfl fun c₀ cs hu => ?_
  apply wpS_seq
  apply wpS_region
  simp [wpOpsS, go_sem, recoverD, hu, Tryz.ntmps134, Exit.thenS, Tryz.as_none]
  apply wpS_seq
  apply wpS_region
  simp [wpOpsS, go_sem, Exit.thenS]
  refine wpS_cond (t := false) (by simp [Act.eval, Array.replicate]) ?_
  simp only [Bool.false_eq_true, if_false]
  refine wpS_of_wp (wp_skip ?_)
  cases c₀
  simp_all [bodyPostS, results, Tryz.results134]
end Go.Proofs.YtfpbhedophlnkaaGreatDoor
