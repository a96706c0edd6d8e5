/-
  Contract of the program's reader of a node. For every slice of bytes and every place.
-/
import Derived.Test.YtfpbhedophlnkaaGreatDoorRFld
import Derived.Test.YtfpbhedophlnkaaGreatDoorCodB
import Derived.Test.YtfpbhedophlnkaaGreatDoorKI
namespace Go.Proofs.YtfpbhedophlnkaaGreatDoor
open Go.RowKit
set_option linter.unusedSimpArgs false
set_option linter.unusedVariables false

theorem Rdr.by_ {w : World} {R d : Nat} {b : Option Addr} {l : List Int} {s : Option Int} (h : Rdr w R b d l s) : By l := by
  obtain ⟨p, er, hh, hp, he, hr, hby, hd, hne⟩ := h; exact hby

set_option maxRecDepth 100000 in
set_option maxHeartbeats 3200000 in
theorem rNode_any (R : Nat) (b : Option Addr) (d : Nat) (l : List Int) (s : Option Int) (w : World) (h : Rdr w R b d l s) :
    Calls Tryz.prog 121 #[.pointer (some ⟨R, 0, none⟩)] w (TookNd (nodeR l s).1 R b d l (nodeR l s).2 w) := by
  have hby := h.by_
  have T1 := Lib.hid (fun W (h : Rdr W R b d l s) => rNum_any R b d l s W h)
  have NR : Hid (nodeR l s = ((fieldR l (numR l s).1 (numR l s).2).1, if nodeB (fieldR l (numR l s).1 (numR l s).2).1 then (fieldR l (numR l s).1 (numR l s).2).2 else none)) := rfl
  obtain ⟨⟨x1, s1⟩, hx1⟩ : ∃ r, r = numR l s := ⟨_, rfl⟩
  rw [← hx1] at T1 NR
  simp only at NR
  have T2 := Lib.hid (fun W (h : Rdr W R b d l s1) => rFields_any x1 R b d l s1 W h)
  have hcl := fieldR_cols hby x1 s1
  have hnm := fieldR_name l x1 s1
  obtain ⟨⟨n, s2⟩, hx2⟩ : ∃ r, r = fieldR l x1 s1 := ⟨_, rfl⟩
  rw [← hx2] at T2 NR hcl hnm
  simp only at NR hcl hnm
  obtain ⟨rr, hrr⟩ : ∃ rr, rr = nodeR l s := ⟨_, rfl⟩
  rw [← hrr] at NR ⊢
  clear hx1 hx2 hrr hby
  have hR := h.lt
  have HBT := Lib.hid h.bytes
  have NK := Lib.hid (fun a c W h => implNodeOk_any n a c W h (by omega) (by unfold maxLen; omega))
  obtain ⟨p0, er0, hh0, _⟩ := id h
  have c1 : w.cell? ⟨R, 1, none⟩ = some (.int .i64 p0) := cell_of_row w R 1 _ _ _ hh0
  have H := Lib.hid (h.below ((Below.refl _ w).alloc (Nat.le_refl _) (.cells #[.int .i64 0, .string ⟨#[]⟩, .int .i64 0, .int .i64 0, .int .i64 0, .bool false, .slice none 0 0] 92)))
  clear h hh0
  obtain ⟨k, name, col, op, num, slot, cols⟩ := n
  simp only at *
  go_enter Tryz.func121, Tryz.ntmps121
  go_wp2_with fail
  refine (T1.out _ H.out).mono ?_
  rintro e w1 ⟨rfl, h1, g1⟩
  have H1 := Lib.hid h1; have G1 := Lib.hid g1
  clear h1 g1
  go_wp2_with fail
  refine (T2.out _ H1.out).mono ?_
  rintro e w2 ⟨a, c, rfl, ho, h2, g2⟩
  have H2 := Lib.hid h2; have G2 := Lib.hid (grownBy_trans G1.out g2); have HO := Lib.hid ho
  have hz1 := G1.out.size
  have hz2 := g2.size
  have zR2 : R < w2.heap.size := by have := G2.out.size; simp at this; omega
  have zX2 : w.heap.size < w2.heap.size := by have := G2.out.size; simp at this; omega
  have z0 : (w.alloc (.cells #[.int .i64 0, .string ⟨#[]⟩, .int .i64 0, .int .i64 0, .int .i64 0, .bool false, .slice none 0 0] 92)).heap.size = w.heap.size + 1 := by simp
  have HOL := Lib.hid (fun x hx => (ho.lt x hx).1)
  clear h2 g2 ho
  obtain ⟨hc0, hf0⟩ := gcell G2.out (X := w.heap.size) (by omega) (by omega)
  obtain ⟨p2, er, hh2, hp2, he2, hr2, hby2, hd2, hne2⟩ := H2.out
  have d2 : w2.cell? ⟨R, 2, none⟩ = some er := cell_of_row w2 R 2 _ _ _ hh2
  have e2 : w2.frozen? ⟨R, 2, none⟩ = false := by simp [World.frozen?, hh2]
  have HH := Lib.hid hh2; have HP := Lib.hid hp2; have HE := Lib.hid he2; have HRD := Lib.hid hr2; have HBY := Lib.hid hby2; have HD := Lib.hid hd2; have HNE := Lib.hid hne2
  have GW := Lib.hid (below_grownBy ((Below.refl _ w).alloc (Nat.le_refl _) _) G2.out)
  clear hh2 hp2 he2 hr2 hby2 hd2 hne2
  have y0 : w2.cell? ⟨w.heap.size, 0, none⟩ = some (.int .i64 0) := (hc0 0).trans ((cell_of_row _ _ _ _ _ _ (heap_alloc_new w _)).trans rfl)
  have y1 : w2.cell? ⟨w.heap.size, 1, none⟩ = some (.string ⟨#[]⟩) := (hc0 1).trans ((cell_of_row _ _ _ _ _ _ (heap_alloc_new w _)).trans rfl)
  have y2 : w2.cell? ⟨w.heap.size, 2, none⟩ = some (.int .i64 0) := (hc0 2).trans ((cell_of_row _ _ _ _ _ _ (heap_alloc_new w _)).trans rfl)
  have y3 : w2.cell? ⟨w.heap.size, 3, none⟩ = some (.int .i64 0) := (hc0 3).trans ((cell_of_row _ _ _ _ _ _ (heap_alloc_new w _)).trans rfl)
  have y4 : w2.cell? ⟨w.heap.size, 4, none⟩ = some (.int .i64 0) := (hc0 4).trans ((cell_of_row _ _ _ _ _ _ (heap_alloc_new w _)).trans rfl)
  have y5 : w2.cell? ⟨w.heap.size, 5, none⟩ = some (.bool false) := (hc0 5).trans ((cell_of_row _ _ _ _ _ _ (heap_alloc_new w _)).trans rfl)
  have y6 : w2.cell? ⟨w.heap.size, 6, none⟩ = some (.slice none 0 0) := (hc0 6).trans ((cell_of_row _ _ _ _ _ _ (heap_alloc_new w _)).trans rfl)
  have r0 : ¬ (R = w.heap.size) := by omega
  have r0' : ¬ (w.heap.size = R) := by omega
  have r1 : ¬ (R = w2.heap.size) := by omega
  have r1' : ¬ (w2.heap.size = R) := by omega
  have x0 : ¬ (w.heap.size = w2.heap.size) := by omega
  have x0' : ¬ (w2.heap.size = w.heap.size) := by omega
  rcases HE.out with ⟨hs, rfl⟩ | ⟨hs, k1, k2, rfl⟩
  · go_wp2_with fail
    refine (NK.out a c _ (HO.out.rd.below ((Below.refl _ w2).alloc (Nat.le_refl _) _))).mono ?_
    rintro e w4 ⟨rfl, b4⟩
    have F4 : Below w2.heap.size w2 w4 := ((Below.refl _ w2).alloc (Nat.le_refl _) (.cells #[.int .i64 k, .string name, .int .i64 col, .int .i64 op, .int .i64 num, .bool slot, .slice a cols.length c] 92)).trans (b4.mono (by simp))
    have q0 : w4.cell? ⟨w.heap.size, 0, none⟩ = some (.int .i64 0) := (F4.cell (p := ⟨w.heap.size, 0, none⟩) zX2).trans y0
    have x0c : w4.cell? ⟨w2.heap.size, 0, none⟩ = some (.int .i64 k) := (b4.cell (p := ⟨w2.heap.size, 0, none⟩) (by simp)).trans ((cell_of_row _ _ _ _ _ _ (heap_alloc_new w2 _)).trans rfl)
    have q1 : w4.cell? ⟨w.heap.size, 1, none⟩ = some (.string ⟨#[]⟩) := (F4.cell (p := ⟨w.heap.size, 1, none⟩) zX2).trans y1
    have x1c : w4.cell? ⟨w2.heap.size, 1, none⟩ = some (.string name) := (b4.cell (p := ⟨w2.heap.size, 1, none⟩) (by simp)).trans ((cell_of_row _ _ _ _ _ _ (heap_alloc_new w2 _)).trans rfl)
    have q2 : w4.cell? ⟨w.heap.size, 2, none⟩ = some (.int .i64 0) := (F4.cell (p := ⟨w.heap.size, 2, none⟩) zX2).trans y2
    have x2c : w4.cell? ⟨w2.heap.size, 2, none⟩ = some (.int .i64 col) := (b4.cell (p := ⟨w2.heap.size, 2, none⟩) (by simp)).trans ((cell_of_row _ _ _ _ _ _ (heap_alloc_new w2 _)).trans rfl)
    have q3 : w4.cell? ⟨w.heap.size, 3, none⟩ = some (.int .i64 0) := (F4.cell (p := ⟨w.heap.size, 3, none⟩) zX2).trans y3
    have x3c : w4.cell? ⟨w2.heap.size, 3, none⟩ = some (.int .i64 op) := (b4.cell (p := ⟨w2.heap.size, 3, none⟩) (by simp)).trans ((cell_of_row _ _ _ _ _ _ (heap_alloc_new w2 _)).trans rfl)
    have q4 : w4.cell? ⟨w.heap.size, 4, none⟩ = some (.int .i64 0) := (F4.cell (p := ⟨w.heap.size, 4, none⟩) zX2).trans y4
    have x4c : w4.cell? ⟨w2.heap.size, 4, none⟩ = some (.int .i64 num) := (b4.cell (p := ⟨w2.heap.size, 4, none⟩) (by simp)).trans ((cell_of_row _ _ _ _ _ _ (heap_alloc_new w2 _)).trans rfl)
    have q5 : w4.cell? ⟨w.heap.size, 5, none⟩ = some (.bool false) := (F4.cell (p := ⟨w.heap.size, 5, none⟩) zX2).trans y5
    have x5c : w4.cell? ⟨w2.heap.size, 5, none⟩ = some (.bool slot) := (b4.cell (p := ⟨w2.heap.size, 5, none⟩) (by simp)).trans ((cell_of_row _ _ _ _ _ _ (heap_alloc_new w2 _)).trans rfl)
    have q6 : w4.cell? ⟨w.heap.size, 6, none⟩ = some (.slice none 0 0) := (F4.cell (p := ⟨w.heap.size, 6, none⟩) zX2).trans y6
    have x6c : w4.cell? ⟨w2.heap.size, 6, none⟩ = some (.slice a cols.length c) := (b4.cell (p := ⟨w2.heap.size, 6, none⟩) (by simp)).trans ((cell_of_row _ _ _ _ _ _ (heap_alloc_new w2 _)).trans rfl)
    have m0 : ∀ o, w4.frozen? ⟨w.heap.size, o, none⟩ = false := fun o => (F4.frozen (p := ⟨w.heap.size, o, none⟩) zX2).trans ((hf0 o).trans (by have hh := heap_alloc_new w (.cells #[.int .i64 0, .string ⟨#[]⟩, .int .i64 0, .int .i64 0, .int .i64 0, .bool false, .slice none 0 0] 92); simp only [World.frozen?, hh]; simp))
    have m2 : w4.frozen? ⟨R, 2, none⟩ = false := (F4.frozen (p := ⟨R, 2, none⟩) zR2).trans e2
    have d4 := (F4.cell (p := ⟨R, 2, none⟩) zR2).trans d2
    have hh4 := (F4.block R zR2).trans HH.out
    have O4 := Lib.hid (HO.out.below F4)
    have G4 := Lib.hid (grownBy_belowB GW.out (F4.mono (Nat.le_of_lt zX2)))
    have H4 := Lib.hid (H2.out.belowB (B := w2.heap.size) zR2 (fun a ha hl => Nat.lt_trans (HBT.out a ha hl) zX2) F4)
    have R4 := Lib.hid (rdr_set2 (k1 := 5) (k2 := p0) hh4 (HRD.out.below F4) HBY.out HD.out HNE.out HP.out)
    have S4 := Lib.hid (grown_set G4.out 2 (.iface 200 (.agg #[.int .i64 5, .int .i64 p0])))
    clear b4 F4 hh4 hc0 hf0
    cases hnb : nodeB ⟨k, name, col, op, num, slot, cols⟩ with
    | true =>
      have E : Hid (rr = (⟨k, name, col, op, num, slot, cols⟩, s2)) := by show _ = _; rw [NR.out, hnb]; rfl
      go_wp2_with fail
      rw [E.out]
      refine bodyPost_ret (v := .agg #[.int .i64 k, .string name, .int .i64 col, .int .i64 op, .int .i64 num, .bool slot, .slice a cols.length c]) (by simp [results, Tryz.results121, go_sem, q0, q1, q2, q3, q4, q5, q6]) rfl ⟨a, c, rfl, ?_, H4.out.belowB hR HBT.out ?_, grownBy_belowB G4.out ?_⟩
      · refine Own.base_le (base := w.heap.size + 1) ?_ (by omega)
        repeat (refine Own.far ?_ (fun x hx => by have := HOL.out x hx; simp at this ⊢; omega) _)
        exact O4.out.base_le (by omega)
      all_goals
        repeat (refine Below.setCell ?_ (by simp; try omega) _)
        exact Below.refl _ _
    | false =>
      have E : Hid (rr = (⟨k, name, col, op, num, slot, cols⟩, none)) := by show _ = _; rw [NR.out, hnb]; rfl
      go_wp2_with fail
      rw [E.out]
      refine bodyPost_ret (v := .agg #[.int .i64 k, .string name, .int .i64 col, .int .i64 op, .int .i64 num, .bool slot, .slice a cols.length c]) (by simp [results, Tryz.results121, go_sem, q0, q1, q2, q3, q4, q5, q6, r0, r0']) rfl ⟨a, c, rfl, ?_, R4.out.belowB hR HBT.out ?_, grownBy_belowB S4.out ?_⟩
      · refine Own.base_le (base := w.heap.size + 1) ?_ (by omega)
        repeat (refine Own.far ?_ (fun x hx => by have := HOL.out x hx; simp at this ⊢; omega) _)
        exact O4.out.base_le (by omega)
      all_goals
        iterate 7 (refine Below.setCell ?_ (by simp) _)
        exact Below.refl _ _
  · have E : Hid (rr = (⟨k, name, col, op, num, slot, cols⟩, none)) := by show _ = _; rw [NR.out, hs]; simp
    have H3 : Hid (Rdr w2 R b d l none) := by have := H2.out; rw [hs] at this; exact this
    go_wp2_with fail
    rw [E.out]
    refine bodyPost_ret (v := .agg #[.int .i64 k, .string name, .int .i64 col, .int .i64 op, .int .i64 num, .bool slot, .slice a cols.length c]) (by simp [results, Tryz.results121, go_sem, y0, y1, y2, y3, y4, y5, y6, zX2]) rfl ⟨a, c, rfl, ?_, H3.out.belowB hR HBT.out ?_, grownBy_belowB GW.out ?_⟩
    · refine Own.base_le (base := w.heap.size + 1) ?_ (by omega)
      refine Own.alloc ?_ _
      repeat (refine Own.far ?_ (fun x hx => by have := HOL.out x hx; simp at this ⊢; omega) _)
      exact HO.out.base_le (by omega)
    all_goals
      refine Below.alloc ?_ (by simp; omega) _
      repeat (refine Below.setCell ?_ (by simp; try omega) _)
      exact Below.refl _ _
end Go.Proofs.YtfpbhedophlnkaaGreatDoor
