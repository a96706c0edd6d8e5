/-
  Contract of spec.NodeText at a filter. For every node.
-/
import Derived.Test.YtfpbhedophlnkaaDoorSNdT
namespace Go.Proofs.YtfpbhedophlnkaaDoor
open Go.RowKit
set_option linter.unusedSimpArgs false
set_option linter.unusedVariables false

set_option maxRecDepth 100000 in
set_option maxHeartbeats 1600000 in
theorem specNodeText1n (name : ByteArray) (col op num : Int) (slot : Bool) (cols : List Int) (a : Option Addr) (c : Nat) (w : World) (hb : nodeB ⟨1, name, col, op, num, slot, cols⟩ = true) (ho : op = 3) (h : Rd w .i64 a cols) (hl : cols.length ≤ maxLen) (hs : name.size ≤ maxLen) :
    Calls Tryd.prog 7 #[.agg #[.int .i64 1, .string name, .int .i64 col, .int .i64 op, .int .i64 num, .bool slot, .slice a cols.length c]] w fun e w' => e = .returned (.string (ndO ⟨1, name, col, op, num, slot, cols⟩)) ∧ Below w.heap.size w w' := by
  have NK := Lib.hid (fun w h => specNodeOk_any ⟨1, name, col, op, num, slot, cols⟩ a c w h hl hs)
  obtain ⟨_, hnm, hcol, hop, hnum, hcl, hcs⟩ := nums_of_nodeB hb
  simp only at hnm hcol hop hnum hcl hcs
  obtain ⟨r, hr⟩ : ∃ r, r = ndO ⟨1, name, col, op, num, slot, cols⟩ := ⟨_, rfl⟩
  rw [← hr]
  have H := Lib.hid h; have HB := Lib.hid hb
  obtain ⟨V, hv⟩ : ∃ V : ByteArray, V = ⟨#[102, 105, 108, 116, 101, 114]⟩ := ⟨_, rfl⟩
  have VA : Hid (∀ w : World, Calls Tryd.prog 20 #[] w fun e w' => ∃ g, e = .returned (.slice (some ⟨g, 0, none⟩) 8 8) ∧ w'.cell? ⟨g, 1, none⟩ = some (.string V) ∧ Below w.heap.size w w') := fun w => by rw [hv]; exact verb_any 1 _ rfl w
  have hvs : V.size ≤ 6 := by rw [hv]; decide
  have E : Hid (r = V ++ ⟨#[32]⟩ ++ numT col ++ ⟨#[32]⟩ ++ opB op) := by show _ = _; rw [hr, hv]; exact nd1n_eq hb ho
  have NA := Lib.hid (fun W => num_all col (by omega) (by omega) W)
  have NB := Lib.hid (fun W => l06Num_any ⟨1, name, col, op, num, slot, cols⟩ a c W hnum.1 hnum.2)
  simp only at NB
  have ht := numT_size (x := col) (by omega) (by omega)
  have hu := litB_size (s := slot) hnum.1 hnum.2
  have hw := opB_size op
  have OA : Hid (∀ w : World, Calls Tryd.prog 22 #[] w fun e w' => ∃ g, e = .returned (.slice (some ⟨g, 0, none⟩) 4 4) ∧ w'.cell? ⟨g, op.toNat, none⟩ = some (.string (opB op)) ∧ Below w.heap.size w w') := fun w => by
    have := op_any op.toNat (by omega) w
    rwa [show ((op.toNat : Nat) : Int) = op by omega] at this
  have ho3 : (op != 3) = false := by simp [ho]
  generalize opB op = O at E OA hw
  obtain ⟨oi, rfl⟩ : ∃ oi : Nat, op = oi := ⟨op.toNat, by omega⟩
  rw [Int.toNat_natCast] at OA
  have hoi : oi < 4 := by omega
  have hoi' : (oi : Int) < 4 := by omega
  generalize numT col = Tc at E NA ht
  generalize litB slot num = Td at E NB hu
  have e1 : ¬ (9223372036854775807 < V.size + 1) := by omega
  have e2 : ¬ (9223372036854775807 < V.size + 1 + Tc.size) := by omega
  have e3 : ¬ (9223372036854775807 < V.size + 1 + Tc.size + 1) := by omega
  have e4 : ¬ (9223372036854775807 < V.size + 1 + Tc.size + 1 + O.size) := by omega
  have e5 : ¬ (9223372036854775807 < V.size + 1 + Tc.size + 1 + O.size + 1) := by omega
  have e6 : ¬ (9223372036854775807 < V.size + 1 + Tc.size + 1 + O.size + 1 + Td.size) := by omega
  have KP : Hid (∀ w4, Below (w.alloc (.cells #[.int .i64 1, .string name, .int .i64 col, .int .i64 (oi : Int), .int .i64 num, .bool slot, .slice a cols.length c] 27)).heap.size (w.alloc (.cells #[.int .i64 1, .string name, .int .i64 col, .int .i64 (oi : Int), .int .i64 num, .bool slot, .slice a cols.length c] 27)) w4 → w4.cell? ⟨w.heap.size, 0, none⟩ = some (.int .i64 1) ∧ w4.cell? ⟨w.heap.size, 1, none⟩ = some (.string name) ∧ w4.cell? ⟨w.heap.size, 2, none⟩ = some (.int .i64 col) ∧ w4.cell? ⟨w.heap.size, 3, none⟩ = some (.int .i64 (oi : Int)) ∧ w4.cell? ⟨w.heap.size, 4, none⟩ = some (.int .i64 num) ∧ w4.cell? ⟨w.heap.size, 5, none⟩ = some (.bool slot) ∧ w4.cell? ⟨w.heap.size, 6, none⟩ = some (.slice a cols.length c)) := fun w4 b4 => by
    have hq := fun o => b4.cell (p := ⟨w.heap.size, o, none⟩) (by simp)
    exact ⟨(hq 0).trans ((cell_of_row _ _ _ _ _ _ (heap_alloc_new w _)).trans rfl), (hq 1).trans ((cell_of_row _ _ _ _ _ _ (heap_alloc_new w _)).trans rfl), (hq 2).trans ((cell_of_row _ _ _ _ _ _ (heap_alloc_new w _)).trans rfl), (hq 3).trans ((cell_of_row _ _ _ _ _ _ (heap_alloc_new w _)).trans rfl), (hq 4).trans ((cell_of_row _ _ _ _ _ _ (heap_alloc_new w _)).trans rfl), (hq 5).trans ((cell_of_row _ _ _ _ _ _ (heap_alloc_new w _)).trans rfl), (hq 6).trans ((cell_of_row _ _ _ _ _ _ (heap_alloc_new w _)).trans rfl)⟩
  clear hr hv h hb ho
  go_enter Tryd.func7, Tryd.ntmps7
  go_wp2_with fail
  refine (NK.out _ (H.out.below ((Below.refl _ w).alloc (Nat.le_refl _) _))).mono ?_
  rintro e w1 ⟨rfl, b1⟩
  rw [HB.out]
  have C1 := Lib.hid b1
  have C2 := Lib.hid b1.drew
  obtain ⟨u0, u1, u2, u3, u4, u5, u6⟩ := KP.out _ b1
  clear b1
  go_wp2_with fail
  go_region_with (first
    | (go_at_call 20; refine (VA.out _).mono ?_; rintro e w3 ⟨g3, rfl, v3, b3⟩; have D3 := Lib.hid (below_step C2.out (Nat.le_refl _) b3); obtain ⟨t0, t1, t2, t3, t4, t5, t6⟩ := KP.out _ D3.out; clear b3))
  all_goals
    have C3 := Lib.hid D3.out
    have C3d := Lib.hid C3.out.drew
    go_wp2_with fail
    go_region_with (first
      | (go_at_call 21; have := D5; refine (NA.out _).mono ?_; rintro e w6 ⟨rfl, b6⟩; have D6 := Lib.hid (below_step D5.out (Nat.le_refl _) b6); have v6 := (b6.cell (p := ⟨g5, oi, none⟩) (World.block_lt_of_cell? _ ⟨g5, oi, none⟩ v5)).trans v5; obtain ⟨t0, t1, t2, t3, t4, t5, t6⟩ := KP.out _ D6.out; clear b6)
      | (go_at_call 21; refine (NA.out _).mono ?_; rintro e w4 ⟨rfl, b4⟩; have D4 := Lib.hid (below_step C3d.out (Nat.le_refl _) b4); obtain ⟨t0, t1, t2, t3, t4, t5, t6⟩ := KP.out _ D4.out; clear b4)
      | (go_at_call 22; have := D4; refine (OA.out _).mono ?_; rintro e w7 ⟨g7, rfl, v7, b7⟩; have D7 := Lib.hid (below_step D4.out (Nat.le_refl _) b7); obtain ⟨t0, t1, t2, t3, t4, t5, t6⟩ := KP.out _ D7.out; clear b7)
      | (go_at_call 22; refine (OA.out _).mono ?_; rintro e w5 ⟨g5, rfl, v5, b5⟩; have D5 := Lib.hid (below_step C3d.out (Nat.le_refl _) b5); obtain ⟨t0, t1, t2, t3, t4, t5, t6⟩ := KP.out _ D5.out; clear b5))
    all_goals
      first
        | have C5 := Lib.hid D7.out
        | have C5 := Lib.hid D6.out
      go_wp2_with fail
      go_ret
      exact ⟨ret_strN E.out.symm, ((Below.refl _ w).alloc (Nat.le_refl _) _).trans (C5.out.mono (by simp))⟩

set_option maxRecDepth 100000 in
set_option maxHeartbeats 1600000 in
theorem specNodeText1 (name : ByteArray) (col op num : Int) (slot : Bool) (cols : List Int) (a : Option Addr) (c : Nat) (w : World) (hb : nodeB ⟨1, name, col, op, num, slot, cols⟩ = true) (ho : op ≠ 3) (h : Rd w .i64 a cols) (hl : cols.length ≤ maxLen) (hs : name.size ≤ maxLen) :
    Calls Tryd.prog 7 #[.agg #[.int .i64 1, .string name, .int .i64 col, .int .i64 op, .int .i64 num, .bool slot, .slice a cols.length c]] w fun e w' => e = .returned (.string (ndO ⟨1, name, col, op, num, slot, cols⟩)) ∧ Below w.heap.size w w' := by
  have NK := Lib.hid (fun w h => specNodeOk_any ⟨1, name, col, op, num, slot, cols⟩ a c w h hl hs)
  obtain ⟨_, hnm, hcol, hop, hnum, hcl, hcs⟩ := nums_of_nodeB hb
  simp only at hnm hcol hop hnum hcl hcs
  obtain ⟨r, hr⟩ : ∃ r, r = ndO ⟨1, name, col, op, num, slot, cols⟩ := ⟨_, rfl⟩
  rw [← hr]
  have H := Lib.hid h; have HB := Lib.hid hb
  obtain ⟨V, hv⟩ : ∃ V : ByteArray, V = ⟨#[102, 105, 108, 116, 101, 114]⟩ := ⟨_, rfl⟩
  have VA : Hid (∀ w : World, Calls Tryd.prog 20 #[] w fun e w' => ∃ g, e = .returned (.slice (some ⟨g, 0, none⟩) 8 8) ∧ w'.cell? ⟨g, 1, none⟩ = some (.string V) ∧ Below w.heap.size w w') := fun w => by rw [hv]; exact verb_any 1 _ rfl w
  have hvs : V.size ≤ 6 := by rw [hv]; decide
  have E : Hid (r = V ++ ⟨#[32]⟩ ++ numT col ++ ⟨#[32]⟩ ++ opB op ++ ⟨#[32]⟩ ++ litB slot num) := by show _ = _; rw [hr, hv]; exact nd1_eq hb ho
  have NA := Lib.hid (fun W => num_all col (by omega) (by omega) W)
  have NB := Lib.hid (fun W => l06Num_any ⟨1, name, col, op, num, slot, cols⟩ a c W hnum.1 hnum.2)
  simp only at NB
  have ht := numT_size (x := col) (by omega) (by omega)
  have hu := litB_size (s := slot) hnum.1 hnum.2
  have hw := opB_size op
  have OA : Hid (∀ w : World, Calls Tryd.prog 22 #[] w fun e w' => ∃ g, e = .returned (.slice (some ⟨g, 0, none⟩) 4 4) ∧ w'.cell? ⟨g, op.toNat, none⟩ = some (.string (opB op)) ∧ Below w.heap.size w w') := fun w => by
    have := op_any op.toNat (by omega) w
    rwa [show ((op.toNat : Nat) : Int) = op by omega] at this
  have ho3 : (op != 3) = true := by simp [ho]
  generalize opB op = O at E OA hw
  obtain ⟨oi, rfl⟩ : ∃ oi : Nat, op = oi := ⟨op.toNat, by omega⟩
  rw [Int.toNat_natCast] at OA
  have hoi : oi < 4 := by omega
  have hoi' : (oi : Int) < 4 := by omega
  generalize numT col = Tc at E NA ht
  generalize litB slot num = Td at E NB hu
  have e1 : ¬ (9223372036854775807 < V.size + 1) := by omega
  have e2 : ¬ (9223372036854775807 < V.size + 1 + Tc.size) := by omega
  have e3 : ¬ (9223372036854775807 < V.size + 1 + Tc.size + 1) := by omega
  have e4 : ¬ (9223372036854775807 < V.size + 1 + Tc.size + 1 + O.size) := by omega
  have e5 : ¬ (9223372036854775807 < V.size + 1 + Tc.size + 1 + O.size + 1) := by omega
  have e6 : ¬ (9223372036854775807 < V.size + 1 + Tc.size + 1 + O.size + 1 + Td.size) := by omega
  have KP : Hid (∀ w4, Below (w.alloc (.cells #[.int .i64 1, .string name, .int .i64 col, .int .i64 (oi : Int), .int .i64 num, .bool slot, .slice a cols.length c] 27)).heap.size (w.alloc (.cells #[.int .i64 1, .string name, .int .i64 col, .int .i64 (oi : Int), .int .i64 num, .bool slot, .slice a cols.length c] 27)) w4 → w4.cell? ⟨w.heap.size, 0, none⟩ = some (.int .i64 1) ∧ w4.cell? ⟨w.heap.size, 1, none⟩ = some (.string name) ∧ w4.cell? ⟨w.heap.size, 2, none⟩ = some (.int .i64 col) ∧ w4.cell? ⟨w.heap.size, 3, none⟩ = some (.int .i64 (oi : Int)) ∧ w4.cell? ⟨w.heap.size, 4, none⟩ = some (.int .i64 num) ∧ w4.cell? ⟨w.heap.size, 5, none⟩ = some (.bool slot) ∧ w4.cell? ⟨w.heap.size, 6, none⟩ = some (.slice a cols.length c)) := fun w4 b4 => by
    have hq := fun o => b4.cell (p := ⟨w.heap.size, o, none⟩) (by simp)
    exact ⟨(hq 0).trans ((cell_of_row _ _ _ _ _ _ (heap_alloc_new w _)).trans rfl), (hq 1).trans ((cell_of_row _ _ _ _ _ _ (heap_alloc_new w _)).trans rfl), (hq 2).trans ((cell_of_row _ _ _ _ _ _ (heap_alloc_new w _)).trans rfl), (hq 3).trans ((cell_of_row _ _ _ _ _ _ (heap_alloc_new w _)).trans rfl), (hq 4).trans ((cell_of_row _ _ _ _ _ _ (heap_alloc_new w _)).trans rfl), (hq 5).trans ((cell_of_row _ _ _ _ _ _ (heap_alloc_new w _)).trans rfl), (hq 6).trans ((cell_of_row _ _ _ _ _ _ (heap_alloc_new w _)).trans rfl)⟩
  clear hr hv h hb ho
  go_enter Tryd.func7, Tryd.ntmps7
  go_wp2_with fail
  refine (NK.out _ (H.out.below ((Below.refl _ w).alloc (Nat.le_refl _) _))).mono ?_
  rintro e w1 ⟨rfl, b1⟩
  rw [HB.out]
  have C1 := Lib.hid b1
  have C2 := Lib.hid b1.drew
  obtain ⟨u0, u1, u2, u3, u4, u5, u6⟩ := KP.out _ b1
  clear b1
  go_wp2_with fail
  go_region_with (first
    | (go_at_call 20; refine (VA.out _).mono ?_; rintro e w3 ⟨g3, rfl, v3, b3⟩; have D3 := Lib.hid (below_step C2.out (Nat.le_refl _) b3); obtain ⟨t0, t1, t2, t3, t4, t5, t6⟩ := KP.out _ D3.out; clear b3))
  all_goals
    have C3 := Lib.hid D3.out
    have C3d := Lib.hid C3.out.drew
    go_wp2_with fail
    go_region_with (first
      | (go_at_call 21; have := D5; refine (NA.out _).mono ?_; rintro e w6 ⟨rfl, b6⟩; have D6 := Lib.hid (below_step D5.out (Nat.le_refl _) b6); have v6 := (b6.cell (p := ⟨g5, oi, none⟩) (World.block_lt_of_cell? _ ⟨g5, oi, none⟩ v5)).trans v5; obtain ⟨t0, t1, t2, t3, t4, t5, t6⟩ := KP.out _ D6.out; clear b6)
      | (go_at_call 21; refine (NA.out _).mono ?_; rintro e w4 ⟨rfl, b4⟩; have D4 := Lib.hid (below_step C3d.out (Nat.le_refl _) b4); obtain ⟨t0, t1, t2, t3, t4, t5, t6⟩ := KP.out _ D4.out; clear b4)
      | (go_at_call 22; have := D4; refine (OA.out _).mono ?_; rintro e w7 ⟨g7, rfl, v7, b7⟩; have D7 := Lib.hid (below_step D4.out (Nat.le_refl _) b7); obtain ⟨t0, t1, t2, t3, t4, t5, t6⟩ := KP.out _ D7.out; clear b7)
      | (go_at_call 22; refine (OA.out _).mono ?_; rintro e w5 ⟨g5, rfl, v5, b5⟩; have D5 := Lib.hid (below_step C3d.out (Nat.le_refl _) b5); obtain ⟨t0, t1, t2, t3, t4, t5, t6⟩ := KP.out _ D5.out; clear b5))
    all_goals
      first
        | have C5 := Lib.hid D7.out
        | have C5 := Lib.hid D6.out
      go_wp2_with fail
      refine (NB.out _).mono ?_
      rintro e w6 ⟨rfl, b6⟩
      have C6 := Lib.hid (below_step C5.out (Nat.le_refl _) b6)
      clear b6
      go_wp2_with fail
      go_ret
      exact ⟨ret_strN E.out.symm, ((Below.refl _ w).alloc (Nat.le_refl _) _).trans (C6.out.mono (by simp))⟩
end Go.Proofs.YtfpbhedophlnkaaDoor
