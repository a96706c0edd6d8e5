/-
  Contract of spec.NodeText at a filter. For every node. Contract of spec.NodeText at a keep, a join. For every node. Contract of spec.NodeText. For every node. Contract of spec.PrintPlan. For every slice of nodes.
-/
import Derived.Test.YtfpbhedophlnkaaGreatDoorJT12x
import Derived.Test.YtfpbhedophlnkaaGreatDoorJT6x
import Derived.Test.YtfpbhedophlnkaaGreatDoorJT31x
namespace Go.Proofs.YtfpbhedophlnkaaGreatDoor
open Go.RowKit
set_option linter.unusedSimpArgs false
set_option linter.unusedVariables false

set_option maxRecDepth 100000 in
set_option maxHeartbeats 1600000 in
theorem specNodeText1n (name : ByteArray) (col op num : Int) (slot : Bool) (cols : List Int) (a : Option Addr) (c : Nat) (w : World) (hb : nodeB ⟨1, name, col, op, num, slot, cols⟩ = true) (ho : op = 3) (h : Rd w .i64 a cols) (hl : cols.length ≤ maxLen) (hs : name.size ≤ maxLen) :
    Calls Tryz.prog 129 #[.agg #[.int .i64 1, .string name, .int .i64 col, .int .i64 op, .int .i64 num, .bool slot, .slice a cols.length c]] w fun e w' => e = .returned (.string (ndO ⟨1, name, col, op, num, slot, cols⟩)) ∧ Below w.heap.size w w' := by
  have NK := Lib.hid (fun w h => specNodeOk_any ⟨1, name, col, op, num, slot, cols⟩ a c w h hl hs)
  obtain ⟨_, hnm, hcol, hop, hnum, hcl, hcs⟩ := nums_of_nodeB hb
  simp only at hnm hcol hop hnum hcl hcs
  obtain ⟨r, hr⟩ : ∃ r, r = ndO ⟨1, name, col, op, num, slot, cols⟩ := ⟨_, rfl⟩
  rw [← hr]
  have H := Lib.hid h; have HB := Lib.hid hb
  obtain ⟨V, hv⟩ : ∃ V : ByteArray, V = ⟨#[102, 105, 108, 116, 101, 114]⟩ := ⟨_, rfl⟩
  have VA : Hid (∀ w : World, Calls Tryz.prog 203 #[] w fun e w' => ∃ g, e = .returned (.slice (some ⟨g, 0, none⟩) 8 8) ∧ w'.cell? ⟨g, 1, none⟩ = some (.string V) ∧ Below w.heap.size w w') := fun w => by rw [hv]; exact verb_any 1 _ rfl w
  have hvs : V.size ≤ 6 := by rw [hv]; decide
  have E : Hid (r = V ++ ⟨#[32]⟩ ++ numT col ++ ⟨#[32]⟩ ++ opB op) := by show _ = _; rw [hr, hv]; exact nd1n_eq hb ho
  have NA := Lib.hid (fun W => num_all col (by omega) (by omega) W)
  have NB := Lib.hid (fun W => l06Num_any ⟨1, name, col, op, num, slot, cols⟩ a c W hnum.1 hnum.2)
  simp only at NB
  have ht := numT_size (x := col) (by omega) (by omega)
  have hu := litB_size (s := slot) hnum.1 hnum.2
  have hw := opB_size op
  have OA : Hid (∀ w : World, Calls Tryz.prog 204 #[] w fun e w' => ∃ g, e = .returned (.slice (some ⟨g, 0, none⟩) 4 4) ∧ w'.cell? ⟨g, op.toNat, none⟩ = some (.string (opB op)) ∧ Below w.heap.size w w') := fun w => by
    have := op_any op.toNat (by omega) w
    rwa [show ((op.toNat : Nat) : Int) = op by omega] at this
  have ho3 : (op != 3) = false := by simp [ho]
  generalize opB op = O at E OA hw
  obtain ⟨oi, rfl⟩ : ∃ oi : Nat, op = oi := ⟨op.toNat, by omega⟩
  rw [Int.toNat_natCast] at OA
  have hoi : oi < 4 := by omega
  have hoi' : (oi : Int) < 4 := by omega
  generalize numT col = Tc at E NA ht
  generalize litB slot num = Td at E NB hu
  have e1 : ¬ (9223372036854775807 < V.size + 1) := by omega
  have e2 : ¬ (9223372036854775807 < V.size + 1 + Tc.size) := by omega
  have e3 : ¬ (9223372036854775807 < V.size + 1 + Tc.size + 1) := by omega
  have e4 : ¬ (9223372036854775807 < V.size + 1 + Tc.size + 1 + O.size) := by omega
  have e5 : ¬ (9223372036854775807 < V.size + 1 + Tc.size + 1 + O.size + 1) := by omega
  have e6 : ¬ (9223372036854775807 < V.size + 1 + Tc.size + 1 + O.size + 1 + Td.size) := by omega
  have KP : Hid (∀ w4, Below (w.alloc (.cells #[.int .i64 1, .string name, .int .i64 col, .int .i64 (oi : Int), .int .i64 num, .bool slot, .slice a cols.length c] 92)).heap.size (w.alloc (.cells #[.int .i64 1, .string name, .int .i64 col, .int .i64 (oi : Int), .int .i64 num, .bool slot, .slice a cols.length c] 92)) w4 → w4.cell? ⟨w.heap.size, 0, none⟩ = some (.int .i64 1) ∧ w4.cell? ⟨w.heap.size, 1, none⟩ = some (.string name) ∧ w4.cell? ⟨w.heap.size, 2, none⟩ = some (.int .i64 col) ∧ w4.cell? ⟨w.heap.size, 3, none⟩ = some (.int .i64 (oi : Int)) ∧ w4.cell? ⟨w.heap.size, 4, none⟩ = some (.int .i64 num) ∧ w4.cell? ⟨w.heap.size, 5, none⟩ = some (.bool slot) ∧ w4.cell? ⟨w.heap.size, 6, none⟩ = some (.slice a cols.length c)) := fun w4 b4 => by
    have hq := fun o => b4.cell (p := ⟨w.heap.size, o, none⟩) (by simp)
    exact ⟨(hq 0).trans ((cell_of_row _ _ _ _ _ _ (heap_alloc_new w _)).trans rfl), (hq 1).trans ((cell_of_row _ _ _ _ _ _ (heap_alloc_new w _)).trans rfl), (hq 2).trans ((cell_of_row _ _ _ _ _ _ (heap_alloc_new w _)).trans rfl), (hq 3).trans ((cell_of_row _ _ _ _ _ _ (heap_alloc_new w _)).trans rfl), (hq 4).trans ((cell_of_row _ _ _ _ _ _ (heap_alloc_new w _)).trans rfl), (hq 5).trans ((cell_of_row _ _ _ _ _ _ (heap_alloc_new w _)).trans rfl), (hq 6).trans ((cell_of_row _ _ _ _ _ _ (heap_alloc_new w _)).trans rfl)⟩
  clear hr hv h hb ho
  go_enter Tryz.func129, Tryz.ntmps129
  go_wp2_with fail
  refine (NK.out _ (H.out.below ((Below.refl _ w).alloc (Nat.le_refl _) _))).mono ?_
  rintro e w1 ⟨rfl, b1⟩
  rw [HB.out]
  have C1 := Lib.hid b1
  have C2 := Lib.hid b1.drew
  obtain ⟨u0, u1, u2, u3, u4, u5, u6⟩ := KP.out _ b1
  clear b1
  go_wp2_with fail
  go_region_with (first
    | (go_at_call 203; refine (VA.out _).mono ?_; rintro e w3 ⟨g3, rfl, v3, b3⟩; have D3 := Lib.hid (below_step C2.out (Nat.le_refl _) b3); obtain ⟨t0, t1, t2, t3, t4, t5, t6⟩ := KP.out _ D3.out; clear b3))
  all_goals
    have C3 := Lib.hid D3.out
    have C3d := Lib.hid C3.out.drew
    go_wp2_with fail
    go_region_with (first
      | (go_at_call 148; have := D5; refine (NA.out _).mono ?_; rintro e w6 ⟨rfl, b6⟩; have D6 := Lib.hid (below_step D5.out (Nat.le_refl _) b6); have v6 := (b6.cell (p := ⟨g5, oi, none⟩) (World.block_lt_of_cell? _ ⟨g5, oi, none⟩ v5)).trans v5; obtain ⟨t0, t1, t2, t3, t4, t5, t6⟩ := KP.out _ D6.out; clear b6)
      | (go_at_call 148; refine (NA.out _).mono ?_; rintro e w4 ⟨rfl, b4⟩; have D4 := Lib.hid (below_step C3d.out (Nat.le_refl _) b4); obtain ⟨t0, t1, t2, t3, t4, t5, t6⟩ := KP.out _ D4.out; clear b4)
      | (go_at_call 204; have := D4; refine (OA.out _).mono ?_; rintro e w7 ⟨g7, rfl, v7, b7⟩; have D7 := Lib.hid (below_step D4.out (Nat.le_refl _) b7); obtain ⟨t0, t1, t2, t3, t4, t5, t6⟩ := KP.out _ D7.out; clear b7)
      | (go_at_call 204; refine (OA.out _).mono ?_; rintro e w5 ⟨g5, rfl, v5, b5⟩; have D5 := Lib.hid (below_step C3d.out (Nat.le_refl _) b5); obtain ⟨t0, t1, t2, t3, t4, t5, t6⟩ := KP.out _ D5.out; clear b5))
    all_goals
      first
        | have C5 := Lib.hid D7.out
        | have C5 := Lib.hid D6.out
      go_wp2_with fail
      go_ret
      exact ⟨ret_strN E.out.symm, ((Below.refl _ w).alloc (Nat.le_refl _) _).trans (C5.out.mono (by simp))⟩

set_option maxRecDepth 100000 in
set_option maxHeartbeats 1600000 in
theorem specNodeText1 (name : ByteArray) (col op num : Int) (slot : Bool) (cols : List Int) (a : Option Addr) (c : Nat) (w : World) (hb : nodeB ⟨1, name, col, op, num, slot, cols⟩ = true) (ho : op ≠ 3) (h : Rd w .i64 a cols) (hl : cols.length ≤ maxLen) (hs : name.size ≤ maxLen) :
    Calls Tryz.prog 129 #[.agg #[.int .i64 1, .string name, .int .i64 col, .int .i64 op, .int .i64 num, .bool slot, .slice a cols.length c]] w fun e w' => e = .returned (.string (ndO ⟨1, name, col, op, num, slot, cols⟩)) ∧ Below w.heap.size w w' := by
  have NK := Lib.hid (fun w h => specNodeOk_any ⟨1, name, col, op, num, slot, cols⟩ a c w h hl hs)
  obtain ⟨_, hnm, hcol, hop, hnum, hcl, hcs⟩ := nums_of_nodeB hb
  simp only at hnm hcol hop hnum hcl hcs
  obtain ⟨r, hr⟩ : ∃ r, r = ndO ⟨1, name, col, op, num, slot, cols⟩ := ⟨_, rfl⟩
  rw [← hr]
  have H := Lib.hid h; have HB := Lib.hid hb
  obtain ⟨V, hv⟩ : ∃ V : ByteArray, V = ⟨#[102, 105, 108, 116, 101, 114]⟩ := ⟨_, rfl⟩
  have VA : Hid (∀ w : World, Calls Tryz.prog 203 #[] w fun e w' => ∃ g, e = .returned (.slice (some ⟨g, 0, none⟩) 8 8) ∧ w'.cell? ⟨g, 1, none⟩ = some (.string V) ∧ Below w.heap.size w w') := fun w => by rw [hv]; exact verb_any 1 _ rfl w
  have hvs : V.size ≤ 6 := by rw [hv]; decide
  have E : Hid (r = V ++ ⟨#[32]⟩ ++ numT col ++ ⟨#[32]⟩ ++ opB op ++ ⟨#[32]⟩ ++ litB slot num) := by show _ = _; rw [hr, hv]; exact nd1_eq hb ho
  have NA := Lib.hid (fun W => num_all col (by omega) (by omega) W)
  have NB := Lib.hid (fun W => l06Num_any ⟨1, name, col, op, num, slot, cols⟩ a c W hnum.1 hnum.2)
  simp only at NB
  have ht := numT_size (x := col) (by omega) (by omega)
  have hu := litB_size (s := slot) hnum.1 hnum.2
  have hw := opB_size op
  have OA : Hid (∀ w : World, Calls Tryz.prog 204 #[] w fun e w' => ∃ g, e = .returned (.slice (some ⟨g, 0, none⟩) 4 4) ∧ w'.cell? ⟨g, op.toNat, none⟩ = some (.string (opB op)) ∧ Below w.heap.size w w') := fun w => by
    have := op_any op.toNat (by omega) w
    rwa [show ((op.toNat : Nat) : Int) = op by omega] at this
  have ho3 : (op != 3) = true := by simp [ho]
  generalize opB op = O at E OA hw
  obtain ⟨oi, rfl⟩ : ∃ oi : Nat, op = oi := ⟨op.toNat, by omega⟩
  rw [Int.toNat_natCast] at OA
  have hoi : oi < 4 := by omega
  have hoi' : (oi : Int) < 4 := by omega
  generalize numT col = Tc at E NA ht
  generalize litB slot num = Td at E NB hu
  have e1 : ¬ (9223372036854775807 < V.size + 1) := by omega
  have e2 : ¬ (9223372036854775807 < V.size + 1 + Tc.size) := by omega
  have e3 : ¬ (9223372036854775807 < V.size + 1 + Tc.size + 1) := by omega
  have e4 : ¬ (9223372036854775807 < V.size + 1 + Tc.size + 1 + O.size) := by omega
  have e5 : ¬ (9223372036854775807 < V.size + 1 + Tc.size + 1 + O.size + 1) := by omega
  have e6 : ¬ (9223372036854775807 < V.size + 1 + Tc.size + 1 + O.size + 1 + Td.size) := by omega
  have KP : Hid (∀ w4, Below (w.alloc (.cells #[.int .i64 1, .string name, .int .i64 col, .int .i64 (oi : Int), .int .i64 num, .bool slot, .slice a cols.length c] 92)).heap.size (w.alloc (.cells #[.int .i64 1, .string name, .int .i64 col, .int .i64 (oi : Int), .int .i64 num, .bool slot, .slice a cols.length c] 92)) w4 → w4.cell? ⟨w.heap.size, 0, none⟩ = some (.int .i64 1) ∧ w4.cell? ⟨w.heap.size, 1, none⟩ = some (.string name) ∧ w4.cell? ⟨w.heap.size, 2, none⟩ = some (.int .i64 col) ∧ w4.cell? ⟨w.heap.size, 3, none⟩ = some (.int .i64 (oi : Int)) ∧ w4.cell? ⟨w.heap.size, 4, none⟩ = some (.int .i64 num) ∧ w4.cell? ⟨w.heap.size, 5, none⟩ = some (.bool slot) ∧ w4.cell? ⟨w.heap.size, 6, none⟩ = some (.slice a cols.length c)) := fun w4 b4 => by
    have hq := fun o => b4.cell (p := ⟨w.heap.size, o, none⟩) (by simp)
    exact ⟨(hq 0).trans ((cell_of_row _ _ _ _ _ _ (heap_alloc_new w _)).trans rfl), (hq 1).trans ((cell_of_row _ _ _ _ _ _ (heap_alloc_new w _)).trans rfl), (hq 2).trans ((cell_of_row _ _ _ _ _ _ (heap_alloc_new w _)).trans rfl), (hq 3).trans ((cell_of_row _ _ _ _ _ _ (heap_alloc_new w _)).trans rfl), (hq 4).trans ((cell_of_row _ _ _ _ _ _ (heap_alloc_new w _)).trans rfl), (hq 5).trans ((cell_of_row _ _ _ _ _ _ (heap_alloc_new w _)).trans rfl), (hq 6).trans ((cell_of_row _ _ _ _ _ _ (heap_alloc_new w _)).trans rfl)⟩
  clear hr hv h hb ho
  go_enter Tryz.func129, Tryz.ntmps129
  go_wp2_with fail
  refine (NK.out _ (H.out.below ((Below.refl _ w).alloc (Nat.le_refl _) _))).mono ?_
  rintro e w1 ⟨rfl, b1⟩
  rw [HB.out]
  have C1 := Lib.hid b1
  have C2 := Lib.hid b1.drew
  obtain ⟨u0, u1, u2, u3, u4, u5, u6⟩ := KP.out _ b1
  clear b1
  go_wp2_with fail
  go_region_with (first
    | (go_at_call 203; refine (VA.out _).mono ?_; rintro e w3 ⟨g3, rfl, v3, b3⟩; have D3 := Lib.hid (below_step C2.out (Nat.le_refl _) b3); obtain ⟨t0, t1, t2, t3, t4, t5, t6⟩ := KP.out _ D3.out; clear b3))
  all_goals
    have C3 := Lib.hid D3.out
    have C3d := Lib.hid C3.out.drew
    go_wp2_with fail
    go_region_with (first
      | (go_at_call 148; have := D5; refine (NA.out _).mono ?_; rintro e w6 ⟨rfl, b6⟩; have D6 := Lib.hid (below_step D5.out (Nat.le_refl _) b6); have v6 := (b6.cell (p := ⟨g5, oi, none⟩) (World.block_lt_of_cell? _ ⟨g5, oi, none⟩ v5)).trans v5; obtain ⟨t0, t1, t2, t3, t4, t5, t6⟩ := KP.out _ D6.out; clear b6)
      | (go_at_call 148; refine (NA.out _).mono ?_; rintro e w4 ⟨rfl, b4⟩; have D4 := Lib.hid (below_step C3d.out (Nat.le_refl _) b4); obtain ⟨t0, t1, t2, t3, t4, t5, t6⟩ := KP.out _ D4.out; clear b4)
      | (go_at_call 204; have := D4; refine (OA.out _).mono ?_; rintro e w7 ⟨g7, rfl, v7, b7⟩; have D7 := Lib.hid (below_step D4.out (Nat.le_refl _) b7); obtain ⟨t0, t1, t2, t3, t4, t5, t6⟩ := KP.out _ D7.out; clear b7)
      | (go_at_call 204; refine (OA.out _).mono ?_; rintro e w5 ⟨g5, rfl, v5, b5⟩; have D5 := Lib.hid (below_step C3d.out (Nat.le_refl _) b5); obtain ⟨t0, t1, t2, t3, t4, t5, t6⟩ := KP.out _ D5.out; clear b5))
    all_goals
      first
        | have C5 := Lib.hid D7.out
        | have C5 := Lib.hid D6.out
      go_wp2_with fail
      refine (NB.out _).mono ?_
      rintro e w6 ⟨rfl, b6⟩
      have C6 := Lib.hid (below_step C5.out (Nat.le_refl _) b6)
      clear b6
      go_wp2_with fail
      go_ret
      exact ⟨ret_strN E.out.symm, ((Below.refl _ w).alloc (Nat.le_refl _) _).trans (C6.out.mono (by simp))⟩
end Go.Proofs.YtfpbhedophlnkaaGreatDoor
namespace Go.Proofs.YtfpbhedophlnkaaGreatDoor
open Go.RowKit
set_option linter.unusedSimpArgs false
set_option linter.unusedVariables false

set_option maxRecDepth 100000 in
set_option maxHeartbeats 1600000 in
theorem specNodeText2 (name : ByteArray) (col op num : Int) (slot : Bool) (cols : List Int) (a : Option Addr) (c : Nat) (w : World) (hb : nodeB ⟨2, name, col, op, num, slot, cols⟩ = true) (h : Rd w .i64 a cols) (hl : cols.length ≤ maxLen) (hs : name.size ≤ maxLen) :
    Calls Tryz.prog 129 #[.agg #[.int .i64 2, .string name, .int .i64 col, .int .i64 op, .int .i64 num, .bool slot, .slice a cols.length c]] w fun e w' => e = .returned (.string (ndO ⟨2, name, col, op, num, slot, cols⟩)) ∧ Below w.heap.size w w' := by
  have NK := Lib.hid (fun w h => specNodeOk_any ⟨2, name, col, op, num, slot, cols⟩ a c w h hl hs)
  obtain ⟨_, hnm, hcol, hop, hnum, hcl, hcs⟩ := nums_of_nodeB hb
  simp only at hnm hcol hop hnum hcl hcs
  obtain ⟨r, hr⟩ : ∃ r, r = ndO ⟨2, name, col, op, num, slot, cols⟩ := ⟨_, rfl⟩
  rw [← hr]
  have H := Lib.hid h; have HB := Lib.hid hb
  obtain ⟨V, hv⟩ : ∃ V : ByteArray, V = ⟨#[107, 101, 101, 112]⟩ := ⟨_, rfl⟩
  have VA : Hid (∀ w : World, Calls Tryz.prog 203 #[] w fun e w' => ∃ g, e = .returned (.slice (some ⟨g, 0, none⟩) 8 8) ∧ w'.cell? ⟨g, 2, none⟩ = some (.string V) ∧ Below w.heap.size w w') := fun w => by rw [hv]; exact verb_any 2 _ rfl w
  have hvs : V.size ≤ 6 := by rw [hv]; decide
  have E : Hid (∀ X : ByteArray, X.data.toList = kpT cols cols.length → X = r) := fun X hX => by rw [hr]; exact kpT_all hb hX
  have NA := Lib.hid (fun W => num_all (cols.length : Int) (by omega) (by omega) W)
  have NB := Lib.hid (fun (x : Int) (hx : x ∈ cols) W => num_all x (by have := hcs x hx; omega) (by have := hcs x hx; omega) W)
  have NS := Lib.hid (fun (x : Int) (hx : x ∈ cols) => numT_size (x := x) (by have := hcs x hx; omega) (by have := hcs x hx; omega))
  have ht := numT_size (x := (cols.length : Int)) (by omega) (by omega)
  have KL := Lib.hid (fun j => kpT_len hcs hcl j)
  have X0 : Hid ((V ++ ⟨#[32]⟩ ++ numT (cols.length : Int)).data.toList = kpT cols 0) := by show _ = _; rw [hv]; exact kpT_zero cols
  generalize numT (cols.length : Int) = Tc at NA ht X0
  have e1 : ¬ (9223372036854775807 < V.size + 1) := by omega
  have e2 : ¬ (9223372036854775807 < V.size + 1 + Tc.size) := by omega
  clear hcs
  have KP : Hid (∀ w4, Below (w.alloc (.cells #[.int .i64 2, .string name, .int .i64 col, .int .i64 op, .int .i64 num, .bool slot, .slice a cols.length c] 92)).heap.size (w.alloc (.cells #[.int .i64 2, .string name, .int .i64 col, .int .i64 op, .int .i64 num, .bool slot, .slice a cols.length c] 92)) w4 → w4.cell? ⟨w.heap.size, 0, none⟩ = some (.int .i64 2) ∧ w4.cell? ⟨w.heap.size, 1, none⟩ = some (.string name) ∧ w4.cell? ⟨w.heap.size, 2, none⟩ = some (.int .i64 col) ∧ w4.cell? ⟨w.heap.size, 3, none⟩ = some (.int .i64 op) ∧ w4.cell? ⟨w.heap.size, 4, none⟩ = some (.int .i64 num) ∧ w4.cell? ⟨w.heap.size, 5, none⟩ = some (.bool slot) ∧ w4.cell? ⟨w.heap.size, 6, none⟩ = some (.slice a cols.length c)) := fun w4 b4 => by
    have hq := fun o => b4.cell (p := ⟨w.heap.size, o, none⟩) (by simp)
    exact ⟨(hq 0).trans ((cell_of_row _ _ _ _ _ _ (heap_alloc_new w _)).trans rfl), (hq 1).trans ((cell_of_row _ _ _ _ _ _ (heap_alloc_new w _)).trans rfl), (hq 2).trans ((cell_of_row _ _ _ _ _ _ (heap_alloc_new w _)).trans rfl), (hq 3).trans ((cell_of_row _ _ _ _ _ _ (heap_alloc_new w _)).trans rfl), (hq 4).trans ((cell_of_row _ _ _ _ _ _ (heap_alloc_new w _)).trans rfl), (hq 5).trans ((cell_of_row _ _ _ _ _ _ (heap_alloc_new w _)).trans rfl), (hq 6).trans ((cell_of_row _ _ _ _ _ _ (heap_alloc_new w _)).trans rfl)⟩
  clear hr hv h hb
  go_enter Tryz.func129, Tryz.ntmps129
  go_wp2_with fail
  refine (NK.out _ (H.out.below ((Below.refl _ w).alloc (Nat.le_refl _) _))).mono ?_
  rintro e w1 ⟨rfl, b1⟩
  rw [HB.out]
  have C1 := Lib.hid b1
  have C2 := Lib.hid b1.drew
  obtain ⟨u0, u1, u2, u3, u4, u5, u6⟩ := KP.out _ b1
  clear b1
  go_wp2_with fail
  go_region_with (first
    | (go_at_call 203; refine (VA.out _).mono ?_; rintro e w3 ⟨g3, rfl, v3, b3⟩; have D3 := Lib.hid (below_step C2.out (Nat.le_refl _) b3); obtain ⟨t0, t1, t2, t3, t4, t5, t6⟩ := KP.out _ D3.out; clear b3))
  all_goals
    have C3 := Lib.hid D3.out
    go_wp2_with fail
    refine (NA.out _).mono ?_
    rintro e w4 ⟨rfl, b4⟩
    have C4 := Lib.hid (below_step C3.out (Nat.le_refl _) b4)
    clear b4
    go_wp2_with fail
    go_loopw [3, 4] (fun s i wr => ∃ (j : Nat) (X : ByteArray), j ≤ cols.length ∧ i = .int .i64 j ∧ s = .string X ∧ X.data.toList = kpT cols j ∧ Below (w.alloc (.cells #[.int .i64 2, .string name, .int .i64 col, .int .i64 op, .int .i64 num, .bool slot, .slice a cols.length c] 92)).heap.size (w.alloc (.cells #[.int .i64 2, .string name, .int .i64 col, .int .i64 op, .int .i64 num, .bool slot, .slice a cols.length c] 92)) wr) (fun _ i _ => cols.length - (intOf i).toNat)
    case atStart => exact ⟨0, _, Nat.zero_le _, rfl, rfl, X0.out, C4.out⟩
    case round =>
      obtain ⟨j, X, hj, rfl, rfl, hX, hbw⟩ := hrel
      have HX := Lib.hid hX; have HBW := Lib.hid hbw
      obtain ⟨u0, u1, u2, u3, u4, u5, u6⟩ := KP.out _ hbw
      have hxs : X.size ≤ 176 := by
        have h1 : X.data.toList.length = X.size := by rw [Array.length_toList]; rfl
        rw [← h1, hX]; exact KL.out j
      clear hX
      by_cases hlt : j < cols.length
      · have i1 : (j : Int) < (cols.length : Int) := by omega
        obtain ⟨b, off, x, rfl, hx, cx⟩ := (H.out.below (((Below.refl _ w).alloc (Nat.le_refl _) _).trans (hbw.mono (by simp)))).get hlt
        have XK := Lib.hid (kpT_step hx HX.out)
        have NX := Lib.hid (NB.out x (List.mem_of_getElem? hx))
        have hxn := NS.out x (List.mem_of_getElem? hx)
        clear hx hbw
        generalize numT x = Tx at XK NX hxn
        have e3 : ¬ (9223372036854775807 < X.size + 1) := by omega
        have e4 : ¬ (9223372036854775807 < X.size + 1 + Tx.size) := by omega
        go_wp2_with fail
        refine (NX.out _).mono ?_
        rintro e w5 ⟨rfl, b5⟩
        have C5 := Lib.hid (below_step HBW.out (Nat.le_refl _) b5)
        clear b5
        obtain ⟨v0, v1, v2, v3, v4, v5, v6⟩ := KP.out _ C5.out
        go_wp2_with fail
        go_roundw
        case rel => exact ⟨j + 1, _, by omega, by go_num, rfl, XK.out, C5.out⟩
        case measure => simp [intOf]; omega
      · obtain rfl : j = cols.length := by omega
        clear hbw
        go_wp2_with fail
        go_ret
        exact ⟨ret_strN (E.out X HX.out), ((Below.refl _ w).alloc (Nat.le_refl _) _).trans (HBW.out.mono (by simp))⟩

set_option maxRecDepth 100000 in
set_option maxHeartbeats 1600000 in
theorem specNodeText3 (name : ByteArray) (col op num : Int) (slot : Bool) (cols : List Int) (a : Option Addr) (c : Nat) (w : World) (hb : nodeB ⟨3, name, col, op, num, slot, cols⟩ = true) (h : Rd w .i64 a cols) (hl : cols.length ≤ maxLen) (hs : name.size ≤ maxLen) :
    Calls Tryz.prog 129 #[.agg #[.int .i64 3, .string name, .int .i64 col, .int .i64 op, .int .i64 num, .bool slot, .slice a cols.length c]] w fun e w' => e = .returned (.string (ndO ⟨3, name, col, op, num, slot, cols⟩)) ∧ Below w.heap.size w w' := by
  have NK := Lib.hid (fun w h => specNodeOk_any ⟨3, name, col, op, num, slot, cols⟩ a c w h hl hs)
  obtain ⟨_, hnm, hcol, hop, hnum, hcl, hcs⟩ := nums_of_nodeB hb
  simp only at hnm hcol hop hnum hcl hcs
  obtain ⟨r, hr⟩ : ∃ r, r = ndO ⟨3, name, col, op, num, slot, cols⟩ := ⟨_, rfl⟩
  rw [← hr]
  have H := Lib.hid h; have HB := Lib.hid hb
  obtain ⟨V, hv⟩ : ∃ V : ByteArray, V = ⟨#[106, 111, 105, 110]⟩ := ⟨_, rfl⟩
  have VA : Hid (∀ w : World, Calls Tryz.prog 203 #[] w fun e w' => ∃ g, e = .returned (.slice (some ⟨g, 0, none⟩) 8 8) ∧ w'.cell? ⟨g, 3, none⟩ = some (.string V) ∧ Below w.heap.size w w') := fun w => by rw [hv]; exact verb_any 3 _ rfl w
  have hvs : V.size ≤ 6 := by rw [hv]; decide
  have E : Hid (r = V ++ ⟨#[32]⟩ ++ numT col ++ ⟨#[32]⟩ ++ numT num) := by show _ = _; rw [hr, hv]; exact nd3_eq hb
  have NG := Lib.hid (fun (x : Int) (hx : -1000000 ≤ x ∧ x ≤ 1000000) W => num_all x (by omega) (by omega) W)
  have ht := numT_size (x := col) (by omega) (by omega)
  have hu := numT_size (x := num) (by omega) (by omega)
  have e1 : ¬ (9223372036854775807 < V.size + 1) := by omega
  have e2 : ¬ (9223372036854775807 < V.size + 1 + (numT col).size) := by omega
  have e3 : ¬ (9223372036854775807 < V.size + 1 + (numT col).size + 1) := by omega
  have e4 : ¬ (9223372036854775807 < V.size + 1 + (numT col).size + 1 + (numT num).size) := by omega
  have KP : Hid (∀ w4, Below (w.alloc (.cells #[.int .i64 3, .string name, .int .i64 col, .int .i64 op, .int .i64 num, .bool slot, .slice a cols.length c] 92)).heap.size (w.alloc (.cells #[.int .i64 3, .string name, .int .i64 col, .int .i64 op, .int .i64 num, .bool slot, .slice a cols.length c] 92)) w4 → w4.cell? ⟨w.heap.size, 0, none⟩ = some (.int .i64 3) ∧ w4.cell? ⟨w.heap.size, 1, none⟩ = some (.string name) ∧ w4.cell? ⟨w.heap.size, 2, none⟩ = some (.int .i64 col) ∧ w4.cell? ⟨w.heap.size, 3, none⟩ = some (.int .i64 op) ∧ w4.cell? ⟨w.heap.size, 4, none⟩ = some (.int .i64 num) ∧ w4.cell? ⟨w.heap.size, 5, none⟩ = some (.bool slot) ∧ w4.cell? ⟨w.heap.size, 6, none⟩ = some (.slice a cols.length c)) := fun w4 b4 => by
    have hq := fun o => b4.cell (p := ⟨w.heap.size, o, none⟩) (by simp)
    exact ⟨(hq 0).trans ((cell_of_row _ _ _ _ _ _ (heap_alloc_new w _)).trans rfl), (hq 1).trans ((cell_of_row _ _ _ _ _ _ (heap_alloc_new w _)).trans rfl), (hq 2).trans ((cell_of_row _ _ _ _ _ _ (heap_alloc_new w _)).trans rfl), (hq 3).trans ((cell_of_row _ _ _ _ _ _ (heap_alloc_new w _)).trans rfl), (hq 4).trans ((cell_of_row _ _ _ _ _ _ (heap_alloc_new w _)).trans rfl), (hq 5).trans ((cell_of_row _ _ _ _ _ _ (heap_alloc_new w _)).trans rfl), (hq 6).trans ((cell_of_row _ _ _ _ _ _ (heap_alloc_new w _)).trans rfl)⟩
  clear hr hv h hb
  go_enter Tryz.func129, Tryz.ntmps129
  go_wp2_with fail
  refine (NK.out _ (H.out.below ((Below.refl _ w).alloc (Nat.le_refl _) _))).mono ?_
  rintro e w1 ⟨rfl, b1⟩
  rw [HB.out]
  have C1 := Lib.hid b1
  have C2 := Lib.hid b1.drew
  obtain ⟨u0, u1, u2, u3, u4, u5, u6⟩ := KP.out _ b1
  clear b1
  go_wp2_with fail
  go_region_with (first
    | (go_at_call 203; refine (VA.out _).mono ?_; rintro e w3 ⟨g3, rfl, v3, b3⟩; have D3 := Lib.hid (below_step C2.out (Nat.le_refl _) b3); obtain ⟨t0, t1, t2, t3, t4, t5, t6⟩ := KP.out _ D3.out; clear b3))
  all_goals
    have C3 := Lib.hid D3.out
    have C3d := Lib.hid C3.out.drew
    go_wp2_with fail
    go_region_held3 (fun w' => w'.cell? ⟨w.heap.size, 0, none⟩ = some (.int .i64 3) ∧ w'.cell? ⟨w.heap.size, 1, none⟩ = some (.string name) ∧ w'.cell? ⟨w.heap.size, 2, none⟩ = some (.int .i64 col) ∧ w'.cell? ⟨w.heap.size, 3, none⟩ = some (.int .i64 op) ∧ w'.cell? ⟨w.heap.size, 4, none⟩ = some (.int .i64 num) ∧ w'.cell? ⟨w.heap.size, 5, none⟩ = some (.bool slot) ∧ w'.cell? ⟨w.heap.size, 6, none⟩ = some (.slice a cols.length c))
      (first | exact KP.out _ F5 | exact KP.out _ F4 | go_keep)
      (first
        | (go_at_call 148; have := F4; refine (NG.out _ ⟨by omega, by omega⟩ _).mono ?_; rintro e w5 ⟨rfl, b5⟩; have F5 := below_step F4 (Nat.le_refl _) b5)
        | (go_at_call 148; refine (NG.out _ ⟨by omega, by omega⟩ _).mono ?_; rintro e w4 ⟨rfl, b4⟩; have F4 := below_step C3d.out (Nat.le_refl _) b4))
    all_goals
      have C5 := Lib.hid F5
      go_wp2_with fail
      go_ret
      exact ⟨ret_strN E.out.symm, ((Below.refl _ w).alloc (Nat.le_refl _) _).trans (C5.out.mono (by simp))⟩
end Go.Proofs.YtfpbhedophlnkaaGreatDoor
namespace Go.Proofs.YtfpbhedophlnkaaGreatDoor
open Go.RowKit
set_option linter.unusedSimpArgs false
set_option linter.unusedVariables false

theorem specNodeText_any (n : Nd) (a : Option Addr) (c : Nat) (w : World) (h : Rd w .i64 a n.cols) (hl : n.cols.length ≤ maxLen) (hs : n.name.size ≤ maxLen) :
    Calls Tryz.prog 129 #[.agg #[.int .i64 n.kind, .string n.name, .int .i64 n.col, .int .i64 n.op, .int .i64 n.num, .bool n.slot, .slice a n.cols.length c]] w fun e w' => e = .returned (.string (ndO n)) ∧ Below w.heap.size w w' := by
  cases hb : nodeB n with
  | false => exact specNodeText_no n a c w hb h hl hs
  | true =>
    have hk := kind_of_nodeB hb
    obtain ⟨k, name, col, op, num, slot, cols⟩ := n
    simp only at hk h hl hs
    have hc : k = 0 ∨ k = 1 ∨ k = 2 ∨ k = 3 ∨ k = 4 ∨ k = 5 ∨ k = 6 ∨ k = 7 := by omega
    rcases hc with rfl | rfl | rfl | rfl | rfl | rfl | rfl | rfl
    · exact specNodeText0 name col op num slot cols a c w hb h hl hs
    · by_cases ho : op = 3
      · exact specNodeText1n name col op num slot cols a c w hb ho h hl hs
      · exact specNodeText1 name col op num slot cols a c w hb ho h hl hs
    · exact specNodeText2 name col op num slot cols a c w hb h hl hs
    · exact specNodeText3 name col op num slot cols a c w hb h hl hs
    · exact specNodeText4 name col op num slot cols a c w hb h hl hs
    · exact specNodeText5 name col op num slot cols a c w hb h hl hs
    · exact specNodeText6 name col op num slot cols a c w hb h hl hs
    · exact specNodeText7 name col op num slot cols a c w hb h hl hs
end Go.Proofs.YtfpbhedophlnkaaGreatDoor
namespace Go.Proofs.YtfpbhedophlnkaaGreatDoor
open Go.RowKit
set_option linter.unusedSimpArgs false
set_option linter.unusedVariables false

set_option maxRecDepth 100000 in
set_option maxHeartbeats 1600000 in
theorem specPrintPlan_any (ao : Option Addr) (c : Nat) (p : List Nd) (w : World) (h : RdN w ao p) (hp : p.length ≤ 1048576) :
    Calls Tryz.prog 49 #[.slice ao p.length c] w fun e w' => e = .returned (.string (planO p)) ∧ Below w.heap.size w w' := by
  have H := Lib.hid h; clear h
  have PO := Lib.hid (fun w h => specPlanOk_any ao c p w h hp)
  cases hg : planB p with
  | false =>
    rw [planO_no hg]
    rw [hg] at PO
    clear hg
    go_enter Tryz.func49, Tryz.ntmps49
    go_wp2_with fail
    refine (PO.out _ H.out).mono ?_
    rintro e w1 ⟨rfl, b1⟩
    go_wp2_with fail
    go_ret
    exact ⟨rfl, b1⟩
  | true =>
    rw [hg] at PO
    have hl40 := planB_40 hg
    have HG := Lib.hid (planB_nodes hg)
    have E := Lib.hid (planO_yes hg)
    clear hg
    go_enter Tryz.func49, Tryz.ntmps49
    go_wp2_with fail
    refine (PO.out _ H.out).mono ?_
    rintro e w1 ⟨rfl, b1⟩
    have B1 := Lib.hid b1; clear b1
    go_wp2_with fail
    go_loopw [3, 4] (fun s i wr => ∃ (j : Nat) (X : ByteArray), j ≤ p.length ∧ i = .int .i64 j ∧ s = .string X ∧ X.data.toList = joinB 32 ((p.take j).map ndT) ∧ Below w.heap.size w wr) (fun _ i _ => p.length - (intOf i).toNat)
    case atStart => exact ⟨0, _, Nat.zero_le _, rfl, rfl, rfl, B1.out⟩
    case round =>
      obtain ⟨j, X, hj, rfl, rfl, hX, hb⟩ := hrel
      have hxs : X.size ≤ 7080 := by
        have h1 : X.data.toList.length = X.size := by rw [Array.length_toList]; rfl
        have h2 := planT_len (p := p.take j) (fun n hn => HG.out n (List.mem_of_mem_take hn))
        have h3 : (p.take j).length ≤ 40 := by simp; omega
        rw [← h1, hX]; omega
      have HX := Lib.hid hX; have HB := Lib.hid hb; clear hX hb
      by_cases hlt : j < p.length
      · obtain ⟨b, off, n, a, c', rfl, hn, hat⟩ := (H.out.below HB.out).at_ hlt
        have hnb := HG.out n (List.mem_of_getElem? hn)
        have JT := Lib.hid (joinB_take 32 ndT hn)
        have HO := Lib.hid (ndO_list hnb)
        have hns := ndO_size n
        obtain ⟨c0, c1, c2', c3', c4, c5, c6, rd, cap, mx, nm⟩ := hat
        have RD := Lib.hid rd
        have cl := Nat.le_trans cap mx
        clear rd cap mx hnb hn
        have PN := Lib.hid (fun w h => specNodeText_any n a c' w h cl nm)
        generalize ndO n = R at PN HO hns
        have i1 : (j : Int) < (p.length : Int) := by omega
        by_cases h0 : j = 0
        · have Z := Lib.hid h0
          have j0 : ¬ (0 : Int) < (j : Int) := by omega
          have e1 : ¬ (9223372036854775807 < X.size + R.size) := by omega
          clear h0
          go_wp2_with fail
          refine (PN.out _ RD.out).mono ?_
          rintro e w4 ⟨rfl, b4⟩
          have B4 := Lib.hid (below_step HB.out (Nat.le_refl _) b4)
          clear b4 c0 c1 c2' c3' c4 c5 c6
          go_wp2_with fail
          go_roundw
          case rel => exact ⟨j + 1, _, by omega, by go_num, rfl, by rw [JT.out, if_pos Z.out]; have := HX.out; rw [Z.out] at this; simp [joinB] at this; simp [ByteArray.data_append, this, HO.out], B4.out⟩
          case measure => simp [intOf]; omega
        · have Z := Lib.hid h0
          have j0 : (0 : Int) < (j : Int) := by omega
          have e0 : ¬ (9223372036854775807 < X.size + 1) := by omega
          have e1 : ¬ (9223372036854775807 < X.size + 1 + R.size) := by omega
          clear h0
          go_wp2_with fail
          refine (PN.out _ RD.out).mono ?_
          rintro e w4 ⟨rfl, b4⟩
          have B4 := Lib.hid (below_step HB.out (Nat.le_refl _) b4)
          clear b4 c0 c1 c2' c3' c4 c5 c6
          go_wp2_with fail
          go_roundw
          case rel => exact ⟨j + 1, _, by omega, by go_num, rfl, by rw [JT.out, if_neg Z.out, ← HX.out]; simp [ByteArray.data_append, HO.out], B4.out⟩
          case measure => simp [intOf]; omega
      · obtain rfl : j = p.length := by omega
        have XE : Hid (X = planO p) := by
          show _ = _
          rw [E.out]; refine bx ?_
          have := HX.out; rw [List.take_length] at this; exact this
        clear HX
        go_wp2_with fail
        go_ret
        exact ⟨ret_strN XE.out, HB.out⟩
end Go.Proofs.YtfpbhedophlnkaaGreatDoor
