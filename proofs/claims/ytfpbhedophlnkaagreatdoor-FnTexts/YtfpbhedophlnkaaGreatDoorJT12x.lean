/-
  Contracts of spec.l06Num, spec.l06Verbs, spec.l06Ops and spec.NodeText: the node's words; nothing where it is none. For every node. The model's reader of words in whatever state: one contract each of l06Word, l06Bad, l06Int; the two blocks of l06Node beside the reader's; what the node is, step by step, and that it is what a text's node is.
-/
import Derived.Test.YtfpbhedophlnkaaGreatDoorJT9x
import Derived.Test.YtfpbhedophlnkaaGreatDoorJT11x
import Derived.Deep.RegionHeld3
namespace Go.Proofs.YtfpbhedophlnkaaGreatDoor
open Go.RowKit
set_option linter.unusedSimpArgs false
set_option linter.unusedVariables false

theorem ret_strN {X Y : ByteArray} (h : X = Y) : Ending.returned (.string X) = .returned (.string Y) := by rw [h]
theorem verbs_any (w : World) : Calls Tryz.prog 203 #[] w fun e w' => e = .returned (.slice (some ⟨w.heap.size, 0, none⟩) 8 8) ∧ w' = w.alloc (.cells #[.string ⟨#[115, 99, 97, 110]⟩, .string ⟨#[102, 105, 108, 116, 101, 114]⟩, .string ⟨#[107, 101, 101, 112]⟩, .string ⟨#[106, 111, 105, 110]⟩, .string ⟨#[98, 111, 116, 104]⟩, .string ⟨#[115, 111, 114, 116]⟩, .string ⟨#[108, 105, 109, 105, 116]⟩, .string ⟨#[111, 110, 99, 101]⟩] 9) := by
  go_enter Tryz.func203, Tryz.ntmps203
  go_wp2
  go_ret
  exact ⟨rfl, rfl⟩
theorem verb_any (k : Nat) (X : ByteArray) (h : (#[.string ⟨#[115, 99, 97, 110]⟩, .string ⟨#[102, 105, 108, 116, 101, 114]⟩, .string ⟨#[107, 101, 101, 112]⟩, .string ⟨#[106, 111, 105, 110]⟩, .string ⟨#[98, 111, 116, 104]⟩, .string ⟨#[115, 111, 114, 116]⟩, .string ⟨#[108, 105, 109, 105, 116]⟩, .string ⟨#[111, 110, 99, 101]⟩] : Array Value)[k]? = some (.string X)) (w : World) : Calls Tryz.prog 203 #[] w fun e w' => ∃ g, e = .returned (.slice (some ⟨g, 0, none⟩) 8 8) ∧ w'.cell? ⟨g, k, none⟩ = some (.string X) ∧ Below w.heap.size w w' :=
  (verbs_any w).mono fun e w' hh => ⟨w.heap.size, hh.1, by rw [hh.2]; exact (cell_of_row _ _ _ _ _ _ (heap_alloc_new w _)).trans h, by rw [hh.2]; exact (Below.refl _ w).alloc (Nat.le_refl _) _⟩
theorem ops_any (w : World) : Calls Tryz.prog 204 #[] w fun e w' => e = .returned (.slice (some ⟨w.heap.size, 0, none⟩) 4 4) ∧ w' = w.alloc (.cells #[.string ⟨#[61]⟩, .string ⟨#[60]⟩, .string ⟨#[62]⟩, .string ⟨#[110, 111, 110, 101]⟩] 9) := by
  go_enter Tryz.func204, Tryz.ntmps204
  go_wp2
  go_ret
  exact ⟨rfl, rfl⟩
theorem op_any (op : Nat) (h : op ≤ 3) (w : World) : Calls Tryz.prog 204 #[] w fun e w' => ∃ g, e = .returned (.slice (some ⟨g, 0, none⟩) 4 4) ∧ w'.cell? ⟨g, op, none⟩ = some (.string (opB op)) ∧ Below w.heap.size w w' :=
  (ops_any w).mono fun e w' hh => ⟨w.heap.size, hh.1, by
    rw [hh.2]; refine (cell_of_row _ _ _ _ _ _ (heap_alloc_new w _)).trans ?_
    have hc : op = 0 ∨ op = 1 ∨ op = 2 ∨ op = 3 := by omega
    rcases hc with rfl | rfl | rfl | rfl <;> rfl, by rw [hh.2]; exact (Below.refl _ w).alloc (Nat.le_refl _) _⟩
theorem l06Num_any (n : Nd) (a : Option Addr) (c : Nat) (w : World) (h0 : -1000000 ≤ n.num) (h1 : n.num ≤ 1000000) :
    Calls Tryz.prog 205 #[.agg #[.int .i64 n.kind, .string n.name, .int .i64 n.col, .int .i64 n.op, .int .i64 n.num, .bool n.slot, .slice a n.cols.length c]] w fun e w' => e = .returned (.string (litB n.slot n.num)) ∧ Below w.heap.size w w' := by
  obtain ⟨k, name, col, op, num, slot, cols⟩ := n
  simp only at *
  have NA := Lib.hid (fun W => num_all num (by omega) (by omega) W)
  have hsz := numT_size (x := num) (by omega) (by omega)
  have LB : Hid (litB slot num = if slot then ⟨#[36]⟩ ++ numT num else numT num) := rfl
  generalize litB slot num = L at LB ⊢
  generalize numT num = T at NA hsz LB
  have e1 : ¬ (9223372036854775807 < 1 + T.size) := by omega
  cases slot
  · go_enter Tryz.func205, Tryz.ntmps205
    go_wp2_with fail
    refine (NA.out _).mono ?_
    rintro e w1 ⟨rfl, b1⟩
    have B1 := Lib.hid (((Below.refl _ w).alloc (Nat.le_refl _) _).trans (b1.mono (by simp)))
    clear b1
    go_wp2_with fail
    go_ret
    exact ⟨ret_strN LB.out.symm, B1.out⟩
  · go_enter Tryz.func205, Tryz.ntmps205
    go_wp2_with fail
    refine (NA.out _).mono ?_
    rintro e w1 ⟨rfl, b1⟩
    have B1 := Lib.hid (((Below.refl _ w).alloc (Nat.le_refl _) _).trans (b1.mono (by simp)))
    clear b1
    go_wp2_with fail
    go_ret
    exact ⟨ret_strN LB.out.symm, B1.out⟩

theorem specNodeText_no (n : Nd) (a : Option Addr) (c : Nat) (w : World) (hb : nodeB n = false) (h : Rd w .i64 a n.cols) (hl : n.cols.length ≤ maxLen) (hs : n.name.size ≤ maxLen) :
    Calls Tryz.prog 129 #[.agg #[.int .i64 n.kind, .string n.name, .int .i64 n.col, .int .i64 n.op, .int .i64 n.num, .bool n.slot, .slice a n.cols.length c]] w fun e w' => e = .returned (.string (ndO n)) ∧ Below w.heap.size w w' := by
  rw [ndO_no hb]
  have NK := Lib.hid (fun w h => specNodeOk_any n a c w h hl hs)
  have H := Lib.hid h; have HB := Lib.hid hb; clear h hb
  go_enter Tryz.func129, Tryz.ntmps129
  go_wp2_with fail
  refine (NK.out _ (H.out.below ((Below.refl _ w).alloc (Nat.le_refl _) _))).mono ?_
  rintro e w1 ⟨rfl, b1⟩
  rw [HB.out]
  have B1 := Lib.hid (((Below.refl _ w).alloc (Nat.le_refl _) _).trans (b1.mono (by simp)))
  clear b1
  go_wp2_with fail
  go_ret
  exact ⟨rfl, B1.out⟩

set_option maxRecDepth 100000 in
set_option maxHeartbeats 1600000 in
theorem specNodeText0 (name : ByteArray) (col op num : Int) (slot : Bool) (cols : List Int) (a : Option Addr) (c : Nat) (w : World) (hb : nodeB ⟨0, name, col, op, num, slot, cols⟩ = true) (h : Rd w .i64 a cols) (hl : cols.length ≤ maxLen) (hs : name.size ≤ maxLen) :
    Calls Tryz.prog 129 #[.agg #[.int .i64 0, .string name, .int .i64 col, .int .i64 op, .int .i64 num, .bool slot, .slice a cols.length c]] w fun e w' => e = .returned (.string (ndO ⟨0, name, col, op, num, slot, cols⟩)) ∧ Below w.heap.size w w' := by
  have NK := Lib.hid (fun w h => specNodeOk_any ⟨0, name, col, op, num, slot, cols⟩ a c w h hl hs)
  obtain ⟨_, hnm, hcol, hop, hnum, hcl, hcs⟩ := nums_of_nodeB hb
  simp only at hnm hcol hop hnum hcl hcs
  obtain ⟨r, hr⟩ : ∃ r, r = ndO ⟨0, name, col, op, num, slot, cols⟩ := ⟨_, rfl⟩
  rw [← hr]
  have H := Lib.hid h; have HB := Lib.hid hb
  obtain ⟨V, hv⟩ : ∃ V : ByteArray, V = ⟨#[115, 99, 97, 110]⟩ := ⟨_, rfl⟩
  have VA : Hid (∀ w : World, Calls Tryz.prog 203 #[] w fun e w' => ∃ g, e = .returned (.slice (some ⟨g, 0, none⟩) 8 8) ∧ w'.cell? ⟨g, 0, none⟩ = some (.string V) ∧ Below w.heap.size w w') := fun w => by rw [hv]; exact verb_any 0 _ rfl w
  have hvs : V.size ≤ 6 := by rw [hv]; decide
  have E : Hid (r = V ++ ⟨#[32]⟩ ++ name) := by show _ = _; rw [hr, hv]; exact nd0_eq hb
  have e1 : ¬ (9223372036854775807 < V.size + 1) := by omega
  have e2 : ¬ (9223372036854775807 < V.size + 1 + name.size) := by omega
  have KP : Hid (∀ w4, Below (w.alloc (.cells #[.int .i64 0, .string name, .int .i64 col, .int .i64 op, .int .i64 num, .bool slot, .slice a cols.length c] 92)).heap.size (w.alloc (.cells #[.int .i64 0, .string name, .int .i64 col, .int .i64 op, .int .i64 num, .bool slot, .slice a cols.length c] 92)) w4 → w4.cell? ⟨w.heap.size, 0, none⟩ = some (.int .i64 0) ∧ w4.cell? ⟨w.heap.size, 1, none⟩ = some (.string name) ∧ w4.cell? ⟨w.heap.size, 2, none⟩ = some (.int .i64 col) ∧ w4.cell? ⟨w.heap.size, 3, none⟩ = some (.int .i64 op) ∧ w4.cell? ⟨w.heap.size, 4, none⟩ = some (.int .i64 num) ∧ w4.cell? ⟨w.heap.size, 5, none⟩ = some (.bool slot) ∧ w4.cell? ⟨w.heap.size, 6, none⟩ = some (.slice a cols.length c)) := fun w4 b4 => by
    have hq := fun o => b4.cell (p := ⟨w.heap.size, o, none⟩) (by simp)
    exact ⟨(hq 0).trans ((cell_of_row _ _ _ _ _ _ (heap_alloc_new w _)).trans rfl), (hq 1).trans ((cell_of_row _ _ _ _ _ _ (heap_alloc_new w _)).trans rfl), (hq 2).trans ((cell_of_row _ _ _ _ _ _ (heap_alloc_new w _)).trans rfl), (hq 3).trans ((cell_of_row _ _ _ _ _ _ (heap_alloc_new w _)).trans rfl), (hq 4).trans ((cell_of_row _ _ _ _ _ _ (heap_alloc_new w _)).trans rfl), (hq 5).trans ((cell_of_row _ _ _ _ _ _ (heap_alloc_new w _)).trans rfl), (hq 6).trans ((cell_of_row _ _ _ _ _ _ (heap_alloc_new w _)).trans rfl)⟩
  clear hr hv h hb
  go_enter Tryz.func129, Tryz.ntmps129
  go_wp2_with fail
  refine (NK.out _ (H.out.below ((Below.refl _ w).alloc (Nat.le_refl _) _))).mono ?_
  rintro e w1 ⟨rfl, b1⟩
  rw [HB.out]
  have C1 := Lib.hid b1
  have C2 := Lib.hid b1.drew
  obtain ⟨u0, u1, u2, u3, u4, u5, u6⟩ := KP.out _ b1
  clear b1
  go_wp2_with fail
  go_region_with (first
    | (go_at_call 203; refine (VA.out _).mono ?_; rintro e w3 ⟨g3, rfl, v3, b3⟩; have D3 := Lib.hid (below_step C2.out (Nat.le_refl _) b3); obtain ⟨t0, t1, t2, t3, t4, t5, t6⟩ := KP.out _ D3.out; clear b3))
  all_goals
    have C3 := Lib.hid D3.out
    go_wp2_with fail
    go_ret
    exact ⟨ret_strN E.out.symm, by have hz := C3.out.size; exact ((Below.refl _ w).alloc (Nat.le_refl _) _).trans (C3.out.mono (by simp))⟩

set_option maxRecDepth 100000 in
set_option maxHeartbeats 1600000 in
theorem specNodeText4 (name : ByteArray) (col op num : Int) (slot : Bool) (cols : List Int) (a : Option Addr) (c : Nat) (w : World) (hb : nodeB ⟨4, name, col, op, num, slot, cols⟩ = true) (h : Rd w .i64 a cols) (hl : cols.length ≤ maxLen) (hs : name.size ≤ maxLen) :
    Calls Tryz.prog 129 #[.agg #[.int .i64 4, .string name, .int .i64 col, .int .i64 op, .int .i64 num, .bool slot, .slice a cols.length c]] w fun e w' => e = .returned (.string (ndO ⟨4, name, col, op, num, slot, cols⟩)) ∧ Below w.heap.size w w' := by
  have NK := Lib.hid (fun w h => specNodeOk_any ⟨4, name, col, op, num, slot, cols⟩ a c w h hl hs)
  obtain ⟨_, hnm, hcol, hop, hnum, hcl, hcs⟩ := nums_of_nodeB hb
  simp only at hnm hcol hop hnum hcl hcs
  obtain ⟨r, hr⟩ : ∃ r, r = ndO ⟨4, name, col, op, num, slot, cols⟩ := ⟨_, rfl⟩
  rw [← hr]
  have H := Lib.hid h; have HB := Lib.hid hb
  obtain ⟨V, hv⟩ : ∃ V : ByteArray, V = ⟨#[98, 111, 116, 104]⟩ := ⟨_, rfl⟩
  have VA : Hid (∀ w : World, Calls Tryz.prog 203 #[] w fun e w' => ∃ g, e = .returned (.slice (some ⟨g, 0, none⟩) 8 8) ∧ w'.cell? ⟨g, 4, none⟩ = some (.string V) ∧ Below w.heap.size w w') := fun w => by rw [hv]; exact verb_any 4 _ rfl w
  have hvs : V.size ≤ 6 := by rw [hv]; decide
  have E : Hid (r = V) := by show _ = _; rw [hr, hv]; exact nd4_eq hb
  have KP : Hid (∀ w4, Below (w.alloc (.cells #[.int .i64 4, .string name, .int .i64 col, .int .i64 op, .int .i64 num, .bool slot, .slice a cols.length c] 92)).heap.size (w.alloc (.cells #[.int .i64 4, .string name, .int .i64 col, .int .i64 op, .int .i64 num, .bool slot, .slice a cols.length c] 92)) w4 → w4.cell? ⟨w.heap.size, 0, none⟩ = some (.int .i64 4) ∧ w4.cell? ⟨w.heap.size, 1, none⟩ = some (.string name) ∧ w4.cell? ⟨w.heap.size, 2, none⟩ = some (.int .i64 col) ∧ w4.cell? ⟨w.heap.size, 3, none⟩ = some (.int .i64 op) ∧ w4.cell? ⟨w.heap.size, 4, none⟩ = some (.int .i64 num) ∧ w4.cell? ⟨w.heap.size, 5, none⟩ = some (.bool slot) ∧ w4.cell? ⟨w.heap.size, 6, none⟩ = some (.slice a cols.length c)) := fun w4 b4 => by
    have hq := fun o => b4.cell (p := ⟨w.heap.size, o, none⟩) (by simp)
    exact ⟨(hq 0).trans ((cell_of_row _ _ _ _ _ _ (heap_alloc_new w _)).trans rfl), (hq 1).trans ((cell_of_row _ _ _ _ _ _ (heap_alloc_new w _)).trans rfl), (hq 2).trans ((cell_of_row _ _ _ _ _ _ (heap_alloc_new w _)).trans rfl), (hq 3).trans ((cell_of_row _ _ _ _ _ _ (heap_alloc_new w _)).trans rfl), (hq 4).trans ((cell_of_row _ _ _ _ _ _ (heap_alloc_new w _)).trans rfl), (hq 5).trans ((cell_of_row _ _ _ _ _ _ (heap_alloc_new w _)).trans rfl), (hq 6).trans ((cell_of_row _ _ _ _ _ _ (heap_alloc_new w _)).trans rfl)⟩
  clear hr hv h hb
  go_enter Tryz.func129, Tryz.ntmps129
  go_wp2_with fail
  refine (NK.out _ (H.out.below ((Below.refl _ w).alloc (Nat.le_refl _) _))).mono ?_
  rintro e w1 ⟨rfl, b1⟩
  rw [HB.out]
  have C1 := Lib.hid b1
  have C2 := Lib.hid b1.drew
  obtain ⟨u0, u1, u2, u3, u4, u5, u6⟩ := KP.out _ b1
  clear b1
  go_wp2_with fail
  go_region_with (first
    | (go_at_call 203; refine (VA.out _).mono ?_; rintro e w3 ⟨g3, rfl, v3, b3⟩; have D3 := Lib.hid (below_step C2.out (Nat.le_refl _) b3); obtain ⟨t0, t1, t2, t3, t4, t5, t6⟩ := KP.out _ D3.out; clear b3))
  all_goals
    have C3 := Lib.hid D3.out
    go_wp2_with fail
    go_ret
    exact ⟨ret_strN E.out.symm, ((Below.refl _ w).alloc (Nat.le_refl _) _).trans (C3.out.mono (by simp))⟩

set_option maxRecDepth 100000 in
set_option maxHeartbeats 1600000 in
theorem specNodeText7 (name : ByteArray) (col op num : Int) (slot : Bool) (cols : List Int) (a : Option Addr) (c : Nat) (w : World) (hb : nodeB ⟨7, name, col, op, num, slot, cols⟩ = true) (h : Rd w .i64 a cols) (hl : cols.length ≤ maxLen) (hs : name.size ≤ maxLen) :
    Calls Tryz.prog 129 #[.agg #[.int .i64 7, .string name, .int .i64 col, .int .i64 op, .int .i64 num, .bool slot, .slice a cols.length c]] w fun e w' => e = .returned (.string (ndO ⟨7, name, col, op, num, slot, cols⟩)) ∧ Below w.heap.size w w' := by
  have NK := Lib.hid (fun w h => specNodeOk_any ⟨7, name, col, op, num, slot, cols⟩ a c w h hl hs)
  obtain ⟨_, hnm, hcol, hop, hnum, hcl, hcs⟩ := nums_of_nodeB hb
  simp only at hnm hcol hop hnum hcl hcs
  obtain ⟨r, hr⟩ : ∃ r, r = ndO ⟨7, name, col, op, num, slot, cols⟩ := ⟨_, rfl⟩
  rw [← hr]
  have H := Lib.hid h; have HB := Lib.hid hb
  obtain ⟨V, hv⟩ : ∃ V : ByteArray, V = ⟨#[111, 110, 99, 101]⟩ := ⟨_, rfl⟩
  have VA : Hid (∀ w : World, Calls Tryz.prog 203 #[] w fun e w' => ∃ g, e = .returned (.slice (some ⟨g, 0, none⟩) 8 8) ∧ w'.cell? ⟨g, 7, none⟩ = some (.string V) ∧ Below w.heap.size w w') := fun w => by rw [hv]; exact verb_any 7 _ rfl w
  have hvs : V.size ≤ 6 := by rw [hv]; decide
  have E : Hid (r = V) := by show _ = _; rw [hr, hv]; exact nd7_eq hb
  have KP : Hid (∀ w4, Below (w.alloc (.cells #[.int .i64 7, .string name, .int .i64 col, .int .i64 op, .int .i64 num, .bool slot, .slice a cols.length c] 92)).heap.size (w.alloc (.cells #[.int .i64 7, .string name, .int .i64 col, .int .i64 op, .int .i64 num, .bool slot, .slice a cols.length c] 92)) w4 → w4.cell? ⟨w.heap.size, 0, none⟩ = some (.int .i64 7) ∧ w4.cell? ⟨w.heap.size, 1, none⟩ = some (.string name) ∧ w4.cell? ⟨w.heap.size, 2, none⟩ = some (.int .i64 col) ∧ w4.cell? ⟨w.heap.size, 3, none⟩ = some (.int .i64 op) ∧ w4.cell? ⟨w.heap.size, 4, none⟩ = some (.int .i64 num) ∧ w4.cell? ⟨w.heap.size, 5, none⟩ = some (.bool slot) ∧ w4.cell? ⟨w.heap.size, 6, none⟩ = some (.slice a cols.length c)) := fun w4 b4 => by
    have hq := fun o => b4.cell (p := ⟨w.heap.size, o, none⟩) (by simp)
    exact ⟨(hq 0).trans ((cell_of_row _ _ _ _ _ _ (heap_alloc_new w _)).trans rfl), (hq 1).trans ((cell_of_row _ _ _ _ _ _ (heap_alloc_new w _)).trans rfl), (hq 2).trans ((cell_of_row _ _ _ _ _ _ (heap_alloc_new w _)).trans rfl), (hq 3).trans ((cell_of_row _ _ _ _ _ _ (heap_alloc_new w _)).trans rfl), (hq 4).trans ((cell_of_row _ _ _ _ _ _ (heap_alloc_new w _)).trans rfl), (hq 5).trans ((cell_of_row _ _ _ _ _ _ (heap_alloc_new w _)).trans rfl), (hq 6).trans ((cell_of_row _ _ _ _ _ _ (heap_alloc_new w _)).trans rfl)⟩
  clear hr hv h hb
  go_enter Tryz.func129, Tryz.ntmps129
  go_wp2_with fail
  refine (NK.out _ (H.out.below ((Below.refl _ w).alloc (Nat.le_refl _) _))).mono ?_
  rintro e w1 ⟨rfl, b1⟩
  rw [HB.out]
  have C1 := Lib.hid b1
  have C2 := Lib.hid b1.drew
  obtain ⟨u0, u1, u2, u3, u4, u5, u6⟩ := KP.out _ b1
  clear b1
  go_wp2_with fail
  go_region_with (first
    | (go_at_call 203; refine (VA.out _).mono ?_; rintro e w3 ⟨g3, rfl, v3, b3⟩; have D3 := Lib.hid (below_step C2.out (Nat.le_refl _) b3); obtain ⟨t0, t1, t2, t3, t4, t5, t6⟩ := KP.out _ D3.out; clear b3))
  all_goals
    have C3 := Lib.hid D3.out
    go_wp2_with fail
    go_ret
    exact ⟨ret_strN E.out.symm, ((Below.refl _ w).alloc (Nat.le_refl _) _).trans (C3.out.mono (by simp))⟩

set_option maxRecDepth 100000 in
set_option maxHeartbeats 1600000 in
theorem specNodeText5 (name : ByteArray) (col op num : Int) (slot : Bool) (cols : List Int) (a : Option Addr) (c : Nat) (w : World) (hb : nodeB ⟨5, name, col, op, num, slot, cols⟩ = true) (h : Rd w .i64 a cols) (hl : cols.length ≤ maxLen) (hs : name.size ≤ maxLen) :
    Calls Tryz.prog 129 #[.agg #[.int .i64 5, .string name, .int .i64 col, .int .i64 op, .int .i64 num, .bool slot, .slice a cols.length c]] w fun e w' => e = .returned (.string (ndO ⟨5, name, col, op, num, slot, cols⟩)) ∧ Below w.heap.size w w' := by
  have NK := Lib.hid (fun w h => specNodeOk_any ⟨5, name, col, op, num, slot, cols⟩ a c w h hl hs)
  obtain ⟨_, hnm, hcol, hop, hnum, hcl, hcs⟩ := nums_of_nodeB hb
  simp only at hnm hcol hop hnum hcl hcs
  obtain ⟨r, hr⟩ : ∃ r, r = ndO ⟨5, name, col, op, num, slot, cols⟩ := ⟨_, rfl⟩
  rw [← hr]
  have H := Lib.hid h; have HB := Lib.hid hb
  obtain ⟨V, hv⟩ : ∃ V : ByteArray, V = ⟨#[115, 111, 114, 116]⟩ := ⟨_, rfl⟩
  have VA : Hid (∀ w : World, Calls Tryz.prog 203 #[] w fun e w' => ∃ g, e = .returned (.slice (some ⟨g, 0, none⟩) 8 8) ∧ w'.cell? ⟨g, 5, none⟩ = some (.string V) ∧ Below w.heap.size w w') := fun w => by rw [hv]; exact verb_any 5 _ rfl w
  have hvs : V.size ≤ 6 := by rw [hv]; decide
  have E : Hid (r = V ++ ⟨#[32]⟩ ++ numT col) := by show _ = _; rw [hr, hv]; exact nd5_eq hb
  have NA := Lib.hid (fun W => num_all col (by omega) (by omega) W)
  have ht := numT_size (x := col) (by omega) (by omega)
  generalize numT col = Tc at E NA ht
  have e1 : ¬ (9223372036854775807 < V.size + 1) := by omega
  have e2 : ¬ (9223372036854775807 < V.size + 1 + Tc.size) := by omega
  have KP : Hid (∀ w4, Below (w.alloc (.cells #[.int .i64 5, .string name, .int .i64 col, .int .i64 op, .int .i64 num, .bool slot, .slice a cols.length c] 92)).heap.size (w.alloc (.cells #[.int .i64 5, .string name, .int .i64 col, .int .i64 op, .int .i64 num, .bool slot, .slice a cols.length c] 92)) w4 → w4.cell? ⟨w.heap.size, 0, none⟩ = some (.int .i64 5) ∧ w4.cell? ⟨w.heap.size, 1, none⟩ = some (.string name) ∧ w4.cell? ⟨w.heap.size, 2, none⟩ = some (.int .i64 col) ∧ w4.cell? ⟨w.heap.size, 3, none⟩ = some (.int .i64 op) ∧ w4.cell? ⟨w.heap.size, 4, none⟩ = some (.int .i64 num) ∧ w4.cell? ⟨w.heap.size, 5, none⟩ = some (.bool slot) ∧ w4.cell? ⟨w.heap.size, 6, none⟩ = some (.slice a cols.length c)) := fun w4 b4 => by
    have hq := fun o => b4.cell (p := ⟨w.heap.size, o, none⟩) (by simp)
    exact ⟨(hq 0).trans ((cell_of_row _ _ _ _ _ _ (heap_alloc_new w _)).trans rfl), (hq 1).trans ((cell_of_row _ _ _ _ _ _ (heap_alloc_new w _)).trans rfl), (hq 2).trans ((cell_of_row _ _ _ _ _ _ (heap_alloc_new w _)).trans rfl), (hq 3).trans ((cell_of_row _ _ _ _ _ _ (heap_alloc_new w _)).trans rfl), (hq 4).trans ((cell_of_row _ _ _ _ _ _ (heap_alloc_new w _)).trans rfl), (hq 5).trans ((cell_of_row _ _ _ _ _ _ (heap_alloc_new w _)).trans rfl), (hq 6).trans ((cell_of_row _ _ _ _ _ _ (heap_alloc_new w _)).trans rfl)⟩
  clear hr hv h hb
  go_enter Tryz.func129, Tryz.ntmps129
  go_wp2_with fail
  refine (NK.out _ (H.out.below ((Below.refl _ w).alloc (Nat.le_refl _) _))).mono ?_
  rintro e w1 ⟨rfl, b1⟩
  rw [HB.out]
  have C1 := Lib.hid b1
  have C2 := Lib.hid b1.drew
  obtain ⟨u0, u1, u2, u3, u4, u5, u6⟩ := KP.out _ b1
  clear b1
  go_wp2_with fail
  go_region_with (first
    | (go_at_call 203; refine (VA.out _).mono ?_; rintro e w3 ⟨g3, rfl, v3, b3⟩; have D3 := Lib.hid (below_step C2.out (Nat.le_refl _) b3); obtain ⟨t0, t1, t2, t3, t4, t5, t6⟩ := KP.out _ D3.out; clear b3))
  all_goals
    have C3 := Lib.hid D3.out
    go_wp2_with fail
    refine (NA.out _).mono ?_
    rintro e w4 ⟨rfl, b4⟩
    have C4 := Lib.hid (below_step C3.out (Nat.le_refl _) b4)
    clear b4
    go_wp2_with fail
    go_ret
    exact ⟨ret_strN E.out.symm, ((Below.refl _ w).alloc (Nat.le_refl _) _).trans (C4.out.mono (by simp))⟩

set_option maxRecDepth 100000 in
set_option maxHeartbeats 1600000 in
theorem specNodeText6 (name : ByteArray) (col op num : Int) (slot : Bool) (cols : List Int) (a : Option Addr) (c : Nat) (w : World) (hb : nodeB ⟨6, name, col, op, num, slot, cols⟩ = true) (h : Rd w .i64 a cols) (hl : cols.length ≤ maxLen) (hs : name.size ≤ maxLen) :
    Calls Tryz.prog 129 #[.agg #[.int .i64 6, .string name, .int .i64 col, .int .i64 op, .int .i64 num, .bool slot, .slice a cols.length c]] w fun e w' => e = .returned (.string (ndO ⟨6, name, col, op, num, slot, cols⟩)) ∧ Below w.heap.size w w' := by
  have NK := Lib.hid (fun w h => specNodeOk_any ⟨6, name, col, op, num, slot, cols⟩ a c w h hl hs)
  obtain ⟨_, hnm, hcol, hop, hnum, hcl, hcs⟩ := nums_of_nodeB hb
  simp only at hnm hcol hop hnum hcl hcs
  obtain ⟨r, hr⟩ : ∃ r, r = ndO ⟨6, name, col, op, num, slot, cols⟩ := ⟨_, rfl⟩
  rw [← hr]
  have H := Lib.hid h; have HB := Lib.hid hb
  obtain ⟨V, hv⟩ : ∃ V : ByteArray, V = ⟨#[108, 105, 109, 105, 116]⟩ := ⟨_, rfl⟩
  have VA : Hid (∀ w : World, Calls Tryz.prog 203 #[] w fun e w' => ∃ g, e = .returned (.slice (some ⟨g, 0, none⟩) 8 8) ∧ w'.cell? ⟨g, 6, none⟩ = some (.string V) ∧ Below w.heap.size w w') := fun w => by rw [hv]; exact verb_any 6 _ rfl w
  have hvs : V.size ≤ 6 := by rw [hv]; decide
  have E : Hid (r = V ++ ⟨#[32]⟩ ++ litB slot num) := by show _ = _; rw [hr, hv]; exact nd6_eq hb
  have NA := Lib.hid (fun W => l06Num_any ⟨6, name, col, op, num, slot, cols⟩ a c W hnum.1 hnum.2)
  have ht := litB_size (s := slot) hnum.1 hnum.2
  simp only at NA
  generalize litB slot num = Tc at E NA ht
  have e1 : ¬ (9223372036854775807 < V.size + 1) := by omega
  have e2 : ¬ (9223372036854775807 < V.size + 1 + Tc.size) := by omega
  have KP : Hid (∀ w4, Below (w.alloc (.cells #[.int .i64 6, .string name, .int .i64 col, .int .i64 op, .int .i64 num, .bool slot, .slice a cols.length c] 92)).heap.size (w.alloc (.cells #[.int .i64 6, .string name, .int .i64 col, .int .i64 op, .int .i64 num, .bool slot, .slice a cols.length c] 92)) w4 → w4.cell? ⟨w.heap.size, 0, none⟩ = some (.int .i64 6) ∧ w4.cell? ⟨w.heap.size, 1, none⟩ = some (.string name) ∧ w4.cell? ⟨w.heap.size, 2, none⟩ = some (.int .i64 col) ∧ w4.cell? ⟨w.heap.size, 3, none⟩ = some (.int .i64 op) ∧ w4.cell? ⟨w.heap.size, 4, none⟩ = some (.int .i64 num) ∧ w4.cell? ⟨w.heap.size, 5, none⟩ = some (.bool slot) ∧ w4.cell? ⟨w.heap.size, 6, none⟩ = some (.slice a cols.length c)) := fun w4 b4 => by
    have hq := fun o => b4.cell (p := ⟨w.heap.size, o, none⟩) (by simp)
    exact ⟨(hq 0).trans ((cell_of_row _ _ _ _ _ _ (heap_alloc_new w _)).trans rfl), (hq 1).trans ((cell_of_row _ _ _ _ _ _ (heap_alloc_new w _)).trans rfl), (hq 2).trans ((cell_of_row _ _ _ _ _ _ (heap_alloc_new w _)).trans rfl), (hq 3).trans ((cell_of_row _ _ _ _ _ _ (heap_alloc_new w _)).trans rfl), (hq 4).trans ((cell_of_row _ _ _ _ _ _ (heap_alloc_new w _)).trans rfl), (hq 5).trans ((cell_of_row _ _ _ _ _ _ (heap_alloc_new w _)).trans rfl), (hq 6).trans ((cell_of_row _ _ _ _ _ _ (heap_alloc_new w _)).trans rfl)⟩
  clear hr hv h hb
  go_enter Tryz.func129, Tryz.ntmps129
  go_wp2_with fail
  refine (NK.out _ (H.out.below ((Below.refl _ w).alloc (Nat.le_refl _) _))).mono ?_
  rintro e w1 ⟨rfl, b1⟩
  rw [HB.out]
  have C1 := Lib.hid b1
  have C2 := Lib.hid b1.drew
  obtain ⟨u0, u1, u2, u3, u4, u5, u6⟩ := KP.out _ b1
  clear b1
  go_wp2_with fail
  go_region_with (first
    | (go_at_call 203; refine (VA.out _).mono ?_; rintro e w3 ⟨g3, rfl, v3, b3⟩; have D3 := Lib.hid (below_step C2.out (Nat.le_refl _) b3); obtain ⟨t0, t1, t2, t3, t4, t5, t6⟩ := KP.out _ D3.out; clear b3))
  all_goals
    have C3 := Lib.hid D3.out
    go_wp2_with fail
    refine (NA.out _).mono ?_
    rintro e w4 ⟨rfl, b4⟩
    have C4 := Lib.hid (below_step C3.out (Nat.le_refl _) b4)
    clear b4
    go_wp2_with fail
    go_ret
    exact ⟨ret_strN E.out.symm, ((Below.refl _ w).alloc (Nat.le_refl _) _).trans (C4.out.mono (by simp))⟩
end Go.Proofs.YtfpbhedophlnkaaGreatDoor
namespace Go.Proofs.YtfpbhedophlnkaaGreatDoor
open Go.RowKit
set_option linter.unusedSimpArgs false
set_option linter.unusedVariables false

def wordS (ws : List ByteArray) (s : Nat × Bool) : ByteArray × (Nat × Bool) :=
  if s.2 = true then (⟨#[]⟩, s) else match ws[s.1]? with | none => (⟨#[]⟩, s.1, true) | some x => (x, s.1 + 1, false)
def badS (s : Nat × Bool) : Nat × Bool := if s.2 = true then s else (s.1 - 1, true)
noncomputable def intS (slot : Bool) (ws : List ByteArray) (s : Nat × Bool) : (Int × Bool) × (Nat × Bool) :=
  if s.2 = true then ((0, false), s) else match intQ slot ws s.1 with | none => ((0, false), s.1, true) | some x => (x, s.1 + 1, false)
section
variable {R c : Nat} {ao : Option Addr} {ws : List ByteArray}
theorem wordS_any (s : Nat × Bool) (w : World) (h : Lrd w R ao c ws s.1 s.2) :
    Calls Tryz.prog 211 #[.pointer (some ⟨R, 0, none⟩)] w (TookL6 (.string (wordS ws s).1) R ao c ws (wordS ws s).2.1 (wordS ws s).2.2 w) := by
  obtain ⟨p, f⟩ := s
  cases f with
  | true => simpa [wordS] using l06Word_fail w h
  | false =>
    cases hx : ws[p]? with
    | none => simpa [wordS, hx] using l06Word_end w h hx
    | some x => simpa [wordS, hx] using l06Word_yes w h hx
theorem badS_any (s : Nat × Bool) (w : World) (h : Lrd w R ao c ws s.1 s.2) (hp : s.2 = false → 1 ≤ s.1) :
    Calls Tryz.prog 212 #[.pointer (some ⟨R, 0, none⟩)] w (TookL6 (.tuple #[]) R ao c ws (badS s).1 (badS s).2 w) := by
  obtain ⟨p, f⟩ := s
  cases f with
  | true => simpa [badS] using l06Bad_fail w h
  | false =>
    have h1 := hp rfl
    obtain ⟨q, rfl⟩ : ∃ q, p = q + 1 := ⟨p - 1, by simp at h1; omega⟩
    simpa [badS] using l06Bad_yes w h
theorem intS_any (slot : Bool) (s : Nat × Bool) (w : World) (hw : Wds ws) (h : Lrd w R ao c ws s.1 s.2) :
    Calls Tryz.prog 213 #[.pointer (some ⟨R, 0, none⟩), .bool slot] w (TookL6 (.tuple #[.int .i64 (intS slot ws s).1.1, .bool (intS slot ws s).1.2]) R ao c ws (intS slot ws s).2.1 (intS slot ws s).2.2 w) := by
  obtain ⟨p, f⟩ := s
  cases f with
  | true => simpa [intS] using l06Int_fail slot w h
  | false =>
    have H := l06Int_any slot w hw h
    cases hx : intQ slot ws p with
    | none => rw [hx] at H; simp only [intS, hx]; exact H
    | some x => rw [hx] at H; simp only [intS, hx]; exact H
theorem Lrd.belowB {w w' : World} {B p : Nat} {f : Bool} (h : Lrd w R ao c ws p f) (hR : R < B) (hB : ∀ a, ao = some a → ws ≠ [] → a.block < B) (hb : Below B w w') : Lrd w' R ao c ws p f := by
  obtain ⟨hh, hr, hp, hne, h2⟩ := h
  refine ⟨(hb.block R hR).trans hh, ?_, hp, hne, h2⟩
  rcases hr with rfl | ⟨b1, off, rfl, hc⟩
  · exact .inl rfl
  · by_cases hl : ws = []
    · exact .inl hl
    · exact .inr ⟨b1, off, rfl, fun i hi => (hb.cell (p := ⟨b1, off + i, none⟩) (hB ⟨b1, off, none⟩ rfl hl)).trans (hc i hi)⟩
theorem Lrd.words {w : World} {p : Nat} {f : Bool} (h : Lrd w R ao c ws p f) : ∀ a, ao = some a → ws ≠ [] → a.block < w.heap.size := by
  obtain ⟨hh, hr, _⟩ := h
  intro a ha hne
  rcases hr with rfl | ⟨b1, off, rfl, hc⟩
  · exact absurd rfl hne
  · cases ha
    have hpos : 0 < ws.length := Nat.pos_of_ne_zero (fun e => hne (List.eq_nil_of_length_eq_zero e))
    exact World.block_lt_of_cell? w ⟨b1, off + 0, none⟩ (hc 0 hpos)
end
/-- The model's node under way: the reader in R, the answer's block A, the node's block B; nothing else of what was there has turned. -/
structure NI (w : World) (R : Nat) (ao : Option Addr) (c : Nat) (ws : List ByteArray) (B : Nat) (v0 v1 v2 v3 v4 v5 v6 : Value) (s : Nat × Bool) (W : World) : Prop where
  lrd : Lrd W R ao c ws s.1 s.2
  ra : W.heap[w.heap.size]? = some (.cells #[.int .i64 0, .string ⟨#[]⟩, .int .i64 0, .int .i64 0, .int .i64 0, .bool false, .slice none 0 0] 92 (0, 0))
  rb : W.heap[B]? = some (.cells #[v0, v1, v2, v3, v4, v5, v6] 92 (0, 0))
  gr : w.grownBy W (some R)
  hR : R < w.heap.size
  hw : ∀ a, ao = some a → ws ≠ [] → a.block < w.heap.size
  hB : w.heap.size < B
section
variable {w W W' : World} {R c B : Nat} {ao : Option Addr} {ws : List ByteArray} {v0 v1 v2 v3 v4 v5 v6 : Value} {s s' : Nat × Bool}
theorem NI.call (h : NI w R ao c ws B v0 v1 v2 v3 v4 v5 v6 s W) (hl : Lrd W' R ao c ws s'.1 s'.2) (hg : W.grownBy W' (some R)) : NI w R ao c ws B v0 v1 v2 v3 v4 v5 v6 s' W' :=
  ⟨hl, (hg.block _ (Array.getElem?_eq_some_iff.1 h.ra).1 (by simp; have := h.hR; omega)).trans h.ra, (hg.block _ (Array.getElem?_eq_some_iff.1 h.rb).1 (by simp; have := h.hR; have := h.hB; omega)).trans h.rb, grownBy_trans h.gr hg, h.hR, h.hw, h.hB⟩
theorem NI.below (h : NI w R ao c ws B v0 v1 v2 v3 v4 v5 v6 s W) (hb : Below W.heap.size W W') : NI w R ao c ws B v0 v1 v2 v3 v4 v5 v6 s W' :=
  ⟨h.lrd.below hb, (hb.block _ (Array.getElem?_eq_some_iff.1 h.ra).1).trans h.ra, (hb.block _ (Array.getElem?_eq_some_iff.1 h.rb).1).trans h.rb, grownBy_below h.gr hb, h.hR, h.hw, h.hB⟩
theorem NI.lt (h : NI w R ao c ws B v0 v1 v2 v3 v4 v5 v6 s W) : B < W.heap.size ∧ w.heap.size < B ∧ R < w.heap.size := ⟨(Array.getElem?_eq_some_iff.1 h.rb).1, h.hB, h.hR⟩
theorem NI.set (h : NI w R ao c ws B v0 v1 v2 v3 v4 v5 v6 s W) (i : Nat) (v : Value) {u0 u1 u2 u3 u4 u5 u6 : Value} (he : (#[v0, v1, v2, v3, v4, v5, v6] : Array Value).setIfInBounds i v = #[u0, u1, u2, u3, u4, u5, u6]) : NI w R ao c ws B u0 u1 u2 u3 u4 u5 u6 s (W.setCell ⟨B, i, none⟩ v) := by
  have hb : Below w.heap.size W (W.setCell ⟨B, i, none⟩ v) := (Below.refl _ W).setCell (by have := h.hB; simp; omega) v
  have h1 := h.hB
  refine ⟨h.lrd.belowB h.hR h.hw hb, ?_, ?_, ⟨hb.os.trans h.gr.os, hb.tape.trans h.gr.tape, hb.output.trans h.gr.output, Nat.le_trans h.gr.size hb.size, fun i hi hne => (hb.block i hi).trans (h.gr.block i hi hne)⟩, h.hR, h.hw, h.hB⟩
  · rw [heap_setCell_other _ _ _ _ (by simp; omega)]; exact h.ra
  · rw [heap_setCell_same W B i _ _ v h.rb, he]
end
end Go.Proofs.YtfpbhedophlnkaaGreatDoor
