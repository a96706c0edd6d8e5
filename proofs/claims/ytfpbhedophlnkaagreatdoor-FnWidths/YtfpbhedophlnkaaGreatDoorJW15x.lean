/-
  Contract of impl.NodeOk at some of the kinds. For every node of them. Contract of impl.NodeOk: it answers whether the node is one. For every node.
-/
import Derived.Test.YtfpbhedophlnkaaGreatDoorJW13x
import Derived.Test.YtfpbhedophlnkaaGreatDoorJW14x
namespace Go.Proofs.YtfpbhedophlnkaaGreatDoor
open Go.RowKit
set_option linter.unusedSimpArgs false
set_option linter.unusedVariables false


set_option maxRecDepth 100000 in
set_option maxHeartbeats 1600000 in
theorem implNodeOk6t (name : ByteArray) (col op num : Int) (slot : Bool) (cols : List Int) (a : Option Addr) (c : Nat) (w : World) (hfit : (fitL num slot) = true) (h : Rd w .i64 a cols) (hl : cols.length ≤ maxLen) (hm : cols.length ≤ 17592186044416) (hs : name.size ≤ maxLen) :
    Calls Tryz.prog 194 #[.agg #[.int .i64 6, .string name, .int .i64 col, .int .i64 op, .int .i64 num, .bool slot, .slice a cols.length c]] w fun e w' => e = .returned (.bool (eqN ⟨6, ⟨#[]⟩, 0, 0, num, slot, []⟩ ⟨6, name, col, op, num, slot, cols⟩)) ∧ Below w.heap.size w w' := by
  have H := Lib.hid h; clear h
  have hk := Lib.hid (kindOf_any ⟨6, name, col, op, num, slot, cols⟩ a c)
  have HF := Lib.hid hfit; clear hfit
  have m1 := Tryz.fits_limitNode
  have m2 := Tryz.told_limitNode
  rw [Tryz.underlying94] at m1 m2
  simp [mName] at m1 m2
  go_enter Tryz.func194, Tryz.ntmps194
  go_wp2_with fail
  refine (hk.out _).mono ?_
  rintro e w1 ⟨rfl, b1⟩
  simp only [kindV, Int.reduceEq, if_false, if_true]
  have hq1 := fun o => b1.cell (p := ⟨w.heap.size, o, none⟩) (by simp)
  have B1 := Lib.hid (((Below.refl _ w).alloc (Nat.le_refl _) _).trans (b1.mono (by simp)))
  have C1 := Lib.hid b1
  have R1 := Lib.hid (show Rd w1.drew .i64 a cols from H.out.below B1.out.drew)
  clear b1
  go_wp2_with fail
  first | go_region_with (first
    | (go_at_call 371; refine (fitsLimit_any _ _ _).mono ?_; rintro e w2 ⟨rfl, b2⟩; rw [HF.out]; have C2 := Lib.hid (below_step C1.out.drew (Nat.le_refl _) b2); have hq2 := fun o => C2.out.cell (p := ⟨w.heap.size, o, none⟩) (by simp); have T2 := Lib.hid (below_step B1.out.drew (Nat.le_refl _) b2); have R2 := Lib.hid (H.out.below T2.out); clear b2)
    | (go_at_call 372; refine (toldLimit_any _ _ _).mono ?_; rintro e w3 ⟨a3, c3, rfl, r3, b3⟩; have C3 := Lib.hid (below_step C2.out (Nat.le_refl _) b3); have hq3 := fun o => C3.out.cell (p := ⟨w.heap.size, o, none⟩) (by simp); have T3 := Lib.hid (below_step T2.out (Nat.le_refl _) b3); have R3 := Lib.hid (H.out.below T3.out); have Q3 := Lib.hid r3; clear b3 r3)
    | (go_at_call 123; refine (sameNode_any ⟨6, ⟨#[]⟩, 0, 0, num, slot, []⟩ ⟨6, name, col, op, num, slot, cols⟩ _ _ _ _ _ Q3.out R3.out (by first | exact hl | exact Nat.zero_le _) hl).mono ?_; rintro e w4 ⟨rfl, b4⟩; have T4 := Lib.hid (below_step T3.out (Nat.le_refl _) b4); clear b4)) | fail
  all_goals
    go_wp2
    go_ret
    exact ⟨rfl, T4.out⟩

set_option maxRecDepth 100000 in
set_option maxHeartbeats 1600000 in
theorem implNodeOk6f (name : ByteArray) (col op num : Int) (slot : Bool) (cols : List Int) (a : Option Addr) (c : Nat) (w : World) (hfit : (fitL num slot) = false) (h : Rd w .i64 a cols) (hl : cols.length ≤ maxLen) (hm : cols.length ≤ 17592186044416) (hs : name.size ≤ maxLen) :
    Calls Tryz.prog 194 #[.agg #[.int .i64 6, .string name, .int .i64 col, .int .i64 op, .int .i64 num, .bool slot, .slice a cols.length c]] w fun e w' => e = .returned (.bool (false)) ∧ Below w.heap.size w w' := by
  have H := Lib.hid h; clear h
  have hk := Lib.hid (kindOf_any ⟨6, name, col, op, num, slot, cols⟩ a c)
  have HF := Lib.hid hfit; clear hfit
  have m1 := Tryz.fits_limitNode
  have m2 := Tryz.told_limitNode
  rw [Tryz.underlying94] at m1 m2
  simp [mName] at m1 m2
  go_enter Tryz.func194, Tryz.ntmps194
  go_wp2_with fail
  refine (hk.out _).mono ?_
  rintro e w1 ⟨rfl, b1⟩
  simp only [kindV, Int.reduceEq, if_false, if_true]
  have hq1 := fun o => b1.cell (p := ⟨w.heap.size, o, none⟩) (by simp)
  have B1 := Lib.hid (((Below.refl _ w).alloc (Nat.le_refl _) _).trans (b1.mono (by simp)))
  have C1 := Lib.hid b1
  have R1 := Lib.hid (show Rd w1.drew .i64 a cols from H.out.below B1.out.drew)
  clear b1
  go_wp2_with fail
  first | go_region_with (first
    | (go_at_call 371; refine (fitsLimit_any _ _ _).mono ?_; rintro e w2 ⟨rfl, b2⟩; rw [HF.out]; have C2 := Lib.hid (below_step C1.out.drew (Nat.le_refl _) b2); have hq2 := fun o => C2.out.cell (p := ⟨w.heap.size, o, none⟩) (by simp); have T2 := Lib.hid (below_step B1.out.drew (Nat.le_refl _) b2); have R2 := Lib.hid (H.out.below T2.out); clear b2)
    | (go_at_call 372; refine (toldLimit_any _ _ _).mono ?_; rintro e w3 ⟨a3, c3, rfl, r3, b3⟩; have C3 := Lib.hid (below_step C2.out (Nat.le_refl _) b3); have hq3 := fun o => C3.out.cell (p := ⟨w.heap.size, o, none⟩) (by simp); have T3 := Lib.hid (below_step T2.out (Nat.le_refl _) b3); have R3 := Lib.hid (H.out.below T3.out); have Q3 := Lib.hid r3; clear b3 r3)
    | (go_at_call 123; refine (sameNode_any ⟨6, ⟨#[]⟩, 0, 0, num, slot, []⟩ ⟨6, name, col, op, num, slot, cols⟩ _ _ _ _ _ Q3.out R3.out (by first | exact hl | exact Nat.zero_le _) hl).mono ?_; rintro e w4 ⟨rfl, b4⟩; have T4 := Lib.hid (below_step T3.out (Nat.le_refl _) b4); clear b4)) | fail
  all_goals
    go_wp2
    go_ret
    exact ⟨rfl, T2.out⟩

set_option maxRecDepth 100000 in
set_option maxHeartbeats 1600000 in
theorem implNodeOk7t (name : ByteArray) (col op num : Int) (slot : Bool) (cols : List Int) (a : Option Addr) (c : Nat) (w : World) (h : Rd w .i64 a cols) (hl : cols.length ≤ maxLen) (hm : cols.length ≤ 17592186044416) (hs : name.size ≤ maxLen) :
    Calls Tryz.prog 194 #[.agg #[.int .i64 7, .string name, .int .i64 col, .int .i64 op, .int .i64 num, .bool slot, .slice a cols.length c]] w fun e w' => e = .returned (.bool (eqN ⟨7, ⟨#[]⟩, 0, 0, 0, false, []⟩ ⟨7, name, col, op, num, slot, cols⟩)) ∧ Below w.heap.size w w' := by
  have H := Lib.hid h; clear h
  have hk := Lib.hid (kindOf_any ⟨7, name, col, op, num, slot, cols⟩ a c)
  have m1 := Tryz.fits_onceNode
  have m2 := Tryz.told_onceNode
  rw [Tryz.underlying94] at m1 m2
  simp [mName] at m1 m2
  go_enter Tryz.func194, Tryz.ntmps194
  go_wp2_with fail
  refine (hk.out _).mono ?_
  rintro e w1 ⟨rfl, b1⟩
  simp only [kindV, Int.reduceEq, if_false, if_true]
  have hq1 := fun o => b1.cell (p := ⟨w.heap.size, o, none⟩) (by simp)
  have B1 := Lib.hid (((Below.refl _ w).alloc (Nat.le_refl _) _).trans (b1.mono (by simp)))
  have C1 := Lib.hid b1
  have R1 := Lib.hid (show Rd w1.drew .i64 a cols from H.out.below B1.out.drew)
  clear b1
  go_wp2_with fail
  first | go_region_with (first
    | (go_at_call 373; refine (fitsOnce_any _).mono ?_; rintro e w2 ⟨rfl, b2⟩; have C2 := Lib.hid (below_step C1.out.drew (Nat.le_refl _) b2); have hq2 := fun o => C2.out.cell (p := ⟨w.heap.size, o, none⟩) (by simp); have T2 := Lib.hid (below_step B1.out.drew (Nat.le_refl _) b2); have R2 := Lib.hid (H.out.below T2.out); clear b2)
    | (go_at_call 374; refine (toldOnce_any _).mono ?_; rintro e w3 ⟨a3, c3, rfl, r3, b3⟩; have C3 := Lib.hid (below_step C2.out (Nat.le_refl _) b3); have hq3 := fun o => C3.out.cell (p := ⟨w.heap.size, o, none⟩) (by simp); have T3 := Lib.hid (below_step T2.out (Nat.le_refl _) b3); have R3 := Lib.hid (H.out.below T3.out); have Q3 := Lib.hid r3; clear b3 r3)
    | (go_at_call 123; refine (sameNode_any ⟨7, ⟨#[]⟩, 0, 0, 0, false, []⟩ ⟨7, name, col, op, num, slot, cols⟩ _ _ _ _ _ Q3.out R3.out (by first | exact hl | exact Nat.zero_le _) hl).mono ?_; rintro e w4 ⟨rfl, b4⟩; have T4 := Lib.hid (below_step T3.out (Nat.le_refl _) b4); clear b4)) | fail
  all_goals
    go_wp2
    go_ret
    exact ⟨rfl, T4.out⟩
end Go.Proofs.YtfpbhedophlnkaaGreatDoor
namespace Go.Proofs.YtfpbhedophlnkaaGreatDoor
open Go.RowKit
set_option linter.unusedSimpArgs false
set_option linter.unusedVariables false

theorem nodeB_out {k : Int} (hk : k < 0 ∨ 7 < k) (name : ByteArray) (col op num : Int) (slot : Bool) (cols : List Int) : nodeB ⟨k, name, col, op, num, slot, cols⟩ = false := by
  simp only [nodeB]
  rw [if_neg (by omega), if_neg (by omega), if_neg (by omega), if_neg (by omega), if_neg (by omega), if_neg (by omega), if_neg (by omega), if_neg (by omega)]
theorem kindV_out {k : Int} (hk : k < 0 ∨ 7 < k) (name : ByteArray) (col op num : Int) (slot : Bool) (cols : List Int) (a : Option Addr) (c : Nat) : kindV ⟨k, name, col, op, num, slot, cols⟩ a c = .nilIface := by
  simp only [kindV]
  rw [if_neg (by omega), if_neg (by omega), if_neg (by omega), if_neg (by omega), if_neg (by omega), if_neg (by omega), if_neg (by omega), if_neg (by omega)]
theorem implNodeOkOut (k : Int) (hk : k < 0 ∨ 7 < k) (name : ByteArray) (col op num : Int) (slot : Bool) (cols : List Int) (a : Option Addr) (c : Nat) (w : World) :
    Calls Tryz.prog 194 #[.agg #[.int .i64 k, .string name, .int .i64 col, .int .i64 op, .int .i64 num, .bool slot, .slice a cols.length c]] w fun e w' => e = .returned (.bool false) ∧ Below w.heap.size w w' := by
  have HK := Lib.hid (kindOf_any ⟨k, name, col, op, num, slot, cols⟩ a c)
  have KV := Lib.hid (kindV_out hk name col op num slot cols a c)
  clear hk
  go_enter Tryz.func194, Tryz.ntmps194
  go_wp2_with fail
  refine (HK.out _).mono ?_
  rintro e w1 ⟨rfl, b1⟩
  rw [KV.out]
  have B1 := Lib.hid (((Below.refl _ w).alloc (Nat.le_refl _) _).trans (b1.mono (by simp)))
  clear b1
  go_wp2_with fail
  first | go_region_with (fail) | fail
  all_goals
    go_wp2
    go_ret
    exact ⟨rfl, B1.out.drew⟩

theorem implNodeOk_any (n : Nd) (a : Option Addr) (c : Nat) (w : World) (h : Rd w .i64 a n.cols) (hm : n.cols.length ≤ 17592186044416) (hs : n.name.size ≤ maxLen) :
    Calls Tryz.prog 194 #[.agg #[.int .i64 n.kind, .string n.name, .int .i64 n.col, .int .i64 n.op, .int .i64 n.num, .bool n.slot, .slice a n.cols.length c]] w fun e w' => e = .returned (.bool (nodeB n)) ∧ Below w.heap.size w w' := by
  have hl : n.cols.length ≤ maxLen := by unfold maxLen; omega
  obtain ⟨k, name, col, op, num, slot, cols⟩ := n
  rcases kind_ways k with rfl | rfl | rfl | rfl | rfl | rfl | rfl | rfl | hk
  · rw [nodeB_0]; cases hfit : (wordB name.data.toList) with
    | true => rw [Bool.true_and]; exact implNodeOk0t name col op num slot cols a c w hfit h hl hm hs
    | false => rw [Bool.false_and]; exact implNodeOk0f name col op num slot cols a c w hfit h hl hm hs
  · rw [nodeB_1]; cases hfit : (fitF col op num slot) with
    | true => rw [Bool.true_and]; exact implNodeOk1t name col op num slot cols a c w hfit h hl hm hs
    | false => rw [Bool.false_and]; exact implNodeOk1f name col op num slot cols a c w hfit h hl hm hs
  · rw [nodeB_2]; cases hfit : (fitK cols) with
    | true => rw [Bool.true_and]; exact implNodeOk2t name col op num slot cols a c w hfit h hl hm hs
    | false => rw [Bool.false_and]; exact implNodeOk2f name col op num slot cols a c w hfit h hl hm hs
  · rw [nodeB_3]; cases hfit : (colB col && colB num) with
    | true => rw [Bool.true_and]; exact implNodeOk3t name col op num slot cols a c w hfit h hl hm hs
    | false => rw [Bool.false_and]; exact implNodeOk3f name col op num slot cols a c w hfit h hl hm hs
  · rw [nodeB_4, Bool.true_and]; exact implNodeOk4t name col op num slot cols a c w h hl hm hs
  · rw [nodeB_5]; cases hfit : (colB col) with
    | true => rw [Bool.true_and]; exact implNodeOk5t name col op num slot cols a c w hfit h hl hm hs
    | false => rw [Bool.false_and]; exact implNodeOk5f name col op num slot cols a c w hfit h hl hm hs
  · rw [nodeB_6]; cases hfit : (fitL num slot) with
    | true => rw [Bool.true_and]; exact implNodeOk6t name col op num slot cols a c w hfit h hl hm hs
    | false => rw [Bool.false_and]; exact implNodeOk6f name col op num slot cols a c w hfit h hl hm hs
  · rw [nodeB_7, Bool.true_and]; exact implNodeOk7t name col op num slot cols a c w h hl hm hs
  · rw [nodeB_out hk]; exact implNodeOkOut k hk name col op num slot cols a c w
end Go.Proofs.YtfpbhedophlnkaaGreatDoor
