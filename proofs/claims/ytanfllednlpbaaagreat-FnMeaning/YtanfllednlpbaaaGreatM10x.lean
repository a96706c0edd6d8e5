/-
  Contract of impl.NodeOk at some of the kinds. For every node of them. Contract of impl.NodeOk at some of the kinds. For every node of them. Contract of impl.NodeOk at some of the kinds. For every node of them.
-/
import Derived.Test.YtanfllednlpbaaaGreatM9x
namespace Go.Proofs.YtanfllednlpbaaaGreat
open Go.RowKit
set_option linter.unusedSimpArgs false
set_option linter.unusedVariables false
set_option maxRecDepth 100000 in
set_option maxHeartbeats 1600000 in
theorem implNodeOk0t (name : ByteArray) (col op num : Int) (slot : Bool) (cols : List Int) (a : Option Addr) (c : Nat) (w : World) (hfit : (wordB name.data.toList) = true) (h : Rd w .i64 a cols) (hl : cols.length ≤ maxLen) (hm : cols.length ≤ 17592186044416) (hs : name.size ≤ maxLen) :
    Calls Tryz.prog 126 #[.agg #[.int .i64 0, .string name, .int .i64 col, .int .i64 op, .int .i64 num, .bool slot, .slice a cols.length c]] w fun e w' => e = .returned (.bool (eqN ⟨0, name, 0, 0, 0, false, []⟩ ⟨0, name, col, op, num, slot, cols⟩)) ∧ Below w.heap.size w w' := by
  have H := Lib.hid h; clear h
  have hk := Lib.hid (kindOf_any ⟨0, name, col, op, num, slot, cols⟩ a c)
  have HF := Lib.hid hfit; clear hfit
  have m1 := Tryz.fits_scanNode
  have m2 := Tryz.told_scanNode
  rw [Tryz.underlying121] at m1 m2
  simp [mName] at m1 m2
  go_enter Tryz.func126, Tryz.ntmps126
  go_wp2_with fail
  refine (hk.out _).mono ?_
  rintro e w1 ⟨rfl, b1⟩
  simp only [kindV, Int.reduceEq, if_false, if_true]
  have hq1 := fun o => b1.cell (p := ⟨w.heap.size, o, none⟩) (by simp)
  have B1 := Lib.hid (((Below.refl _ w).alloc (Nat.le_refl _) _).trans (b1.mono (by simp)))
  have C1 := Lib.hid b1
  have R1 := Lib.hid (show Rd w1.drew .i64 a cols from H.out.below B1.out.drew)
  clear b1
  go_wp2_with fail
  first | go_region_with (first
    | (go_at_call 220; refine (fitsScan_any _ _ hs).mono ?_; rintro e w2 ⟨rfl, b2⟩; rw [HF.out]; have C2 := Lib.hid (below_step C1.out.drew (Nat.le_refl _) b2); have hq2 := fun o => C2.out.cell (p := ⟨w.heap.size, o, none⟩) (by simp); have T2 := Lib.hid (below_step B1.out.drew (Nat.le_refl _) b2); have R2 := Lib.hid (H.out.below T2.out); clear b2)
    | (go_at_call 221; refine (toldScan_any _ _).mono ?_; rintro e w3 ⟨a3, c3, rfl, r3, b3⟩; have C3 := Lib.hid (below_step C2.out (Nat.le_refl _) b3); have hq3 := fun o => C3.out.cell (p := ⟨w.heap.size, o, none⟩) (by simp); have T3 := Lib.hid (below_step T2.out (Nat.le_refl _) b3); have R3 := Lib.hid (H.out.below T3.out); have Q3 := Lib.hid r3; clear b3 r3)
    | (go_at_call 153; refine (sameNode_any ⟨0, name, 0, 0, 0, false, []⟩ ⟨0, name, col, op, num, slot, cols⟩ _ _ _ _ _ Q3.out R3.out (by first | exact hl | exact Nat.zero_le _) hl).mono ?_; rintro e w4 ⟨rfl, b4⟩; have T4 := Lib.hid (below_step T3.out (Nat.le_refl _) b4); clear b4)) | fail
  all_goals
    go_wp2
    go_ret
    exact ⟨rfl, T4.out⟩
set_option maxRecDepth 100000 in
set_option maxHeartbeats 1600000 in
theorem implNodeOk0f (name : ByteArray) (col op num : Int) (slot : Bool) (cols : List Int) (a : Option Addr) (c : Nat) (w : World) (hfit : (wordB name.data.toList) = false) (h : Rd w .i64 a cols) (hl : cols.length ≤ maxLen) (hm : cols.length ≤ 17592186044416) (hs : name.size ≤ maxLen) :
    Calls Tryz.prog 126 #[.agg #[.int .i64 0, .string name, .int .i64 col, .int .i64 op, .int .i64 num, .bool slot, .slice a cols.length c]] w fun e w' => e = .returned (.bool (false)) ∧ Below w.heap.size w w' := by
  have H := Lib.hid h; clear h
  have hk := Lib.hid (kindOf_any ⟨0, name, col, op, num, slot, cols⟩ a c)
  have HF := Lib.hid hfit; clear hfit
  have m1 := Tryz.fits_scanNode
  have m2 := Tryz.told_scanNode
  rw [Tryz.underlying121] at m1 m2
  simp [mName] at m1 m2
  go_enter Tryz.func126, Tryz.ntmps126
  go_wp2_with fail
  refine (hk.out _).mono ?_
  rintro e w1 ⟨rfl, b1⟩
  simp only [kindV, Int.reduceEq, if_false, if_true]
  have hq1 := fun o => b1.cell (p := ⟨w.heap.size, o, none⟩) (by simp)
  have B1 := Lib.hid (((Below.refl _ w).alloc (Nat.le_refl _) _).trans (b1.mono (by simp)))
  have C1 := Lib.hid b1
  have R1 := Lib.hid (show Rd w1.drew .i64 a cols from H.out.below B1.out.drew)
  clear b1
  go_wp2_with fail
  first | go_region_with (first
    | (go_at_call 220; refine (fitsScan_any _ _ hs).mono ?_; rintro e w2 ⟨rfl, b2⟩; rw [HF.out]; have C2 := Lib.hid (below_step C1.out.drew (Nat.le_refl _) b2); have hq2 := fun o => C2.out.cell (p := ⟨w.heap.size, o, none⟩) (by simp); have T2 := Lib.hid (below_step B1.out.drew (Nat.le_refl _) b2); have R2 := Lib.hid (H.out.below T2.out); clear b2)
    | (go_at_call 221; refine (toldScan_any _ _).mono ?_; rintro e w3 ⟨a3, c3, rfl, r3, b3⟩; have C3 := Lib.hid (below_step C2.out (Nat.le_refl _) b3); have hq3 := fun o => C3.out.cell (p := ⟨w.heap.size, o, none⟩) (by simp); have T3 := Lib.hid (below_step T2.out (Nat.le_refl _) b3); have R3 := Lib.hid (H.out.below T3.out); have Q3 := Lib.hid r3; clear b3 r3)
    | (go_at_call 153; refine (sameNode_any ⟨0, name, 0, 0, 0, false, []⟩ ⟨0, name, col, op, num, slot, cols⟩ _ _ _ _ _ Q3.out R3.out (by first | exact hl | exact Nat.zero_le _) hl).mono ?_; rintro e w4 ⟨rfl, b4⟩; have T4 := Lib.hid (below_step T3.out (Nat.le_refl _) b4); clear b4)) | fail
  all_goals
    go_wp2
    go_ret
    exact ⟨rfl, T2.out⟩
set_option maxRecDepth 100000 in
set_option maxHeartbeats 1600000 in
theorem implNodeOk1t (name : ByteArray) (col op num : Int) (slot : Bool) (cols : List Int) (a : Option Addr) (c : Nat) (w : World) (hfit : (fitF col op num slot) = true) (h : Rd w .i64 a cols) (hl : cols.length ≤ maxLen) (hm : cols.length ≤ 17592186044416) (hs : name.size ≤ maxLen) :
    Calls Tryz.prog 126 #[.agg #[.int .i64 1, .string name, .int .i64 col, .int .i64 op, .int .i64 num, .bool slot, .slice a cols.length c]] w fun e w' => e = .returned (.bool (eqN ⟨1, ⟨#[]⟩, col, op, num, slot, []⟩ ⟨1, name, col, op, num, slot, cols⟩)) ∧ Below w.heap.size w w' := by
  have H := Lib.hid h; clear h
  have hk := Lib.hid (kindOf_any ⟨1, name, col, op, num, slot, cols⟩ a c)
  have HF := Lib.hid hfit; clear hfit
  have m1 := Tryz.fits_filterNode
  have m2 := Tryz.told_filterNode
  rw [Tryz.underlying121] at m1 m2
  simp [mName] at m1 m2
  go_enter Tryz.func126, Tryz.ntmps126
  go_wp2_with fail
  refine (hk.out _).mono ?_
  rintro e w1 ⟨rfl, b1⟩
  simp only [kindV, Int.reduceEq, if_false, if_true]
  have hq1 := fun o => b1.cell (p := ⟨w.heap.size, o, none⟩) (by simp)
  have B1 := Lib.hid (((Below.refl _ w).alloc (Nat.le_refl _) _).trans (b1.mono (by simp)))
  have C1 := Lib.hid b1
  have R1 := Lib.hid (show Rd w1.drew .i64 a cols from H.out.below B1.out.drew)
  clear b1
  go_wp2_with fail
  first | go_region_with (first
    | (go_at_call 207; refine (fitsFilter_any _ _ _ _ _).mono ?_; rintro e w2 ⟨rfl, b2⟩; rw [HF.out]; have C2 := Lib.hid (below_step C1.out.drew (Nat.le_refl _) b2); have hq2 := fun o => C2.out.cell (p := ⟨w.heap.size, o, none⟩) (by simp); have T2 := Lib.hid (below_step B1.out.drew (Nat.le_refl _) b2); have R2 := Lib.hid (H.out.below T2.out); clear b2)
    | (go_at_call 208; refine (toldFilter_any _ _ _ _ _).mono ?_; rintro e w3 ⟨a3, c3, rfl, r3, b3⟩; have C3 := Lib.hid (below_step C2.out (Nat.le_refl _) b3); have hq3 := fun o => C3.out.cell (p := ⟨w.heap.size, o, none⟩) (by simp); have T3 := Lib.hid (below_step T2.out (Nat.le_refl _) b3); have R3 := Lib.hid (H.out.below T3.out); have Q3 := Lib.hid r3; clear b3 r3)
    | (go_at_call 153; refine (sameNode_any ⟨1, ⟨#[]⟩, col, op, num, slot, []⟩ ⟨1, name, col, op, num, slot, cols⟩ _ _ _ _ _ Q3.out R3.out (by first | exact hl | exact Nat.zero_le _) hl).mono ?_; rintro e w4 ⟨rfl, b4⟩; have T4 := Lib.hid (below_step T3.out (Nat.le_refl _) b4); clear b4)) | fail
  all_goals
    go_wp2
    go_ret
    exact ⟨rfl, T4.out⟩
set_option maxRecDepth 100000 in
set_option maxHeartbeats 1600000 in
theorem implNodeOk1f (name : ByteArray) (col op num : Int) (slot : Bool) (cols : List Int) (a : Option Addr) (c : Nat) (w : World) (hfit : (fitF col op num slot) = false) (h : Rd w .i64 a cols) (hl : cols.length ≤ maxLen) (hm : cols.length ≤ 17592186044416) (hs : name.size ≤ maxLen) :
    Calls Tryz.prog 126 #[.agg #[.int .i64 1, .string name, .int .i64 col, .int .i64 op, .int .i64 num, .bool slot, .slice a cols.length c]] w fun e w' => e = .returned (.bool (false)) ∧ Below w.heap.size w w' := by
  have H := Lib.hid h; clear h
  have hk := Lib.hid (kindOf_any ⟨1, name, col, op, num, slot, cols⟩ a c)
  have HF := Lib.hid hfit; clear hfit
  have m1 := Tryz.fits_filterNode
  have m2 := Tryz.told_filterNode
  rw [Tryz.underlying121] at m1 m2
  simp [mName] at m1 m2
  go_enter Tryz.func126, Tryz.ntmps126
  go_wp2_with fail
  refine (hk.out _).mono ?_
  rintro e w1 ⟨rfl, b1⟩
  simp only [kindV, Int.reduceEq, if_false, if_true]
  have hq1 := fun o => b1.cell (p := ⟨w.heap.size, o, none⟩) (by simp)
  have B1 := Lib.hid (((Below.refl _ w).alloc (Nat.le_refl _) _).trans (b1.mono (by simp)))
  have C1 := Lib.hid b1
  have R1 := Lib.hid (show Rd w1.drew .i64 a cols from H.out.below B1.out.drew)
  clear b1
  go_wp2_with fail
  first | go_region_with (first
    | (go_at_call 207; refine (fitsFilter_any _ _ _ _ _).mono ?_; rintro e w2 ⟨rfl, b2⟩; rw [HF.out]; have C2 := Lib.hid (below_step C1.out.drew (Nat.le_refl _) b2); have hq2 := fun o => C2.out.cell (p := ⟨w.heap.size, o, none⟩) (by simp); have T2 := Lib.hid (below_step B1.out.drew (Nat.le_refl _) b2); have R2 := Lib.hid (H.out.below T2.out); clear b2)
    | (go_at_call 208; refine (toldFilter_any _ _ _ _ _).mono ?_; rintro e w3 ⟨a3, c3, rfl, r3, b3⟩; have C3 := Lib.hid (below_step C2.out (Nat.le_refl _) b3); have hq3 := fun o => C3.out.cell (p := ⟨w.heap.size, o, none⟩) (by simp); have T3 := Lib.hid (below_step T2.out (Nat.le_refl _) b3); have R3 := Lib.hid (H.out.below T3.out); have Q3 := Lib.hid r3; clear b3 r3)
    | (go_at_call 153; refine (sameNode_any ⟨1, ⟨#[]⟩, col, op, num, slot, []⟩ ⟨1, name, col, op, num, slot, cols⟩ _ _ _ _ _ Q3.out R3.out (by first | exact hl | exact Nat.zero_le _) hl).mono ?_; rintro e w4 ⟨rfl, b4⟩; have T4 := Lib.hid (below_step T3.out (Nat.le_refl _) b4); clear b4)) | fail
  all_goals
    go_wp2
    go_ret
    exact ⟨rfl, T2.out⟩
set_option maxRecDepth 100000 in
set_option maxHeartbeats 1600000 in
theorem implNodeOk2t (name : ByteArray) (col op num : Int) (slot : Bool) (cols : List Int) (a : Option Addr) (c : Nat) (w : World) (hfit : (fitK cols) = true) (h : Rd w .i64 a cols) (hl : cols.length ≤ maxLen) (hm : cols.length ≤ 17592186044416) (hs : name.size ≤ maxLen) :
    Calls Tryz.prog 126 #[.agg #[.int .i64 2, .string name, .int .i64 col, .int .i64 op, .int .i64 num, .bool slot, .slice a cols.length c]] w fun e w' => e = .returned (.bool (eqN ⟨2, ⟨#[]⟩, 0, 0, 0, false, cols⟩ ⟨2, name, col, op, num, slot, cols⟩)) ∧ Below w.heap.size w w' := by
  have H := Lib.hid h; clear h
  have hk := Lib.hid (kindOf_any ⟨2, name, col, op, num, slot, cols⟩ a c)
  have HF := Lib.hid hfit; clear hfit
  have m1 := Tryz.fits_keepNode
  have m2 := Tryz.told_keepNode
  rw [Tryz.underlying121] at m1 m2
  simp [mName] at m1 m2
  go_enter Tryz.func126, Tryz.ntmps126
  go_wp2_with fail
  refine (hk.out _).mono ?_
  rintro e w1 ⟨rfl, b1⟩
  simp only [kindV, Int.reduceEq, if_false, if_true]
  have hq1 := fun o => b1.cell (p := ⟨w.heap.size, o, none⟩) (by simp)
  have B1 := Lib.hid (((Below.refl _ w).alloc (Nat.le_refl _) _).trans (b1.mono (by simp)))
  have C1 := Lib.hid b1
  have R1 := Lib.hid (show Rd w1.drew .i64 a cols from H.out.below B1.out.drew)
  clear b1
  go_wp2_with fail
  first | go_region_with (first
    | (go_at_call 211; refine (fitsKeep_any _ _ _ _ R1.out hl).mono ?_; rintro e w2 ⟨rfl, b2⟩; rw [HF.out]; have C2 := Lib.hid (below_step C1.out.drew (Nat.le_refl _) b2); have hq2 := fun o => C2.out.cell (p := ⟨w.heap.size, o, none⟩) (by simp); have T2 := Lib.hid (below_step B1.out.drew (Nat.le_refl _) b2); have R2 := Lib.hid (H.out.below T2.out); clear b2)
    | (go_at_call 212; refine (toldKeep_any _ _ _ _ R2.out hm).mono ?_; rintro e w3 ⟨a3, c3, rfl, r3, b3⟩; have C3 := Lib.hid (below_step C2.out (Nat.le_refl _) b3); have hq3 := fun o => C3.out.cell (p := ⟨w.heap.size, o, none⟩) (by simp); have T3 := Lib.hid (below_step T2.out (Nat.le_refl _) b3); have R3 := Lib.hid (H.out.below T3.out); have Q3 := Lib.hid r3; clear b3 r3)
    | (go_at_call 153; refine (sameNode_any ⟨2, ⟨#[]⟩, 0, 0, 0, false, cols⟩ ⟨2, name, col, op, num, slot, cols⟩ _ _ _ _ _ Q3.out R3.out (by first | exact hl | exact Nat.zero_le _) hl).mono ?_; rintro e w4 ⟨rfl, b4⟩; have T4 := Lib.hid (below_step T3.out (Nat.le_refl _) b4); clear b4)) | fail
  all_goals
    go_wp2
    go_ret
    exact ⟨rfl, T4.out⟩
set_option maxRecDepth 100000 in
set_option maxHeartbeats 1600000 in
theorem implNodeOk2f (name : ByteArray) (col op num : Int) (slot : Bool) (cols : List Int) (a : Option Addr) (c : Nat) (w : World) (hfit : (fitK cols) = false) (h : Rd w .i64 a cols) (hl : cols.length ≤ maxLen) (hm : cols.length ≤ 17592186044416) (hs : name.size ≤ maxLen) :
    Calls Tryz.prog 126 #[.agg #[.int .i64 2, .string name, .int .i64 col, .int .i64 op, .int .i64 num, .bool slot, .slice a cols.length c]] w fun e w' => e = .returned (.bool (false)) ∧ Below w.heap.size w w' := by
  have H := Lib.hid h; clear h
  have hk := Lib.hid (kindOf_any ⟨2, name, col, op, num, slot, cols⟩ a c)
  have HF := Lib.hid hfit; clear hfit
  have m1 := Tryz.fits_keepNode
  have m2 := Tryz.told_keepNode
  rw [Tryz.underlying121] at m1 m2
  simp [mName] at m1 m2
  go_enter Tryz.func126, Tryz.ntmps126
  go_wp2_with fail
  refine (hk.out _).mono ?_
  rintro e w1 ⟨rfl, b1⟩
  simp only [kindV, Int.reduceEq, if_false, if_true]
  have hq1 := fun o => b1.cell (p := ⟨w.heap.size, o, none⟩) (by simp)
  have B1 := Lib.hid (((Below.refl _ w).alloc (Nat.le_refl _) _).trans (b1.mono (by simp)))
  have C1 := Lib.hid b1
  have R1 := Lib.hid (show Rd w1.drew .i64 a cols from H.out.below B1.out.drew)
  clear b1
  go_wp2_with fail
  first | go_region_with (first
    | (go_at_call 211; refine (fitsKeep_any _ _ _ _ R1.out hl).mono ?_; rintro e w2 ⟨rfl, b2⟩; rw [HF.out]; have C2 := Lib.hid (below_step C1.out.drew (Nat.le_refl _) b2); have hq2 := fun o => C2.out.cell (p := ⟨w.heap.size, o, none⟩) (by simp); have T2 := Lib.hid (below_step B1.out.drew (Nat.le_refl _) b2); have R2 := Lib.hid (H.out.below T2.out); clear b2)
    | (go_at_call 212; refine (toldKeep_any _ _ _ _ R2.out hm).mono ?_; rintro e w3 ⟨a3, c3, rfl, r3, b3⟩; have C3 := Lib.hid (below_step C2.out (Nat.le_refl _) b3); have hq3 := fun o => C3.out.cell (p := ⟨w.heap.size, o, none⟩) (by simp); have T3 := Lib.hid (below_step T2.out (Nat.le_refl _) b3); have R3 := Lib.hid (H.out.below T3.out); have Q3 := Lib.hid r3; clear b3 r3)
    | (go_at_call 153; refine (sameNode_any ⟨2, ⟨#[]⟩, 0, 0, 0, false, cols⟩ ⟨2, name, col, op, num, slot, cols⟩ _ _ _ _ _ Q3.out R3.out (by first | exact hl | exact Nat.zero_le _) hl).mono ?_; rintro e w4 ⟨rfl, b4⟩; have T4 := Lib.hid (below_step T3.out (Nat.le_refl _) b4); clear b4)) | fail
  all_goals
    go_wp2
    go_ret
    exact ⟨rfl, T2.out⟩
set_option maxRecDepth 100000 in
set_option maxHeartbeats 1600000 in
theorem implNodeOk3t (name : ByteArray) (col op num : Int) (slot : Bool) (cols : List Int) (a : Option Addr) (c : Nat) (w : World) (hfit : (colB col && colB num) = true) (h : Rd w .i64 a cols) (hl : cols.length ≤ maxLen) (hm : cols.length ≤ 17592186044416) (hs : name.size ≤ maxLen) :
    Calls Tryz.prog 126 #[.agg #[.int .i64 3, .string name, .int .i64 col, .int .i64 op, .int .i64 num, .bool slot, .slice a cols.length c]] w fun e w' => e = .returned (.bool (eqN ⟨3, ⟨#[]⟩, col, 0, num, false, []⟩ ⟨3, name, col, op, num, slot, cols⟩)) ∧ Below w.heap.size w w' := by
  have H := Lib.hid h; clear h
  have hk := Lib.hid (kindOf_any ⟨3, name, col, op, num, slot, cols⟩ a c)
  have HF := Lib.hid hfit; clear hfit
  have m1 := Tryz.fits_joinNode
  have m2 := Tryz.told_joinNode
  rw [Tryz.underlying121] at m1 m2
  simp [mName] at m1 m2
  go_enter Tryz.func126, Tryz.ntmps126
  go_wp2_with fail
  refine (hk.out _).mono ?_
  rintro e w1 ⟨rfl, b1⟩
  simp only [kindV, Int.reduceEq, if_false, if_true]
  have hq1 := fun o => b1.cell (p := ⟨w.heap.size, o, none⟩) (by simp)
  have B1 := Lib.hid (((Below.refl _ w).alloc (Nat.le_refl _) _).trans (b1.mono (by simp)))
  have C1 := Lib.hid b1
  have R1 := Lib.hid (show Rd w1.drew .i64 a cols from H.out.below B1.out.drew)
  clear b1
  go_wp2_with fail
  first | go_region_with (first
    | (go_at_call 214; refine (fitsJoin_any _ _ _).mono ?_; rintro e w2 ⟨rfl, b2⟩; rw [HF.out]; have C2 := Lib.hid (below_step C1.out.drew (Nat.le_refl _) b2); have hq2 := fun o => C2.out.cell (p := ⟨w.heap.size, o, none⟩) (by simp); have T2 := Lib.hid (below_step B1.out.drew (Nat.le_refl _) b2); have R2 := Lib.hid (H.out.below T2.out); clear b2)
    | (go_at_call 215; refine (toldJoin_any _ _ _).mono ?_; rintro e w3 ⟨a3, c3, rfl, r3, b3⟩; have C3 := Lib.hid (below_step C2.out (Nat.le_refl _) b3); have hq3 := fun o => C3.out.cell (p := ⟨w.heap.size, o, none⟩) (by simp); have T3 := Lib.hid (below_step T2.out (Nat.le_refl _) b3); have R3 := Lib.hid (H.out.below T3.out); have Q3 := Lib.hid r3; clear b3 r3)
    | (go_at_call 153; refine (sameNode_any ⟨3, ⟨#[]⟩, col, 0, num, false, []⟩ ⟨3, name, col, op, num, slot, cols⟩ _ _ _ _ _ Q3.out R3.out (by first | exact hl | exact Nat.zero_le _) hl).mono ?_; rintro e w4 ⟨rfl, b4⟩; have T4 := Lib.hid (below_step T3.out (Nat.le_refl _) b4); clear b4)) | fail
  all_goals
    go_wp2
    go_ret
    exact ⟨rfl, T4.out⟩
set_option maxRecDepth 100000 in
set_option maxHeartbeats 1600000 in
theorem implNodeOk3f (name : ByteArray) (col op num : Int) (slot : Bool) (cols : List Int) (a : Option Addr) (c : Nat) (w : World) (hfit : (colB col && colB num) = false) (h : Rd w .i64 a cols) (hl : cols.length ≤ maxLen) (hm : cols.length ≤ 17592186044416) (hs : name.size ≤ maxLen) :
    Calls Tryz.prog 126 #[.agg #[.int .i64 3, .string name, .int .i64 col, .int .i64 op, .int .i64 num, .bool slot, .slice a cols.length c]] w fun e w' => e = .returned (.bool (false)) ∧ Below w.heap.size w w' := by
  have H := Lib.hid h; clear h
  have hk := Lib.hid (kindOf_any ⟨3, name, col, op, num, slot, cols⟩ a c)
  have HF := Lib.hid hfit; clear hfit
  have m1 := Tryz.fits_joinNode
  have m2 := Tryz.told_joinNode
  rw [Tryz.underlying121] at m1 m2
  simp [mName] at m1 m2
  go_enter Tryz.func126, Tryz.ntmps126
  go_wp2_with fail
  refine (hk.out _).mono ?_
  rintro e w1 ⟨rfl, b1⟩
  simp only [kindV, Int.reduceEq, if_false, if_true]
  have hq1 := fun o => b1.cell (p := ⟨w.heap.size, o, none⟩) (by simp)
  have B1 := Lib.hid (((Below.refl _ w).alloc (Nat.le_refl _) _).trans (b1.mono (by simp)))
  have C1 := Lib.hid b1
  have R1 := Lib.hid (show Rd w1.drew .i64 a cols from H.out.below B1.out.drew)
  clear b1
  go_wp2_with fail
  first | go_region_with (first
    | (go_at_call 214; refine (fitsJoin_any _ _ _).mono ?_; rintro e w2 ⟨rfl, b2⟩; rw [HF.out]; have C2 := Lib.hid (below_step C1.out.drew (Nat.le_refl _) b2); have hq2 := fun o => C2.out.cell (p := ⟨w.heap.size, o, none⟩) (by simp); have T2 := Lib.hid (below_step B1.out.drew (Nat.le_refl _) b2); have R2 := Lib.hid (H.out.below T2.out); clear b2)
    | (go_at_call 215; refine (toldJoin_any _ _ _).mono ?_; rintro e w3 ⟨a3, c3, rfl, r3, b3⟩; have C3 := Lib.hid (below_step C2.out (Nat.le_refl _) b3); have hq3 := fun o => C3.out.cell (p := ⟨w.heap.size, o, none⟩) (by simp); have T3 := Lib.hid (below_step T2.out (Nat.le_refl _) b3); have R3 := Lib.hid (H.out.below T3.out); have Q3 := Lib.hid r3; clear b3 r3)
    | (go_at_call 153; refine (sameNode_any ⟨3, ⟨#[]⟩, col, 0, num, false, []⟩ ⟨3, name, col, op, num, slot, cols⟩ _ _ _ _ _ Q3.out R3.out (by first | exact hl | exact Nat.zero_le _) hl).mono ?_; rintro e w4 ⟨rfl, b4⟩; have T4 := Lib.hid (below_step T3.out (Nat.le_refl _) b4); clear b4)) | fail
  all_goals
    go_wp2
    go_ret
    exact ⟨rfl, T2.out⟩
set_option maxRecDepth 100000 in
set_option maxHeartbeats 1600000 in
theorem implNodeOk4t (name : ByteArray) (col op num : Int) (slot : Bool) (cols : List Int) (a : Option Addr) (c : Nat) (w : World) (h : Rd w .i64 a cols) (hl : cols.length ≤ maxLen) (hm : cols.length ≤ 17592186044416) (hs : name.size ≤ maxLen) :
    Calls Tryz.prog 126 #[.agg #[.int .i64 4, .string name, .int .i64 col, .int .i64 op, .int .i64 num, .bool slot, .slice a cols.length c]] w fun e w' => e = .returned (.bool (eqN ⟨4, ⟨#[]⟩, 0, 0, 0, false, []⟩ ⟨4, name, col, op, num, slot, cols⟩)) ∧ Below w.heap.size w w' := by
  have H := Lib.hid h; clear h
  have hk := Lib.hid (kindOf_any ⟨4, name, col, op, num, slot, cols⟩ a c)
  have m1 := Tryz.fits_bothNode
  have m2 := Tryz.told_bothNode
  rw [Tryz.underlying121] at m1 m2
  simp [mName] at m1 m2
  go_enter Tryz.func126, Tryz.ntmps126
  go_wp2_with fail
  refine (hk.out _).mono ?_
  rintro e w1 ⟨rfl, b1⟩
  simp only [kindV, Int.reduceEq, if_false, if_true]
  have hq1 := fun o => b1.cell (p := ⟨w.heap.size, o, none⟩) (by simp)
  have B1 := Lib.hid (((Below.refl _ w).alloc (Nat.le_refl _) _).trans (b1.mono (by simp)))
  have C1 := Lib.hid b1
  have R1 := Lib.hid (show Rd w1.drew .i64 a cols from H.out.below B1.out.drew)
  clear b1
  go_wp2_with fail
  first | go_region_with (first
    | (go_at_call 216; refine (fitsBoth_any _).mono ?_; rintro e w2 ⟨rfl, b2⟩; have C2 := Lib.hid (below_step C1.out.drew (Nat.le_refl _) b2); have hq2 := fun o => C2.out.cell (p := ⟨w.heap.size, o, none⟩) (by simp); have T2 := Lib.hid (below_step B1.out.drew (Nat.le_refl _) b2); have R2 := Lib.hid (H.out.below T2.out); clear b2)
    | (go_at_call 217; refine (toldBoth_any _).mono ?_; rintro e w3 ⟨a3, c3, rfl, r3, b3⟩; have C3 := Lib.hid (below_step C2.out (Nat.le_refl _) b3); have hq3 := fun o => C3.out.cell (p := ⟨w.heap.size, o, none⟩) (by simp); have T3 := Lib.hid (below_step T2.out (Nat.le_refl _) b3); have R3 := Lib.hid (H.out.below T3.out); have Q3 := Lib.hid r3; clear b3 r3)
    | (go_at_call 153; refine (sameNode_any ⟨4, ⟨#[]⟩, 0, 0, 0, false, []⟩ ⟨4, name, col, op, num, slot, cols⟩ _ _ _ _ _ Q3.out R3.out (by first | exact hl | exact Nat.zero_le _) hl).mono ?_; rintro e w4 ⟨rfl, b4⟩; have T4 := Lib.hid (below_step T3.out (Nat.le_refl _) b4); clear b4)) | fail
  all_goals
    go_wp2
    go_ret
    exact ⟨rfl, T4.out⟩
set_option maxRecDepth 100000 in
set_option maxHeartbeats 1600000 in
theorem implNodeOk5t (name : ByteArray) (col op num : Int) (slot : Bool) (cols : List Int) (a : Option Addr) (c : Nat) (w : World) (hfit : (colB col) = true) (h : Rd w .i64 a cols) (hl : cols.length ≤ maxLen) (hm : cols.length ≤ 17592186044416) (hs : name.size ≤ maxLen) :
    Calls Tryz.prog 126 #[.agg #[.int .i64 5, .string name, .int .i64 col, .int .i64 op, .int .i64 num, .bool slot, .slice a cols.length c]] w fun e w' => e = .returned (.bool (eqN ⟨5, ⟨#[]⟩, col, 0, 0, false, []⟩ ⟨5, name, col, op, num, slot, cols⟩)) ∧ Below w.heap.size w w' := by
  have H := Lib.hid h; clear h
  have hk := Lib.hid (kindOf_any ⟨5, name, col, op, num, slot, cols⟩ a c)
  have HF := Lib.hid hfit; clear hfit
  have m1 := Tryz.fits_sortNode
  have m2 := Tryz.told_sortNode
  rw [Tryz.underlying121] at m1 m2
  simp [mName] at m1 m2
  go_enter Tryz.func126, Tryz.ntmps126
  go_wp2_with fail
  refine (hk.out _).mono ?_
  rintro e w1 ⟨rfl, b1⟩
  simp only [kindV, Int.reduceEq, if_false, if_true]
  have hq1 := fun o => b1.cell (p := ⟨w.heap.size, o, none⟩) (by simp)
  have B1 := Lib.hid (((Below.refl _ w).alloc (Nat.le_refl _) _).trans (b1.mono (by simp)))
  have C1 := Lib.hid b1
  have R1 := Lib.hid (show Rd w1.drew .i64 a cols from H.out.below B1.out.drew)
  clear b1
  go_wp2_with fail
  first | go_region_with (first
    | (go_at_call 218; refine (fitsSort_any _ _).mono ?_; rintro e w2 ⟨rfl, b2⟩; rw [HF.out]; have C2 := Lib.hid (below_step C1.out.drew (Nat.le_refl _) b2); have hq2 := fun o => C2.out.cell (p := ⟨w.heap.size, o, none⟩) (by simp); have T2 := Lib.hid (below_step B1.out.drew (Nat.le_refl _) b2); have R2 := Lib.hid (H.out.below T2.out); clear b2)
    | (go_at_call 219; refine (toldSort_any _ _).mono ?_; rintro e w3 ⟨a3, c3, rfl, r3, b3⟩; have C3 := Lib.hid (below_step C2.out (Nat.le_refl _) b3); have hq3 := fun o => C3.out.cell (p := ⟨w.heap.size, o, none⟩) (by simp); have T3 := Lib.hid (below_step T2.out (Nat.le_refl _) b3); have R3 := Lib.hid (H.out.below T3.out); have Q3 := Lib.hid r3; clear b3 r3)
    | (go_at_call 153; refine (sameNode_any ⟨5, ⟨#[]⟩, col, 0, 0, false, []⟩ ⟨5, name, col, op, num, slot, cols⟩ _ _ _ _ _ Q3.out R3.out (by first | exact hl | exact Nat.zero_le _) hl).mono ?_; rintro e w4 ⟨rfl, b4⟩; have T4 := Lib.hid (below_step T3.out (Nat.le_refl _) b4); clear b4)) | fail
  all_goals
    go_wp2
    go_ret
    exact ⟨rfl, T4.out⟩
set_option maxRecDepth 100000 in
set_option maxHeartbeats 1600000 in
theorem implNodeOk5f (name : ByteArray) (col op num : Int) (slot : Bool) (cols : List Int) (a : Option Addr) (c : Nat) (w : World) (hfit : (colB col) = false) (h : Rd w .i64 a cols) (hl : cols.length ≤ maxLen) (hm : cols.length ≤ 17592186044416) (hs : name.size ≤ maxLen) :
    Calls Tryz.prog 126 #[.agg #[.int .i64 5, .string name, .int .i64 col, .int .i64 op, .int .i64 num, .bool slot, .slice a cols.length c]] w fun e w' => e = .returned (.bool (false)) ∧ Below w.heap.size w w' := by
  have H := Lib.hid h; clear h
  have hk := Lib.hid (kindOf_any ⟨5, name, col, op, num, slot, cols⟩ a c)
  have HF := Lib.hid hfit; clear hfit
  have m1 := Tryz.fits_sortNode
  have m2 := Tryz.told_sortNode
  rw [Tryz.underlying121] at m1 m2
  simp [mName] at m1 m2
  go_enter Tryz.func126, Tryz.ntmps126
  go_wp2_with fail
  refine (hk.out _).mono ?_
  rintro e w1 ⟨rfl, b1⟩
  simp only [kindV, Int.reduceEq, if_false, if_true]
  have hq1 := fun o => b1.cell (p := ⟨w.heap.size, o, none⟩) (by simp)
  have B1 := Lib.hid (((Below.refl _ w).alloc (Nat.le_refl _) _).trans (b1.mono (by simp)))
  have C1 := Lib.hid b1
  have R1 := Lib.hid (show Rd w1.drew .i64 a cols from H.out.below B1.out.drew)
  clear b1
  go_wp2_with fail
  first | go_region_with (first
    | (go_at_call 218; refine (fitsSort_any _ _).mono ?_; rintro e w2 ⟨rfl, b2⟩; rw [HF.out]; have C2 := Lib.hid (below_step C1.out.drew (Nat.le_refl _) b2); have hq2 := fun o => C2.out.cell (p := ⟨w.heap.size, o, none⟩) (by simp); have T2 := Lib.hid (below_step B1.out.drew (Nat.le_refl _) b2); have R2 := Lib.hid (H.out.below T2.out); clear b2)
    | (go_at_call 219; refine (toldSort_any _ _).mono ?_; rintro e w3 ⟨a3, c3, rfl, r3, b3⟩; have C3 := Lib.hid (below_step C2.out (Nat.le_refl _) b3); have hq3 := fun o => C3.out.cell (p := ⟨w.heap.size, o, none⟩) (by simp); have T3 := Lib.hid (below_step T2.out (Nat.le_refl _) b3); have R3 := Lib.hid (H.out.below T3.out); have Q3 := Lib.hid r3; clear b3 r3)
    | (go_at_call 153; refine (sameNode_any ⟨5, ⟨#[]⟩, col, 0, 0, false, []⟩ ⟨5, name, col, op, num, slot, cols⟩ _ _ _ _ _ Q3.out R3.out (by first | exact hl | exact Nat.zero_le _) hl).mono ?_; rintro e w4 ⟨rfl, b4⟩; have T4 := Lib.hid (below_step T3.out (Nat.le_refl _) b4); clear b4)) | fail
  all_goals
    go_wp2
    go_ret
    exact ⟨rfl, T2.out⟩
end Go.Proofs.YtanfllednlpbaaaGreat
