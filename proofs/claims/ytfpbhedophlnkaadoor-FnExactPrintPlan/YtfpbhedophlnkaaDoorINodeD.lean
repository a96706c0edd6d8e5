/-
  Contract of impl.NodeOk at some of the kinds. For every node of them.
-/
import Derived.Test.YtfpbhedophlnkaaDoorINode0
namespace Go.Proofs.YtfpbhedophlnkaaDoor
open Go.RowKit
set_option linter.unusedSimpArgs false
set_option linter.unusedVariables false


set_option maxRecDepth 100000 in
set_option maxHeartbeats 1600000 in
theorem implNodeOk6t (name : ByteArray) (col op num : Int) (slot : Bool) (cols : List Int) (a : Option Addr) (c : Nat) (w : World) (hfit : (fitL num slot) = true) (h : Rd w .i64 a cols) (hl : cols.length ≤ maxLen) (hm : cols.length ≤ 17592186044416) (hs : name.size ≤ maxLen) :
    Calls Tryd.prog 25 #[.agg #[.int .i64 6, .string name, .int .i64 col, .int .i64 op, .int .i64 num, .bool slot, .slice a cols.length c]] w fun e w' => e = .returned (.bool (eqN ⟨6, ⟨#[]⟩, 0, 0, num, slot, []⟩ ⟨6, name, col, op, num, slot, cols⟩)) ∧ Below w.heap.size w w' := by
  have H := Lib.hid h; clear h
  have hk := Lib.hid (kindOf_any ⟨6, name, col, op, num, slot, cols⟩ a c)
  have HF := Lib.hid hfit; clear hfit
  have m1 := Tryd.fits_limitNode
  have m2 := Tryd.told_limitNode
  rw [Tryd.underlying46] at m1 m2
  simp [mName] at m1 m2
  go_enter Tryd.func25, Tryd.ntmps25
  go_wp2_with fail
  refine (hk.out _).mono ?_
  rintro e w1 ⟨rfl, b1⟩
  simp only [kindV, Int.reduceEq, if_false, if_true]
  have hq1 := fun o => b1.cell (p := ⟨w.heap.size, o, none⟩) (by simp)
  have B1 := Lib.hid (((Below.refl _ w).alloc (Nat.le_refl _) _).trans (b1.mono (by simp)))
  have C1 := Lib.hid b1
  have R1 := Lib.hid (show Rd w1.drew .i64 a cols from H.out.below B1.out.drew)
  clear b1
  go_wp2_with fail
  first | go_region_with (first
    | (go_at_call 114; refine (fitsLimit_any _ _ _).mono ?_; rintro e w2 ⟨rfl, b2⟩; rw [HF.out]; have C2 := Lib.hid (below_step C1.out.drew (Nat.le_refl _) b2); have hq2 := fun o => C2.out.cell (p := ⟨w.heap.size, o, none⟩) (by simp); have T2 := Lib.hid (below_step B1.out.drew (Nat.le_refl _) b2); have R2 := Lib.hid (H.out.below T2.out); clear b2)
    | (go_at_call 115; refine (toldLimit_any _ _ _).mono ?_; rintro e w3 ⟨a3, c3, rfl, r3, b3⟩; have C3 := Lib.hid (below_step C2.out (Nat.le_refl _) b3); have hq3 := fun o => C3.out.cell (p := ⟨w.heap.size, o, none⟩) (by simp); have T3 := Lib.hid (below_step T2.out (Nat.le_refl _) b3); have R3 := Lib.hid (H.out.below T3.out); have Q3 := Lib.hid r3; clear b3 r3)
    | (go_at_call 39; refine (sameNode_any ⟨6, ⟨#[]⟩, 0, 0, num, slot, []⟩ ⟨6, name, col, op, num, slot, cols⟩ _ _ _ _ _ Q3.out R3.out (by first | exact hl | exact Nat.zero_le _) hl).mono ?_; rintro e w4 ⟨rfl, b4⟩; have T4 := Lib.hid (below_step T3.out (Nat.le_refl _) b4); clear b4)) | fail
  all_goals
    go_wp2
    go_ret
    exact ⟨rfl, T4.out⟩

set_option maxRecDepth 100000 in
set_option maxHeartbeats 1600000 in
theorem implNodeOk6f (name : ByteArray) (col op num : Int) (slot : Bool) (cols : List Int) (a : Option Addr) (c : Nat) (w : World) (hfit : (fitL num slot) = false) (h : Rd w .i64 a cols) (hl : cols.length ≤ maxLen) (hm : cols.length ≤ 17592186044416) (hs : name.size ≤ maxLen) :
    Calls Tryd.prog 25 #[.agg #[.int .i64 6, .string name, .int .i64 col, .int .i64 op, .int .i64 num, .bool slot, .slice a cols.length c]] w fun e w' => e = .returned (.bool (false)) ∧ Below w.heap.size w w' := by
  have H := Lib.hid h; clear h
  have hk := Lib.hid (kindOf_any ⟨6, name, col, op, num, slot, cols⟩ a c)
  have HF := Lib.hid hfit; clear hfit
  have m1 := Tryd.fits_limitNode
  have m2 := Tryd.told_limitNode
  rw [Tryd.underlying46] at m1 m2
  simp [mName] at m1 m2
  go_enter Tryd.func25, Tryd.ntmps25
  go_wp2_with fail
  refine (hk.out _).mono ?_
  rintro e w1 ⟨rfl, b1⟩
  simp only [kindV, Int.reduceEq, if_false, if_true]
  have hq1 := fun o => b1.cell (p := ⟨w.heap.size, o, none⟩) (by simp)
  have B1 := Lib.hid (((Below.refl _ w).alloc (Nat.le_refl _) _).trans (b1.mono (by simp)))
  have C1 := Lib.hid b1
  have R1 := Lib.hid (show Rd w1.drew .i64 a cols from H.out.below B1.out.drew)
  clear b1
  go_wp2_with fail
  first | go_region_with (first
    | (go_at_call 114; refine (fitsLimit_any _ _ _).mono ?_; rintro e w2 ⟨rfl, b2⟩; rw [HF.out]; have C2 := Lib.hid (below_step C1.out.drew (Nat.le_refl _) b2); have hq2 := fun o => C2.out.cell (p := ⟨w.heap.size, o, none⟩) (by simp); have T2 := Lib.hid (below_step B1.out.drew (Nat.le_refl _) b2); have R2 := Lib.hid (H.out.below T2.out); clear b2)
    | (go_at_call 115; refine (toldLimit_any _ _ _).mono ?_; rintro e w3 ⟨a3, c3, rfl, r3, b3⟩; have C3 := Lib.hid (below_step C2.out (Nat.le_refl _) b3); have hq3 := fun o => C3.out.cell (p := ⟨w.heap.size, o, none⟩) (by simp); have T3 := Lib.hid (below_step T2.out (Nat.le_refl _) b3); have R3 := Lib.hid (H.out.below T3.out); have Q3 := Lib.hid r3; clear b3 r3)
    | (go_at_call 39; refine (sameNode_any ⟨6, ⟨#[]⟩, 0, 0, num, slot, []⟩ ⟨6, name, col, op, num, slot, cols⟩ _ _ _ _ _ Q3.out R3.out (by first | exact hl | exact Nat.zero_le _) hl).mono ?_; rintro e w4 ⟨rfl, b4⟩; have T4 := Lib.hid (below_step T3.out (Nat.le_refl _) b4); clear b4)) | fail
  all_goals
    go_wp2
    go_ret
    exact ⟨rfl, T2.out⟩

set_option maxRecDepth 100000 in
set_option maxHeartbeats 1600000 in
theorem implNodeOk7t (name : ByteArray) (col op num : Int) (slot : Bool) (cols : List Int) (a : Option Addr) (c : Nat) (w : World) (h : Rd w .i64 a cols) (hl : cols.length ≤ maxLen) (hm : cols.length ≤ 17592186044416) (hs : name.size ≤ maxLen) :
    Calls Tryd.prog 25 #[.agg #[.int .i64 7, .string name, .int .i64 col, .int .i64 op, .int .i64 num, .bool slot, .slice a cols.length c]] w fun e w' => e = .returned (.bool (eqN ⟨7, ⟨#[]⟩, 0, 0, 0, false, []⟩ ⟨7, name, col, op, num, slot, cols⟩)) ∧ Below w.heap.size w w' := by
  have H := Lib.hid h; clear h
  have hk := Lib.hid (kindOf_any ⟨7, name, col, op, num, slot, cols⟩ a c)
  have m1 := Tryd.fits_onceNode
  have m2 := Tryd.told_onceNode
  rw [Tryd.underlying46] at m1 m2
  simp [mName] at m1 m2
  go_enter Tryd.func25, Tryd.ntmps25
  go_wp2_with fail
  refine (hk.out _).mono ?_
  rintro e w1 ⟨rfl, b1⟩
  simp only [kindV, Int.reduceEq, if_false, if_true]
  have hq1 := fun o => b1.cell (p := ⟨w.heap.size, o, none⟩) (by simp)
  have B1 := Lib.hid (((Below.refl _ w).alloc (Nat.le_refl _) _).trans (b1.mono (by simp)))
  have C1 := Lib.hid b1
  have R1 := Lib.hid (show Rd w1.drew .i64 a cols from H.out.below B1.out.drew)
  clear b1
  go_wp2_with fail
  first | go_region_with (first
    | (go_at_call 116; refine (fitsOnce_any _).mono ?_; rintro e w2 ⟨rfl, b2⟩; have C2 := Lib.hid (below_step C1.out.drew (Nat.le_refl _) b2); have hq2 := fun o => C2.out.cell (p := ⟨w.heap.size, o, none⟩) (by simp); have T2 := Lib.hid (below_step B1.out.drew (Nat.le_refl _) b2); have R2 := Lib.hid (H.out.below T2.out); clear b2)
    | (go_at_call 117; refine (toldOnce_any _).mono ?_; rintro e w3 ⟨a3, c3, rfl, r3, b3⟩; have C3 := Lib.hid (below_step C2.out (Nat.le_refl _) b3); have hq3 := fun o => C3.out.cell (p := ⟨w.heap.size, o, none⟩) (by simp); have T3 := Lib.hid (below_step T2.out (Nat.le_refl _) b3); have R3 := Lib.hid (H.out.below T3.out); have Q3 := Lib.hid r3; clear b3 r3)
    | (go_at_call 39; refine (sameNode_any ⟨7, ⟨#[]⟩, 0, 0, 0, false, []⟩ ⟨7, name, col, op, num, slot, cols⟩ _ _ _ _ _ Q3.out R3.out (by first | exact hl | exact Nat.zero_le _) hl).mono ?_; rintro e w4 ⟨rfl, b4⟩; have T4 := Lib.hid (below_step T3.out (Nat.le_refl _) b4); clear b4)) | fail
  all_goals
    go_wp2
    go_ret
    exact ⟨rfl, T4.out⟩
end Go.Proofs.YtfpbhedophlnkaaDoor
