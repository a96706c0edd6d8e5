/-
  Contract of impl.NodeOk: it answers whether the node is one. For every node. Contract of impl.NodeOk at some of the kinds. For every node of them.
-/
import Derived.Test.YtfpbhedophlnkaaGreatDoorJR22x
import Derived.Deep.RegionWith
namespace Go.Proofs.YtfpbhedophlnkaaGreatDoor
open Go.RowKit
set_option linter.unusedSimpArgs false
set_option linter.unusedVariables false

/-- The name of a method that an interface type asks for. -/
def mName (d : Option TypeDesc) (i : Nat) : String :=
  match d with
  | some (.interface ms) => (ms.getD i default).1
  | _ => default

theorem Tryz.fits_scanNode (v : Value) (W : World) : (method 490 234 v (mName (Tryz.prog.underlying 94) 0)).run Tryz.prog W = .ok (369, v) W := by kernel_rfl
theorem Tryz.told_scanNode (v : Value) (W : World) : (method 490 234 v (mName (Tryz.prog.underlying 94) 1)).run Tryz.prog W = .ok (370, v) W := by kernel_rfl
theorem Tryz.fits_filterNode (v : Value) (W : World) : (method 490 223 v (mName (Tryz.prog.underlying 94) 0)).run Tryz.prog W = .ok (354, v) W := by kernel_rfl
theorem Tryz.told_filterNode (v : Value) (W : World) : (method 490 223 v (mName (Tryz.prog.underlying 94) 1)).run Tryz.prog W = .ok (355, v) W := by kernel_rfl
theorem Tryz.fits_keepNode (v : Value) (W : World) : (method 490 226 v (mName (Tryz.prog.underlying 94) 0)).run Tryz.prog W = .ok (358, v) W := by kernel_rfl
theorem Tryz.told_keepNode (v : Value) (W : World) : (method 490 226 v (mName (Tryz.prog.underlying 94) 1)).run Tryz.prog W = .ok (359, v) W := by kernel_rfl
theorem Tryz.fits_joinNode (v : Value) (W : World) : (method 490 228 v (mName (Tryz.prog.underlying 94) 0)).run Tryz.prog W = .ok (363, v) W := by kernel_rfl
theorem Tryz.told_joinNode (v : Value) (W : World) : (method 490 228 v (mName (Tryz.prog.underlying 94) 1)).run Tryz.prog W = .ok (364, v) W := by kernel_rfl
theorem Tryz.fits_bothNode (v : Value) (W : World) : (method 490 230 v (mName (Tryz.prog.underlying 94) 0)).run Tryz.prog W = .ok (365, v) W := by kernel_rfl
theorem Tryz.told_bothNode (v : Value) (W : World) : (method 490 230 v (mName (Tryz.prog.underlying 94) 1)).run Tryz.prog W = .ok (366, v) W := by kernel_rfl
theorem Tryz.fits_sortNode (v : Value) (W : World) : (method 490 232 v (mName (Tryz.prog.underlying 94) 0)).run Tryz.prog W = .ok (367, v) W := by kernel_rfl
theorem Tryz.told_sortNode (v : Value) (W : World) : (method 490 232 v (mName (Tryz.prog.underlying 94) 1)).run Tryz.prog W = .ok (368, v) W := by kernel_rfl
theorem Tryz.fits_limitNode (v : Value) (W : World) : (method 490 258 v (mName (Tryz.prog.underlying 94) 0)).run Tryz.prog W = .ok (371, v) W := by kernel_rfl
theorem Tryz.told_limitNode (v : Value) (W : World) : (method 490 258 v (mName (Tryz.prog.underlying 94) 1)).run Tryz.prog W = .ok (372, v) W := by kernel_rfl
theorem Tryz.fits_onceNode (v : Value) (W : World) : (method 490 259 v (mName (Tryz.prog.underlying 94) 0)).run Tryz.prog W = .ok (373, v) W := by kernel_rfl
theorem Tryz.told_onceNode (v : Value) (W : World) : (method 490 259 v (mName (Tryz.prog.underlying 94) 1)).run Tryz.prog W = .ok (374, v) W := by kernel_rfl

theorem nodeB_0 (name : ByteArray) (col op num : Int) (slot : Bool) (cols : List Int) :
    nodeB ⟨0, name, col, op, num, slot, cols⟩ = ((wordB name.data.toList) && eqN ⟨0, name, 0, 0, 0, false, []⟩ ⟨0, name, col, op, num, slot, cols⟩) := by
  rw [Bool.eq_iff_iff]
  simp [nodeB, eqN, eqL, fitF, fitK, fitL, colB, slotB, numI, ByteArray.toList_eq, and_assoc]
  try grind
theorem nodeB_1 (name : ByteArray) (col op num : Int) (slot : Bool) (cols : List Int) :
    nodeB ⟨1, name, col, op, num, slot, cols⟩ = ((fitF col op num slot) && eqN ⟨1, ⟨#[]⟩, col, op, num, slot, []⟩ ⟨1, name, col, op, num, slot, cols⟩) := by
  rw [Bool.eq_iff_iff]
  simp [nodeB, eqN, eqL, fitF, fitK, fitL, colB, slotB, numI, ByteArray.toList_eq, and_assoc]
  try grind
theorem nodeB_2 (name : ByteArray) (col op num : Int) (slot : Bool) (cols : List Int) :
    nodeB ⟨2, name, col, op, num, slot, cols⟩ = ((fitK cols) && eqN ⟨2, ⟨#[]⟩, 0, 0, 0, false, cols⟩ ⟨2, name, col, op, num, slot, cols⟩) := by
  rw [Bool.eq_iff_iff]
  simp [nodeB, eqN, eqL, fitF, fitK, fitL, colB, slotB, numI, ByteArray.toList_eq, and_assoc]
  try grind
theorem nodeB_3 (name : ByteArray) (col op num : Int) (slot : Bool) (cols : List Int) :
    nodeB ⟨3, name, col, op, num, slot, cols⟩ = ((colB col && colB num) && eqN ⟨3, ⟨#[]⟩, col, 0, num, false, []⟩ ⟨3, name, col, op, num, slot, cols⟩) := by
  rw [Bool.eq_iff_iff]
  simp [nodeB, eqN, eqL, fitF, fitK, fitL, colB, slotB, numI, ByteArray.toList_eq, and_assoc]
  try grind
theorem nodeB_4 (name : ByteArray) (col op num : Int) (slot : Bool) (cols : List Int) :
    nodeB ⟨4, name, col, op, num, slot, cols⟩ = ((true) && eqN ⟨4, ⟨#[]⟩, 0, 0, 0, false, []⟩ ⟨4, name, col, op, num, slot, cols⟩) := by
  rw [Bool.eq_iff_iff]
  simp [nodeB, eqN, eqL, fitF, fitK, fitL, colB, slotB, numI, ByteArray.toList_eq, and_assoc]
  try grind
theorem nodeB_5 (name : ByteArray) (col op num : Int) (slot : Bool) (cols : List Int) :
    nodeB ⟨5, name, col, op, num, slot, cols⟩ = ((colB col) && eqN ⟨5, ⟨#[]⟩, col, 0, 0, false, []⟩ ⟨5, name, col, op, num, slot, cols⟩) := by
  rw [Bool.eq_iff_iff]
  simp [nodeB, eqN, eqL, fitF, fitK, fitL, colB, slotB, numI, ByteArray.toList_eq, and_assoc]
  try grind
theorem nodeB_6 (name : ByteArray) (col op num : Int) (slot : Bool) (cols : List Int) :
    nodeB ⟨6, name, col, op, num, slot, cols⟩ = ((fitL num slot) && eqN ⟨6, ⟨#[]⟩, 0, 0, num, slot, []⟩ ⟨6, name, col, op, num, slot, cols⟩) := by
  rw [Bool.eq_iff_iff]
  simp [nodeB, eqN, eqL, fitF, fitK, fitL, colB, slotB, numI, ByteArray.toList_eq, and_assoc]
  try grind
theorem nodeB_7 (name : ByteArray) (col op num : Int) (slot : Bool) (cols : List Int) :
    nodeB ⟨7, name, col, op, num, slot, cols⟩ = ((true) && eqN ⟨7, ⟨#[]⟩, 0, 0, 0, false, []⟩ ⟨7, name, col, op, num, slot, cols⟩) := by
  rw [Bool.eq_iff_iff]
  simp [nodeB, eqN, eqL, fitF, fitK, fitL, colB, slotB, numI, ByteArray.toList_eq, and_assoc]
  try grind
end Go.Proofs.YtfpbhedophlnkaaGreatDoor
namespace Go.Proofs.YtfpbhedophlnkaaGreatDoor
open Go.RowKit
set_option linter.unusedSimpArgs false
set_option linter.unusedVariables false


set_option maxRecDepth 100000 in
set_option maxHeartbeats 1600000 in
theorem implNodeOk0t (name : ByteArray) (col op num : Int) (slot : Bool) (cols : List Int) (a : Option Addr) (c : Nat) (w : World) (hfit : (wordB name.data.toList) = true) (h : Rd w .i64 a cols) (hl : cols.length ≤ maxLen) (hm : cols.length ≤ 17592186044416) (hs : name.size ≤ maxLen) :
    Calls Tryz.prog 194 #[.agg #[.int .i64 0, .string name, .int .i64 col, .int .i64 op, .int .i64 num, .bool slot, .slice a cols.length c]] w fun e w' => e = .returned (.bool (eqN ⟨0, name, 0, 0, 0, false, []⟩ ⟨0, name, col, op, num, slot, cols⟩)) ∧ Below w.heap.size w w' := by
  have H := Lib.hid h; clear h
  have hk := Lib.hid (kindOf_any ⟨0, name, col, op, num, slot, cols⟩ a c)
  have HF := Lib.hid hfit; clear hfit
  have m1 := Tryz.fits_scanNode
  have m2 := Tryz.told_scanNode
  rw [Tryz.underlying94] at m1 m2
  simp [mName] at m1 m2
  go_enter Tryz.func194, Tryz.ntmps194
  go_wp2_with fail
  refine (hk.out _).mono ?_
  rintro e w1 ⟨rfl, b1⟩
  simp only [kindV, Int.reduceEq, if_false, if_true]
  have hq1 := fun o => b1.cell (p := ⟨w.heap.size, o, none⟩) (by simp)
  have B1 := Lib.hid (((Below.refl _ w).alloc (Nat.le_refl _) _).trans (b1.mono (by simp)))
  have C1 := Lib.hid b1
  have R1 := Lib.hid (show Rd w1.drew .i64 a cols from H.out.below B1.out.drew)
  clear b1
  go_wp2_with fail
  first | go_region_with (first
    | (go_at_call 369; refine (fitsScan_any _ _ hs).mono ?_; rintro e w2 ⟨rfl, b2⟩; rw [HF.out]; have C2 := Lib.hid (below_step C1.out.drew (Nat.le_refl _) b2); have hq2 := fun o => C2.out.cell (p := ⟨w.heap.size, o, none⟩) (by simp); have T2 := Lib.hid (below_step B1.out.drew (Nat.le_refl _) b2); have R2 := Lib.hid (H.out.below T2.out); clear b2)
    | (go_at_call 370; refine (toldScan_any _ _).mono ?_; rintro e w3 ⟨a3, c3, rfl, r3, b3⟩; have C3 := Lib.hid (below_step C2.out (Nat.le_refl _) b3); have hq3 := fun o => C3.out.cell (p := ⟨w.heap.size, o, none⟩) (by simp); have T3 := Lib.hid (below_step T2.out (Nat.le_refl _) b3); have R3 := Lib.hid (H.out.below T3.out); have Q3 := Lib.hid r3; clear b3 r3)
    | (go_at_call 123; refine (sameNode_any ⟨0, name, 0, 0, 0, false, []⟩ ⟨0, name, col, op, num, slot, cols⟩ _ _ _ _ _ Q3.out R3.out (by first | exact hl | exact Nat.zero_le _) hl).mono ?_; rintro e w4 ⟨rfl, b4⟩; have T4 := Lib.hid (below_step T3.out (Nat.le_refl _) b4); clear b4)) | fail
  all_goals
    go_wp2
    go_ret
    exact ⟨rfl, T4.out⟩

set_option maxRecDepth 100000 in
set_option maxHeartbeats 1600000 in
theorem implNodeOk0f (name : ByteArray) (col op num : Int) (slot : Bool) (cols : List Int) (a : Option Addr) (c : Nat) (w : World) (hfit : (wordB name.data.toList) = false) (h : Rd w .i64 a cols) (hl : cols.length ≤ maxLen) (hm : cols.length ≤ 17592186044416) (hs : name.size ≤ maxLen) :
    Calls Tryz.prog 194 #[.agg #[.int .i64 0, .string name, .int .i64 col, .int .i64 op, .int .i64 num, .bool slot, .slice a cols.length c]] w fun e w' => e = .returned (.bool (false)) ∧ Below w.heap.size w w' := by
  have H := Lib.hid h; clear h
  have hk := Lib.hid (kindOf_any ⟨0, name, col, op, num, slot, cols⟩ a c)
  have HF := Lib.hid hfit; clear hfit
  have m1 := Tryz.fits_scanNode
  have m2 := Tryz.told_scanNode
  rw [Tryz.underlying94] at m1 m2
  simp [mName] at m1 m2
  go_enter Tryz.func194, Tryz.ntmps194
  go_wp2_with fail
  refine (hk.out _).mono ?_
  rintro e w1 ⟨rfl, b1⟩
  simp only [kindV, Int.reduceEq, if_false, if_true]
  have hq1 := fun o => b1.cell (p := ⟨w.heap.size, o, none⟩) (by simp)
  have B1 := Lib.hid (((Below.refl _ w).alloc (Nat.le_refl _) _).trans (b1.mono (by simp)))
  have C1 := Lib.hid b1
  have R1 := Lib.hid (show Rd w1.drew .i64 a cols from H.out.below B1.out.drew)
  clear b1
  go_wp2_with fail
  first | go_region_with (first
    | (go_at_call 369; refine (fitsScan_any _ _ hs).mono ?_; rintro e w2 ⟨rfl, b2⟩; rw [HF.out]; have C2 := Lib.hid (below_step C1.out.drew (Nat.le_refl _) b2); have hq2 := fun o => C2.out.cell (p := ⟨w.heap.size, o, none⟩) (by simp); have T2 := Lib.hid (below_step B1.out.drew (Nat.le_refl _) b2); have R2 := Lib.hid (H.out.below T2.out); clear b2)
    | (go_at_call 370; refine (toldScan_any _ _).mono ?_; rintro e w3 ⟨a3, c3, rfl, r3, b3⟩; have C3 := Lib.hid (below_step C2.out (Nat.le_refl _) b3); have hq3 := fun o => C3.out.cell (p := ⟨w.heap.size, o, none⟩) (by simp); have T3 := Lib.hid (below_step T2.out (Nat.le_refl _) b3); have R3 := Lib.hid (H.out.below T3.out); have Q3 := Lib.hid r3; clear b3 r3)
    | (go_at_call 123; refine (sameNode_any ⟨0, name, 0, 0, 0, false, []⟩ ⟨0, name, col, op, num, slot, cols⟩ _ _ _ _ _ Q3.out R3.out (by first | exact hl | exact Nat.zero_le _) hl).mono ?_; rintro e w4 ⟨rfl, b4⟩; have T4 := Lib.hid (below_step T3.out (Nat.le_refl _) b4); clear b4)) | fail
  all_goals
    go_wp2
    go_ret
    exact ⟨rfl, T2.out⟩

set_option maxRecDepth 100000 in
set_option maxHeartbeats 1600000 in
theorem implNodeOk1t (name : ByteArray) (col op num : Int) (slot : Bool) (cols : List Int) (a : Option Addr) (c : Nat) (w : World) (hfit : (fitF col op num slot) = true) (h : Rd w .i64 a cols) (hl : cols.length ≤ maxLen) (hm : cols.length ≤ 17592186044416) (hs : name.size ≤ maxLen) :
    Calls Tryz.prog 194 #[.agg #[.int .i64 1, .string name, .int .i64 col, .int .i64 op, .int .i64 num, .bool slot, .slice a cols.length c]] w fun e w' => e = .returned (.bool (eqN ⟨1, ⟨#[]⟩, col, op, num, slot, []⟩ ⟨1, name, col, op, num, slot, cols⟩)) ∧ Below w.heap.size w w' := by
  have H := Lib.hid h; clear h
  have hk := Lib.hid (kindOf_any ⟨1, name, col, op, num, slot, cols⟩ a c)
  have HF := Lib.hid hfit; clear hfit
  have m1 := Tryz.fits_filterNode
  have m2 := Tryz.told_filterNode
  rw [Tryz.underlying94] at m1 m2
  simp [mName] at m1 m2
  go_enter Tryz.func194, Tryz.ntmps194
  go_wp2_with fail
  refine (hk.out _).mono ?_
  rintro e w1 ⟨rfl, b1⟩
  simp only [kindV, Int.reduceEq, if_false, if_true]
  have hq1 := fun o => b1.cell (p := ⟨w.heap.size, o, none⟩) (by simp)
  have B1 := Lib.hid (((Below.refl _ w).alloc (Nat.le_refl _) _).trans (b1.mono (by simp)))
  have C1 := Lib.hid b1
  have R1 := Lib.hid (show Rd w1.drew .i64 a cols from H.out.below B1.out.drew)
  clear b1
  go_wp2_with fail
  first | go_region_with (first
    | (go_at_call 354; refine (fitsFilter_any _ _ _ _ _).mono ?_; rintro e w2 ⟨rfl, b2⟩; rw [HF.out]; have C2 := Lib.hid (below_step C1.out.drew (Nat.le_refl _) b2); have hq2 := fun o => C2.out.cell (p := ⟨w.heap.size, o, none⟩) (by simp); have T2 := Lib.hid (below_step B1.out.drew (Nat.le_refl _) b2); have R2 := Lib.hid (H.out.below T2.out); clear b2)
    | (go_at_call 355; refine (toldFilter_any _ _ _ _ _).mono ?_; rintro e w3 ⟨a3, c3, rfl, r3, b3⟩; have C3 := Lib.hid (below_step C2.out (Nat.le_refl _) b3); have hq3 := fun o => C3.out.cell (p := ⟨w.heap.size, o, none⟩) (by simp); have T3 := Lib.hid (below_step T2.out (Nat.le_refl _) b3); have R3 := Lib.hid (H.out.below T3.out); have Q3 := Lib.hid r3; clear b3 r3)
    | (go_at_call 123; refine (sameNode_any ⟨1, ⟨#[]⟩, col, op, num, slot, []⟩ ⟨1, name, col, op, num, slot, cols⟩ _ _ _ _ _ Q3.out R3.out (by first | exact hl | exact Nat.zero_le _) hl).mono ?_; rintro e w4 ⟨rfl, b4⟩; have T4 := Lib.hid (below_step T3.out (Nat.le_refl _) b4); clear b4)) | fail
  all_goals
    go_wp2
    go_ret
    exact ⟨rfl, T4.out⟩

set_option maxRecDepth 100000 in
set_option maxHeartbeats 1600000 in
theorem implNodeOk1f (name : ByteArray) (col op num : Int) (slot : Bool) (cols : List Int) (a : Option Addr) (c : Nat) (w : World) (hfit : (fitF col op num slot) = false) (h : Rd w .i64 a cols) (hl : cols.length ≤ maxLen) (hm : cols.length ≤ 17592186044416) (hs : name.size ≤ maxLen) :
    Calls Tryz.prog 194 #[.agg #[.int .i64 1, .string name, .int .i64 col, .int .i64 op, .int .i64 num, .bool slot, .slice a cols.length c]] w fun e w' => e = .returned (.bool (false)) ∧ Below w.heap.size w w' := by
  have H := Lib.hid h; clear h
  have hk := Lib.hid (kindOf_any ⟨1, name, col, op, num, slot, cols⟩ a c)
  have HF := Lib.hid hfit; clear hfit
  have m1 := Tryz.fits_filterNode
  have m2 := Tryz.told_filterNode
  rw [Tryz.underlying94] at m1 m2
  simp [mName] at m1 m2
  go_enter Tryz.func194, Tryz.ntmps194
  go_wp2_with fail
  refine (hk.out _).mono ?_
  rintro e w1 ⟨rfl, b1⟩
  simp only [kindV, Int.reduceEq, if_false, if_true]
  have hq1 := fun o => b1.cell (p := ⟨w.heap.size, o, none⟩) (by simp)
  have B1 := Lib.hid (((Below.refl _ w).alloc (Nat.le_refl _) _).trans (b1.mono (by simp)))
  have C1 := Lib.hid b1
  have R1 := Lib.hid (show Rd w1.drew .i64 a cols from H.out.below B1.out.drew)
  clear b1
  go_wp2_with fail
  first | go_region_with (first
    | (go_at_call 354; refine (fitsFilter_any _ _ _ _ _).mono ?_; rintro e w2 ⟨rfl, b2⟩; rw [HF.out]; have C2 := Lib.hid (below_step C1.out.drew (Nat.le_refl _) b2); have hq2 := fun o => C2.out.cell (p := ⟨w.heap.size, o, none⟩) (by simp); have T2 := Lib.hid (below_step B1.out.drew (Nat.le_refl _) b2); have R2 := Lib.hid (H.out.below T2.out); clear b2)
    | (go_at_call 355; refine (toldFilter_any _ _ _ _ _).mono ?_; rintro e w3 ⟨a3, c3, rfl, r3, b3⟩; have C3 := Lib.hid (below_step C2.out (Nat.le_refl _) b3); have hq3 := fun o => C3.out.cell (p := ⟨w.heap.size, o, none⟩) (by simp); have T3 := Lib.hid (below_step T2.out (Nat.le_refl _) b3); have R3 := Lib.hid (H.out.below T3.out); have Q3 := Lib.hid r3; clear b3 r3)
    | (go_at_call 123; refine (sameNode_any ⟨1, ⟨#[]⟩, col, op, num, slot, []⟩ ⟨1, name, col, op, num, slot, cols⟩ _ _ _ _ _ Q3.out R3.out (by first | exact hl | exact Nat.zero_le _) hl).mono ?_; rintro e w4 ⟨rfl, b4⟩; have T4 := Lib.hid (below_step T3.out (Nat.le_refl _) b4); clear b4)) | fail
  all_goals
    go_wp2
    go_ret
    exact ⟨rfl, T2.out⟩
end Go.Proofs.YtfpbhedophlnkaaGreatDoor
