/-
  Contract of impl.NodeOk: it answers whether the node is one. For every node.
-/
import Derived.Test.YtdkiaahcmoafdaaGreatTold
import Derived.Deep.RegionWith
namespace Go.Proofs.YtdkiaahcmoafdaaGreat
open Go.RowKit
set_option linter.unusedSimpArgs false
set_option linter.unusedVariables false

/-- The name of a method that an interface type asks for. -/
def mName (d : Option TypeDesc) (i : Nat) : String :=
  match d with
  | some (.interface ms) => (ms.getD i default).1
  | _ => default

theorem Tryz.fits_scanNode (v : Value) (W : World) : (method 250 101 v (mName (Tryz.prog.underlying 69) 0)).run Tryz.prog W = .ok (115, v) W := by kernel_rfl
theorem Tryz.told_scanNode (v : Value) (W : World) : (method 250 101 v (mName (Tryz.prog.underlying 69) 1)).run Tryz.prog W = .ok (116, v) W := by kernel_rfl
theorem Tryz.fits_filterNode (v : Value) (W : World) : (method 250 90 v (mName (Tryz.prog.underlying 69) 0)).run Tryz.prog W = .ok (99, v) W := by kernel_rfl
theorem Tryz.told_filterNode (v : Value) (W : World) : (method 250 90 v (mName (Tryz.prog.underlying 69) 1)).run Tryz.prog W = .ok (100, v) W := by kernel_rfl
theorem Tryz.fits_keepNode (v : Value) (W : World) : (method 250 93 v (mName (Tryz.prog.underlying 69) 0)).run Tryz.prog W = .ok (104, v) W := by kernel_rfl
theorem Tryz.told_keepNode (v : Value) (W : World) : (method 250 93 v (mName (Tryz.prog.underlying 69) 1)).run Tryz.prog W = .ok (105, v) W := by kernel_rfl
theorem Tryz.fits_joinNode (v : Value) (W : World) : (method 250 95 v (mName (Tryz.prog.underlying 69) 0)).run Tryz.prog W = .ok (109, v) W := by kernel_rfl
theorem Tryz.told_joinNode (v : Value) (W : World) : (method 250 95 v (mName (Tryz.prog.underlying 69) 1)).run Tryz.prog W = .ok (110, v) W := by kernel_rfl
theorem Tryz.fits_bothNode (v : Value) (W : World) : (method 250 97 v (mName (Tryz.prog.underlying 69) 0)).run Tryz.prog W = .ok (111, v) W := by kernel_rfl
theorem Tryz.told_bothNode (v : Value) (W : World) : (method 250 97 v (mName (Tryz.prog.underlying 69) 1)).run Tryz.prog W = .ok (112, v) W := by kernel_rfl
theorem Tryz.fits_sortNode (v : Value) (W : World) : (method 250 99 v (mName (Tryz.prog.underlying 69) 0)).run Tryz.prog W = .ok (113, v) W := by kernel_rfl
theorem Tryz.told_sortNode (v : Value) (W : World) : (method 250 99 v (mName (Tryz.prog.underlying 69) 1)).run Tryz.prog W = .ok (114, v) W := by kernel_rfl
theorem Tryz.fits_limitNode (v : Value) (W : World) : (method 250 112 v (mName (Tryz.prog.underlying 69) 0)).run Tryz.prog W = .ok (117, v) W := by kernel_rfl
theorem Tryz.told_limitNode (v : Value) (W : World) : (method 250 112 v (mName (Tryz.prog.underlying 69) 1)).run Tryz.prog W = .ok (118, v) W := by kernel_rfl
theorem Tryz.fits_onceNode (v : Value) (W : World) : (method 250 113 v (mName (Tryz.prog.underlying 69) 0)).run Tryz.prog W = .ok (119, v) W := by kernel_rfl
theorem Tryz.told_onceNode (v : Value) (W : World) : (method 250 113 v (mName (Tryz.prog.underlying 69) 1)).run Tryz.prog W = .ok (120, v) W := by kernel_rfl

theorem nodeB_0 (name : ByteArray) (col op num : Int) (slot : Bool) (cols : List Int) :
    nodeB ⟨0, name, col, op, num, slot, cols⟩ = ((wordB name.data.toList) && eqN ⟨0, name, 0, 0, 0, false, []⟩ ⟨0, name, col, op, num, slot, cols⟩) := by
  rw [Bool.eq_iff_iff]
  simp [nodeB, eqN, eqL, fitF, fitK, fitL, colB, slotB, numI, ByteArray.toList_eq, and_assoc]
  try grind
theorem nodeB_1 (name : ByteArray) (col op num : Int) (slot : Bool) (cols : List Int) :
    nodeB ⟨1, name, col, op, num, slot, cols⟩ = ((fitF col op num slot) && eqN ⟨1, ⟨#[]⟩, col, op, num, slot, []⟩ ⟨1, name, col, op, num, slot, cols⟩) := by
  rw [Bool.eq_iff_iff]
  simp [nodeB, eqN, eqL, fitF, fitK, fitL, colB, slotB, numI, ByteArray.toList_eq, and_assoc]
  try grind
theorem nodeB_2 (name : ByteArray) (col op num : Int) (slot : Bool) (cols : List Int) :
    nodeB ⟨2, name, col, op, num, slot, cols⟩ = ((fitK cols) && eqN ⟨2, ⟨#[]⟩, 0, 0, 0, false, cols⟩ ⟨2, name, col, op, num, slot, cols⟩) := by
  rw [Bool.eq_iff_iff]
  simp [nodeB, eqN, eqL, fitF, fitK, fitL, colB, slotB, numI, ByteArray.toList_eq, and_assoc]
  try grind
theorem nodeB_3 (name : ByteArray) (col op num : Int) (slot : Bool) (cols : List Int) :
    nodeB ⟨3, name, col, op, num, slot, cols⟩ = ((colB col && colB num) && eqN ⟨3, ⟨#[]⟩, col, 0, num, false, []⟩ ⟨3, name, col, op, num, slot, cols⟩) := by
  rw [Bool.eq_iff_iff]
  simp [nodeB, eqN, eqL, fitF, fitK, fitL, colB, slotB, numI, ByteArray.toList_eq, and_assoc]
  try grind
theorem nodeB_4 (name : ByteArray) (col op num : Int) (slot : Bool) (cols : List Int) :
    nodeB ⟨4, name, col, op, num, slot, cols⟩ = ((true) && eqN ⟨4, ⟨#[]⟩, 0, 0, 0, false, []⟩ ⟨4, name, col, op, num, slot, cols⟩) := by
  rw [Bool.eq_iff_iff]
  simp [nodeB, eqN, eqL, fitF, fitK, fitL, colB, slotB, numI, ByteArray.toList_eq, and_assoc]
  try grind
theorem nodeB_5 (name : ByteArray) (col op num : Int) (slot : Bool) (cols : List Int) :
    nodeB ⟨5, name, col, op, num, slot, cols⟩ = ((colB col) && eqN ⟨5, ⟨#[]⟩, col, 0, 0, false, []⟩ ⟨5, name, col, op, num, slot, cols⟩) := by
  rw [Bool.eq_iff_iff]
  simp [nodeB, eqN, eqL, fitF, fitK, fitL, colB, slotB, numI, ByteArray.toList_eq, and_assoc]
  try grind
theorem nodeB_6 (name : ByteArray) (col op num : Int) (slot : Bool) (cols : List Int) :
    nodeB ⟨6, name, col, op, num, slot, cols⟩ = ((fitL num slot) && eqN ⟨6, ⟨#[]⟩, 0, 0, num, slot, []⟩ ⟨6, name, col, op, num, slot, cols⟩) := by
  rw [Bool.eq_iff_iff]
  simp [nodeB, eqN, eqL, fitF, fitK, fitL, colB, slotB, numI, ByteArray.toList_eq, and_assoc]
  try grind
theorem nodeB_7 (name : ByteArray) (col op num : Int) (slot : Bool) (cols : List Int) :
    nodeB ⟨7, name, col, op, num, slot, cols⟩ = ((true) && eqN ⟨7, ⟨#[]⟩, 0, 0, 0, false, []⟩ ⟨7, name, col, op, num, slot, cols⟩) := by
  rw [Bool.eq_iff_iff]
  simp [nodeB, eqN, eqL, fitF, fitK, fitL, colB, slotB, numI, ByteArray.toList_eq, and_assoc]
  try grind
end Go.Proofs.YtdkiaahcmoafdaaGreat
