/-
  Contract of impl.NodeOk: it answers whether the node is one. For every node.
-/
import Derived.Test.YtfbgflmolkgopaaTold
import Derived.Deep.RegionWith
namespace Go.Proofs.Ytfbgflmolkgopaa
open Go.RowKit
set_option linter.unusedSimpArgs false
set_option linter.unusedVariables false

/-- The name of a method that an interface type asks for. -/
def mName (d : Option TypeDesc) (i : Nat) : String :=
  match d with
  | some (.interface ms) => (ms.getD i default).1
  | _ => default

theorem Try.fits_scanNode (v : Value) (W : World) : (method 263 87 v (mName (Try.prog.underlying 57) 0)).run Try.prog W = .ok (133, v) W := by kernel_rfl
theorem Try.told_scanNode (v : Value) (W : World) : (method 263 87 v (mName (Try.prog.underlying 57) 1)).run Try.prog W = .ok (134, v) W := by kernel_rfl
theorem Try.fits_filterNode (v : Value) (W : World) : (method 263 89 v (mName (Try.prog.underlying 57) 0)).run Try.prog W = .ok (138, v) W := by kernel_rfl
theorem Try.told_filterNode (v : Value) (W : World) : (method 263 89 v (mName (Try.prog.underlying 57) 1)).run Try.prog W = .ok (139, v) W := by kernel_rfl
theorem Try.fits_keepNode (v : Value) (W : World) : (method 263 91 v (mName (Try.prog.underlying 57) 0)).run Try.prog W = .ok (143, v) W := by kernel_rfl
theorem Try.told_keepNode (v : Value) (W : World) : (method 263 91 v (mName (Try.prog.underlying 57) 1)).run Try.prog W = .ok (144, v) W := by kernel_rfl
theorem Try.fits_joinNode (v : Value) (W : World) : (method 263 99 v (mName (Try.prog.underlying 57) 0)).run Try.prog W = .ok (154, v) W := by kernel_rfl
theorem Try.told_joinNode (v : Value) (W : World) : (method 263 99 v (mName (Try.prog.underlying 57) 1)).run Try.prog W = .ok (155, v) W := by kernel_rfl
theorem Try.fits_bothNode (v : Value) (W : World) : (method 263 100 v (mName (Try.prog.underlying 57) 0)).run Try.prog W = .ok (156, v) W := by kernel_rfl
theorem Try.told_bothNode (v : Value) (W : World) : (method 263 100 v (mName (Try.prog.underlying 57) 1)).run Try.prog W = .ok (157, v) W := by kernel_rfl
theorem Try.fits_sortNode (v : Value) (W : World) : (method 263 93 v (mName (Try.prog.underlying 57) 0)).run Try.prog W = .ok (148, v) W := by kernel_rfl
theorem Try.told_sortNode (v : Value) (W : World) : (method 263 93 v (mName (Try.prog.underlying 57) 1)).run Try.prog W = .ok (149, v) W := by kernel_rfl
theorem Try.fits_limitNode (v : Value) (W : World) : (method 263 95 v (mName (Try.prog.underlying 57) 0)).run Try.prog W = .ok (150, v) W := by kernel_rfl
theorem Try.told_limitNode (v : Value) (W : World) : (method 263 95 v (mName (Try.prog.underlying 57) 1)).run Try.prog W = .ok (151, v) W := by kernel_rfl
theorem Try.fits_onceNode (v : Value) (W : World) : (method 263 97 v (mName (Try.prog.underlying 57) 0)).run Try.prog W = .ok (152, v) W := by kernel_rfl
theorem Try.told_onceNode (v : Value) (W : World) : (method 263 97 v (mName (Try.prog.underlying 57) 1)).run Try.prog W = .ok (153, v) W := by kernel_rfl

theorem nodeB_0 (name : ByteArray) (col op num : Int) (slot : Bool) (cols : List Int) :
    nodeB ⟨0, name, col, op, num, slot, cols⟩ = ((wordB name.data.toList) && eqN ⟨0, name, 0, 0, 0, false, []⟩ ⟨0, name, col, op, num, slot, cols⟩) := by
  rw [Bool.eq_iff_iff]
  simp [nodeB, eqN, eqL, fitF, fitK, fitL, colB, slotB, numI, ByteArray.toList_eq, and_assoc]
  try grind
theorem nodeB_1 (name : ByteArray) (col op num : Int) (slot : Bool) (cols : List Int) :
    nodeB ⟨1, name, col, op, num, slot, cols⟩ = ((fitF col op num slot) && eqN ⟨1, ⟨#[]⟩, col, op, num, slot, []⟩ ⟨1, name, col, op, num, slot, cols⟩) := by
  rw [Bool.eq_iff_iff]
  simp [nodeB, eqN, eqL, fitF, fitK, fitL, colB, slotB, numI, ByteArray.toList_eq, and_assoc]
  try grind
theorem nodeB_2 (name : ByteArray) (col op num : Int) (slot : Bool) (cols : List Int) :
    nodeB ⟨2, name, col, op, num, slot, cols⟩ = ((fitK cols) && eqN ⟨2, ⟨#[]⟩, 0, 0, 0, false, cols⟩ ⟨2, name, col, op, num, slot, cols⟩) := by
  rw [Bool.eq_iff_iff]
  simp [nodeB, eqN, eqL, fitF, fitK, fitL, colB, slotB, numI, ByteArray.toList_eq, and_assoc]
  try grind
theorem nodeB_3 (name : ByteArray) (col op num : Int) (slot : Bool) (cols : List Int) :
    nodeB ⟨3, name, col, op, num, slot, cols⟩ = ((colB col && colB num) && eqN ⟨3, ⟨#[]⟩, col, 0, num, false, []⟩ ⟨3, name, col, op, num, slot, cols⟩) := by
  rw [Bool.eq_iff_iff]
  simp [nodeB, eqN, eqL, fitF, fitK, fitL, colB, slotB, numI, ByteArray.toList_eq, and_assoc]
  try grind
theorem nodeB_4 (name : ByteArray) (col op num : Int) (slot : Bool) (cols : List Int) :
    nodeB ⟨4, name, col, op, num, slot, cols⟩ = ((true) && eqN ⟨4, ⟨#[]⟩, 0, 0, 0, false, []⟩ ⟨4, name, col, op, num, slot, cols⟩) := by
  rw [Bool.eq_iff_iff]
  simp [nodeB, eqN, eqL, fitF, fitK, fitL, colB, slotB, numI, ByteArray.toList_eq, and_assoc]
  try grind
theorem nodeB_5 (name : ByteArray) (col op num : Int) (slot : Bool) (cols : List Int) :
    nodeB ⟨5, name, col, op, num, slot, cols⟩ = ((colB col) && eqN ⟨5, ⟨#[]⟩, col, 0, 0, false, []⟩ ⟨5, name, col, op, num, slot, cols⟩) := by
  rw [Bool.eq_iff_iff]
  simp [nodeB, eqN, eqL, fitF, fitK, fitL, colB, slotB, numI, ByteArray.toList_eq, and_assoc]
  try grind
theorem nodeB_6 (name : ByteArray) (col op num : Int) (slot : Bool) (cols : List Int) :
    nodeB ⟨6, name, col, op, num, slot, cols⟩ = ((fitL num slot) && eqN ⟨6, ⟨#[]⟩, 0, 0, num, slot, []⟩ ⟨6, name, col, op, num, slot, cols⟩) := by
  rw [Bool.eq_iff_iff]
  simp [nodeB, eqN, eqL, fitF, fitK, fitL, colB, slotB, numI, ByteArray.toList_eq, and_assoc]
  try grind
theorem nodeB_7 (name : ByteArray) (col op num : Int) (slot : Bool) (cols : List Int) :
    nodeB ⟨7, name, col, op, num, slot, cols⟩ = ((true) && eqN ⟨7, ⟨#[]⟩, 0, 0, 0, false, []⟩ ⟨7, name, col, op, num, slot, cols⟩) := by
  rw [Bool.eq_iff_iff]
  simp [nodeB, eqN, eqL, fitF, fitK, fitL, colB, slotB, numI, ByteArray.toList_eq, and_assoc]
  try grind
end Go.Proofs.Ytfbgflmolkgopaa
