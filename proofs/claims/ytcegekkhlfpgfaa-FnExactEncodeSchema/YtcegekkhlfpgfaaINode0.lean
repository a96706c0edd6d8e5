/-
  Contract of impl.NodeOk: it answers whether the node is one. For every node.
-/
import Derived.Test.YtcegekkhlfpgfaaTold
import Derived.Deep.RegionWith
namespace Go.Proofs.Ytcegekkhlfpgfaa
open Go.RowKit
set_option linter.unusedSimpArgs false
set_option linter.unusedVariables false

/-- The name of a method that an interface type asks for. -/
def mName (d : Option TypeDesc) (i : Nat) : String :=
  match d with
  | some (.interface ms) => (ms.getD i default).1
  | _ => default

theorem Try.fits_scanNode (v : Value) (W : World) : (method 270 89 v (mName (Try.prog.underlying 65) 0)).run Try.prog W = .ok (127, v) W := by kernel_rfl
theorem Try.told_scanNode (v : Value) (W : World) : (method 270 89 v (mName (Try.prog.underlying 65) 1)).run Try.prog W = .ok (128, v) W := by kernel_rfl
theorem Try.fits_filterNode (v : Value) (W : World) : (method 270 91 v (mName (Try.prog.underlying 65) 0)).run Try.prog W = .ok (129, v) W := by kernel_rfl
theorem Try.told_filterNode (v : Value) (W : World) : (method 270 91 v (mName (Try.prog.underlying 65) 1)).run Try.prog W = .ok (130, v) W := by kernel_rfl
theorem Try.fits_keepNode (v : Value) (W : World) : (method 270 94 v (mName (Try.prog.underlying 65) 0)).run Try.prog W = .ok (133, v) W := by kernel_rfl
theorem Try.told_keepNode (v : Value) (W : World) : (method 270 94 v (mName (Try.prog.underlying 65) 1)).run Try.prog W = .ok (134, v) W := by kernel_rfl
theorem Try.fits_joinNode (v : Value) (W : World) : (method 270 96 v (mName (Try.prog.underlying 65) 0)).run Try.prog W = .ok (139, v) W := by kernel_rfl
theorem Try.told_joinNode (v : Value) (W : World) : (method 270 96 v (mName (Try.prog.underlying 65) 1)).run Try.prog W = .ok (140, v) W := by kernel_rfl
theorem Try.fits_bothNode (v : Value) (W : World) : (method 270 102 v (mName (Try.prog.underlying 65) 0)).run Try.prog W = .ok (145, v) W := by kernel_rfl
theorem Try.told_bothNode (v : Value) (W : World) : (method 270 102 v (mName (Try.prog.underlying 65) 1)).run Try.prog W = .ok (146, v) W := by kernel_rfl
theorem Try.fits_sortNode (v : Value) (W : World) : (method 270 98 v (mName (Try.prog.underlying 65) 0)).run Try.prog W = .ok (141, v) W := by kernel_rfl
theorem Try.told_sortNode (v : Value) (W : World) : (method 270 98 v (mName (Try.prog.underlying 65) 1)).run Try.prog W = .ok (142, v) W := by kernel_rfl
theorem Try.fits_limitNode (v : Value) (W : World) : (method 270 100 v (mName (Try.prog.underlying 65) 0)).run Try.prog W = .ok (143, v) W := by kernel_rfl
theorem Try.told_limitNode (v : Value) (W : World) : (method 270 100 v (mName (Try.prog.underlying 65) 1)).run Try.prog W = .ok (144, v) W := by kernel_rfl
theorem Try.fits_onceNode (v : Value) (W : World) : (method 270 103 v (mName (Try.prog.underlying 65) 0)).run Try.prog W = .ok (147, v) W := by kernel_rfl
theorem Try.told_onceNode (v : Value) (W : World) : (method 270 103 v (mName (Try.prog.underlying 65) 1)).run Try.prog W = .ok (148, v) W := by kernel_rfl

theorem nodeB_0 (name : ByteArray) (col op num : Int) (slot : Bool) (cols : List Int) :
    nodeB ⟨0, name, col, op, num, slot, cols⟩ = ((wordB name.data.toList) && eqN ⟨0, name, 0, 0, 0, false, []⟩ ⟨0, name, col, op, num, slot, cols⟩) := by
  rw [Bool.eq_iff_iff]
  simp [nodeB, eqN, eqL, fitF, fitK, fitL, colB, slotB, numI, ByteArray.toList_eq, and_assoc]
  try grind
theorem nodeB_1 (name : ByteArray) (col op num : Int) (slot : Bool) (cols : List Int) :
    nodeB ⟨1, name, col, op, num, slot, cols⟩ = ((fitF col op num slot) && eqN ⟨1, ⟨#[]⟩, col, op, num, slot, []⟩ ⟨1, name, col, op, num, slot, cols⟩) := by
  rw [Bool.eq_iff_iff]
  simp [nodeB, eqN, eqL, fitF, fitK, fitL, colB, slotB, numI, ByteArray.toList_eq, and_assoc]
  try grind
theorem nodeB_2 (name : ByteArray) (col op num : Int) (slot : Bool) (cols : List Int) :
    nodeB ⟨2, name, col, op, num, slot, cols⟩ = ((fitK cols) && eqN ⟨2, ⟨#[]⟩, 0, 0, 0, false, cols⟩ ⟨2, name, col, op, num, slot, cols⟩) := by
  rw [Bool.eq_iff_iff]
  simp [nodeB, eqN, eqL, fitF, fitK, fitL, colB, slotB, numI, ByteArray.toList_eq, and_assoc]
  try grind
theorem nodeB_3 (name : ByteArray) (col op num : Int) (slot : Bool) (cols : List Int) :
    nodeB ⟨3, name, col, op, num, slot, cols⟩ = ((colB col && colB num) && eqN ⟨3, ⟨#[]⟩, col, 0, num, false, []⟩ ⟨3, name, col, op, num, slot, cols⟩) := by
  rw [Bool.eq_iff_iff]
  simp [nodeB, eqN, eqL, fitF, fitK, fitL, colB, slotB, numI, ByteArray.toList_eq, and_assoc]
  try grind
theorem nodeB_4 (name : ByteArray) (col op num : Int) (slot : Bool) (cols : List Int) :
    nodeB ⟨4, name, col, op, num, slot, cols⟩ = ((true) && eqN ⟨4, ⟨#[]⟩, 0, 0, 0, false, []⟩ ⟨4, name, col, op, num, slot, cols⟩) := by
  rw [Bool.eq_iff_iff]
  simp [nodeB, eqN, eqL, fitF, fitK, fitL, colB, slotB, numI, ByteArray.toList_eq, and_assoc]
  try grind
theorem nodeB_5 (name : ByteArray) (col op num : Int) (slot : Bool) (cols : List Int) :
    nodeB ⟨5, name, col, op, num, slot, cols⟩ = ((colB col) && eqN ⟨5, ⟨#[]⟩, col, 0, 0, false, []⟩ ⟨5, name, col, op, num, slot, cols⟩) := by
  rw [Bool.eq_iff_iff]
  simp [nodeB, eqN, eqL, fitF, fitK, fitL, colB, slotB, numI, ByteArray.toList_eq, and_assoc]
  try grind
theorem nodeB_6 (name : ByteArray) (col op num : Int) (slot : Bool) (cols : List Int) :
    nodeB ⟨6, name, col, op, num, slot, cols⟩ = ((fitL num slot) && eqN ⟨6, ⟨#[]⟩, 0, 0, num, slot, []⟩ ⟨6, name, col, op, num, slot, cols⟩) := by
  rw [Bool.eq_iff_iff]
  simp [nodeB, eqN, eqL, fitF, fitK, fitL, colB, slotB, numI, ByteArray.toList_eq, and_assoc]
  try grind
theorem nodeB_7 (name : ByteArray) (col op num : Int) (slot : Bool) (cols : List Int) :
    nodeB ⟨7, name, col, op, num, slot, cols⟩ = ((true) && eqN ⟨7, ⟨#[]⟩, 0, 0, 0, false, []⟩ ⟨7, name, col, op, num, slot, cols⟩) := by
  rw [Bool.eq_iff_iff]
  simp [nodeB, eqN, eqL, fitF, fitK, fitL, colB, slotB, numI, ByteArray.toList_eq, and_assoc]
  try grind
end Go.Proofs.Ytcegekkhlfpgfaa
