/-
  Contract of impl.NodeOk: it answers whether the node is one. For every node.
-/
import Derived.Test.YtfpbhedophlnkaaDoorTold
import Derived.Deep.RegionWith
namespace Go.Proofs.YtfpbhedophlnkaaDoor
open Go.RowKit
set_option linter.unusedSimpArgs false
set_option linter.unusedVariables false

/-- The name of a method that an interface type asks for. -/
def mName (d : Option TypeDesc) (i : Nat) : String :=
  match d with
  | some (.interface ms) => (ms.getD i default).1
  | _ => default

theorem Tryd.fits_scanNode (v : Value) (W : World) : (method 239 62 v (mName (Tryd.prog.underlying 46) 0)).run Tryd.prog W = .ok (92, v) W := by kernel_rfl
theorem Tryd.told_scanNode (v : Value) (W : World) : (method 239 62 v (mName (Tryd.prog.underlying 46) 1)).run Tryd.prog W = .ok (93, v) W := by kernel_rfl
theorem Tryd.fits_filterNode (v : Value) (W : World) : (method 239 64 v (mName (Tryd.prog.underlying 46) 0)).run Tryd.prog W = .ok (97, v) W := by kernel_rfl
theorem Tryd.told_filterNode (v : Value) (W : World) : (method 239 64 v (mName (Tryd.prog.underlying 46) 1)).run Tryd.prog W = .ok (98, v) W := by kernel_rfl
theorem Tryd.fits_keepNode (v : Value) (W : World) : (method 239 66 v (mName (Tryd.prog.underlying 46) 0)).run Tryd.prog W = .ok (102, v) W := by kernel_rfl
theorem Tryd.told_keepNode (v : Value) (W : World) : (method 239 66 v (mName (Tryd.prog.underlying 46) 1)).run Tryd.prog W = .ok (103, v) W := by kernel_rfl
theorem Tryd.fits_joinNode (v : Value) (W : World) : (method 239 68 v (mName (Tryd.prog.underlying 46) 0)).run Tryd.prog W = .ok (108, v) W := by kernel_rfl
theorem Tryd.told_joinNode (v : Value) (W : World) : (method 239 68 v (mName (Tryd.prog.underlying 46) 1)).run Tryd.prog W = .ok (109, v) W := by kernel_rfl
theorem Tryd.fits_bothNode (v : Value) (W : World) : (method 239 70 v (mName (Tryd.prog.underlying 46) 0)).run Tryd.prog W = .ok (110, v) W := by kernel_rfl
theorem Tryd.told_bothNode (v : Value) (W : World) : (method 239 70 v (mName (Tryd.prog.underlying 46) 1)).run Tryd.prog W = .ok (111, v) W := by kernel_rfl
theorem Tryd.fits_sortNode (v : Value) (W : World) : (method 239 72 v (mName (Tryd.prog.underlying 46) 0)).run Tryd.prog W = .ok (112, v) W := by kernel_rfl
theorem Tryd.told_sortNode (v : Value) (W : World) : (method 239 72 v (mName (Tryd.prog.underlying 46) 1)).run Tryd.prog W = .ok (113, v) W := by kernel_rfl
theorem Tryd.fits_limitNode (v : Value) (W : World) : (method 239 74 v (mName (Tryd.prog.underlying 46) 0)).run Tryd.prog W = .ok (114, v) W := by kernel_rfl
theorem Tryd.told_limitNode (v : Value) (W : World) : (method 239 74 v (mName (Tryd.prog.underlying 46) 1)).run Tryd.prog W = .ok (115, v) W := by kernel_rfl
theorem Tryd.fits_onceNode (v : Value) (W : World) : (method 239 75 v (mName (Tryd.prog.underlying 46) 0)).run Tryd.prog W = .ok (116, v) W := by kernel_rfl
theorem Tryd.told_onceNode (v : Value) (W : World) : (method 239 75 v (mName (Tryd.prog.underlying 46) 1)).run Tryd.prog W = .ok (117, v) W := by kernel_rfl

theorem nodeB_0 (name : ByteArray) (col op num : Int) (slot : Bool) (cols : List Int) :
    nodeB ⟨0, name, col, op, num, slot, cols⟩ = ((wordB name.data.toList) && eqN ⟨0, name, 0, 0, 0, false, []⟩ ⟨0, name, col, op, num, slot, cols⟩) := by
  rw [Bool.eq_iff_iff]
  simp [nodeB, eqN, eqL, fitF, fitK, fitL, colB, slotB, numI, ByteArray.toList_eq, and_assoc]
  try grind
theorem nodeB_1 (name : ByteArray) (col op num : Int) (slot : Bool) (cols : List Int) :
    nodeB ⟨1, name, col, op, num, slot, cols⟩ = ((fitF col op num slot) && eqN ⟨1, ⟨#[]⟩, col, op, num, slot, []⟩ ⟨1, name, col, op, num, slot, cols⟩) := by
  rw [Bool.eq_iff_iff]
  simp [nodeB, eqN, eqL, fitF, fitK, fitL, colB, slotB, numI, ByteArray.toList_eq, and_assoc]
  try grind
theorem nodeB_2 (name : ByteArray) (col op num : Int) (slot : Bool) (cols : List Int) :
    nodeB ⟨2, name, col, op, num, slot, cols⟩ = ((fitK cols) && eqN ⟨2, ⟨#[]⟩, 0, 0, 0, false, cols⟩ ⟨2, name, col, op, num, slot, cols⟩) := by
  rw [Bool.eq_iff_iff]
  simp [nodeB, eqN, eqL, fitF, fitK, fitL, colB, slotB, numI, ByteArray.toList_eq, and_assoc]
  try grind
theorem nodeB_3 (name : ByteArray) (col op num : Int) (slot : Bool) (cols : List Int) :
    nodeB ⟨3, name, col, op, num, slot, cols⟩ = ((colB col && colB num) && eqN ⟨3, ⟨#[]⟩, col, 0, num, false, []⟩ ⟨3, name, col, op, num, slot, cols⟩) := by
  rw [Bool.eq_iff_iff]
  simp [nodeB, eqN, eqL, fitF, fitK, fitL, colB, slotB, numI, ByteArray.toList_eq, and_assoc]
  try grind
theorem nodeB_4 (name : ByteArray) (col op num : Int) (slot : Bool) (cols : List Int) :
    nodeB ⟨4, name, col, op, num, slot, cols⟩ = ((true) && eqN ⟨4, ⟨#[]⟩, 0, 0, 0, false, []⟩ ⟨4, name, col, op, num, slot, cols⟩) := by
  rw [Bool.eq_iff_iff]
  simp [nodeB, eqN, eqL, fitF, fitK, fitL, colB, slotB, numI, ByteArray.toList_eq, and_assoc]
  try grind
theorem nodeB_5 (name : ByteArray) (col op num : Int) (slot : Bool) (cols : List Int) :
    nodeB ⟨5, name, col, op, num, slot, cols⟩ = ((colB col) && eqN ⟨5, ⟨#[]⟩, col, 0, 0, false, []⟩ ⟨5, name, col, op, num, slot, cols⟩) := by
  rw [Bool.eq_iff_iff]
  simp [nodeB, eqN, eqL, fitF, fitK, fitL, colB, slotB, numI, ByteArray.toList_eq, and_assoc]
  try grind
theorem nodeB_6 (name : ByteArray) (col op num : Int) (slot : Bool) (cols : List Int) :
    nodeB ⟨6, name, col, op, num, slot, cols⟩ = ((fitL num slot) && eqN ⟨6, ⟨#[]⟩, 0, 0, num, slot, []⟩ ⟨6, name, col, op, num, slot, cols⟩) := by
  rw [Bool.eq_iff_iff]
  simp [nodeB, eqN, eqL, fitF, fitK, fitL, colB, slotB, numI, ByteArray.toList_eq, and_assoc]
  try grind
theorem nodeB_7 (name : ByteArray) (col op num : Int) (slot : Bool) (cols : List Int) :
    nodeB ⟨7, name, col, op, num, slot, cols⟩ = ((true) && eqN ⟨7, ⟨#[]⟩, 0, 0, 0, false, []⟩ ⟨7, name, col, op, num, slot, cols⟩) := by
  rw [Bool.eq_iff_iff]
  simp [nodeB, eqN, eqL, fitF, fitK, fitL, colB, slotB, numI, ByteArray.toList_eq, and_assoc]
  try grind
end Go.Proofs.YtfpbhedophlnkaaDoor
