/-
  The call that answers nodes of its own beside a number.
-/
import Derived.Test.YtfpbhedophlnkaaGreatDoorOwnN
namespace Go.Proofs.YtfpbhedophlnkaaGreatDoor
open Go.RowKit
set_option linter.unusedSimpArgs false
set_option linter.unusedVariables false

/-- The call returned nodes of its own beside a number, and nothing that was there has turned. -/
def MadeN2 (res : List Nd × Int) (w : World) (e : Ending) (w' : World) : Prop :=
  ∃ ao c, e = .returned (.tuple #[.slice ao res.1.length c, .int .i64 res.2]) ∧ OwnN w' w.heap.size ao c res.1 ∧ Below w.heap.size w w'
theorem madeN2_no {res : List Nd × Int} {x : Int} {w w' : World} (h : res = ([], x)) (hb : Below w.heap.size w w') : MadeN2 res w (.returned (.tuple #[.slice none 0 0, .int .i64 x])) w' := by
  rw [h]; exact ⟨none, 0, rfl, .inl rfl, hb⟩
theorem madeN2_yes {res : List Nd × Int} {x : Int} {w w' : World} {acc : List Nd} {ao : Option Addr} {c n : Nat} (h : res = (acc, x)) (hn : n = acc.length) (ho : OwnN w' w.heap.size ao c acc) (hb : Below w.heap.size w w') : MadeN2 res w (.returned (.tuple #[.slice ao n c, .int .i64 x])) w' := by
  rw [h, hn]; exact ⟨ao, c, rfl, ho, hb⟩
end Go.Proofs.YtfpbhedophlnkaaGreatDoor
