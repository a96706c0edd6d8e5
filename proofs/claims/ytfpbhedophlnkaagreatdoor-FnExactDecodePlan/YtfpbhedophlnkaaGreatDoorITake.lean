/-
  The contract of impl.TakeNum. For every slice of bytes and every place, where the program's start has laid what package errors asks for.
-/
import Derived.Test.YtfpbhedophlnkaaGreatDoorNumAt
namespace Go.Proofs.YtfpbhedophlnkaaGreatDoor
open Go.RowKit
set_option linter.unusedSimpArgs false
set_option linter.unusedVariables false

def TookB (r : Int × Int) (w : World) (e : Ending) (w' : World) : Prop := e = .returned (.tuple #[.int .i64 r.1, .int .i64 r.2]) ∧ Below w.heap.size w w'

end Go.Proofs.YtfpbhedophlnkaaGreatDoor
