/-
  Contracts of the helpers over slices of int: eqIntS, markIntS, toIntS, heldIntS. For every slice of int.
-/
import Derived.Test.YtfpbhedophlnkaaRow
namespace Go.Proofs.Ytfpbhedophlnkaa
open Go.RowKit
set_option linter.unusedSimpArgs false
set_option linter.unusedVariables false

end Go.Proofs.Ytfpbhedophlnkaa
