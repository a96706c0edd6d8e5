/-
  Contract of eqNode. For every two nodes.
-/
import Derived.Test.YtfbgflmolkgopaaHN
namespace Go.Proofs.Ytfbgflmolkgopaa
open Go.RowKit
set_option linter.unusedSimpArgs false
set_option linter.unusedVariables false

/-- Whether two nodes are the same. -/
def eqN (n m : Nd) : Bool := (n.kind == m.kind) && (n.name.toList == m.name.toList) && (n.col == m.col) && (n.op == m.op) && (n.num == m.num) && (n.slot == m.slot) && eqL n.cols m.cols
theorem eqN_refl (n : Nd) : eqN n n = true := by simp [eqN, eqL_refl]

end Go.Proofs.Ytfbgflmolkgopaa
