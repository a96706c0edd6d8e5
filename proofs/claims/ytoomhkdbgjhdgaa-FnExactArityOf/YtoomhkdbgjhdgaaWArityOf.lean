/-
  The walk of FnExactArityOf.
-/
import Derived.Test.YtoomhkdbgjhdgaaRows
import Derived.Test.YtoomhkdbgjhdgaaRead
import Derived.Test.YtoomhkdbgjhdgaaKind
import Derived.Deep.RegionWith
namespace Go.Proofs.Ytoomhkdbgjhdgaa.fnExactArityOf
open Go.RowKit
set_option linter.unusedSimpArgs false
set_option linter.unusedVariables false
set_option linter.unusedVariables false

theorem walk (w : World) (k : Int) : Calls Try.prog 5 #[.int .i64 k] w fun e w' => e = .returned (.bool true) ∧ Below w.heap.size w w' := by
  have hq : (arity k != arity k) = false := by simp
  go_enter Try.func5, Try.ntmps5
  go_wp2_with fail
  refine (specArity_any _ _).mono ?_
  rintro e w' ⟨rfl, rfl⟩
  go_wp2_with fail
  refine (implArity_any _ _).mono ?_
  rintro e w1 ⟨rfl, b1⟩
  go_wp2
  go_ret
  exact ⟨rfl, b1⟩
end Go.Proofs.Ytoomhkdbgjhdgaa.fnExactArityOf
