/-
  Contract of spec.NodeOk: it answers whether the node is one. For every node.
-/
import Derived.Test.YtfpbhedophlnkaaDoorHN
import Derived.Test.YtfpbhedophlnkaaDoorWord
import Derived.Test.YtfpbhedophlnkaaDoorKind
import Derived.Laws.Strings
namespace Go.Proofs.YtfpbhedophlnkaaDoor
open Go.RowKit
set_option linter.unusedSimpArgs false
set_option linter.unusedVariables false

theorem l02Col_any (x : Int) (w : World) : Calls Tryd.prog 37 #[.int .i64 x] w fun e w' => e = .returned (.bool (colB x)) ∧ w = w' := by
  go_enter Tryd.func37, Tryd.ntmps37
  go_wp2_with fail
  refine (l01In_any _ _ _ _).mono ?_
  rintro e w' ⟨rfl, rfl⟩
  go_wp2
  go_ret
  exact ⟨rfl, rfl⟩
def numB (x : Int) : Bool := decide (-1000000 ≤ x) && decide (x ≤ 1000000)
theorem l01Number_any (x : Int) (w : World) : Calls Tryd.prog 38 #[.int .i64 x] w fun e w' => e = .returned (.bool (numB x)) ∧ w = w' := by
  go_enter Tryd.func38, Tryd.ntmps38
  go_wp2_with fail
  refine (l01In_any _ _ _ _).mono ?_
  rintro e w' ⟨rfl, rfl⟩
  go_wp2
  go_ret
  exact ⟨rfl, rfl⟩
theorem name_nil {s : ByteArray} : (s.toList == []) = decide (s.data.toList = []) := by
  rw [ByteArray.toList_eq]; cases s.data.toList <;> rfl
end Go.Proofs.YtfpbhedophlnkaaDoor
