/-
  What szNodeS tells of a list of nodes: it is small. No walk.
-/
import Derived.Test.YtcegekkhlfpgfaaHS
import Derived.Test.YtcegekkhlfpgfaaGrow
namespace Go.Proofs.Ytcegekkhlfpgfaa
open Go.RowKit
set_option linter.unusedSimpArgs false
set_option linter.unusedVariables false

theorem tot_mem {l : List Nd} {n : Nd} (h : n ∈ l) : n.name.size + n.cols.length ≤ tot l := by
  unfold tot
  induction l with
  | nil => cases h
  | cons m l ih =>
    rcases List.mem_cons.1 h with rfl | h
    · simp only [List.map_cons, List.sum_cons]; omega
    · have := ih h; simp only [List.map_cons, List.sum_cons]; omega
theorem small_of {l : List Nd} {r left : Int} (h0 : 0 ≤ r) (h : r + l.length + tot l = left) (hl : left ≤ 1048576) : Small l := by
  refine ⟨by omega, fun n hn => ?_⟩
  have := tot_mem hn
  omega
end Go.Proofs.Ytcegekkhlfpgfaa
