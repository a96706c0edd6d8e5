/-
  A node, a plan and a schema as bytes, as plain lists. No program, no walk.
-/
import Derived.Test.YtcegekkhlfpgfaaPutNums
import Derived.Test.YtcegekkhlfpgfaaIPutWord
import Derived.Test.YtcegekkhlfpgfaaNodes
namespace Go.Proofs.Ytcegekkhlfpgfaa
open Go.RowKit
set_option linter.unusedSimpArgs false
set_option linter.unusedVariables false

def flagI (b : Bool) : Int := if b then 1 else 0
theorem flagI_bd (b : Bool) : 0 ≤ flagI b ∧ flagI b ≤ 1 := by cases b <;> simp [flagI]
/-- What stands behind a node's kind. -/
def fieldL (n : Nd) : List Int :=
  if n.kind = 0 then putW n.name
  else if n.kind = 1 then [n.col, n.op, flagI n.slot, n.num].flatMap putN
  else if n.kind = 2 then putNs n.cols
  else if n.kind = 3 then [n.col, n.num].flatMap putN
  else if n.kind = 5 then [n.col].flatMap putN
  else if n.kind = 6 then [flagI n.slot, n.num].flatMap putN
  else []
def putNd (n : Nd) : List Int := if nodeB n then putN n.kind ++ fieldL n else []

theorem fieldL_by (n : Nd) : By (fieldL n) := by
  unfold fieldL
  split
  · exact putW_by _
  split
  · exact flat_by _
  split
  · exact putNs_by _
  split
  · exact flat_by _
  split
  · exact flat_by _
  split
  · exact flat_by _
  exact By.nil
theorem putNd_by (n : Nd) : By (putNd n) := by
  unfold putNd; split
  · exact (putN_by _).app (fieldL_by _)
  · exact By.nil
theorem cols_of_nodeC {n : Nd} (h : nodeB n = true) : n.cols.length ≤ 6 := by
  obtain ⟨k, name, col, op, num, slot, cols⟩ := n
  have hk := kind_of_nodeB h
  have hc : k = 0 ∨ k = 1 ∨ k = 2 ∨ k = 3 ∨ k = 4 ∨ k = 5 ∨ k = 6 ∨ k = 7 := by simp only at hk; omega
  rcases hc with rfl | rfl | rfl | rfl | rfl | rfl | rfl | rfl
  all_goals simp [nodeB] at h
  all_goals first | (simp_all; done) | (simp only; omega)
theorem putNs_len' {l : List Int} (h : l.length ≤ 6) : (putNs l).length ≤ 21 := by
  unfold putNs; split
  · have h1 := putN_len l.length
    have h2 := flat_len (l.take l.length)
    have h3 : (l.take l.length).length ≤ l.length := by simp
    simp only [preN, List.length_append]; omega
  · simp
theorem fieldL_len {n : Nd} (h : n.cols.length ≤ 6) : (fieldL n).length ≤ 21 := by
  unfold fieldL
  split
  · have := putW_len n.name; omega
  split
  · have := flat_len [n.col, n.op, flagI n.slot, n.num]; simp only [List.length_cons, List.length_nil] at this; omega
  split
  · exact putNs_len' h
  split
  · have := flat_len [n.col, n.num]; simp only [List.length_cons, List.length_nil] at this; omega
  split
  · have := flat_len [n.col]; simp only [List.length_cons, List.length_nil] at this; omega
  split
  · have := flat_len [flagI n.slot, n.num]; simp only [List.length_cons, List.length_nil] at this; omega
  simp
theorem putNd_len (n : Nd) : (putNd n).length ≤ 24 := by
  unfold putNd; split
  · rename_i h
    have h1 := putN_len n.kind
    have h2 := fieldL_len (cols_of_nodeC h)
    simp only [List.length_append]; omega
  · simp
theorem putNd_no {n : Nd} (h : nodeB n = false) : putNd n = [] := by unfold putNd; rw [h]; rfl
theorem putNd_yes {n : Nd} (h : nodeB n = true) : putNd n = putN n.kind ++ fieldL n := by unfold putNd; rw [h]; rfl

/-- A plan's nodes, one behind the other, behind their number. -/
def preP (p : List Nd) (j : Nat) : List Int := putN p.length ++ (p.take j).flatMap putNd
theorem preP_zero (p : List Nd) : preP p 0 = putN p.length := by simp [preP]
theorem preP_succ {p : List Nd} {j : Nat} {n : Nd} (h : p[j]? = some n) : preP p (j + 1) = preP p j ++ putNd n := by
  simp [preP, List.take_add_one, h, List.flatMap_append]
theorem flatP_len : ∀ p : List Nd, (p.flatMap putNd).length ≤ 24 * p.length
  | [] => by simp
  | n :: p => by
    have := flatP_len p
    have := putNd_len n
    simp only [List.flatMap_cons, List.length_append, List.length_cons]; omega
theorem flatP_by : ∀ p : List Nd, By (p.flatMap putNd)
  | [] => by simp [By.nil]
  | n :: p => by rw [List.flatMap_cons]; exact (putNd_by n).app (flatP_by p)
theorem preP_by (p : List Nd) (j : Nat) : By (preP p j) := (putN_by _).app (flatP_by _)
theorem preP_len {p : List Nd} (j : Nat) (h : p.length ≤ 40) : (preP p j).length ≤ 963 := by
  have h1 := putN_len p.length
  have h2 := flatP_len (p.take j)
  have h3 : (p.take j).length ≤ p.length := by simp; omega
  simp only [preP, List.length_append]; omega
end Go.Proofs.Ytcegekkhlfpgfaa
