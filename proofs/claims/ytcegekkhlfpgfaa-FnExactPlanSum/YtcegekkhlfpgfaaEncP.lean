/-
  A plan's bytes, as plain lists. No program, no walk.
-/
import Derived.Test.YtcegekkhlfpgfaaCodP
import Derived.Test.YtcegekkhlfpgfaaFrame
namespace Go.Proofs.Ytcegekkhlfpgfaa
open Go.RowKit
set_option linter.unusedSimpArgs false
set_option linter.unusedVariables false

def encP (p : List Nd) : List Int := if planB p then frameL (preP p p.length) else []
def sumP (p : List Nd) : Int := if planB p then chk (encP p) else -1
theorem encP_yes {p : List Nd} (h : planB p = true) : encP p = frameL (preP p p.length) := by unfold encP; rw [if_pos h]
theorem encP_no {p : List Nd} (h : planB p = false) : encP p = [] := by unfold encP; rw [if_neg (by simp [h])]
theorem encP_by (p : List Nd) : By (encP p) := by
  unfold encP; split
  · exact frameL_by (preP_by _ _)
  · exact By.nil
theorem encP_len (p : List Nd) : (encP p).length ≤ 4008 := by
  unfold encP; split
  · exact frameL_len _
  · simp
theorem sumP_yes {p : List Nd} (h : planB p = true) : sumP p = chk (encP p) := by unfold sumP; rw [if_pos h]
theorem sumP_no {p : List Nd} (h : planB p = false) : sumP p = -1 := by unfold sumP; rw [if_neg (by simp [h])]
theorem planB_l40 {p : List Nd} (h : planB p = true) : p.length ≤ 40 := by
  cases ht : treeN p with
  | none => simp [planB, ht] at h
  | some T => exact (treeN_some ht).1
end Go.Proofs.Ytcegekkhlfpgfaa
