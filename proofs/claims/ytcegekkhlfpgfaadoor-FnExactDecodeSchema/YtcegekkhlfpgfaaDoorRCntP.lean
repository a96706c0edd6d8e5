/-
  How many tables, and each of them, read out of bytes: plain lists. No program, no walk.
-/
import Derived.Test.YtcegekkhlfpgfaaDoorCodR
import Derived.Test.YtcegekkhlfpgfaaDoorTb
namespace Go.Proofs.YtcegekkhlfpgfaaDoor
open Go.RowKit
set_option linter.unusedSimpArgs false
set_option linter.unusedVariables false

/-- A table at the place that is reached, and the place behind it; none where something is missing. -/
def tableR (l : List Int) (s : Option Int) : Tb × Option Int := (⟨(wordR l s).1, (numR l (wordR l s).2).1⟩, (numR l (wordR l s).2).2)
theorem tableR_none (l : List Int) : (tableR l none).2 = none := rfl
theorem wordR_12T (l : List Int) (s : Option Int) : (wordR l s).1.size ≤ 12 := by
  unfold wordR; repeat' split
  · exact Nat.zero_le _
  · exact Nat.zero_le _
  · exact takeW_12 _ _
/-- The first k tables behind place p, and the place behind them; none where one is missing. -/
def tabsK (l : List Int) (p : Int) : Nat → Option (List Tb × Int)
  | 0 => some ([], p)
  | k + 1 => match tabsK l p k with
    | none => none
    | some (acc, q) => match (tableR l (some q)).2 with
      | none => none
      | some q' => some (acc ++ [(tableR l (some q)).1], q')
def countT (l : List Int) (s : Option Int) (most : Int) : Option (List Tb × Int) :=
  match (numR l s).2 with
  | none => none
  | some p => if 0 ≤ (numR l s).1 ∧ (numR l s).1 ≤ most then tabsK l p (numR l s).1.toNat else none
theorem tabsK_yes {l : List Int} {p q q' : Int} {k : Nat} {acc : List Tb} {t : Tb} (h : tabsK l p k = some (acc, q)) (ht : tableR l (some q) = (t, some q')) : tabsK l p (k + 1) = some (acc ++ [t], q') := by
  simp only [tabsK, h, ht]
theorem tabsK_no {l : List Int} {p q : Int} {k : Nat} {acc : List Tb} {t : Tb} (h : tabsK l p k = some (acc, q)) (ht : tableR l (some q) = (t, none)) : tabsK l p (k + 1) = none := by
  simp only [tabsK, h, ht]
theorem tabsK_stays {l : List Int} {p : Int} {k : Nat} (h : tabsK l p k = none) : ∀ m, k ≤ m → tabsK l p m = none := by
  intro m hm
  induction m with
  | zero => obtain rfl : k = 0 := by omega
            exact h
  | succ m ih =>
    rcases Nat.lt_or_ge k (m + 1) with h1 | h1
    · simp only [tabsK, ih (by omega)]
    · obtain rfl : k = m + 1 := by omega
      exact h
theorem tabsK_len {l : List Int} {p : Int} : ∀ {k : Nat} {acc : List Tb} {q : Int}, tabsK l p k = some (acc, q) → acc.length = k := by
  intro k
  induction k with
  | zero => intro acc q h; simp only [tabsK, Option.some.injEq, Prod.mk.injEq] at h; rw [← h.1]; rfl
  | succ k ih =>
    intro acc q h
    simp only [tabsK] at h
    cases hk : tabsK l p k with
    | none => rw [hk] at h; cases h
    | some x =>
      obtain ⟨a, r⟩ := x
      rw [hk] at h
      simp only at h
      cases ht : (tableR l (some r)).2 with
      | none => rw [ht] at h; cases h
      | some r' =>
        rw [ht] at h
        simp only [Option.some.injEq, Prod.mk.injEq] at h
        rw [← h.1, List.length_append, ih hk]; rfl
theorem countT_8 {l : List Int} {s : Option Int} {acc : List Tb} {q : Int} (h : countT l s 8 = some (acc, q)) : acc.length ≤ 8 := by
  unfold countT at h
  split at h
  · cases h
  · split at h
    · rename_i hc
      have := tabsK_len h
      omega
    · cases h
end Go.Proofs.YtcegekkhlfpgfaaDoor
