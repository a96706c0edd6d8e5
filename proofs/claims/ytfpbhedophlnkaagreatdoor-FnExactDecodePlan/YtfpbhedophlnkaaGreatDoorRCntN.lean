/-
  How many nodes, and each of them, read out of bytes: plain lists. No program, no walk.
-/
import Derived.Test.YtfpbhedophlnkaaGreatDoorCodB
import Derived.Test.YtfpbhedophlnkaaGreatDoorUnf
import Derived.Test.YtfpbhedophlnkaaGreatDoorNodes
namespace Go.Proofs.YtfpbhedophlnkaaGreatDoor
open Go.RowKit
set_option linter.unusedSimpArgs false
set_option linter.unusedVariables false

/-- The first k nodes behind place p, and the place behind them; none where one is missing. -/
def nodsK (l : List Int) (p : Int) : Nat → Option (List Nd × Int)
  | 0 => some ([], p)
  | k + 1 => match nodsK l p k with
    | none => none
    | some (acc, q) => match (nodeR l (some q)).2 with
      | none => none
      | some q' => some (acc ++ [(nodeR l (some q)).1], q')
def countNd (l : List Int) (s : Option Int) (most : Int) : Option (List Nd × Int) :=
  match (numR l s).2 with
  | none => none
  | some p => if 0 ≤ (numR l s).1 ∧ (numR l s).1 ≤ most then nodsK l p (numR l s).1.toNat else none
theorem nodsK_yes {l : List Int} {p q q' : Int} {k : Nat} {acc : List Nd} {t : Nd} (h : nodsK l p k = some (acc, q)) (ht : nodeR l (some q) = (t, some q')) : nodsK l p (k + 1) = some (acc ++ [t], q') := by
  simp only [nodsK, h, ht]
theorem nodsK_no {l : List Int} {p q : Int} {k : Nat} {acc : List Nd} {t : Nd} (h : nodsK l p k = some (acc, q)) (ht : nodeR l (some q) = (t, none)) : nodsK l p (k + 1) = none := by
  simp only [nodsK, h, ht]
theorem nodsK_stays {l : List Int} {p : Int} {k : Nat} (h : nodsK l p k = none) : ∀ m, k ≤ m → nodsK l p m = none := by
  intro m hm
  induction m with
  | zero => obtain rfl : k = 0 := by omega
            exact h
  | succ m ih =>
    rcases Nat.lt_or_ge k (m + 1) with h1 | h1
    · simp only [nodsK, ih (by omega)]
    · obtain rfl : k = m + 1 := by omega
      exact h
theorem nodsK_len {l : List Int} {p : Int} : ∀ {k : Nat} {acc : List Nd} {q : Int}, nodsK l p k = some (acc, q) → acc.length = k := by
  intro k
  induction k with
  | zero => intro acc q h; simp only [nodsK, Option.some.injEq, Prod.mk.injEq] at h; rw [← h.1]; rfl
  | succ k ih =>
    intro acc q h
    simp only [nodsK] at h
    cases hk : nodsK l p k with
    | none => rw [hk] at h; cases h
    | some x =>
      obtain ⟨a, r⟩ := x
      rw [hk] at h
      simp only at h
      cases ht : (nodeR l (some r)).2 with
      | none => rw [ht] at h; cases h
      | some r' =>
        rw [ht] at h
        simp only [Option.some.injEq, Prod.mk.injEq] at h
        rw [← h.1, List.length_append, ih hk]; rfl
theorem countNd_40 {l : List Int} {s : Option Int} {acc : List Nd} {q : Int} (h : countNd l s 40 = some (acc, q)) : acc.length ≤ 40 := by
  unfold countNd at h
  split at h
  · cases h
  · split at h
    · rename_i hc
      have := nodsK_len h
      omega
    · cases h
/-- A plan out of bytes, and how the reading ended. -/
def decP (l : List Int) : List Nd × Int :=
  match unfL l with
  | none => ([], 1)
  | some m => match countNd m (some 0) 40 with
    | none => ([], 2)
    | some (acc, q) => if q ≠ m.length then ([], 4) else if planB acc = true then (acc, 0) else ([], 3)
theorem nodeR_cols {l : List Int} (hl : By l) (s : Option Int) : (nodeR l s).1.cols.length ≤ 300 := fieldR_cols hl _ _
theorem nodsK_cols {l : List Int} (hl : By l) {p : Int} : ∀ {k : Nat} {acc : List Nd} {q : Int}, nodsK l p k = some (acc, q) → ∀ n ∈ acc, n.cols.length ≤ 300 := by
  intro k
  induction k with
  | zero => intro acc q h; simp only [nodsK, Option.some.injEq, Prod.mk.injEq] at h; rw [← h.1]; simp
  | succ k ih =>
    intro acc q h
    simp only [nodsK] at h
    cases hk : nodsK l p k with
    | none => rw [hk] at h; cases h
    | some x =>
      obtain ⟨a, r⟩ := x
      rw [hk] at h
      simp only at h
      cases ht : (nodeR l (some r)).2 with
      | none => rw [ht] at h; cases h
      | some r' =>
        rw [ht] at h
        simp only [Option.some.injEq, Prod.mk.injEq] at h
        rw [← h.1]
        intro n hn
        rcases List.mem_append.1 hn with h1 | h1
        · exact ih hk n h1
        · simp at h1; subst h1; exact nodeR_cols hl _
theorem countNd_cols {l : List Int} (hl : By l) {s : Option Int} {acc : List Nd} {q : Int} (h : countNd l s 40 = some (acc, q)) : ∀ n ∈ acc, n.cols.length ≤ 300 := by
  unfold countNd at h
  split at h
  · cases h
  · split at h
    · exact nodsK_cols hl h
    · cases h
end Go.Proofs.YtfpbhedophlnkaaGreatDoor
