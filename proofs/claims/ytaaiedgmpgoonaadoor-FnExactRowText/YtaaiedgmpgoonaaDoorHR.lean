/-
  Contracts of the helpers over slices of rows: szIntSS, toIntSS, eqIntSS. For every slice of rows.
-/
import Derived.Test.YtaaiedgmpgoonaaDoorGr
import Derived.Deep.RegionWith
namespace Go.Proofs.YtaaiedgmpgoonaaDoor
open Go.RowKit
set_option linter.unusedSimpArgs false
set_option linter.unusedVariables false

theorem Tryd.infoSl : (Tryd.prog.info? 22).map (fun i => (i.zero, i.size, i.bytes)) = some (some (.slice none 0 0), 1, 24) := by kernel_rfl

/-- How many values there are. -/
def totR (l : List (List Int)) : Nat := (l.map List.length).sum
theorem totR_take {l : List (List Int)} {k : Nat} {r : List Int} (h : l[k]? = some r) : totR (l.take (k + 1)) = totR (l.take k) + r.length := by
  rw [List.take_add_one, h]; simp [totR]
theorem totR_mem {l : List (List Int)} {r : List Int} (h : r ∈ l) : r.length ≤ totR l := by
  unfold totR
  induction l with
  | nil => cases h
  | cons m l ih =>
    rcases List.mem_cons.1 h with rfl | h
    · simp only [List.map_cons, List.sum_cons]; omega
    · have := ih h; simp only [List.map_cons, List.sum_cons]; omega
def SzPostR (w : World) (l : List (List Int)) (left : Int) (e : Ending) (w' : World) : Prop :=
  ∃ r : Int, e = .returned (.int .i64 r) ∧ w = w' ∧ (r = -1 ∨ (0 ≤ r ∧ r + l.length + totR l = left))

/-- Whether two lists of rows are the same. -/
def eqR (l m : List (List Int)) : Bool := decide (l = m)
theorem eqR_refl (l : List (List Int)) : eqR l l = true := by simp [eqR]
theorem eqR_no {l m : List (List Int)} {j : Nat} {x y : List Int} (hx : l[j]? = some x) (hy : m[j]? = some y) (h : eqL x y = false) : eqR l m = false := by
  unfold eqR; simp; rintro rfl; rw [hx] at hy; cases hy; rw [eqL_refl] at h; cases h
theorem eqR_yes {l m : List (List Int)} {j : Nat} (h : l.length = m.length) (hj : l.length ≤ j) (ht : l.take j = m.take j) : eqR l m = true := by
  unfold eqR; simp; rw [List.take_of_length_le hj, List.take_of_length_le (by omega)] at ht; exact ht
theorem eqR_len {l m : List (List Int)} (h : l.length ≠ m.length) : eqR l m = false := by
  unfold eqR; simp; rintro rfl; exact h rfl
theorem eqL_eq {x y : List Int} (h : eqL x y = true) : x = y := by unfold eqL at h; simpa using h
theorem take_eq_step {α : Type} {l m : List α} {j : Nat} {x : α} (ht : l.take j = m.take j) (hx : l[j]? = some x) (hy : m[j]? = some x) : l.take (j + 1) = m.take (j + 1) := by
  rw [List.take_add_one, List.take_add_one, ht, hx, hy]

end Go.Proofs.YtaaiedgmpgoonaaDoor
