/-
  Plain facts on stores: when lists of rows are a store of a schema. No program, no walk.
-/
import Derived.Test.YtaaiedgmpgoonaaTbP
import Derived.Test.YtaaiedgmpgoonaaTold
import Derived.Test.YtaaiedgmpgoonaaHRR
namespace Go.Proofs.Ytaaiedgmpgoonaa
open Go.RowKit
set_option linter.unusedSimpArgs false
set_option linter.unusedVariables false

/-- A value. -/
def valB (x : Int) : Bool := numI x || (x == -2000000)
/-- Rows of a table of this width. -/
def rowsB (wd : Int) (l : List (List Int)) : Bool := decide (l.length ≤ 40) && l.all fun r => decide ((r.length : Int) = wd) && r.all valB
def fitsB : List Tb → List (List (List Int)) → Bool
  | [], [] => true
  | t :: s, r :: l => rowsB t.width r && fitsB s l
  | _, _ => false
/-- A store of a schema. -/
def storeB (s : List Tb) (l : List (List (List Int))) : Bool := schemaB s && fitsB s l

theorem fitsB_len : ∀ (s : List Tb) (l : List (List (List Int))), s.length ≠ l.length → fitsB s l = false
  | [], [], h => absurd rfl h
  | [], _ :: _, _ => rfl
  | _ :: _, [], _ => rfl
  | t :: s, r :: l, h => by simp only [fitsB]; rw [fitsB_len s l (by simpa using h)]; simp
theorem fitsB_no : ∀ (s : List Tb) (l : List (List (List Int))) (j : Nat) (t : Tb) (r : List (List Int)), s[j]? = some t → l[j]? = some r → rowsB t.width r = false → fitsB s l = false
  | [], _, j, t, r, h, _, _ => by simp at h
  | _ :: _, [], j, t, r, _, h, _ => by simp at h
  | t' :: s, r' :: l, 0, t, r, ht, hr, h => by simp at ht hr; subst ht hr; simp [fitsB, h]
  | t' :: s, r' :: l, j + 1, t, r, ht, hr, h => by simp at ht hr; simp [fitsB, fitsB_no s l j t r ht hr h]
theorem fitsB_yes : ∀ (s : List Tb) (l : List (List (List Int))), s.length = l.length → (∀ (j : Nat) (t : Tb) (r : List (List Int)), s[j]? = some t → l[j]? = some r → rowsB t.width r = true) → fitsB s l = true
  | [], [], _, _ => rfl
  | [], _ :: _, h, _ => by simp at h
  | _ :: _, [], h, _ => by simp at h
  | t :: s, r :: l, h, hh => by
    simp only [fitsB]
    rw [hh 0 t r rfl rfl, fitsB_yes s l (by simpa using h) fun j x y hx hy => hh (j + 1) x y hx hy]; rfl
theorem storeB_schema {s : List Tb} {l : List (List (List Int))} (h : schemaB s = false) : storeB s l = false := by simp [storeB, h]
theorem storeB_len {s : List Tb} {l : List (List (List Int))} (h : l.length ≠ s.length) : storeB s l = false := by simp [storeB, fitsB_len s l (Ne.symm h)]
theorem storeB_no {s : List Tb} {l : List (List (List Int))} {j : Nat} {t : Tb} {r : List (List Int)} (ht : s[j]? = some t) (hr : l[j]? = some r) (h : rowsB t.width r = false) : storeB s l = false := by
  simp [storeB, fitsB_no s l j t r ht hr h]
/-- The first j tables' rows fit. -/
def FitTo (s : List Tb) (l : List (List (List Int))) (j : Nat) : Prop := ∀ (i : Nat) (t : Tb) (r : List (List Int)), i < j → s[i]? = some t → l[i]? = some r → rowsB t.width r = true
theorem FitTo.zero {s : List Tb} {l : List (List (List Int))} : FitTo s l 0 := fun _ _ _ h => absurd h (Nat.not_lt_zero _)
theorem FitTo.next {s : List Tb} {l : List (List (List Int))} {j : Nat} {t : Tb} {r : List (List Int)} (h : FitTo s l j) (ht : s[j]? = some t) (hr : l[j]? = some r) (hh : rowsB t.width r = true) : FitTo s l (j + 1) := by
  intro i t' r' hi ht' hr'
  by_cases hij : i = j
  · subst hij; rw [ht] at ht'; rw [hr] at hr'; cases ht'; cases hr'; exact hh
  · exact h i t' r' (by omega) ht' hr'
theorem FitTo.all {s : List Tb} {l : List (List (List Int))} {j : Nat} (h : FitTo s l j) (hj : s.length ≤ j) (hs : schemaB s = true) (hl : l.length = s.length) : storeB s l = true := by
  unfold storeB
  rw [hs, fitsB_yes s l hl.symm fun i t r ht hr => h i t r (by have := lt_of_get ht; omega) ht hr]; rfl
/-- One row fits. -/
def rowB (wd : Int) (r : List Int) : Bool := decide ((r.length : Int) = wd) && r.all valB
theorem rowsB_big {wd : Int} {l : List (List Int)} (h : 40 < l.length) : rowsB wd l = false := by
  unfold rowsB
  have : ¬ l.length ≤ 40 := by omega
  simp [this]
theorem rowsB_no {wd : Int} {l : List (List Int)} {j : Nat} {r : List Int} (hr : l[j]? = some r) (h : rowB wd r = false) : rowsB wd l = false := by
  unfold rowsB
  have : (l.all fun r => decide ((r.length : Int) = wd) && r.all valB) = false := by
    rw [List.all_eq_false]
    exact ⟨r, List.mem_of_getElem? hr, by unfold rowB at h; rw [h]; simp⟩
  rw [this]; simp
theorem rowsB_yes {wd : Int} {l : List (List Int)} {j : Nat} (h : l.length ≤ 40) (hj : l.length ≤ j) (hh : ∀ r ∈ l.take j, rowB wd r = true) : rowsB wd l = true := by
  unfold rowsB
  have h1 : (l.all fun r => decide ((r.length : Int) = wd) && r.all valB) = true := by
    rw [List.all_eq_true]
    intro r hr
    have := hh r (by rw [List.take_of_length_le hj]; exact hr)
    unfold rowB at this; exact this
  rw [h1]; simp [h]
theorem rowB_len {wd : Int} {r : List Int} (h : ¬ (r.length : Int) = wd) : rowB wd r = false := by simp [rowB, h]
theorem rowB_no {wd : Int} {r : List Int} {k : Nat} {z : Int} (hz : r[k]? = some z) (h : valB z = false) : rowB wd r = false := by
  unfold rowB
  have : r.all valB = false := by rw [List.all_eq_false]; exact ⟨z, List.mem_of_getElem? hz, by rw [h]; simp⟩
  rw [this]; simp
theorem rowB_yes {wd : Int} {r : List Int} {k : Nat} (h : (r.length : Int) = wd) (hk : r.length ≤ k) (hh : ∀ z ∈ r.take k, valB z = true) : rowB wd r = true := by
  unfold rowB
  have h1 : r.all valB = true := by rw [List.all_eq_true]; intro z hz; exact hh z (by rw [List.take_of_length_le hk]; exact hz)
  rw [h1]; simp [h]
theorem rowB_rest {wd : Int} {r : List Int} (h : (r.length : Int) = wd) : rowB wd r = r.all valB := by simp [rowB, h]
theorem all_take_snoc {α : Type} {l : List α} {k : Nat} {z : α} {p : α → Bool} (hz : l[k]? = some z) (h : p z = true) (hh : ∀ y ∈ l.take k, p y = true) : ∀ y ∈ l.take (k + 1), p y = true := by
  intro y hy
  rw [List.take_add_one, hz] at hy
  rcases List.mem_append.1 hy with h1 | h1
  · exact hh y h1
  · simp at h1; subst h1; exact h
end Go.Proofs.Ytaaiedgmpgoonaa
