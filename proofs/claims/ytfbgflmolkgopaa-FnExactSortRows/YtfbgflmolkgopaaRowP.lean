/-
  Plain facts on rows of numbers: which of two is less, how many are the same, a column. No program, no walk.
-/
import Derived.Test.YtfbgflmolkgopaaHR
namespace Go.Proofs.Ytfbgflmolkgopaa
open Go.RowKit
set_option linter.unusedSimpArgs false
set_option linter.unusedVariables false

/-- Whether a row is less than another: value by value, the shorter one less where it is the beginning. -/
def lessL : List Int → List Int → Bool
  | [], [] => false
  | [], _ :: _ => true
  | _ :: _, [] => false
  | x :: a, y :: b => if x = y then lessL a b else decide (x < y)
theorem lessL_at : ∀ (a b : List Int) (j : Nat) (x y : Int), a.take j = b.take j → a[j]? = some x → b[j]? = some y → x ≠ y → lessL a b = decide (x < y)
  | [], _, _, _, _, _, h, _, _ => by simp at h
  | _ :: _, [], _, _, _, _, _, h, _ => by simp at h
  | u :: a, v :: b, 0, x, y, _, hx, hy, hne => by simp at hx hy; subst hx hy; simp [lessL, hne]
  | u :: a, v :: b, j + 1, x, y, ht, hx, hy, hne => by
    simp only [List.take_succ_cons, List.cons.injEq] at ht
    obtain ⟨rfl, ht⟩ := ht
    simp only [List.getElem?_cons_succ] at hx hy
    simp only [lessL, if_true]
    exact lessL_at a b j x y ht hx hy hne
theorem lessL_end : ∀ (a b : List Int) (j : Nat), a.take j = b.take j → (a.length ≤ j ∨ b.length ≤ j) → lessL a b = decide (a.length < b.length)
  | [], [], _, _, _ => by simp [lessL]
  | [], v :: b, _, _, _ => by simp [lessL]
  | u :: a, [], _, _, _ => by simp [lessL]
  | u :: a, v :: b, 0, _, h => by simp at h
  | u :: a, v :: b, j + 1, ht, h => by
    simp only [List.take_succ_cons, List.cons.injEq] at ht
    obtain ⟨rfl, ht⟩ := ht
    simp only [lessL, if_true, List.length_cons]
    rw [lessL_end a b j ht (by simp only [List.length_cons] at h; omega)]
    simp

/-- How many rows are the same as r. -/
def countL (l : List (List Int)) (r : List Int) : Nat := (l.filter fun x => eqL x r).length
theorem countL_take {l : List (List Int)} {j : Nat} {x r : List Int} (h : l[j]? = some x) : countL (l.take (j + 1)) r = countL (l.take j) r + (if eqL x r then 1 else 0) := by
  rw [List.take_add_one, h]
  unfold countL
  simp [List.filter_append, List.filter_cons]
  split <;> simp
theorem countL_le (l : List (List Int)) (r : List Int) : countL l r ≤ l.length := List.length_filter_le _ _
theorem countL_take_le (l : List (List Int)) (j : Nat) (r : List Int) : countL (l.take j) r ≤ j := Nat.le_trans (countL_le _ _) (by simp; omega)

/-- The value at a place of each row that has one. -/
def colL (l : List (List Int)) (col : Nat) : List Int := l.filterMap fun r => r[col]?
theorem colL_take_some {l : List (List Int)} {j col : Nat} {x : List Int} {z : Int} (h : l[j]? = some x) (hz : x[col]? = some z) : colL (l.take (j + 1)) col = colL (l.take j) col ++ [z] := by
  rw [List.take_add_one, h]
  simp [colL, List.filterMap_append, hz]
theorem colL_take_none {l : List (List Int)} {j col : Nat} {x : List Int} (h : l[j]? = some x) (hz : x.length ≤ col) : colL (l.take (j + 1)) col = colL (l.take j) col := by
  rw [List.take_add_one, h]
  simp [colL, List.filterMap_append, List.getElem?_eq_none hz]
theorem colL_len (l : List (List Int)) (col : Nat) : (colL l col).length ≤ l.length := List.length_filterMap_le _ _
/-- Of a column below 0 there is nothing. -/
def colO (l : List (List Int)) (col : Int) : List Int := if col < 0 then [] else colL l col.toNat
theorem colO_len (l : List (List Int)) (col : Int) : (colO l col).length ≤ l.length := by
  unfold colO; split
  · simp
  · exact colL_len _ _
end Go.Proofs.Ytfbgflmolkgopaa
