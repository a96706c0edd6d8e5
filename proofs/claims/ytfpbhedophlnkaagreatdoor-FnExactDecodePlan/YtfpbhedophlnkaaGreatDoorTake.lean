/-
  Plain facts on reading a number out of bytes, and the contract of spec.TakeNum. For every slice of bytes and every place.
-/
import Derived.Test.YtfpbhedophlnkaaGreatDoorPut
namespace Go.Proofs.YtfpbhedophlnkaaGreatDoor
open Go.RowKit
set_option linter.unusedSimpArgs false
set_option linter.unusedVariables false

def unf (u : Int) : Int := if u % 2 = 0 then u / 2 else -((u + 1) / 2)
/-- The number whose first k groups are u, read on from place a + k with at most f groups more; and the place behind it. -/
def goN (l : List Int) (a : Nat) : Nat → Nat → Int → Int × Int
  | 0, _, _ => (0, -1)
  | f + 1, k, u =>
    match l[a + k]? with
    | none => (0, -1)
    | some v => if 128 ≤ v then goN l a f (k + 1) (u + v % 128 * 128 ^ k) else if (v = 0 ∧ 0 < k) ∨ 2000000 < u + v % 128 * 128 ^ k then (0, -1) else (unf (u + v % 128 * 128 ^ k), ((a + k + 1 : Nat) : Int))
def takeN (l : List Int) (at_ : Int) : Int × Int := if at_ < 0 then (0, -1) else goN l at_.toNat 3 0 0

theorem goN_out {l : List Int} {a f k : Nat} {u : Int} (h : l.length ≤ a + k) : goN l a f k u = (0, -1) := by
  cases f with
  | zero => rfl
  | succ f => rw [goN, List.getElem?_eq_none h]
theorem goN_more {l : List Int} {a f k : Nat} {u v : Int} (h : l[a + k]? = some v) (hv : 128 ≤ v) : goN l a (f + 1) k u = goN l a f (k + 1) (u + v % 128 * 128 ^ k) := by
  rw [goN, h]; simp only; rw [if_pos hv]
theorem goN_bad {l : List Int} {a f k : Nat} {u v : Int} (h : l[a + k]? = some v) (hv : v < 128) (hb : (v = 0 ∧ 0 < k) ∨ 2000000 < u + v % 128 * 128 ^ k) : goN l a (f + 1) k u = (0, -1) := by
  rw [goN, h]; simp only; rw [if_neg (by omega), if_pos hb]
theorem goN_ok {l : List Int} {a f k : Nat} {u v : Int} (h : l[a + k]? = some v) (hv : v < 128) (hb : ¬ ((v = 0 ∧ 0 < k) ∨ 2000000 < u + v % 128 * 128 ^ k)) : goN l a (f + 1) k u = (unf (u + v % 128 * 128 ^ k), ((a + k + 1 : Nat) : Int)) := by
  rw [goN, h]; simp only; rw [if_neg (by omega), if_neg hb]
theorem goN_last {l : List Int} (hl : By l) (a : Nat) {u : Int} (hu : 0 ≤ u) : goN l a 1 3 u = (0, -1) := by
  rcases Nat.lt_or_ge (a + 3) l.length with h | h
  · have hv := List.getElem?_eq_getElem h
    have hb := hl _ (List.getElem_mem h)
    by_cases h1 : 128 ≤ l[a + 3]
    · rw [goN_more hv h1]; rfl
    · refine goN_bad hv (by omega) ?_
      have e : (128 : Int) ^ 3 = 2097152 := by decide
      rw [e]
      by_cases h0 : l[a + 3] = 0
      · left; exact ⟨h0, by omega⟩
      · right; omega
  · exact goN_out h
theorem goN_ext {l : List Int} (hl : By l) (a : Nat) : ∀ (f k : Nat) (u : Int), k + f = 3 → 0 ≤ u → goN l a (f + 1) k u = goN l a f k u
  | 0, k, u, hk, hu => by
    obtain rfl : k = 3 := by omega
    rw [goN_last hl a hu]; rfl
  | f + 1, k, u, hk, hu => by
    rcases Nat.lt_or_ge (a + k) l.length with h | h
    · have hv := List.getElem?_eq_getElem h
      have hb := hl _ (List.getElem_mem h)
      by_cases h1 : 128 ≤ l[a + k]
      · rw [goN_more hv h1, goN_more hv h1]
        refine goN_ext hl a f (k + 1) _ (by omega) ?_
        have : (0 : Int) ≤ l[a + k] % 128 * 128 ^ k := Int.mul_nonneg (by omega) (Int.pow_nonneg (by decide))
        omega
      · by_cases h2 : (l[a + k] = 0 ∧ 0 < k) ∨ 2000000 < u + l[a + k] % 128 * 128 ^ k
        · rw [goN_bad hv (by omega) h2, goN_bad hv (by omega) h2]
        · rw [goN_ok hv (by omega) h2, goN_ok hv (by omega) h2]
    · rw [goN_out h, goN_out h]
theorem unf_bd {u : Int} (h0 : 0 ≤ u) (h1 : u ≤ 2000000) : -1000000 ≤ unf u ∧ unf u ≤ 1000000 := by unfold unf; split <;> omega
theorem unf_out {u : Int} (h1 : 2000000 < u) : ¬ (-1000000 ≤ unf u ∧ unf u ≤ 1000000) := by unfold unf; split <;> omega
theorem goN_bd {l : List Int} (hl : By l) (a : Nat) : ∀ (f k : Nat) (u : Int), 0 ≤ u →
    -1000000 ≤ (goN l a f k u).1 ∧ (goN l a f k u).1 ≤ 1000000 ∧ ((goN l a f k u).2 = -1 ∨ ((a + k : Nat) : Int) < (goN l a f k u).2 ∧ (goN l a f k u).2 ≤ l.length) ∧ ((goN l a f k u).2 = -1 → (goN l a f k u).1 = 0)
  | 0, k, u, hu => by simp [goN]
  | f + 1, k, u, hu => by
    rcases Nat.lt_or_ge (a + k) l.length with h | h
    · have hv := List.getElem?_eq_getElem h
      have hb := hl _ (List.getElem_mem h)
      have hp : (0 : Int) ≤ l[a + k] % 128 * 128 ^ k := Int.mul_nonneg (by omega) (Int.pow_nonneg (by decide))
      by_cases h1 : 128 ≤ l[a + k]
      · rw [goN_more hv h1]
        have := goN_bd hl a f (k + 1) (u + l[a + k] % 128 * 128 ^ k) (by omega)
        refine ⟨this.1, this.2.1, ?_, this.2.2.2⟩
        rcases this.2.2.1 with h2 | h2
        · exact .inl h2
        · exact .inr ⟨by omega, h2.2⟩
      · by_cases h2 : (l[a + k] = 0 ∧ 0 < k) ∨ 2000000 < u + l[a + k] % 128 * 128 ^ k
        · rw [goN_bad hv (by omega) h2]; simp
        · rw [goN_ok hv (by omega) h2]
          have := unf_bd (u := u + l[a + k] % 128 * 128 ^ k) (by omega) (by omega)
          refine ⟨this.1, this.2, .inr ⟨by simp only; omega, by simp only; omega⟩, by simp only; omega⟩
    · rw [goN_out h]; simp
theorem takeN_bd {l : List Int} (hl : By l) (at_ : Int) :
    -1000000 ≤ (takeN l at_).1 ∧ (takeN l at_).1 ≤ 1000000 ∧ ((takeN l at_).2 = -1 ∨ 0 ≤ at_ ∧ at_ < (takeN l at_).2 ∧ (takeN l at_).2 ≤ l.length) ∧ ((takeN l at_).2 = -1 → (takeN l at_).1 = 0) := by
  unfold takeN
  split
  · simp
  · have := goN_bd hl at_.toNat 3 0 0 (by omega)
    refine ⟨this.1, this.2.1, ?_, this.2.2.2⟩
    rcases this.2.2.1 with h2 | h2
    · exact .inl h2
    · exact .inr ⟨by omega, by omega, h2.2⟩
end Go.Proofs.YtfpbhedophlnkaaGreatDoor
