/-
  A row as a text: plain facts. No program, no walk.
-/
import Derived.Test.YtfbgflmolkgopaaDoorNumT
import Derived.Lib.Join
namespace Go.Proofs.YtfbgflmolkgopaaDoor
open Go.RowKit
set_option linter.unusedSimpArgs false
set_option linter.unusedVariables false

/-- A value as a text. -/
def vT (x : Int) : ByteArray := if x = -2000000 then ⟨#[45]⟩ else numT x
def vL (x : Int) : List UInt8 := (vT x).data.toList
/-- Texts with a comma between them. -/
def jc : List (List UInt8) → List UInt8
  | [] => []
  | [x] => x
  | x :: y :: r => x ++ [44] ++ jc (y :: r)
theorem jc_join : ∀ l : List (List UInt8), Lib.join l [44] = jc l
  | [] => rfl
  | [x] => by simp [Lib.join, jc, List.intercalate]
  | x :: y :: r => by
    have := jc_join (y :: r)
    simp only [Lib.join, List.intercalate, jc] at this ⊢
    rw [← this]
    simp [List.intersperse]
theorem jc_snoc : ∀ (l : List (List UInt8)) (x : List UInt8), jc (l ++ [x]) = if l = [] then x else jc l ++ [44] ++ x
  | [], x => by simp [jc]
  | [y], x => by simp [jc]
  | y :: z :: r, x => by
    have := jc_snoc (z :: r) x
    simp only [List.cons_append, jc] at this ⊢
    rw [this]
    simp
/-- A row's text. -/
def rowT (r : List Int) : List UInt8 := if r = [] then [40, 41] else jc (r.map vL)
theorem jc_take {l : List Int} {j : Nat} {x : Int} (h : l[j]? = some x) : jc ((l.take (j + 1)).map vL) = if j = 0 then vL x else jc ((l.take j).map vL) ++ [44] ++ vL x := by
  have hj : j < l.length := (List.getElem?_eq_some_iff.1 h).1
  have e : l[j] = x := by rw [List.getElem?_eq_getElem hj] at h; injection h
  rw [List.take_succ_eq_append_getElem hj, e, List.map_append, List.map_cons, List.map_nil, jc_snoc]
  have hl : (l.take j).length = j := by simp; omega
  by_cases h0 : j = 0
  · subst h0; simp
  · rw [if_neg (by intro hh; have hz := congrArg List.length hh; rw [List.length_map, hl] at hz; exact h0 hz), if_neg h0]
theorem dec_len_le (u : Nat) (h : u ≤ 9223372036854775808) : (Lib.decDigits u).length ≤ 19 := by
  by_cases h0 : u = 0
  · subst h0; rw [dec_one (by omega)]; simp
  · have := leftD_len 19 u (by have : (10 : Nat) ^ 19 = 10000000000000000000 := by decide
                               omega)
    unfold leftD at this
    rwa [if_neg h0] at this
theorem numT_size {x : Int} (h0 : -9223372036854775808 ≤ x) (h1 : x ≤ 9223372036854775807) : (numT x).size ≤ 20 := by
  have e : (numT x).size = (Lib.itoa x).length := by
    have : (numT x).data.toList.length = (numT x).size := by rw [Array.length_toList]; rfl
    rw [← this]; simp [numT]
  rw [e]
  unfold Lib.itoa
  split
  · have := dec_len_le x.natAbs (by omega); simp; omega
  · have := dec_len_le x.toNat (by omega); omega
theorem vT_size {x : Int} (h0 : -9223372036854775808 ≤ x) (h1 : x ≤ 9223372036854775807) : (vT x).size ≤ 20 := by
  unfold vT; split
  · decide
  · exact numT_size h0 h1
theorem vL_len (x : Int) : (vL x).length = (vT x).size := by unfold vL; rw [Array.length_toList]; rfl
/-- Numbers of 64 bits. -/
def I64s (l : List Int) : Prop := ∀ z ∈ l, -9223372036854775808 ≤ z ∧ z ≤ 9223372036854775807
theorem jc_len : ∀ (l : List Int), I64s l → (jc (l.map vL)).length ≤ 21 * l.length
  | [], _ => by simp [jc]
  | [x], h => by
    have hx := h x (by simp)
    have := vT_size hx.1 hx.2
    simp [jc, vL_len]; omega
  | x :: y :: r, h => by
    have hx := h x (by simp)
    have h1 := vT_size hx.1 hx.2
    have h2 := jc_len (y :: r) (fun z hz => h z (List.mem_cons_of_mem _ hz))
    simp only [List.map_cons, jc, List.length_append, List.length_cons, List.length_nil, vL_len] at h2 ⊢
    omega
end Go.Proofs.YtfbgflmolkgopaaDoor
