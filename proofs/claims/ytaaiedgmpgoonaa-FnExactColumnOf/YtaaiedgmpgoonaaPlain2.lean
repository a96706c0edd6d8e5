/-
  What is asked of places, depths and kinds of plans, as plain functions. No program, no walk.
-/
import Derived.Test.YtaaiedgmpgoonaaSPlan
import Derived.Test.YtaaiedgmpgoonaaITree
namespace Go.Proofs.Ytaaiedgmpgoonaa
open Go.RowKit
set_option linter.unusedSimpArgs false
set_option linter.unusedVariables false

theorem good_some {p : List Nd} {k : Int} (h : goodB p k = true) : ∃ T S, treeN p = some T ∧ fnd k T = some S ∧ S.pl = k.toNat ∧ S.en ≤ p.length ∧ k.toNat < S.en ∧ S.depth ≤ 10 ∧ endN p 10 k.toNat = some (S.en, S.depth) ∧ 0 ≤ k ∧ k < p.length ∧ growT p p.length k.toNat = some S := by
  simp only [goodB, Bool.and_eq_true, decide_eq_true_eq] at h
  obtain ⟨hb, h0, h1⟩ := h
  cases ht : treeN p with
  | none => simp [planB, ht] at hb
  | some T =>
    obtain ⟨_, hg, he, hd⟩ := treeN_some ht
    obtain ⟨S, hf, hgS, hdS, heS⟩ := find_grow p _ 0 k.toNat T hg (Nat.zero_le _) (by omega)
    have hs := growT_sound p _ _ _ hgS
    refine ⟨T, S, rfl, ?_, hs.1, hs.2.2.1, hs.2.1, by omega, ?_, h0, by omega, hgS⟩
    · unfold fnd; rw [if_neg (by omega)]; exact hf
    · rw [endN_grow p (treeN_all ht) p.length 10 k.toNat (by omega), hgS]
      simp only
      rw [if_pos (by omega)]
theorem good_none {p : List Nd} {k : Int} (h : goodB p k = false) : treeN p = none ∨ ∃ T, treeN p = some T ∧ fnd k T = none := by
  cases ht : treeN p with
  | none => exact .inl rfl
  | some T =>
    right
    refine ⟨T, rfl, fnd_out ?_⟩
    obtain ⟨_, hg, he, _⟩ := treeN_some ht
    have hs := growT_sound p _ _ _ hg
    have hb : planB p = true := by simp [planB, ht]
    simp only [goodB, hb, Bool.true_and, Bool.and_eq_false_iff, decide_eq_false_iff_not] at h
    have : T.pl = 0 := hs.1
    omega

/-- Where the node at a place ends, -1 where there is none. -/
def endOfN (p : List Nd) (k : Int) : Int :=
  match treeN p with
  | none => -1
  | some T =>
    match fnd k T with
    | none => -1
    | some S => S.en
theorem endOfN_no {p : List Nd} {k : Int} (h : goodB p k = false) : endOfN p k = -1 := by
  unfold endOfN
  rcases good_none h with ht | ⟨T, ht, hf⟩
  · rw [ht]
  · rw [ht]; simp only; rw [hf]
/-- How deep a plan is, 0 where it is none. -/
def depthN (p : List Nd) : Int :=
  match treeN p with
  | none => 0
  | some T => T.depth
def cnt (kind : Int) (l : List Nd) : Int := ((l.filter fun n => n.kind == kind).length : Nat)
/-- How many nodes of a kind a plan has, -1 where it is none. -/
def countN (p : List Nd) (kind : Int) : Int := if planB p = true then cnt kind p else -1
theorem cnt_bd (kind : Int) (l : List Nd) : 0 ≤ cnt kind l ∧ cnt kind l ≤ l.length := by
  unfold cnt; have := List.length_filter_le (fun n : Nd => n.kind == kind) l; omega
theorem cnt_take {kind : Int} {l : List Nd} {k : Nat} {n : Nd} (h : l[k]? = some n) : cnt kind (l.take (k + 1)) = cnt kind (l.take k) + if n.kind = kind then 1 else 0 := by
  have hk : k < l.length := by
    rcases Nat.lt_or_ge k l.length with h1 | h1
    · exact h1
    · rw [List.getElem?_eq_none h1] at h; cases h
  rw [List.take_succ_eq_append_getElem hk]
  have : l[k] = n := by rw [List.getElem?_eq_getElem hk] at h; injection h
  rw [this]
  unfold cnt
  rw [List.filter_append]
  by_cases hh : n.kind = kind <;> simp [hh]
end Go.Proofs.Ytaaiedgmpgoonaa
