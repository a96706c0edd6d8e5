/-
  Contract of spec.PutPart. For all slices of nodes and every number.
-/
import Derived.Test.YtfbgflmolkgopaaParts
import Derived.Test.YtfbgflmolkgopaaSJoin
namespace Go.Proofs.Ytfbgflmolkgopaa
open Go.RowKit
set_option linter.unusedSimpArgs false
set_option linter.unusedVariables false

/-- The call returned a slice of nodes of its own beside a bool, and nothing that was there has turned. -/
def MadeN2 (w : World) (l : List Nd) (ok : Bool) (en : Ending) (w' : World) : Prop :=
  ∃ ao c, en = .returned (.tuple #[.slice ao l.length c, .bool ok]) ∧ OwnN w' w.heap.size ao c l ∧ Below w.heap.size w w'
/-- A plan with another part in the place of one of its own. -/
def joinN (p : List Nd) (k : Int) (q : List Nd) : List Nd := p.take k.toNat ++ q ++ p.drop (endOfN p k).toNat
def putB (p : List Nd) (k : Int) (q : List Nd) : Bool := goodB p k && planB q && planB (joinN p k q)
def putN (p : List Nd) (k : Int) (q : List Nd) : List Nd := if putB p k q = true then joinN p k q else p
theorem put_no1 {p : List Nd} {k : Int} {q : List Nd} (h : goodB p k = false) : putB p k q = false ∧ putN p k q = p := by
  have : putB p k q = false := by simp [putB, h]
  exact ⟨this, by unfold putN; rw [if_neg (by simp [this])]⟩
theorem put_no2 {p : List Nd} {k : Int} {q : List Nd} (h : planB q = false) : putB p k q = false ∧ putN p k q = p := by
  have : putB p k q = false := by simp [putB, h]
  exact ⟨this, by unfold putN; rw [if_neg (by simp [this])]⟩
theorem put_no3 {p : List Nd} {k : Int} {q : List Nd} (h : planB (joinN p k q) = false) : putB p k q = false ∧ putN p k q = p := by
  have : putB p k q = false := by simp [putB, h]
  exact ⟨this, by unfold putN; rw [if_neg (by simp [this])]⟩
theorem put_yes {p : List Nd} {k : Int} {q : List Nd} (h1 : goodB p k = true) (h2 : planB q = true) (h3 : planB (joinN p k q) = true) : putB p k q = true ∧ putN p k q = joinN p k q := by
  have : putB p k q = true := by simp [putB, h1, h2, h3]
  exact ⟨this, by unfold putN; rw [if_pos this]⟩
theorem RdN.take {w : World} {ao : Option Addr} {l : List Nd} (h : RdN w ao l) (m : Nat) : RdN w ao (l.take m) := by
  rcases h with rfl | ⟨b, off, rfl, hc⟩
  · left; simp
  · refine .inr ⟨b, off, rfl, fun i n hi => hc i n ?_⟩
    rw [List.getElem?_take] at hi
    split at hi
    · exact hi
    · cases hi
theorem RdN.drop {w : World} {b off : Nat} {l : List Nd} (h : RdN w (some ⟨b, off, none⟩) l) (k : Nat) : RdN w (some ⟨b, off + k * 7, none⟩) (l.drop k) := by
  have := h.part k (l.drop k).length
  rwa [List.take_length] at this
theorem Small.take {l : List Nd} (h : Small l) (m : Nat) : Small (l.take m) := ⟨by have := h.1; simp; omega, fun n hn => h.2 n (List.mem_of_mem_take hn)⟩
theorem Small.drop {l : List Nd} (h : Small l) (m : Nat) : Small (l.drop m) := ⟨by have := h.1; simp; omega, fun n hn => h.2 n (List.mem_of_mem_drop hn)⟩
theorem Small.put {p q : List Nd} (h : Small p) (hq : Small q) (k : Int) (hp40 : p.length ≤ 40) (hq40 : q.length ≤ 40) : Small (joinN p k q) := by
  refine ⟨by unfold joinN; simp; omega, fun n hn => ?_⟩
  unfold joinN at hn
  rw [List.mem_append, List.mem_append] at hn
  rcases hn with (hn | hn) | hn
  · exact h.2 n (List.mem_of_mem_take hn)
  · exact hq.2 n hn
  · exact h.2 n (List.mem_of_mem_drop hn)
theorem planB_40 {p : List Nd} (h : planB p = true) : p.length ≤ 40 ∧ 1 ≤ p.length := by
  cases ht : treeN p with
  | none => simp [planB, ht] at h
  | some T => exact ⟨(treeN_some ht).1, treeN_pos ht⟩
theorem good_plan {p : List Nd} {k : Int} (h : goodB p k = true) : planB p = true := by
  simp only [goodB, Bool.and_eq_true] at h; exact h.1

theorem joined3_any (W : World) (t : TypeId) (a0 a1 a2 : Option Addr) (n0 c0 n1 c1 n2 c2 : Nat) (l0 l1 l2 : List Nd) (e0 : n0 = l0.length) (e1 : n1 = l1.length) (e2 : n2 = l2.length) (h0 : RdN W a0 l0) (h1 : RdN W a1 l1) (h2 : RdN W a2 l2) (s0 : Small l0) (s1 : Small l1) (s2 : Small l2) (J : List Nd) (hJ : l0 ++ l1 ++ l2 = J) :
    Calls Try.prog 102 #[.slice (some ⟨W.heap.size, 0, none⟩) 3 3] (W.alloc (.cells #[.slice a0 n0 c0, .slice a1 n1 c1, .slice a2 n2 c2] t))
      (MadeP (W.alloc (.cells #[.slice a0 n0 c0, .slice a1 n1 c1, .slice a2 n2 c2] t)) J) := by
  subst e0 e1 e2 hJ
  have hb : Below W.heap.size W (W.alloc (.cells #[.slice a0 l0.length c0, .slice a1 l1.length c1, .slice a2 l2.length c2] t)) := (Below.refl _ _).alloc (Nat.le_refl _) _
  have e : srcs [(a0, c0, l0), (a1, c1, l1), (a2, c2, l2)] = l0 ++ l1 ++ l2 := by simp [srcs]
  have := joined_any W.heap.size 3 [(a0, c0, l0), (a1, c1, l1), (a2, c2, l2)] (W.alloc (.cells #[.slice a0 l0.length c0, .slice a1 l1.length c1, .slice a2 l2.length c2] t)) (by simp) ?_ ?_ ?_
  · rw [e] at this; exact this
  · intro i q hq
    match i, hq with
    | 0, hq => cases hq; exact ⟨by rw [World.cell?_alloc_new]; rfl, h0.below hb⟩
    | 1, hq => cases hq; exact ⟨by rw [World.cell?_alloc_new]; rfl, h1.below hb⟩
    | 2, hq => cases hq; exact ⟨by rw [World.cell?_alloc_new]; rfl, h2.below hb⟩
  · intro q hq
    simp at hq
    rcases hq with rfl | rfl | rfl
    · exact s0
    · exact s1
    · exact s2
  · rw [e]; have := s0.1; have := s1.1; have := s2.1; simp; omega

/-- The place behind a part, in memory. -/
theorem drop_none {w : World} {ao : Option Addr} {en : Nat} {p : List Nd} (hc : p.length ≤ en) : RdN w ao (p.drop en) := by
  left; rw [List.drop_eq_nil_iff]; exact hc

end Go.Proofs.Ytfbgflmolkgopaa
