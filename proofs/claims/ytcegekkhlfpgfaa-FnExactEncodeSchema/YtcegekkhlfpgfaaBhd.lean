/-
  Slices of slices of bytes: what one reads as, what of it the call itself owns; the contract of impl.behindEachOther: all their bytes, one behind the other, in memory of its own.
-/
import Derived.Test.YtcegekkhlfpgfaaCodP
import Derived.Test.YtcegekkhlfpgfaaIPutNum
import Derived.Test.YtcegekkhlfpgfaaApp
import Derived.Laws.CopyOwn
namespace Go.Proofs.Ytcegekkhlfpgfaa
open Go.RowKit
set_option linter.unusedSimpArgs false
set_option linter.unusedVariables false

/-- The slice that begins at 'ao' reads as the slices of bytes ls. -/
def RdB (w : World) (ao : Option Addr) (ls : List (List Int)) : Prop :=
  ls = [] ∨ ∃ b off, ao = some ⟨b, off, none⟩ ∧ ∀ (i : Nat) (l : List Int), ls[i]? = some l → ∃ a c, w.cell? ⟨b, off + i, none⟩ = some (.slice a l.length c) ∧ Rd w .u8 a l
theorem RdB.below {w w' : World} {ao : Option Addr} {ls : List (List Int)} (h : RdB w ao ls) (hb : Below w.heap.size w w') : RdB w' ao ls := by
  rcases h with h | ⟨b, off, rfl, hc⟩
  · exact .inl h
  · refine .inr ⟨b, off, rfl, fun i l hi => ?_⟩
    obtain ⟨a, c, h1, h2⟩ := hc i l hi
    exact ⟨a, c, (hb.cell (p := ⟨b, off + i, none⟩) (World.block_lt_of_cell? w ⟨b, off + i, none⟩ h1)).trans h1, h2.below hb⟩
theorem RdB.at_ {w : World} {ao : Option Addr} {ls : List (List Int)} (h : RdB w ao ls) {i : Nat} (hi : i < ls.length) :
    ∃ b off l a c, ao = some ⟨b, off, none⟩ ∧ ls[i]? = some l ∧ w.cell? ⟨b, off + i, none⟩ = some (.slice a l.length c) ∧ Rd w .u8 a l := by
  rcases h with rfl | ⟨b, off, rfl, hc⟩
  · simp at hi
  · obtain ⟨a, c, h1, h2⟩ := hc i _ (List.getElem?_eq_getElem hi)
    exact ⟨b, off, _, a, c, rfl, List.getElem?_eq_getElem hi, h1, h2⟩

/-- A slice of slices of bytes of the call's own, and so each of them. -/
def OwnB (w : World) (base : Nat) (ao : Option Addr) (c : Nat) (ls : List (List Int)) : Prop :=
  ∃ vs, OwnV w base 26 ao c vs ∧ vs.length = ls.length ∧ ∀ (i : Nat) (l : List Int), ls[i]? = some l → ∃ (a : Option Addr) (c' : Nat), vs[i]? = some (Value.slice a l.length c') ∧ Own w base 5 .u8 a c' l
theorem OwnB.below {w w' : World} {base : Nat} {ao : Option Addr} {c : Nat} {ls : List (List Int)} (h : OwnB w base ao c ls) (hb : Below w.heap.size w w') : OwnB w' base ao c ls := by
  obtain ⟨vs, h1, h2, h3⟩ := h
  refine ⟨vs, h1.below hb, h2, fun i l hi => ?_⟩
  obtain ⟨a, c', h4, h5⟩ := h3 i l hi
  exact ⟨a, c', h4, h5.below hb⟩
theorem OwnB.rd {w : World} {base : Nat} {ao : Option Addr} {c : Nat} {ls : List (List Int)} (h : OwnB w base ao c ls) : RdB w ao ls := by
  obtain ⟨vs, h1, h2, h3⟩ := h
  rcases h1.form with ⟨_, _, rfl⟩ | ⟨g, rfl, _⟩
  · left; exact List.eq_nil_of_length_eq_zero h2.symm
  · refine .inr ⟨g, 0, rfl, fun i l hi => ?_⟩
    obtain ⟨a, c', h4, h5⟩ := h3 i l hi
    have hil : i < vs.length := (List.getElem?_eq_some_iff.1 h4).1
    exact ⟨a, c', by rw [Nat.zero_add, h1.cell i hil]; exact h4, h5.rd⟩
theorem OwnB.none_ {w : World} {base : Nat} : OwnB w base none 0 [] := ⟨[], OwnV.none_, rfl, fun i l hi => by simp at hi⟩
/-- Rows of two types lie in two blocks. -/
theorem own_blocks {w : World} {base : Nat} {e e' : TypeId} {ao a : Option Addr} {c c' : Nat} {vs : List Value} {l : List Int} (he : e ≠ e') (h : OwnV w base e ao c vs) (k : Own w base e' .u8 a c' l) : ∀ x y, ao = some x → a = some y → y.block ≠ x.block := by
  intro x y hx hy hh
  rcases h.2 with ⟨hv, _⟩ | ⟨g, cap, cur, hv, _, hg, _⟩
  · simp only [Value.slice.injEq] at hv; rw [hx] at hv; cases hv.1
  rcases k.2 with ⟨hv', _⟩ | ⟨g', cap', cur', hv', _, hg', _⟩
  · simp only [Value.slice.injEq] at hv'; rw [hy] at hv'; cases hv'.1
  simp only [Value.slice.injEq] at hv hv'
  rw [hx] at hv; rw [hy] at hv'
  have e1 : x = ⟨g, 0, none⟩ := by injection hv.1
  have e2 : y = ⟨g', 0, none⟩ := by injection hv'.1
  subst e1; subst e2
  simp only at hh; subst hh
  rw [hg] at hg'
  injection hg' with hg'
  injection hg' with _ hg'
  exact he hg'
/-- One more is appended. -/
theorem OwnB.push {w1 w3 : World} {base : Nat} {ao ao' : Option Addr} {c c' : Nat} {ls : List (List Int)} {vs : List Value} {a1 : Option Addr} {c1 : Nat} {l1 : List Int}
    (hV : OwnV w1 base 26 ao c vs) (hl : vs.length = ls.length) (hp : ∀ (i : Nat) (l : List Int), ls[i]? = some l → ∃ (a : Option Addr) (c' : Nat), vs[i]? = some (Value.slice a l.length c') ∧ Own w1 base 5 .u8 a c' l)
    (h1 : Own w1 base 5 .u8 a1 c1 l1) (hV3 : OwnV w3 base 26 ao' c' (vs ++ [.slice a1 l1.length c1])) (hg : w1.grownBy w3 (ao.map (·.block))) : OwnB w3 base ao' c' (ls ++ [l1]) := by
  have keep : ∀ a c' l, Own w1 base 5 .u8 a c' l → Own w3 base 5 .u8 a c' l := by
    intro a c' l h
    refine h.grown hg ?_
    intro y hy
    cases ao with
    | none => simp
    | some x => simp; exact own_blocks (by decide) hV h x y rfl hy
  refine ⟨_, hV3, by simp [hl], fun i l hi => ?_⟩
  rcases Nat.lt_or_ge i ls.length with h | h
  · rw [List.getElem?_append_left h] at hi
    obtain ⟨a, c', h4, h5⟩ := hp i l hi
    exact ⟨a, c', by rw [List.getElem?_append_left (by omega)]; exact h4, keep _ _ _ h5⟩
  · rw [List.getElem?_append_right h] at hi
    have hi0 : i - ls.length = 0 := by
      rcases Nat.eq_zero_or_pos (i - ls.length) with h0 | h0
      · exact h0
      · rw [List.getElem?_eq_none (by simp; omega)] at hi; cases hi
    rw [hi0] at hi
    simp at hi; subst hi
    exact ⟨a1, c1, by rw [List.getElem?_append_right (by omega), hl, hi0]; rfl, keep _ _ _ h1⟩

def padL (acc : List Int) (T : Nat) : List Int := acc ++ List.replicate (T - acc.length) 0
theorem padL_len {acc : List Int} {T : Nat} (h : acc.length ≤ T) : (padL acc T).length = T := by simp [padL]; omega
theorem padL_splice {acc l : List Int} {T : Nat} (h : acc.length + l.length ≤ T) : splice ((padL acc T).map (Value.int .u8)) acc.length (l.map (Value.int .u8)) = (padL (acc ++ l) T).map (Value.int .u8) := by
  unfold splice padL
  rw [List.map_append, List.map_append]
  rw [List.take_append_of_le_length (by simp), List.take_of_length_le (by simp)]
  rw [List.drop_append, List.drop_of_length_le (by simp)]
  simp only [List.length_map, List.nil_append, List.map_append, List.map_replicate, List.drop_replicate, List.length_append, List.append_assoc]
  congr 3
  omega
theorem own_of_block {w : World} {base g : Nat} {e : TypeId} {l : List Int} (hg : w.heap[g]? = some (.cells (l.map (Value.int .u8)).toArray e (0, 0))) (hb : base ≤ g) (hl : l.length ≤ maxLen) : Own w base e .u8 (some ⟨g, 0, none⟩) l.length l :=
  ⟨by simp, .inr ⟨g, l.length, _, rfl, hb, hg, Nat.le_refl _, hl, by simp, by rw [Nat.mul_one]; exact List.take_of_length_le (by simp)⟩⟩
theorem block_of_own {w : World} {base g n : Nat} {e : TypeId} {xs : List Value} (h : w.ownsRow base e 1 (.slice (some ⟨g, 0, none⟩) n n) n xs) : w.heap[g]? = some (.cells xs.toArray e (0, 0)) := by
  rcases h.2 with ⟨hv, _⟩ | ⟨g', cap, cur, hv, _, hg, h1, h2, h3, h4⟩
  · simp only [Value.slice.injEq] at hv; cases hv.1
  · simp only [Value.slice.injEq, Option.some.injEq, Addr.mk.injEq, and_true] at hv
    obtain ⟨rfl, -, rfl⟩ := hv
    have hx := h.1
    rw [hg]
    have : cur = xs.toArray := by
      apply Array.ext'
      rw [Nat.mul_one] at h3 h4
      rw [← h4, List.take_of_length_le (by simp; omega)]
    rw [this]
end Go.Proofs.Ytcegekkhlfpgfaa
