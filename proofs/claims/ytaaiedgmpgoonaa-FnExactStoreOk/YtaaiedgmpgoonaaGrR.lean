/-
  Slices of slices of rows: what such a slice reads as, and what of it the call itself owns. No program, no walk.
-/
import Derived.Test.YtaaiedgmpgoonaaMarkR
namespace Go.Proofs.Ytaaiedgmpgoonaa
open Go.RowKit
set_option linter.unusedSimpArgs false
set_option linter.unusedVariables false

/-- The cell at place o of block b holds a slice that reads as the rows r. -/
def RowsAt (w : World) (b o : Nat) (r : List (List Int)) (a : Option Addr) (c : Nat) : Prop :=
  w.cell? ⟨b, o, none⟩ = some (.slice a r.length c) ∧ RdR w a r ∧ r.length ≤ c ∧ c ≤ maxLen

/-- The slice that begins at 'ao' reads as the lists of rows l. -/
def RdRR (w : World) (ao : Option Addr) (l : List (List (List Int))) : Prop :=
  l = [] ∨ ∃ b off, ao = some ⟨b, off, none⟩ ∧ ∀ i r, l[i]? = some r → ∃ a c, RowsAt w b (off + i) r a c

/-- The first j lists of rows lie in the row g of the call's own, each in a range of blocks of its own. -/
structure PartRR (w : World) (base g c m : Nat) (l : List (List (List Int))) (j : Nat) (xs : List Value) (A : Nat → Option Addr) (C R : Nat → Nat) : Prop where
  own : w.ownsRow base 53 1 (.slice (some ⟨g, 0, none⟩) m c) m xs
  cells : ∀ (i : Nat) (r : List (List Int)), i < j → l[i]? = some r → xs[i]? = some (.slice (A i) r.length (C i))
  rows : ∀ (i : Nat) (r : List (List Int)), i < j → l[i]? = some r → OwnRH w (R i) (R (i + 1)) (A i) (C i) r ∧ r.length ≤ C i ∧ C i ≤ maxLen
  mono : ∀ i, i < j → R i ≤ R (i + 1)
  first : g < R 0
  last : R j ≤ w.heap.size

/-- A slice of lists of rows of the call's own. -/
def OwnRR (w : World) (base : Nat) (ao : Option Addr) (c : Nat) (l : List (List (List Int))) : Prop :=
  l = [] ∨ ∃ g xs A C R, ao = some ⟨g, 0, none⟩ ∧ PartRR w base g c l.length l l.length xs A C R

/-- The call returned a slice of lists of rows of its own, and nothing that was there has turned. -/
def MadeRR (w : World) (l : List (List (List Int))) (en : Ending) (w' : World) : Prop :=
  ∃ ao c, en = .returned (.slice ao l.length c) ∧ OwnRR w' w.heap.size ao c l ∧ l.length ≤ c ∧ c ≤ maxLen ∧ Below w.heap.size w w'

section
variable {w w' : World} {b o : Nat} {ao : Option Addr} {c : Nat} {l : List (List (List Int))} {r : List (List Int)} {a : Option Addr}
theorem RowsAt.lt (h : RowsAt w b o r a c) : b < w.heap.size := World.block_lt_of_cell? w ⟨b, o, none⟩ h.1
theorem RowsAt.below (h : RowsAt w b o r a c) (hb : Below w.heap.size w w') : RowsAt w' b o r a c :=
  ⟨(hb.cell (p := ⟨b, o, none⟩) h.lt).trans h.1, h.2.1.below hb, h.2.2⟩
theorem RdRR.below (h : RdRR w ao l) (hb : Below w.heap.size w w') : RdRR w' ao l := by
  rcases h with h | ⟨b, off, rfl, hc⟩
  · exact .inl h
  · refine .inr ⟨b, off, rfl, fun i n hi => ?_⟩
    obtain ⟨a, c, h⟩ := hc i n hi
    exact ⟨a, c, h.below hb⟩
theorem RdRR.at_ (h : RdRR w ao l) {i : Nat} (hi : i < l.length) : ∃ b off r a c, ao = some ⟨b, off, none⟩ ∧ l[i]? = some r ∧ RowsAt w b (off + i) r a c := by
  rcases h with rfl | ⟨b, off, rfl, hc⟩
  · simp at hi
  · obtain ⟨a, c, h⟩ := hc i _ (List.getElem?_eq_getElem hi)
    exact ⟨b, off, _, a, c, rfl, List.getElem?_eq_getElem hi, h⟩
end

theorem OwnRH.lo_le {w : World} {lo lo' hi c : Nat} {ao : Option Addr} {l : List (List Int)} (h : OwnRH w lo hi ao c l) (hb : lo' ≤ lo) : OwnRH w lo' hi ao c l := by
  rcases h with h | ⟨g, xs, A, C, he, hp, h1, h2⟩
  · exact .inl h
  · exact .inr ⟨g, xs, A, C, he, hp.base_le hb, h1, h2⟩

section
variable {w w' : World} {base g c m : Nat} {l : List (List (List Int))} {j : Nat} {xs : List Value} {A : Nat → Option Addr} {C R : Nat → Nat}
theorem PartRR.below (h : PartRR w base g c m l j xs A C R) (hb : Below w.heap.size w w') : PartRR w' base g c m l j xs A C R :=
  ⟨owns_keep h.own (hb.block _ (owns_block h.own).2), h.cells, fun i n hi hn => ⟨(h.rows i n hi hn).1.below hb, (h.rows i n hi hn).2⟩, h.mono, h.first, Nat.le_trans h.last hb.size⟩
theorem PartRR.base_le {base' : Nat} (h : PartRR w base g c m l j xs A C R) (hb : base' ≤ base) : PartRR w base' g c m l j xs A C R :=
  ⟨owns_base h.own hb, h.cells, h.rows, h.mono, h.first, h.last⟩
theorem PartRR.cellAt (h : PartRR w base g c m l j xs A C R) {o : Nat} (ho : o < m) : w.cell? ⟨g, o, none⟩ = xs[o]? := World.ownsRow.cellAt h.own o (by omega)
theorem PartRR.some_ (h : PartRR w base g c m l j xs A C R) {o : Nat} (ho : o < m) : ∃ y, w.cell? ⟨g, o, none⟩ = some y := by
  have hl : o < xs.length := by have := h.own.1; omega
  exact ⟨xs[o], by rw [h.cellAt ho, List.getElem?_eq_getElem hl]⟩
theorem PartRR.frozen (h : PartRR w base g c m l j xs A C R) (o : Nat) : w.frozen? ⟨g, o, none⟩ = false := World.ownsRow.frozenAt h.own o
theorem PartRR.at_ (h : PartRR w base g c m l j xs A C R) {i : Nat} {r : List (List Int)} (hi : i < j) (hm : i < m) (hn : l[i]? = some r) : RowsAt w g (0 + i) r (A i) (C i) := by
  have ho := h.rows i r hi hn
  rw [Nat.zero_add]
  exact ⟨(h.cellAt hm).trans (h.cells i r hi hn), ho.1.rd, ho.2.1, ho.2.2⟩
theorem PartRR.ge (h : PartRR w base g c m l j xs A C R) : ∀ i, i ≤ j → R 0 ≤ R i := by
  intro i hi
  induction i with
  | zero => exact Nat.le_refl _
  | succ k ih => exact Nat.le_trans (ih (by omega)) (h.mono k (by omega))

/-- A list of rows more is stored behind those that lie there. -/
theorem PartRR.put (h : PartRR w base g c m l j xs A C R) {w1 : World} {r : List (List Int)} {a1 : Option Addr} {c1 : Nat} (hj : j < m) (hn : l[j]? = some r) (hb : Below w.heap.size w w1)
    (ho : OwnR w1 w.heap.size a1 c1 r) (hc1 : r.length ≤ c1) (hc2 : c1 ≤ maxLen) :
    PartRR (w1.setCell ⟨g, j, none⟩ (.slice a1 r.length c1)) base g c m l (j + 1) (xs.set j (.slice a1 r.length c1)) (fun i => if i = j then a1 else A i) (fun i => if i = j then c1 else C i) (fun i => if i = j + 1 then w1.heap.size else R i) := by
  have hg := (owns_block h.own).2
  have h1 := h.below hb
  have hlen : xs.length = m := by have := h.own.1; omega
  have hF : Frame g (g + 1) w1 (w1.setCell ⟨g, j, none⟩ (.slice a1 r.length c1)) := Frame.setCell (p := ⟨g, j, none⟩) (Nat.le_refl _) (Nat.lt_succ_self _) _
  have hge := h.ge
  have hfirst := h.first
  have hlast := h.last
  refine ⟨(h1.own.stored j (.slice a1 r.length c1)).1, ?_, ?_, ?_, ?_, ?_⟩
  · intro i n' hi hn'
    by_cases hij : i = j
    · subst hij
      rw [hn] at hn'; cases hn'
      simp only [if_true]
      rw [List.getElem?_set_self (by omega)]
    · simp only [if_neg hij]
      rw [List.getElem?_set_ne (by omega)]
      exact h.cells i n' (by omega) hn'
  · intro i n' hi hn'
    by_cases hij : i = j
    · subst hij
      rw [hn] at hn'; cases hn'
      simp only [if_true]
      rw [if_neg (by omega)]
      refine ⟨?_, hc1, hc2⟩
      have := (ho.top.lo_le hlast).frame hF (.inr (by have := hge i (Nat.le_refl _); omega))
      exact this
    · simp only [if_neg hij]
      rw [if_neg (by omega), if_neg (by omega)]
      have hr := h1.rows i n' (by omega) hn'
      exact ⟨hr.1.frame hF (.inr (by have := hge i (by omega); omega)), hr.2⟩
  · intro i hi
    by_cases hij : i = j
    · subst hij
      rw [if_neg (by omega), if_pos rfl]
      exact Nat.le_trans hlast hb.size
    · rw [if_neg (by omega), if_neg (by omega)]
      exact h.mono i (by omega)
  · rw [if_neg (by omega)]; exact hfirst
  · rw [if_pos rfl]; exact hF.size
end

section
variable {w w' : World} {base : Nat} {ao : Option Addr} {c : Nat} {l : List (List (List Int))}
theorem OwnRR.below (h : OwnRR w base ao c l) (hb : Below w.heap.size w w') : OwnRR w' base ao c l := by
  rcases h with h | ⟨g, xs, A, C, R, he, hp⟩
  · exact .inl h
  · exact .inr ⟨g, xs, A, C, R, he, hp.below hb⟩
theorem OwnRR.rd (h : OwnRR w base ao c l) : RdRR w ao l := by
  rcases h with h | ⟨g, xs, A, C, R, rfl, hp⟩
  · exact .inl h
  · exact .inr ⟨g, 0, rfl, fun i r hr => ⟨_, _, hp.at_ (lt_of_get hr) (lt_of_get hr) hr⟩⟩
end
end Go.Proofs.Ytaaiedgmpgoonaa
