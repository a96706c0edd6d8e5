/-
  Rows of numbers in a slice: what such a slice reads as, and what of it the call itself owns. No program, no walk.
-/
import Derived.Test.YtfbgflmolkgopaaMem
import Derived.Test.YtfbgflmolkgopaaApp
import Derived.Test.YtfbgflmolkgopaaOwnN
namespace Go.Proofs.Ytfbgflmolkgopaa
open Go.RowKit
set_option linter.unusedSimpArgs false
set_option linter.unusedVariables false

/-- The cell at place o of block b holds a slice that reads as the row r. -/
def RowAt (w : World) (b o : Nat) (r : List Int) (a : Option Addr) (c : Nat) : Prop :=
  w.cell? ⟨b, o, none⟩ = some (.slice a r.length c) ∧ Rd w .i64 a r ∧ r.length ≤ c ∧ c ≤ maxLen

/-- The slice that begins at 'ao' reads as the rows l. -/
def RdR (w : World) (ao : Option Addr) (l : List (List Int)) : Prop :=
  l = [] ∨ ∃ b off, ao = some ⟨b, off, none⟩ ∧ ∀ i r, l[i]? = some r → ∃ a c, RowAt w b (off + i) r a c

/-- The first j rows of l lie in the row g of the call's own, each in a row of its own. -/
structure PartR (w : World) (base g c m : Nat) (l : List (List Int)) (j : Nat) (xs : List Value) (A : Nat → Option Addr) (C : Nat → Nat) : Prop where
  own : w.ownsRow base 32 1 (.slice (some ⟨g, 0, none⟩) m c) m xs
  cells : ∀ (i : Nat) (r : List Int), i < j → l[i]? = some r → xs[i]? = some (.slice (A i) r.length (C i))
  cols : ∀ (i : Nat) (r : List Int), i < j → l[i]? = some r → Own w base 3 .i64 (A i) (C i) r
  row : ∀ (i : Nat) (x : Addr), i < j → i < l.length → A i = some x → x.block ≠ g
  apart : ∀ (i k : Nat) (x y : Addr), i < j → k < j → i < l.length → k < l.length → i ≠ k → A i = some x → A k = some y → x.block ≠ y.block

/-- A slice of rows of the call's own. -/
def OwnR (w : World) (base : Nat) (ao : Option Addr) (c : Nat) (l : List (List Int)) : Prop :=
  l = [] ∨ ∃ g xs A C, ao = some ⟨g, 0, none⟩ ∧ PartR w base g c l.length l l.length xs A C

/-- The call returned a slice of rows of its own, and nothing that was there has turned. -/
def MadeR (w : World) (l : List (List Int)) (en : Ending) (w' : World) : Prop :=
  ∃ ao c, en = .returned (.slice ao l.length c) ∧ OwnR w' w.heap.size ao c l ∧ l.length ≤ c ∧ c ≤ maxLen ∧ Below w.heap.size w w'

theorem lt_of_get {α : Type} {l : List α} {i : Nat} {x : α} (h : l[i]? = some x) : i < l.length := by
  rcases Nat.lt_or_ge i l.length with h1 | h1
  · exact h1
  · rw [List.getElem?_eq_none h1] at h; cases h

section
variable {w w' : World} {base b o : Nat} {ao : Option Addr} {c : Nat} {l : List (List Int)} {r : List Int} {a : Option Addr}

theorem RowAt.lt (h : RowAt w b o r a c) : b < w.heap.size := World.block_lt_of_cell? w ⟨b, o, none⟩ h.1
theorem RowAt.below (h : RowAt w b o r a c) (hb : Below w.heap.size w w') : RowAt w' b o r a c :=
  ⟨(hb.cell (p := ⟨b, o, none⟩) h.lt).trans h.1, h.2.1.below hb, h.2.2⟩
theorem RdR.nil : RdR w ao [] := .inl rfl
theorem RdR.below (h : RdR w ao l) (hb : Below w.heap.size w w') : RdR w' ao l := by
  rcases h with h | ⟨b, off, rfl, hc⟩
  · exact .inl h
  · refine .inr ⟨b, off, rfl, fun i n hi => ?_⟩
    obtain ⟨a, c, h⟩ := hc i n hi
    exact ⟨a, c, h.below hb⟩
theorem RdR.at_ (h : RdR w ao l) {i : Nat} (hi : i < l.length) : ∃ b off r a c, ao = some ⟨b, off, none⟩ ∧ l[i]? = some r ∧ RowAt w b (off + i) r a c := by
  rcases h with rfl | ⟨b, off, rfl, hc⟩
  · simp at hi
  · obtain ⟨a, c, h⟩ := hc i _ (List.getElem?_eq_getElem hi)
    exact ⟨b, off, _, a, c, rfl, List.getElem?_eq_getElem hi, h⟩
end

section
variable {w w' : World} {base g c m : Nat} {l : List (List Int)} {j : Nat} {xs : List Value} {A : Nat → Option Addr} {C : Nat → Nat}
theorem PartR.below (h : PartR w base g c m l j xs A C) (hb : Below w.heap.size w w') : PartR w' base g c m l j xs A C :=
  ⟨owns_keep h.own (hb.block _ (owns_block h.own).2), h.cells, fun i n hi hn => (h.cols i n hi hn).below hb, h.row, h.apart⟩
theorem PartR.base_le {base' : Nat} (h : PartR w base g c m l j xs A C) (hb : base' ≤ base) : PartR w base' g c m l j xs A C :=
  ⟨owns_base h.own hb, h.cells, fun i n hi hn => (h.cols i n hi hn).base_le hb, h.row, h.apart⟩
theorem PartR.cellAt (h : PartR w base g c m l j xs A C) {o : Nat} (ho : o < m) : w.cell? ⟨g, o, none⟩ = xs[o]? := World.ownsRow.cellAt h.own o (by omega)
theorem PartR.some_ (h : PartR w base g c m l j xs A C) {o : Nat} (ho : o < m) : ∃ y, w.cell? ⟨g, o, none⟩ = some y := by
  have hl : o < xs.length := by have := h.own.1; omega
  exact ⟨xs[o], by rw [h.cellAt ho, List.getElem?_eq_getElem hl]⟩
theorem PartR.frozen (h : PartR w base g c m l j xs A C) (o : Nat) : w.frozen? ⟨g, o, none⟩ = false := World.ownsRow.frozenAt h.own o
theorem PartR.at_ (h : PartR w base g c m l j xs A C) {i : Nat} {r : List Int} (hi : i < j) (hm : i < m) (hn : l[i]? = some r) : RowAt w g (0 + i) r (A i) (C i) := by
  have ho := h.cols i r hi hn
  rw [Nat.zero_add]
  exact ⟨(h.cellAt hm).trans (h.cells i r hi hn), ho.rd, ho.cap_ge, ho.cap_le⟩

/-- A row more is stored behind those that lie there. -/
theorem PartR.put (h : PartR w base g c m l j xs A C) {w1 : World} {r : List Int} {a1 : Option Addr} {c1 : Nat} (hj : j < m) (hn : l[j]? = some r) (hb : Below w.heap.size w w1)
    (ho : Own w1 w.heap.size 3 .i64 a1 c1 r) (hbase : base ≤ w.heap.size) :
    PartR (w1.setCell ⟨g, j, none⟩ (.slice a1 r.length c1)) base g c m l (j + 1) (xs.set j (.slice a1 r.length c1)) (fun i => if i = j then a1 else A i) (fun i => if i = j then c1 else C i) := by
  have hg := (owns_block h.own).2
  have h1 := h.below hb
  have s0 := (h1.own.stored j (.slice a1 r.length c1)).1
  have hlen : xs.length = m := by have := h.own.1; omega
  have hblk : ∀ i, i ≠ g → (w1.setCell ⟨g, j, none⟩ (.slice a1 r.length c1)).heap[i]? = w1.heap[i]? := fun i hi => Below.heap_setCell _ _ _ i hi
  refine ⟨s0, ?_, ?_, ?_, ?_⟩
  · intro i n' hi hn'
    by_cases hij : i = j
    · subst hij
      rw [hn] at hn'; cases hn'
      simp only [if_true]
      rw [List.getElem?_set_self (by omega)]
    · simp only [if_neg hij]
      rw [List.getElem?_set_ne (by omega)]
      exact h.cells i n' (by omega) hn'
  · intro i n' hi hn'
    by_cases hij : i = j
    · subst hij
      rw [hn] at hn'; cases hn'
      simp only [if_true]
      exact (ho.keep fun x hx _ => hblk _ (by have := (ho.lt x hx).1; omega)).base_le hbase
    · simp only [if_neg hij]
      exact (h1.cols i n' (by omega) hn').keep fun x hx _ => hblk _ (h.row i x (by omega) (lt_of_get hn') hx)
  · intro i x hi hil hx
    by_cases hij : i = j
    · subst hij
      simp only [if_true] at hx
      have := (ho.lt x hx).1; omega
    · simp only [if_neg hij] at hx
      exact h.row i x (by omega) hil hx
  · intro i k x y hi hk hil hkl hik hx hy
    have key : ∀ i x, i < j → i < l.length → A i = some x → x.block < w.heap.size := fun i x hi hil hx => ((h.cols i _ hi (List.getElem?_eq_getElem hil)).lt x hx).2
    by_cases hij : i = j
    · subst hij
      simp only [if_true] at hx
      simp only [if_neg (Ne.symm hik)] at hy
      have := (ho.lt x hx).1
      have := key k y (by omega) hkl hy
      omega
    · simp only [if_neg hij] at hx
      by_cases hkj : k = j
      · subst hkj
        simp only [if_true] at hy
        have := (ho.lt y hy).1
        have := key i x (by omega) hil hx
        omega
      · simp only [if_neg hkj] at hy
        exact h.apart i k x y (by omega) (by omega) hil hkl hik hx hy
end

section
variable {w w' : World} {base : Nat} {ao : Option Addr} {c : Nat} {l : List (List Int)}
theorem OwnR.below (h : OwnR w base ao c l) (hb : Below w.heap.size w w') : OwnR w' base ao c l := by
  rcases h with h | ⟨g, xs, A, C, he, hp⟩
  · exact .inl h
  · exact .inr ⟨g, xs, A, C, he, hp.below hb⟩
theorem OwnR.base_le {base' : Nat} (h : OwnR w base ao c l) (hb : base' ≤ base) : OwnR w base' ao c l := by
  rcases h with h | ⟨g, xs, A, C, he, hp⟩
  · exact .inl h
  · exact .inr ⟨g, xs, A, C, he, hp.base_le hb⟩
theorem OwnR.rd (h : OwnR w base ao c l) : RdR w ao l := by
  rcases h with h | ⟨g, xs, A, C, rfl, hp⟩
  · exact .inl h
  · exact .inr ⟨g, 0, rfl, fun i r hr => ⟨_, _, hp.at_ (lt_of_get hr) (lt_of_get hr) hr⟩⟩
end
end Go.Proofs.Ytfbgflmolkgopaa
