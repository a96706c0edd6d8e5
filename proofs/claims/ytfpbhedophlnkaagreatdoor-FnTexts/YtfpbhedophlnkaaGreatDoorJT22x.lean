/-
  A row of nodes that the call itself owns: its cells, the columns of each node in a row of their own, all of them apart. No program, no walk. A row of nodes that grows by one node at a time, its columns in rows of the call's own. No program, no walk.
-/
import Derived.Test.YtfpbhedophlnkaaGreatDoorJT4x
import Derived.Test.YtfpbhedophlnkaaGreatDoorJT5x
import Derived.Laws.OwnMore
namespace Go.Proofs.YtfpbhedophlnkaaGreatDoor
open Go.RowKit
set_option linter.unusedSimpArgs false
set_option linter.unusedVariables false

/-- Seven cells of a list of cells, as a node. -/
structure NdC (xs : List Value) (o : Nat) (n : Nd) (a : Option Addr) (c : Nat) : Prop where
  c0 : xs[o]? = some (.int .i64 n.kind)
  c1 : xs[o + 1]? = some (.string n.name)
  c2 : xs[o + 2]? = some (.int .i64 n.col)
  c3 : xs[o + 3]? = some (.int .i64 n.op)
  c4 : xs[o + 4]? = some (.int .i64 n.num)
  c5 : xs[o + 5]? = some (.bool n.slot)
  c6 : xs[o + 6]? = some (.slice a n.cols.length c)

/-- The first j nodes of l lie in the row g of the call's own. -/
structure PartN (w : World) (base g c m : Nat) (l : List Nd) (j : Nat) (xs : List Value) (A : Nat → Option Addr) (C : Nat → Nat) : Prop where
  own : w.ownsRow base 92 7 (.slice (some ⟨g, 0, none⟩) m c) m xs
  cells : ∀ (i : Nat) (n : Nd), i < j → l[i]? = some n → NdC xs (i * 7) n (A i) (C i)
  cols : ∀ (i : Nat) (n : Nd), i < j → l[i]? = some n → Own w base 3 .i64 (A i) (C i) n.cols
  name : ∀ (i : Nat) (n : Nd), i < j → l[i]? = some n → n.name.size ≤ maxLen
  row : ∀ (i : Nat) (x : Addr), i < j → i < l.length → A i = some x → x.block ≠ g
  apart : ∀ (i k : Nat) (x y : Addr), i < j → k < j → i < l.length → k < l.length → i ≠ k → A i = some x → A k = some y → x.block ≠ y.block

/-- A slice of nodes of the call's own. -/
def OwnN (w : World) (base : Nat) (ao : Option Addr) (c : Nat) (l : List Nd) : Prop :=
  l = [] ∨ ∃ g xs A C, ao = some ⟨g, 0, none⟩ ∧ PartN w base g c l.length l l.length xs A C

/-- The call returned a slice of nodes of its own, and nothing that was there has turned. -/
def MadeN (w : World) (l : List Nd) (en : Ending) (w' : World) : Prop :=
  ∃ ao c, en = .returned (.slice ao l.length c) ∧ OwnN w' w.heap.size ao c l ∧ Below w.heap.size w w'

/-- The call returned a slice of nodes of its own, a row even where there are none, and nothing that was there has turned. -/
def MadeP (w : World) (l : List Nd) (en : Ending) (w' : World) : Prop :=
  ∃ g c xs A C, en = .returned (.slice (some ⟨g, 0, none⟩) l.length c) ∧ PartN w' w.heap.size g c l.length l l.length xs A C ∧ Below w.heap.size w w'
theorem MadeP.made {w w' : World} {l : List Nd} {en : Ending} (h : MadeP w l en w') : MadeN w l en w' := by
  obtain ⟨g, c, xs, A, C, he, hp, hb⟩ := h
  exact ⟨_, c, he, .inr ⟨g, xs, A, C, rfl, hp⟩, hb⟩

theorem owns_block {w : World} {base : Nat} {e : TypeId} {size g c m : Nat} {xs : List Value} (h : w.ownsRow base e size (.slice (some ⟨g, 0, none⟩) m c) m xs) : base ≤ g ∧ g < w.heap.size :=
  h.lt g rfl
theorem owns_keep {w w' : World} {base : Nat} {e : TypeId} {size g c m : Nat} {xs : List Value} (h : w.ownsRow base e size (.slice (some ⟨g, 0, none⟩) m c) m xs) (hk : w'.heap[g]? = w.heap[g]?) : w'.ownsRow base e size (.slice (some ⟨g, 0, none⟩) m c) m xs := by
  refine ⟨h.1, ?_⟩
  rcases h.2 with h2 | ⟨g', cap, cur, hv, hb, hg, r⟩
  · exact .inl h2
  · refine .inr ⟨g', cap, cur, hv, hb, ?_, r⟩
    simp only [Value.slice.injEq, Option.some.injEq, Addr.mk.injEq, and_true] at hv
    rw [← hv.1, hk, hv.1]; exact hg
theorem owns_base {w : World} {base base' : Nat} {e : TypeId} {size g c m : Nat} {xs : List Value} (h : w.ownsRow base e size (.slice (some ⟨g, 0, none⟩) m c) m xs) (hb : base' ≤ base) : w.ownsRow base' e size (.slice (some ⟨g, 0, none⟩) m c) m xs := by
  refine ⟨h.1, ?_⟩
  rcases h.2 with h2 | ⟨g', cap, cur, hv, hb', r⟩
  · exact .inl h2
  · exact .inr ⟨g', cap, cur, hv, Nat.le_trans hb hb', r⟩

section
variable {w w' : World} {base g c m : Nat} {l : List Nd} {j : Nat} {xs : List Value} {A : Nat → Option Addr} {C : Nat → Nat}

theorem PartN.below (h : PartN w base g c m l j xs A C) (hb : Below w.heap.size w w') : PartN w' base g c m l j xs A C :=
  ⟨owns_keep h.own (hb.block _ (owns_block h.own).2), h.cells, fun i n hi hn => (h.cols i n hi hn).below hb, h.name, h.row, h.apart⟩
theorem PartN.base_le {base' : Nat} (h : PartN w base g c m l j xs A C) (hb : base' ≤ base) : PartN w base' g c m l j xs A C :=
  ⟨owns_base h.own hb, h.cells, fun i n hi hn => (h.cols i n hi hn).base_le hb, h.name, h.row, h.apart⟩
theorem PartN.cellAt (h : PartN w base g c m l j xs A C) {o : Nat} (ho : o < m * 7) : w.cell? ⟨g, o, none⟩ = xs[o]? := World.ownsRow.cellAt h.own o ho
theorem PartN.some_ (h : PartN w base g c m l j xs A C) {o : Nat} (ho : o < m * 7) : ∃ y, w.cell? ⟨g, o, none⟩ = some y := by
  have hl : o < xs.length := by rw [h.own.1]; exact ho
  exact ⟨xs[o], by rw [h.cellAt ho, List.getElem?_eq_getElem hl]⟩
theorem PartN.frozen (h : PartN w base g c m l j xs A C) (o : Nat) : w.frozen? ⟨g, o, none⟩ = false := World.ownsRow.frozenAt h.own o
theorem PartN.at_ (h : PartN w base g c m l j xs A C) {i : Nat} {n : Nd} (hi : i < j) (hm : i < m) (hn : l[i]? = some n) : NdAt w g (0 + i * 7) n (A i) (C i) := by
  have hc := h.cells i n hi hn
  have ho := h.cols i n hi hn
  rw [Nat.zero_add]
  exact ⟨(h.cellAt (by omega)).trans hc.c0, (h.cellAt (by omega)).trans hc.c1, (h.cellAt (by omega)).trans hc.c2, (h.cellAt (by omega)).trans hc.c3, (h.cellAt (by omega)).trans hc.c4, (h.cellAt (by omega)).trans hc.c5,
    (h.cellAt (by omega)).trans hc.c6, ho.rd, ho.cap_ge, ho.cap_le, h.name i n hi hn⟩

theorem get_set7 {xs : List Value} {o k : Nat} {v0 v1 v2 v3 v4 v5 v6 : Value} (h : k < o ∨ o + 6 < k) :
    (((((((xs.set o v0).set (o + 1) v1).set (o + 2) v2).set (o + 3) v3).set (o + 4) v4).set (o + 5) v5).set (o + 6) v6)[k]? = xs[k]? := by
  rw [List.getElem?_set_ne (by omega), List.getElem?_set_ne (by omega), List.getElem?_set_ne (by omega), List.getElem?_set_ne (by omega), List.getElem?_set_ne (by omega), List.getElem?_set_ne (by omega), List.getElem?_set_ne (by omega)]

/-- The world in which a node is stored into the row. -/
def put7 (w : World) (g o : Nat) (n : Nd) (a : Option Addr) (c : Nat) : World :=
  ((((((w.setCell ⟨g, o, none⟩ (.int .i64 n.kind)).setCell ⟨g, o + 1, none⟩ (.string n.name)).setCell ⟨g, o + 2, none⟩ (.int .i64 n.col)).setCell ⟨g, o + 3, none⟩ (.int .i64 n.op)).setCell ⟨g, o + 4, none⟩ (.int .i64 n.num)).setCell ⟨g, o + 5, none⟩ (.bool n.slot)).setCell ⟨g, o + 6, none⟩ (.slice a n.cols.length c)

theorem put7_block {o : Nat} {n : Nd} {a : Option Addr} {c i : Nat} (h : i ≠ g) : (put7 w g o n a c).heap[i]? = w.heap[i]? := by
  unfold put7
  rw [Below.heap_setCell _ _ _ i h, Below.heap_setCell _ _ _ i h, Below.heap_setCell _ _ _ i h, Below.heap_setCell _ _ _ i h, Below.heap_setCell _ _ _ i h, Below.heap_setCell _ _ _ i h, Below.heap_setCell _ _ _ i h]
theorem put7_below {B : Nat} {a0 : World} {o : Nat} {n : Nd} {a : Option Addr} {c : Nat} (h : Below B a0 w) (hB : B ≤ g) : Below B a0 (put7 w g o n a c) :=
  ((((((h.setCell hB _).setCell hB _).setCell hB _).setCell hB _).setCell hB _).setCell hB _).setCell hB _

/-- A node more is stored behind those that lie there. -/
theorem PartN.put (h : PartN w base g c m l j xs A C) {w1 : World} {n : Nd} {a1 : Option Addr} {c1 : Nat} (hj : j < m) (hn : l[j]? = some n) (hb : Below w.heap.size w w1)
    (ho : Own w1 w.heap.size 3 .i64 a1 c1 n.cols) (hbase : base ≤ w.heap.size) (hs : n.name.size ≤ maxLen) :
    ∃ xs', PartN (put7 w1 g (j * 7) n a1 c1) base g c m l (j + 1) xs' (fun i => if i = j then a1 else A i) (fun i => if i = j then c1 else C i) := by
  have hg := (owns_block h.own).2
  have h1 := h.below hb
  have s0 := (h1.own.stored (j * 7) (.int .i64 n.kind)).1
  have s1 := (s0.stored (j * 7 + 1) (.string n.name)).1
  have s2 := (s1.stored (j * 7 + 2) (.int .i64 n.col)).1
  have s3 := (s2.stored (j * 7 + 3) (.int .i64 n.op)).1
  have s4 := (s3.stored (j * 7 + 4) (.int .i64 n.num)).1
  have s5 := (s4.stored (j * 7 + 5) (.bool n.slot)).1
  have s6 := (s5.stored (j * 7 + 6) (.slice a1 n.cols.length c1)).1
  have hlen : xs.length = m * 7 := h.own.1
  refine ⟨_, s6, ?_, ?_, ?_, ?_, ?_⟩
  · intro i n' hi hn'
    by_cases hij : i = j
    · subst hij
      rw [hn] at hn'; cases hn'
      simp only [if_true]
      constructor <;> simp [List.getElem?_set, hlen] <;> omega
    · simp only [if_neg hij]
      have hc := h.cells i n' (by omega) hn'
      exact ⟨(get_set7 (by omega)).trans hc.c0, (get_set7 (by omega)).trans hc.c1, (get_set7 (by omega)).trans hc.c2, (get_set7 (by omega)).trans hc.c3, (get_set7 (by omega)).trans hc.c4, (get_set7 (by omega)).trans hc.c5, (get_set7 (by omega)).trans hc.c6⟩
  · intro i n' hi hn'
    by_cases hij : i = j
    · subst hij
      rw [hn] at hn'; cases hn'
      simp only [if_true]
      exact (ho.keep fun x hx _ => put7_block (by have := (ho.lt x hx).1; omega)).base_le hbase
    · simp only [if_neg hij]
      have hil : i < l.length := by
        rcases Nat.lt_or_ge i l.length with h1 | h1
        · exact h1
        · rw [List.getElem?_eq_none h1] at hn'; cases hn'
      exact (h1.cols i n' (by omega) hn').keep fun x hx _ => put7_block (h.row i x (by omega) hil hx)
  · intro i n' hi hn'
    by_cases hij : i = j
    · subst hij
      rw [hn] at hn'; cases hn'; exact hs
    · exact h.name i n' (by omega) hn'
  · intro i x hi hil hx
    by_cases hij : i = j
    · subst hij
      simp only [if_true] at hx
      have := (ho.lt x hx).1; omega
    · simp only [if_neg hij] at hx
      exact h.row i x (by omega) hil hx
  · intro i k x y hi hk hil hkl hik hx hy
    have key : ∀ i x, i < j → i < l.length → A i = some x → x.block < w.heap.size := fun i x hi hil hx => ((h.cols i _ hi (List.getElem?_eq_getElem hil)).lt x hx).2
    by_cases hij : i = j
    · subst hij
      simp only [if_true] at hx
      simp only [if_neg (Ne.symm hik)] at hy
      have := (ho.lt x hx).1
      have := key k y (by omega) hkl hy
      omega
    · simp only [if_neg hij] at hx
      by_cases hkj : k = j
      · subst hkj
        simp only [if_true] at hy
        have := (ho.lt y hy).1
        have := key i x (by omega) hil hx
        omega
      · simp only [if_neg hkj] at hy
        exact h.apart i k x y (by omega) (by omega) hil hkl hik hx hy
end

section
variable {w w' : World} {base : Nat} {ao : Option Addr} {c : Nat} {l : List Nd}
theorem OwnN.below (h : OwnN w base ao c l) (hb : Below w.heap.size w w') : OwnN w' base ao c l := by
  rcases h with h | ⟨g, xs, A, C, he, hp⟩
  · exact .inl h
  · exact .inr ⟨g, xs, A, C, he, hp.below hb⟩
theorem OwnN.base_le {base' : Nat} (h : OwnN w base ao c l) (hb : base' ≤ base) : OwnN w base' ao c l := by
  rcases h with h | ⟨g, xs, A, C, he, hp⟩
  · exact .inl h
  · exact .inr ⟨g, xs, A, C, he, hp.base_le hb⟩
theorem OwnN.rd (h : OwnN w base ao c l) : RdN w ao l := by
  rcases h with h | ⟨g, xs, A, C, rfl, hp⟩
  · exact .inl h
  · refine .inr ⟨g, 0, rfl, fun i n hn => ?_⟩
    have hil : i < l.length := by
      rcases Nat.lt_or_ge i l.length with h1 | h1
      · exact h1
      · rw [List.getElem?_eq_none h1] at hn; cases hn
    exact ⟨A i, C i, hp.at_ hil hil hn⟩
end
end Go.Proofs.YtfpbhedophlnkaaGreatDoor
namespace Go.Proofs.YtfpbhedophlnkaaGreatDoor
open Go.RowKit
set_option linter.unusedSimpArgs false
set_option linter.unusedVariables false

theorem Tryz.infoNodeG : (Tryz.prog.info? 92).map (fun i => (i.zero, i.size, i.bytes)) = some (some (.agg #[.int .i64 0, .string ⟨#[]⟩, .int .i64 0, .int .i64 0, .int .i64 0, .bool false, .slice none 0 0]), 7, 80) := by kernel_rfl
def ndRow (n : Nd) (a : Option Addr) (c : Nat) : List Value := [.int .i64 n.kind, .string n.name, .int .i64 n.col, .int .i64 n.op, .int .i64 n.num, .bool n.slot, .slice a n.cols.length c]
structure GrN (w : World) (base top : Nat) (v : Value) (l : List Nd) (xs : List Value) (A : Nat → Option Addr) (C : Nat → Nat) : Prop where
  own : w.ownsRow base 92 7 v l.length xs
  cells : ∀ (i : Nat) (n : Nd), l[i]? = some n → NdC xs (i * 7) n (A i) (C i)
  cols : ∀ (i : Nat) (n : Nd), l[i]? = some n → Own w base 3 .i64 (A i) (C i) n.cols
  name : ∀ (i : Nat) (n : Nd), l[i]? = some n → n.name.size ≤ maxLen
  row : ∀ (i : Nat) (x : Addr), i < l.length → A i = some x → v.ownBlock ≠ some x.block
  apart : ∀ (i k : Nat) (x y : Addr), i < l.length → k < l.length → i ≠ k → A i = some x → A k = some y → x.block ≠ y.block
  topv : ∀ g, v.ownBlock = some g → g < top
  topc : ∀ (i : Nat) (x : Addr), i < l.length → A i = some x → x.block < top
/-- A row of nodes of the call's own that can grow; all its blocks lie below top. -/
def GrowN (w : World) (base top : Nat) (v : Value) (l : List Nd) : Prop := ∃ xs A C, GrN w base top v l xs A C

theorem GrowN.nil {w : World} {base top : Nat} : GrowN w base top (.slice none 0 0) [] :=
  ⟨[], fun _ => none, fun _ => 0, World.ownsRow_nil _ _ _ _, fun i n h => by simp at h, fun i n h => by simp at h, fun i n h => by simp at h, fun i x h => by simp at h, fun i k x y h => by simp at h, fun g h => by simp [Value.ownBlock] at h, fun i x h => by simp at h⟩
theorem GrowN.lit {w : World} {base : Nat} (hb : base ≤ w.heap.size) : GrowN (w.alloc (.cells #[] 92)) base (w.heap.size + 1) (.slice (some ⟨w.heap.size, 0, none⟩) 0 0) [] :=
  ⟨[], fun _ => none, fun _ => 0, World.ownsRow_lit w #[] 0 hb (Nat.zero_le _) rfl, fun i n h => by simp at h, fun i n h => by simp at h, fun i n h => by simp at h, fun i x h => by simp at h, fun i k x y h => by simp at h, fun g h => by simp [Value.ownBlock] at h; omega, fun i x h => by simp at h⟩

section
variable {w w' : World} {base top : Nat} {v : Value} {l : List Nd}
theorem GrowN.grown {row : Option Nat} (h : GrowN w base top v l) (hg : w.grownBy w' row) (hr : ∀ r, row = some r → r < base) : GrowN w' base top v l := by
  obtain ⟨xs, A, C, h⟩ := h
  refine ⟨xs, A, C, h.own.kept hg ?_, h.cells, fun i n hn => (h.cols i n hn).grown hg ?_, h.name, h.row, h.apart, h.topv, h.topc⟩
  · cases hv : v.ownBlock with
    | none => exact .inl rfl
    | some g => right; intro e; have := (h.own.lt g hv).1; have := hr g e.symm; omega
  · intro x hx e
    have := ((h.cols i n hn).lt x hx).1
    have := hr _ e.symm
    omega
theorem GrowN.below (h : GrowN w base top v l) (hb : Below w.heap.size w w') : GrowN w' base top v l :=
  h.grown (row := none) ⟨hb.os, hb.tape, hb.output, hb.size, fun k hk _ => hb.block k hk⟩ (fun _ e => by cases e)
theorem GrowN.mono {top' : Nat} (h : GrowN w base top v l) (ht : top ≤ top') : GrowN w base top' v l := by
  obtain ⟨xs, A, C, h⟩ := h
  exact ⟨xs, A, C, h.own, h.cells, h.cols, h.name, h.row, h.apart, fun g hg => Nat.lt_of_lt_of_le (h.topv g hg) ht, fun i x hi hx => Nat.lt_of_lt_of_le (h.topc i x hi hx) ht⟩
theorem GrowN.top_ (h : GrowN w base top v l) : GrowN w base w.heap.size v l := by
  obtain ⟨xs, A, C, h⟩ := h
  exact ⟨xs, A, C, h.own, h.cells, h.cols, h.name, h.row, h.apart, fun g hg => (h.own.lt g hg).2, fun i x hi hx => ((h.cols i _ (List.getElem?_eq_getElem hi)).lt x hx).2⟩
theorem GrowN.lt {ao : Option Addr} {n c : Nat} (h : GrowN w base top (.slice ao n c) l) : ∀ x, ao = some x → base ≤ x.block ∧ x.block < w.heap.size := by
  obtain ⟨xs, A, C, h⟩ := h
  intro x hx
  subst hx
  exact h.own.lt x.block rfl
theorem GrowN.ownN {ao : Option Addr} {c : Nat} (h : GrowN w base top (.slice ao l.length c) l) : OwnN w base ao c l := by
  obtain ⟨xs, A, C, h⟩ := h
  rcases h.own.2 with ⟨_, hn⟩ | ⟨g, cap, cur, hv, _⟩
  · left; exact List.eq_nil_of_length_eq_zero hn
  · simp only [Value.slice.injEq] at hv
    obtain ⟨rfl, _, rfl⟩ := hv
    refine .inr ⟨g, xs, A, C, rfl, ⟨h.own, fun i n _ hn => h.cells i n hn, fun i n _ hn => h.cols i n hn, fun i n _ hn => h.name i n hn, fun i x _ hi hx => ?_, fun i k x y _ _ hi hk hik hx hy => h.apart i k x y hi hk hik hx hy⟩⟩
    have := h.row i x hi hx
    intro e; exact this (by simp [Value.ownBlock, e])
theorem GrowN.rd {ao : Option Addr} {c : Nat} (h : GrowN w base top (.slice ao l.length c) l) : RdN w ao l := h.ownN.rd
end

theorem gr_left {xs ys : List Value} {o : Nat} {n : Nd} {a : Option Addr} {c : Nat} (h : NdC xs o n a c) : NdC (xs ++ ys) o n a c := by
  have hl : o + 6 < xs.length := (List.getElem?_eq_some_iff.1 h.c6).1
  exact ⟨by rw [List.getElem?_append_left (by omega)]; exact h.c0, by rw [List.getElem?_append_left (by omega)]; exact h.c1, by rw [List.getElem?_append_left (by omega)]; exact h.c2, by rw [List.getElem?_append_left (by omega)]; exact h.c3, by rw [List.getElem?_append_left (by omega)]; exact h.c4, by rw [List.getElem?_append_left (by omega)]; exact h.c5, by rw [List.getElem?_append_left (by omega)]; exact h.c6⟩
theorem gr_last {xs : List Value} {o : Nat} {n : Nd} {a : Option Addr} {c : Nat} (h : xs.length = o) : NdC (xs ++ ndRow n a c) o n a c := by
  subst h
  constructor <;> rw [List.getElem?_append_right (by omega)] <;> simp [ndRow]
theorem ndRow_one (n : Nd) (a : Option Addr) (c : Nat) : ∀ u ∈ ndRow n a c, u.oneCell' = true := by
  intro u hu
  simp only [ndRow, List.mem_cons, List.not_mem_nil, or_false] at hu
  rcases hu with rfl | rfl | rfl | rfl | rfl | rfl | rfl <;> rfl

/-- 'append(xs, n)' at a row of nodes of the call's own, whatever it is: n lies in a block of its own, its columns in a row made since. -/
theorem wpList_appendG {P : Program} (w : World) {ops : Array Oper} {rest : List Oper} {o : Oper} {a : Act} {Q : Exit → Act → World → Prop} (hgd : o.guard = none) (s x : Operand) (t : TypeId)
    (ho : o.op = .call { callee := .builtin .append, args := #[s, x], argTypes := #[t, t] }) (base top : Nat) {z : Value} (ht : P.underlying t = some (.slice 92))
    (hi : (P.info? 92).map (fun i => (i.zero, i.size, i.bytes)) = some (some z, 7, 80)) (hz : z.cells.size = 7) (ao : Option Addr) (c k : Nat) (l : List Nd) (hs : a.eval s = .slice ao k c) (hk : k = l.length)
    (hown : GrowN w base top (.slice ao l.length c) l) (htop : top ≤ w.heap.size) (hbase : base ≤ top) (bl cx : Nat) (n : Nd) (a2 : Option Addr) (c2 : Nat) (hx : a.eval x = .slice (some ⟨bl, 0, none⟩) 1 cx)
    (hc : ∀ t u, (ndRow n a2 c2)[t]? = some u → w.cell? ⟨bl, t, none⟩ = some u) (hcol : Own w top 3 .i64 a2 c2 n.cols) (hnm : n.name.size ≤ maxLen) (hj : l.length ≤ 1048576)
    (h : ∀ ao' c' w', GrowN w' base w'.heap.size (.slice ao' (l.length + 1) c') (l ++ [n]) → w.grownBy w' (ao.map (·.block)) → wpList P ops Q rest (a.put o.dst (.slice ao' (l.length + 1) c')) w') :
    wpList P ops Q (o :: rest) a w := by
  obtain ⟨i, hi0, hz0, hz1, hz2⟩ := info_parts hi
  subst hk
  obtain ⟨xs, A, C, hown⟩ := hown
  have hxl : xs.length = l.length * 7 := hown.own.1
  refine wpList_append_own_at w hgd s x t ho base 92 i z 7 80 ht hi0 hz0 hz1 hz2 hz (by omega) _ l.length xs hs hown.own ⟨bl, 0, none⟩ 1 cx (ndRow n a2 c2) hx (by simp [ndRow]) ?_ (ndRow_one n a2 c2) (by unfold maxLen; omega) (by omega) (Nat.le_trans hbase htop) ?_
  · intro t u hu
    have := hc t u hu
    unfold Addr.add
    split
    · rename_i h0; subst h0; exact this
    · show w.cell? ⟨bl, 0 + t, none⟩ = some u
      rw [Nat.zero_add]; exact this
  · intro v' w' h1 hg _ h4
    have hlen : (l ++ [n]).length = l.length + 1 := by simp
    have hg2 : w.grownBy w' (ao.map (·.block)) := by
      cases ao with
      | none => exact hg
      | some x => exact hg
    rcases h1.2 with ⟨_, hz'⟩ | ⟨g', cap, cur, rfl, r⟩
    · omega
    · refine h _ _ _ ⟨_, fun i => if i < l.length then A i else a2, fun i => if i < l.length then C i else c2, ⟨by rw [hlen]; exact h1, ?_, ?_, ?_, ?_, ?_, fun g hg' => (h1.lt g hg').2, ?_⟩⟩ hg2
      · intro i m hm
        by_cases hil : i < l.length
        · simp only [if_pos hil]
          rw [List.getElem?_append_left hil] at hm
          exact gr_left (hown.cells i m hm)
        · simp only [if_neg hil]
          obtain rfl : i = l.length := by have := (List.getElem?_eq_some_iff.1 hm).1; simp at this; omega
          simp at hm; subst hm
          exact gr_last hxl
      · intro i m hm
        by_cases hil : i < l.length
        · simp only [if_pos hil]
          rw [List.getElem?_append_left hil] at hm
          exact (hown.cols i m hm).grown hg (fun x hx e => hown.row i x hil hx e.symm)
        · simp only [if_neg hil]
          obtain rfl : i = l.length := by have := (List.getElem?_eq_some_iff.1 hm).1; simp at this; omega
          simp at hm; subst hm
          refine (hcol.grown hg (fun x hx e => ?_)).base_le hbase
          have := (hcol.lt x hx).1
          have := hown.topv _ e.symm
          omega
      · intro i m hm
        by_cases hil : i < l.length
        · rw [List.getElem?_append_left hil] at hm
          exact hown.name i m hm
        · obtain rfl : i = l.length := by have := (List.getElem?_eq_some_iff.1 hm).1; simp at this; omega
          simp at hm; subst hm; exact hnm
      · intro i x hi hx' e
        rw [hlen] at hi
        by_cases hil : i < l.length
        · simp only [if_pos hil] at hx'
          have := hown.topc i x hil hx'
          rcases h4 with h4 | h4
          · exact hown.row i x hil hx' (h4 ▸ e)
          · rw [h4] at e; simp at e; omega
        · simp only [if_neg hil] at hx'
          have h5 := hcol.lt x hx'
          rcases h4 with h4 | h4
          · have := hown.topv _ (h4 ▸ e); omega
          · rw [h4] at e; simp at e; omega
      · intro i k x y hi hk hik hx' hy'
        rw [hlen] at hi hk
        by_cases hil : i < l.length
        · simp only [if_pos hil] at hx'
          have := hown.topc i x hil hx'
          by_cases hkl : k < l.length
          · simp only [if_pos hkl] at hy'
            exact hown.apart i k x y hil hkl hik hx' hy'
          · simp only [if_neg hkl] at hy'
            have := (hcol.lt y hy').1
            omega
        · simp only [if_neg hil] at hx'
          have := (hcol.lt x hx').1
          by_cases hkl : k < l.length
          · simp only [if_pos hkl] at hy'
            have := hown.topc k y hkl hy'
            omega
          · omega
      · intro i x hi hx'
        rw [hlen] at hi
        have hsz := hg.size
        by_cases hil : i < l.length
        · simp only [if_pos hil] at hx'
          have := hown.topc i x hil hx'
          omega
        · simp only [if_neg hil] at hx'
          have := (hcol.lt x hx').2
          omega
/-- What a node's own fresh block holds. -/
theorem ndRow_new {w : World} {n : Nd} {a : Option Addr} {c : Nat} : ∀ t u, (ndRow n a c)[t]? = some u → (w.alloc (.cells #[.int .i64 n.kind, .string n.name, .int .i64 n.col, .int .i64 n.op, .int .i64 n.num, .bool n.slot, .slice a n.cols.length c] 92)).cell? ⟨w.heap.size, t, none⟩ = some u := by
  intro t u h
  refine (cell_of_row _ _ _ _ _ _ (heap_alloc_new w _)).trans ?_
  rw [← h]; simp [ndRow]
theorem ndRow_at {w : World} {n : Nd} {a : Option Addr} {c b : Nat} (hb : b = w.heap.size) : ∀ t u, (ndRow n a c)[t]? = some u → (w.alloc (.cells #[.int .i64 n.kind, .string n.name, .int .i64 n.col, .int .i64 n.op, .int .i64 n.num, .bool n.slot, .slice a n.cols.length c] 92)).cell? ⟨b, t, none⟩ = some u := by
  subst hb; exact ndRow_new
theorem below_gr {B : Nat} {a b d : World} {ao : Option Addr} {base top n c : Nat} {l : List Nd} (h : Below B a b) (hB : B ≤ a.heap.size) (ho : GrowN b base top (.slice ao n c) l) (hb : B ≤ base) (k : b.grownBy d (ao.map (·.block))) : Below B a d :=
  below_grow h hB k (fun x hx => Nat.le_trans hb (ho.lt x hx).1)
end Go.Proofs.YtfpbhedophlnkaaGreatDoor
