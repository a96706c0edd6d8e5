/-
  A row of nodes that the call itself owns: its cells, the columns of each node in a row of their own, all of them apart. No program, no walk. A row of nodes of the call's own, built by append, or cloned and given columns of its own. No program, no walk. What each type assertion on a kind of node answers: closed facts of the program. No walk.
-/
import Derived.Test.YtanfllednlpbaaaGreatM2x
import Derived.Maps.AppendAt
import Derived.OwnWalk
import Derived.Test.YtanfllednlpbaaaGreatRows
import Derived.WalkKit
namespace Go.Proofs.YtanfllednlpbaaaGreat
open Go.RowKit
set_option linter.unusedSimpArgs false
set_option linter.unusedVariables false
structure NdC (xs : List Value) (o : Nat) (n : Nd) (a : Option Addr) (c : Nat) : Prop where
  c0 : xs[o]? = some (.int .i64 n.kind)
  c1 : xs[o + 1]? = some (.string n.name)
  c2 : xs[o + 2]? = some (.int .i64 n.col)
  c3 : xs[o + 3]? = some (.int .i64 n.op)
  c4 : xs[o + 4]? = some (.int .i64 n.num)
  c5 : xs[o + 5]? = some (.bool n.slot)
  c6 : xs[o + 6]? = some (.slice a n.cols.length c)
structure PartN (w : World) (base g c m : Nat) (l : List Nd) (j : Nat) (xs : List Value) (A : Nat → Option Addr) (C : Nat → Nat) : Prop where
  own : w.ownsRow base 39 7 (.slice (some ⟨g, 0, none⟩) m c) m xs
  cells : ∀ (i : Nat) (n : Nd), i < j → l[i]? = some n → NdC xs (i * 7) n (A i) (C i)
  cols : ∀ (i : Nat) (n : Nd), i < j → l[i]? = some n → Own w base 3 .i64 (A i) (C i) n.cols
  name : ∀ (i : Nat) (n : Nd), i < j → l[i]? = some n → n.name.size ≤ maxLen
  row : ∀ (i : Nat) (x : Addr), i < j → i < l.length → A i = some x → x.block ≠ g
  apart : ∀ (i k : Nat) (x y : Addr), i < j → k < j → i < l.length → k < l.length → i ≠ k → A i = some x → A k = some y → x.block ≠ y.block
def OwnN (w : World) (base : Nat) (ao : Option Addr) (c : Nat) (l : List Nd) : Prop :=
  l = [] ∨ ∃ g xs A C, ao = some ⟨g, 0, none⟩ ∧ PartN w base g c l.length l l.length xs A C
def MadeN (w : World) (l : List Nd) (en : Ending) (w' : World) : Prop :=
  ∃ ao c, en = .returned (.slice ao l.length c) ∧ OwnN w' w.heap.size ao c l ∧ Below w.heap.size w w'
def MadeP (w : World) (l : List Nd) (en : Ending) (w' : World) : Prop :=
  ∃ g c xs A C, en = .returned (.slice (some ⟨g, 0, none⟩) l.length c) ∧ PartN w' w.heap.size g c l.length l l.length xs A C ∧ Below w.heap.size w w'
theorem MadeP.made {w w' : World} {l : List Nd} {en : Ending} (h : MadeP w l en w') : MadeN w l en w' := by
  obtain ⟨g, c, xs, A, C, he, hp, hb⟩ := h
  exact ⟨_, c, he, .inr ⟨g, xs, A, C, rfl, hp⟩, hb⟩
theorem owns_block {w : World} {base : Nat} {e : TypeId} {size g c m : Nat} {xs : List Value} (h : w.ownsRow base e size (.slice (some ⟨g, 0, none⟩) m c) m xs) : base ≤ g ∧ g < w.heap.size :=
  h.lt g rfl
theorem owns_keep {w w' : World} {base : Nat} {e : TypeId} {size g c m : Nat} {xs : List Value} (h : w.ownsRow base e size (.slice (some ⟨g, 0, none⟩) m c) m xs) (hk : w'.heap[g]? = w.heap[g]?) : w'.ownsRow base e size (.slice (some ⟨g, 0, none⟩) m c) m xs := by
  refine ⟨h.1, ?_⟩
  rcases h.2 with h2 | ⟨g', cap, cur, hv, hb, hg, r⟩
  · exact .inl h2
  · refine .inr ⟨g', cap, cur, hv, hb, ?_, r⟩
    simp only [Value.slice.injEq, Option.some.injEq, Addr.mk.injEq, and_true] at hv
    rw [← hv.1, hk, hv.1]; exact hg
theorem owns_base {w : World} {base base' : Nat} {e : TypeId} {size g c m : Nat} {xs : List Value} (h : w.ownsRow base e size (.slice (some ⟨g, 0, none⟩) m c) m xs) (hb : base' ≤ base) : w.ownsRow base' e size (.slice (some ⟨g, 0, none⟩) m c) m xs := by
  refine ⟨h.1, ?_⟩
  rcases h.2 with h2 | ⟨g', cap, cur, hv, hb', r⟩
  · exact .inl h2
  · exact .inr ⟨g', cap, cur, hv, Nat.le_trans hb hb', r⟩
section
variable {w w' : World} {base g c m : Nat} {l : List Nd} {j : Nat} {xs : List Value} {A : Nat → Option Addr} {C : Nat → Nat}
theorem PartN.below (h : PartN w base g c m l j xs A C) (hb : Below w.heap.size w w') : PartN w' base g c m l j xs A C :=
  ⟨owns_keep h.own (hb.block _ (owns_block h.own).2), h.cells, fun i n hi hn => (h.cols i n hi hn).below hb, h.name, h.row, h.apart⟩
theorem PartN.base_le {base' : Nat} (h : PartN w base g c m l j xs A C) (hb : base' ≤ base) : PartN w base' g c m l j xs A C :=
  ⟨owns_base h.own hb, h.cells, fun i n hi hn => (h.cols i n hi hn).base_le hb, h.name, h.row, h.apart⟩
theorem PartN.cellAt (h : PartN w base g c m l j xs A C) {o : Nat} (ho : o < m * 7) : w.cell? ⟨g, o, none⟩ = xs[o]? := World.ownsRow.cellAt h.own o ho
theorem PartN.some_ (h : PartN w base g c m l j xs A C) {o : Nat} (ho : o < m * 7) : ∃ y, w.cell? ⟨g, o, none⟩ = some y := by
  have hl : o < xs.length := by rw [h.own.1]; exact ho
  exact ⟨xs[o], by rw [h.cellAt ho, List.getElem?_eq_getElem hl]⟩
theorem PartN.frozen (h : PartN w base g c m l j xs A C) (o : Nat) : w.frozen? ⟨g, o, none⟩ = false := World.ownsRow.frozenAt h.own o
theorem PartN.at_ (h : PartN w base g c m l j xs A C) {i : Nat} {n : Nd} (hi : i < j) (hm : i < m) (hn : l[i]? = some n) : NdAt w g (0 + i * 7) n (A i) (C i) := by
  have hc := h.cells i n hi hn
  have ho := h.cols i n hi hn
  rw [Nat.zero_add]
  exact ⟨(h.cellAt (by omega)).trans hc.c0, (h.cellAt (by omega)).trans hc.c1, (h.cellAt (by omega)).trans hc.c2, (h.cellAt (by omega)).trans hc.c3, (h.cellAt (by omega)).trans hc.c4, (h.cellAt (by omega)).trans hc.c5,
    (h.cellAt (by omega)).trans hc.c6, ho.rd, ho.cap_ge, ho.cap_le, h.name i n hi hn⟩
theorem get_set7 {xs : List Value} {o k : Nat} {v0 v1 v2 v3 v4 v5 v6 : Value} (h : k < o ∨ o + 6 < k) :
    (((((((xs.set o v0).set (o + 1) v1).set (o + 2) v2).set (o + 3) v3).set (o + 4) v4).set (o + 5) v5).set (o + 6) v6)[k]? = xs[k]? := by
  rw [List.getElem?_set_ne (by omega), List.getElem?_set_ne (by omega), List.getElem?_set_ne (by omega), List.getElem?_set_ne (by omega), List.getElem?_set_ne (by omega), List.getElem?_set_ne (by omega), List.getElem?_set_ne (by omega)]
def put7 (w : World) (g o : Nat) (n : Nd) (a : Option Addr) (c : Nat) : World :=
  ((((((w.setCell ⟨g, o, none⟩ (.int .i64 n.kind)).setCell ⟨g, o + 1, none⟩ (.string n.name)).setCell ⟨g, o + 2, none⟩ (.int .i64 n.col)).setCell ⟨g, o + 3, none⟩ (.int .i64 n.op)).setCell ⟨g, o + 4, none⟩ (.int .i64 n.num)).setCell ⟨g, o + 5, none⟩ (.bool n.slot)).setCell ⟨g, o + 6, none⟩ (.slice a n.cols.length c)
theorem put7_block {o : Nat} {n : Nd} {a : Option Addr} {c i : Nat} (h : i ≠ g) : (put7 w g o n a c).heap[i]? = w.heap[i]? := by
  unfold put7
  rw [Below.heap_setCell _ _ _ i h, Below.heap_setCell _ _ _ i h, Below.heap_setCell _ _ _ i h, Below.heap_setCell _ _ _ i h, Below.heap_setCell _ _ _ i h, Below.heap_setCell _ _ _ i h, Below.heap_setCell _ _ _ i h]
theorem PartN.put (h : PartN w base g c m l j xs A C) {w1 : World} {n : Nd} {a1 : Option Addr} {c1 : Nat} (hj : j < m) (hn : l[j]? = some n) (hb : Below w.heap.size w w1)
    (ho : Own w1 w.heap.size 3 .i64 a1 c1 n.cols) (hbase : base ≤ w.heap.size) (hs : n.name.size ≤ maxLen) :
    ∃ xs', PartN (put7 w1 g (j * 7) n a1 c1) base g c m l (j + 1) xs' (fun i => if i = j then a1 else A i) (fun i => if i = j then c1 else C i) := by
  have hg := (owns_block h.own).2
  have h1 := h.below hb
  have s0 := (h1.own.stored (j * 7) (.int .i64 n.kind)).1
  have s1 := (s0.stored (j * 7 + 1) (.string n.name)).1
  have s2 := (s1.stored (j * 7 + 2) (.int .i64 n.col)).1
  have s3 := (s2.stored (j * 7 + 3) (.int .i64 n.op)).1
  have s4 := (s3.stored (j * 7 + 4) (.int .i64 n.num)).1
  have s5 := (s4.stored (j * 7 + 5) (.bool n.slot)).1
  have s6 := (s5.stored (j * 7 + 6) (.slice a1 n.cols.length c1)).1
  have hlen : xs.length = m * 7 := h.own.1
  refine ⟨_, s6, ?_, ?_, ?_, ?_, ?_⟩
  · intro i n' hi hn'
    by_cases hij : i = j
    · subst hij
      rw [hn] at hn'; cases hn'
      simp only [if_true]
      constructor <;> simp [List.getElem?_set, hlen] <;> omega
    · simp only [if_neg hij]
      have hc := h.cells i n' (by omega) hn'
      exact ⟨(get_set7 (by omega)).trans hc.c0, (get_set7 (by omega)).trans hc.c1, (get_set7 (by omega)).trans hc.c2, (get_set7 (by omega)).trans hc.c3, (get_set7 (by omega)).trans hc.c4, (get_set7 (by omega)).trans hc.c5, (get_set7 (by omega)).trans hc.c6⟩
  · intro i n' hi hn'
    by_cases hij : i = j
    · subst hij
      rw [hn] at hn'; cases hn'
      simp only [if_true]
      exact (ho.keep fun x hx _ => put7_block (by have := (ho.lt x hx).1; omega)).base_le hbase
    · simp only [if_neg hij]
      have hil : i < l.length := by
        rcases Nat.lt_or_ge i l.length with h1 | h1
        · exact h1
        · rw [List.getElem?_eq_none h1] at hn'; cases hn'
      exact (h1.cols i n' (by omega) hn').keep fun x hx _ => put7_block (h.row i x (by omega) hil hx)
  · intro i n' hi hn'
    by_cases hij : i = j
    · subst hij
      rw [hn] at hn'; cases hn'; exact hs
    · exact h.name i n' (by omega) hn'
  · intro i x hi hil hx
    by_cases hij : i = j
    · subst hij
      simp only [if_true] at hx
      have := (ho.lt x hx).1; omega
    · simp only [if_neg hij] at hx
      exact h.row i x (by omega) hil hx
  · intro i k x y hi hk hil hkl hik hx hy
    have key : ∀ i x, i < j → i < l.length → A i = some x → x.block < w.heap.size := fun i x hi hil hx => ((h.cols i _ hi (List.getElem?_eq_getElem hil)).lt x hx).2
    by_cases hij : i = j
    · subst hij
      simp only [if_true] at hx
      simp only [if_neg (Ne.symm hik)] at hy
      have := (ho.lt x hx).1
      have := key k y (by omega) hkl hy
      omega
    · simp only [if_neg hij] at hx
      by_cases hkj : k = j
      · subst hkj
        simp only [if_true] at hy
        have := (ho.lt y hy).1
        have := key i x (by omega) hil hx
        omega
      · simp only [if_neg hkj] at hy
        exact h.apart i k x y (by omega) (by omega) hil hkl hik hx hy
end
section
variable {w w' : World} {base : Nat} {ao : Option Addr} {c : Nat} {l : List Nd}
theorem OwnN.below (h : OwnN w base ao c l) (hb : Below w.heap.size w w') : OwnN w' base ao c l := by
  rcases h with h | ⟨g, xs, A, C, he, hp⟩
  · exact .inl h
  · exact .inr ⟨g, xs, A, C, he, hp.below hb⟩
theorem OwnN.base_le {base' : Nat} (h : OwnN w base ao c l) (hb : base' ≤ base) : OwnN w base' ao c l := by
  rcases h with h | ⟨g, xs, A, C, he, hp⟩
  · exact .inl h
  · exact .inr ⟨g, xs, A, C, he, hp.base_le hb⟩
theorem OwnN.rd (h : OwnN w base ao c l) : RdN w ao l := by
  rcases h with h | ⟨g, xs, A, C, rfl, hp⟩
  · exact .inl h
  · refine .inr ⟨g, 0, rfl, fun i n hn => ?_⟩
    have hil : i < l.length := by
      rcases Nat.lt_or_ge i l.length with h1 | h1
      · exact h1
      · rw [List.getElem?_eq_none h1] at hn; cases hn
    exact ⟨A i, C i, hp.at_ hil hil hn⟩
end
section
variable {w w' : World} {base g c m : Nat} {l : List Nd} {j : Nat} {xs : List Value} {A : Nat → Option Addr} {C : Nat → Nat}
def ndCells (n : Nd) (a : Option Addr) (c : Nat) : List Value := [.int .i64 n.kind, .string n.name, .int .i64 n.col, .int .i64 n.op, .int .i64 n.num, .bool n.slot, .slice a n.cols.length c]
theorem PartN.app (hx : xs.length = j * 7) (hcells : ∀ (i : Nat) (n : Nd), i < j → l[i]? = some n → NdC xs (i * 7) n (A i) (C i)) (hcols : ∀ (i : Nat) (n : Nd), i < j → l[i]? = some n → Own w' base 3 .i64 (A i) (C i) n.cols)
    (hname : ∀ (i : Nat) (n : Nd), i < j → l[i]? = some n → n.name.size ≤ maxLen)
    (hapart : ∀ (i k : Nat) (x y : Addr), i < j → k < j → i < l.length → k < l.length → i ≠ k → A i = some x → A k = some y → x.block ≠ y.block)
    {g' c' : Nat} {n : Nd} {a1 : Option Addr} {c1 : Nat} (hn : l[j]? = some n) (ho : w'.ownsRow base 39 7 (.slice (some ⟨g', 0, none⟩) (j + 1) c') (j + 1) (xs ++ ndCells n a1 c1))
    (h1 : Own w' base 3 .i64 a1 c1 n.cols) (hs : n.name.size ≤ maxLen)
    (hrow : ∀ (i : Nat) (x : Addr), i < j → i < l.length → A i = some x → x.block ≠ g') (hrow1 : ∀ x, a1 = some x → x.block ≠ g')
    (hap1 : ∀ (i : Nat) (x y : Addr), i < j → i < l.length → A i = some x → a1 = some y → x.block ≠ y.block) :
    PartN w' base g' c' (j + 1) l (j + 1) (xs ++ ndCells n a1 c1) (fun i => if i = j then a1 else A i) (fun i => if i = j then c1 else C i) := by
  refine ⟨ho, ?_, ?_, ?_, ?_, ?_⟩
  · intro i n' hi hn'
    by_cases hij : i = j
    · subst hij
      rw [hn] at hn'; cases hn'
      simp only [if_true]
      constructor <;> rw [List.getElem?_append_right (by omega)] <;> simp [ndCells, hx]
    · simp only [if_neg hij]
      have hc := hcells i n' (by omega) hn'
      exact ⟨by rw [List.getElem?_append_left (by omega)]; exact hc.c0, by rw [List.getElem?_append_left (by omega)]; exact hc.c1, by rw [List.getElem?_append_left (by omega)]; exact hc.c2, by rw [List.getElem?_append_left (by omega)]; exact hc.c3, by rw [List.getElem?_append_left (by omega)]; exact hc.c4, by rw [List.getElem?_append_left (by omega)]; exact hc.c5, by rw [List.getElem?_append_left (by omega)]; exact hc.c6⟩
  · intro i n' hi hn'
    by_cases hij : i = j
    · subst hij
      rw [hn] at hn'; cases hn'
      simp only [if_true]; exact h1
    · simp only [if_neg hij]; exact hcols i n' (by omega) hn'
  · intro i n' hi hn'
    by_cases hij : i = j
    · subst hij; rw [hn] at hn'; cases hn'; exact hs
    · exact hname i n' (by omega) hn'
  · intro i x hi hil hx'
    by_cases hij : i = j
    · subst hij; simp only [if_true] at hx'; exact hrow1 x hx'
    · simp only [if_neg hij] at hx'; exact hrow i x (by omega) hil hx'
  · intro i k x y hi hk hil hkl hik hx' hy'
    by_cases hij : i = j
    · subst hij
      simp only [if_true] at hx'
      simp only [if_neg (Ne.symm hik)] at hy'
      exact Ne.symm (hap1 k y x (by omega) hkl hy' hx')
    · simp only [if_neg hij] at hx'
      by_cases hkj : k = j
      · subst hkj; simp only [if_true] at hy'; exact hap1 i x y (by omega) hil hx' hy'
      · simp only [if_neg hkj] at hy'; exact hapart i k x y (by omega) (by omega) hil hkl hik hx' hy'
end
def allCells : List Nd → (Nat → Option Addr) → (Nat → Nat) → List Value
  | [], _, _ => []
  | n :: l, A, C => ndCells n (A 0) (C 0) ++ allCells l (fun i => A (i + 1)) (fun i => C (i + 1))
theorem allCells_len : ∀ (l : List Nd) (A : Nat → Option Addr) (C : Nat → Nat), (allCells l A C).length = l.length * 7
  | [], _, _ => rfl
  | n :: l, A, C => by simp [allCells, ndCells, allCells_len l]; omega
theorem allCells_get : ∀ (l : List Nd) (A : Nat → Option Addr) (C : Nat → Nat) (i : Nat) (n : Nd), l[i]? = some n → ∀ t, t < 7 → (allCells l A C)[i * 7 + t]? = (ndCells n (A i) (C i))[t]?
  | [], _, _, i, n, h, _, _ => by simp at h
  | m :: l, A, C, 0, n, h, t, ht => by
    simp at h; subst h
    simp only [allCells]
    rw [List.getElem?_append_left (by simp [ndCells]; omega)]; simp
  | m :: l, A, C, i + 1, n, h, t, ht => by
    simp only [List.getElem?_cons_succ] at h
    simp only [allCells]
    rw [List.getElem?_append_right (by simp [ndCells]; omega)]
    rw [show (i + 1) * 7 + t - (ndCells m (A 0) (C 0)).length = i * 7 + t by simp [ndCells]; omega]
    exact allCells_get l _ _ i n h t ht
theorem allCells_one : ∀ (l : List Nd) (A : Nat → Option Addr) (C : Nat → Nat), ∀ u ∈ allCells l A C, u.oneCell' = true
  | [], _, _, u, h => by cases h
  | n :: l, A, C, u, h => by
    simp only [allCells, List.mem_append] at h
    rcases h with h | h
    · simp [ndCells] at h; rcases h with rfl | rfl | rfl | rfl | rfl | rfl | rfl <;> rfl
    · exact allCells_one l _ _ u h
theorem allCells_cell {w : World} {b off : Nat} {A : Nat → Option Addr} {C : Nat → Nat} {l : List Nd} (h : ∀ i n, l[i]? = some n → NdAt w b (off + i * 7) n (A i) (C i)) :
    ∀ j u, (allCells l A C)[j]? = some u → w.cell? ⟨b, off + j, none⟩ = some u := by
  intro j u hu
  have hj : j < l.length * 7 := by
    rcases Nat.lt_or_ge j (allCells l A C).length with h1 | h1
    · rwa [allCells_len] at h1
    · rw [List.getElem?_eq_none h1] at hu; cases hu
  have hq : j / 7 < l.length := by omega
  have hd := h (j / 7) _ (List.getElem?_eq_getElem hq)
  have e := allCells_get l A C (j / 7) _ (List.getElem?_eq_getElem hq) (j % 7) (by omega)
  rw [show j / 7 * 7 + j % 7 = j by omega] at e
  rw [e] at hu
  have hm : j % 7 = 0 ∨ j % 7 = 1 ∨ j % 7 = 2 ∨ j % 7 = 3 ∨ j % 7 = 4 ∨ j % 7 = 5 ∨ j % 7 = 6 := by omega
  have hoff : off + j = off + j / 7 * 7 + j % 7 := by omega
  rw [hoff]
  rcases hm with hm | hm | hm | hm | hm | hm | hm <;> rw [hm] at hu ⊢ <;> simp [ndCells] at hu <;> rw [← hu]
  · exact hd.c0
  · exact hd.c1
  · exact hd.c2
  · exact hd.c3
  · exact hd.c4
  · exact hd.c5
  · exact hd.c6
theorem Tryz.as_scanNode_scanNode (v : Value) (W : World) : (Instr.typeAssert (.iface 164 v) 121 164 true).run Tryz.prog W = .ok (.tuple #[v, .bool true]) W := by kernel_rfl
theorem Tryz.as_scanNode_filterNode (v : Value) (W : World) : (Instr.typeAssert (.iface 164 v) 121 153 true).run Tryz.prog W = .ok (.tuple #[.agg #[.int .i64 0, .int .i64 0, .int .i64 0, .bool false], .bool false]) W := by kernel_rfl
theorem Tryz.as_scanNode_keepNode (v : Value) (W : World) : (Instr.typeAssert (.iface 164 v) 121 156 true).run Tryz.prog W = .ok (.tuple #[.agg #[.slice none 0 0], .bool false]) W := by kernel_rfl
theorem Tryz.as_scanNode_joinNode (v : Value) (W : World) : (Instr.typeAssert (.iface 164 v) 121 158 true).run Tryz.prog W = .ok (.tuple #[.agg #[.int .i64 0, .int .i64 0], .bool false]) W := by kernel_rfl
theorem Tryz.as_scanNode_bothNode (v : Value) (W : World) : (Instr.typeAssert (.iface 164 v) 121 160 true).run Tryz.prog W = .ok (.tuple #[.agg #[], .bool false]) W := by kernel_rfl
theorem Tryz.as_scanNode_sortNode (v : Value) (W : World) : (Instr.typeAssert (.iface 164 v) 121 162 true).run Tryz.prog W = .ok (.tuple #[.agg #[.int .i64 0], .bool false]) W := by kernel_rfl
theorem Tryz.as_scanNode_limitNode (v : Value) (W : World) : (Instr.typeAssert (.iface 164 v) 121 178 true).run Tryz.prog W = .ok (.tuple #[.agg #[.int .i64 0, .bool false], .bool false]) W := by kernel_rfl
theorem Tryz.as_scanNode_onceNode (v : Value) (W : World) : (Instr.typeAssert (.iface 164 v) 121 180 true).run Tryz.prog W = .ok (.tuple #[.agg #[], .bool false]) W := by kernel_rfl
theorem Tryz.as_filterNode_scanNode (v : Value) (W : World) : (Instr.typeAssert (.iface 153 v) 121 164 true).run Tryz.prog W = .ok (.tuple #[.agg #[.string ⟨#[]⟩], .bool false]) W := by kernel_rfl
theorem Tryz.as_filterNode_filterNode (v : Value) (W : World) : (Instr.typeAssert (.iface 153 v) 121 153 true).run Tryz.prog W = .ok (.tuple #[v, .bool true]) W := by kernel_rfl
theorem Tryz.as_filterNode_keepNode (v : Value) (W : World) : (Instr.typeAssert (.iface 153 v) 121 156 true).run Tryz.prog W = .ok (.tuple #[.agg #[.slice none 0 0], .bool false]) W := by kernel_rfl
theorem Tryz.as_filterNode_joinNode (v : Value) (W : World) : (Instr.typeAssert (.iface 153 v) 121 158 true).run Tryz.prog W = .ok (.tuple #[.agg #[.int .i64 0, .int .i64 0], .bool false]) W := by kernel_rfl
theorem Tryz.as_filterNode_sortNode (v : Value) (W : World) : (Instr.typeAssert (.iface 153 v) 121 162 true).run Tryz.prog W = .ok (.tuple #[.agg #[.int .i64 0], .bool false]) W := by kernel_rfl
theorem Tryz.as_filterNode_limitNode (v : Value) (W : World) : (Instr.typeAssert (.iface 153 v) 121 178 true).run Tryz.prog W = .ok (.tuple #[.agg #[.int .i64 0, .bool false], .bool false]) W := by kernel_rfl
theorem Tryz.as_filterNode_onceNode (v : Value) (W : World) : (Instr.typeAssert (.iface 153 v) 121 180 true).run Tryz.prog W = .ok (.tuple #[.agg #[], .bool false]) W := by kernel_rfl
theorem Tryz.as_keepNode_scanNode (v : Value) (W : World) : (Instr.typeAssert (.iface 156 v) 121 164 true).run Tryz.prog W = .ok (.tuple #[.agg #[.string ⟨#[]⟩], .bool false]) W := by kernel_rfl
theorem Tryz.as_keepNode_filterNode (v : Value) (W : World) : (Instr.typeAssert (.iface 156 v) 121 153 true).run Tryz.prog W = .ok (.tuple #[.agg #[.int .i64 0, .int .i64 0, .int .i64 0, .bool false], .bool false]) W := by kernel_rfl
theorem Tryz.as_keepNode_keepNode (v : Value) (W : World) : (Instr.typeAssert (.iface 156 v) 121 156 true).run Tryz.prog W = .ok (.tuple #[v, .bool true]) W := by kernel_rfl
theorem Tryz.as_keepNode_sortNode (v : Value) (W : World) : (Instr.typeAssert (.iface 156 v) 121 162 true).run Tryz.prog W = .ok (.tuple #[.agg #[.int .i64 0], .bool false]) W := by kernel_rfl
theorem Tryz.as_keepNode_limitNode (v : Value) (W : World) : (Instr.typeAssert (.iface 156 v) 121 178 true).run Tryz.prog W = .ok (.tuple #[.agg #[.int .i64 0, .bool false], .bool false]) W := by kernel_rfl
theorem Tryz.as_keepNode_onceNode (v : Value) (W : World) : (Instr.typeAssert (.iface 156 v) 121 180 true).run Tryz.prog W = .ok (.tuple #[.agg #[], .bool false]) W := by kernel_rfl
theorem Tryz.as_joinNode_scanNode (v : Value) (W : World) : (Instr.typeAssert (.iface 158 v) 121 164 true).run Tryz.prog W = .ok (.tuple #[.agg #[.string ⟨#[]⟩], .bool false]) W := by kernel_rfl
theorem Tryz.as_joinNode_filterNode (v : Value) (W : World) : (Instr.typeAssert (.iface 158 v) 121 153 true).run Tryz.prog W = .ok (.tuple #[.agg #[.int .i64 0, .int .i64 0, .int .i64 0, .bool false], .bool false]) W := by kernel_rfl
theorem Tryz.as_joinNode_keepNode (v : Value) (W : World) : (Instr.typeAssert (.iface 158 v) 121 156 true).run Tryz.prog W = .ok (.tuple #[.agg #[.slice none 0 0], .bool false]) W := by kernel_rfl
theorem Tryz.as_joinNode_joinNode (v : Value) (W : World) : (Instr.typeAssert (.iface 158 v) 121 158 true).run Tryz.prog W = .ok (.tuple #[v, .bool true]) W := by kernel_rfl
theorem Tryz.as_joinNode_bothNode (v : Value) (W : World) : (Instr.typeAssert (.iface 158 v) 121 160 true).run Tryz.prog W = .ok (.tuple #[.agg #[], .bool false]) W := by kernel_rfl
theorem Tryz.as_joinNode_sortNode (v : Value) (W : World) : (Instr.typeAssert (.iface 158 v) 121 162 true).run Tryz.prog W = .ok (.tuple #[.agg #[.int .i64 0], .bool false]) W := by kernel_rfl
theorem Tryz.as_joinNode_limitNode (v : Value) (W : World) : (Instr.typeAssert (.iface 158 v) 121 178 true).run Tryz.prog W = .ok (.tuple #[.agg #[.int .i64 0, .bool false], .bool false]) W := by kernel_rfl
theorem Tryz.as_joinNode_onceNode (v : Value) (W : World) : (Instr.typeAssert (.iface 158 v) 121 180 true).run Tryz.prog W = .ok (.tuple #[.agg #[], .bool false]) W := by kernel_rfl
theorem Tryz.as_bothNode_scanNode (v : Value) (W : World) : (Instr.typeAssert (.iface 160 v) 121 164 true).run Tryz.prog W = .ok (.tuple #[.agg #[.string ⟨#[]⟩], .bool false]) W := by kernel_rfl
theorem Tryz.as_bothNode_filterNode (v : Value) (W : World) : (Instr.typeAssert (.iface 160 v) 121 153 true).run Tryz.prog W = .ok (.tuple #[.agg #[.int .i64 0, .int .i64 0, .int .i64 0, .bool false], .bool false]) W := by kernel_rfl
theorem Tryz.as_bothNode_keepNode (v : Value) (W : World) : (Instr.typeAssert (.iface 160 v) 121 156 true).run Tryz.prog W = .ok (.tuple #[.agg #[.slice none 0 0], .bool false]) W := by kernel_rfl
theorem Tryz.as_bothNode_joinNode (v : Value) (W : World) : (Instr.typeAssert (.iface 160 v) 121 158 true).run Tryz.prog W = .ok (.tuple #[.agg #[.int .i64 0, .int .i64 0], .bool false]) W := by kernel_rfl
theorem Tryz.as_bothNode_bothNode (v : Value) (W : World) : (Instr.typeAssert (.iface 160 v) 121 160 true).run Tryz.prog W = .ok (.tuple #[v, .bool true]) W := by kernel_rfl
theorem Tryz.as_bothNode_sortNode (v : Value) (W : World) : (Instr.typeAssert (.iface 160 v) 121 162 true).run Tryz.prog W = .ok (.tuple #[.agg #[.int .i64 0], .bool false]) W := by kernel_rfl
theorem Tryz.as_bothNode_limitNode (v : Value) (W : World) : (Instr.typeAssert (.iface 160 v) 121 178 true).run Tryz.prog W = .ok (.tuple #[.agg #[.int .i64 0, .bool false], .bool false]) W := by kernel_rfl
theorem Tryz.as_bothNode_onceNode (v : Value) (W : World) : (Instr.typeAssert (.iface 160 v) 121 180 true).run Tryz.prog W = .ok (.tuple #[.agg #[], .bool false]) W := by kernel_rfl
theorem Tryz.as_sortNode_scanNode (v : Value) (W : World) : (Instr.typeAssert (.iface 162 v) 121 164 true).run Tryz.prog W = .ok (.tuple #[.agg #[.string ⟨#[]⟩], .bool false]) W := by kernel_rfl
theorem Tryz.as_sortNode_filterNode (v : Value) (W : World) : (Instr.typeAssert (.iface 162 v) 121 153 true).run Tryz.prog W = .ok (.tuple #[.agg #[.int .i64 0, .int .i64 0, .int .i64 0, .bool false], .bool false]) W := by kernel_rfl
theorem Tryz.as_sortNode_keepNode (v : Value) (W : World) : (Instr.typeAssert (.iface 162 v) 121 156 true).run Tryz.prog W = .ok (.tuple #[.agg #[.slice none 0 0], .bool false]) W := by kernel_rfl
theorem Tryz.as_sortNode_joinNode (v : Value) (W : World) : (Instr.typeAssert (.iface 162 v) 121 158 true).run Tryz.prog W = .ok (.tuple #[.agg #[.int .i64 0, .int .i64 0], .bool false]) W := by kernel_rfl
theorem Tryz.as_sortNode_bothNode (v : Value) (W : World) : (Instr.typeAssert (.iface 162 v) 121 160 true).run Tryz.prog W = .ok (.tuple #[.agg #[], .bool false]) W := by kernel_rfl
theorem Tryz.as_sortNode_sortNode (v : Value) (W : World) : (Instr.typeAssert (.iface 162 v) 121 162 true).run Tryz.prog W = .ok (.tuple #[v, .bool true]) W := by kernel_rfl
theorem Tryz.as_sortNode_limitNode (v : Value) (W : World) : (Instr.typeAssert (.iface 162 v) 121 178 true).run Tryz.prog W = .ok (.tuple #[.agg #[.int .i64 0, .bool false], .bool false]) W := by kernel_rfl
theorem Tryz.as_sortNode_onceNode (v : Value) (W : World) : (Instr.typeAssert (.iface 162 v) 121 180 true).run Tryz.prog W = .ok (.tuple #[.agg #[], .bool false]) W := by kernel_rfl
theorem Tryz.as_limitNode_scanNode (v : Value) (W : World) : (Instr.typeAssert (.iface 178 v) 121 164 true).run Tryz.prog W = .ok (.tuple #[.agg #[.string ⟨#[]⟩], .bool false]) W := by kernel_rfl
theorem Tryz.as_limitNode_filterNode (v : Value) (W : World) : (Instr.typeAssert (.iface 178 v) 121 153 true).run Tryz.prog W = .ok (.tuple #[.agg #[.int .i64 0, .int .i64 0, .int .i64 0, .bool false], .bool false]) W := by kernel_rfl
theorem Tryz.as_limitNode_keepNode (v : Value) (W : World) : (Instr.typeAssert (.iface 178 v) 121 156 true).run Tryz.prog W = .ok (.tuple #[.agg #[.slice none 0 0], .bool false]) W := by kernel_rfl
theorem Tryz.as_limitNode_joinNode (v : Value) (W : World) : (Instr.typeAssert (.iface 178 v) 121 158 true).run Tryz.prog W = .ok (.tuple #[.agg #[.int .i64 0, .int .i64 0], .bool false]) W := by kernel_rfl
theorem Tryz.as_limitNode_bothNode (v : Value) (W : World) : (Instr.typeAssert (.iface 178 v) 121 160 true).run Tryz.prog W = .ok (.tuple #[.agg #[], .bool false]) W := by kernel_rfl
theorem Tryz.as_limitNode_sortNode (v : Value) (W : World) : (Instr.typeAssert (.iface 178 v) 121 162 true).run Tryz.prog W = .ok (.tuple #[.agg #[.int .i64 0], .bool false]) W := by kernel_rfl
theorem Tryz.as_limitNode_limitNode (v : Value) (W : World) : (Instr.typeAssert (.iface 178 v) 121 178 true).run Tryz.prog W = .ok (.tuple #[v, .bool true]) W := by kernel_rfl
theorem Tryz.as_limitNode_onceNode (v : Value) (W : World) : (Instr.typeAssert (.iface 178 v) 121 180 true).run Tryz.prog W = .ok (.tuple #[.agg #[], .bool false]) W := by kernel_rfl
theorem Tryz.as_onceNode_scanNode (v : Value) (W : World) : (Instr.typeAssert (.iface 180 v) 121 164 true).run Tryz.prog W = .ok (.tuple #[.agg #[.string ⟨#[]⟩], .bool false]) W := by kernel_rfl
theorem Tryz.as_onceNode_filterNode (v : Value) (W : World) : (Instr.typeAssert (.iface 180 v) 121 153 true).run Tryz.prog W = .ok (.tuple #[.agg #[.int .i64 0, .int .i64 0, .int .i64 0, .bool false], .bool false]) W := by kernel_rfl
theorem Tryz.as_onceNode_keepNode (v : Value) (W : World) : (Instr.typeAssert (.iface 180 v) 121 156 true).run Tryz.prog W = .ok (.tuple #[.agg #[.slice none 0 0], .bool false]) W := by kernel_rfl
theorem Tryz.as_onceNode_joinNode (v : Value) (W : World) : (Instr.typeAssert (.iface 180 v) 121 158 true).run Tryz.prog W = .ok (.tuple #[.agg #[.int .i64 0, .int .i64 0], .bool false]) W := by kernel_rfl
theorem Tryz.as_onceNode_bothNode (v : Value) (W : World) : (Instr.typeAssert (.iface 180 v) 121 160 true).run Tryz.prog W = .ok (.tuple #[.agg #[], .bool false]) W := by kernel_rfl
theorem Tryz.as_onceNode_sortNode (v : Value) (W : World) : (Instr.typeAssert (.iface 180 v) 121 162 true).run Tryz.prog W = .ok (.tuple #[.agg #[.int .i64 0], .bool false]) W := by kernel_rfl
theorem Tryz.as_onceNode_limitNode (v : Value) (W : World) : (Instr.typeAssert (.iface 180 v) 121 178 true).run Tryz.prog W = .ok (.tuple #[.agg #[.int .i64 0, .bool false], .bool false]) W := by kernel_rfl
theorem Tryz.as_onceNode_onceNode (v : Value) (W : World) : (Instr.typeAssert (.iface 180 v) 121 180 true).run Tryz.prog W = .ok (.tuple #[v, .bool true]) W := by kernel_rfl
theorem Tryz.as_nil_scanNode (W : World) : (Instr.typeAssert .nilIface 121 164 true).run Tryz.prog W = .ok (.tuple #[.agg #[.string ⟨#[]⟩], .bool false]) W := by kernel_rfl
theorem Tryz.as_nil_filterNode (W : World) : (Instr.typeAssert .nilIface 121 153 true).run Tryz.prog W = .ok (.tuple #[.agg #[.int .i64 0, .int .i64 0, .int .i64 0, .bool false], .bool false]) W := by kernel_rfl
theorem Tryz.as_nil_keepNode (W : World) : (Instr.typeAssert .nilIface 121 156 true).run Tryz.prog W = .ok (.tuple #[.agg #[.slice none 0 0], .bool false]) W := by kernel_rfl
theorem Tryz.as_nil_joinNode (W : World) : (Instr.typeAssert .nilIface 121 158 true).run Tryz.prog W = .ok (.tuple #[.agg #[.int .i64 0, .int .i64 0], .bool false]) W := by kernel_rfl
theorem Tryz.as_nil_bothNode (W : World) : (Instr.typeAssert .nilIface 121 160 true).run Tryz.prog W = .ok (.tuple #[.agg #[], .bool false]) W := by kernel_rfl
theorem Tryz.as_nil_sortNode (W : World) : (Instr.typeAssert .nilIface 121 162 true).run Tryz.prog W = .ok (.tuple #[.agg #[.int .i64 0], .bool false]) W := by kernel_rfl
theorem Tryz.as_nil_limitNode (W : World) : (Instr.typeAssert .nilIface 121 178 true).run Tryz.prog W = .ok (.tuple #[.agg #[.int .i64 0, .bool false], .bool false]) W := by kernel_rfl
theorem Tryz.as_nil_onceNode (W : World) : (Instr.typeAssert .nilIface 121 180 true).run Tryz.prog W = .ok (.tuple #[.agg #[], .bool false]) W := by kernel_rfl
end Go.Proofs.YtanfllednlpbaaaGreat
