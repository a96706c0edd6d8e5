/-
  A row of nodes of the call's own, built by append, or cloned and given columns of its own. No program, no walk. What each type assertion on a kind of node answers: closed facts of the program. No walk.
-/
import Derived.Test.YtfpbhedophlnkaaGreatDoorJ17x
import Derived.Maps.AppendAt
import Derived.OwnWalk
import Derived.Test.YtfpbhedophlnkaaGreatDoorRows
import Derived.WalkKit
namespace Go.Proofs.YtfpbhedophlnkaaGreatDoor
open Go.RowKit
set_option linter.unusedSimpArgs false
set_option linter.unusedVariables false

section
variable {w w' : World} {base g c m : Nat} {l : List Nd} {j : Nat} {xs : List Value} {A : Nat → Option Addr} {C : Nat → Nat}

/-- The seven cells of a node. -/
def ndCells (n : Nd) (a : Option Addr) (c : Nat) : List Value := [.int .i64 n.kind, .string n.name, .int .i64 n.col, .int .i64 n.op, .int .i64 n.num, .bool n.slot, .slice a n.cols.length c]

/-- A node more is appended behind those that lie there: the row is g' now. -/
theorem PartN.app (hx : xs.length = j * 7) (hcells : ∀ (i : Nat) (n : Nd), i < j → l[i]? = some n → NdC xs (i * 7) n (A i) (C i)) (hcols : ∀ (i : Nat) (n : Nd), i < j → l[i]? = some n → Own w' base 3 .i64 (A i) (C i) n.cols)
    (hname : ∀ (i : Nat) (n : Nd), i < j → l[i]? = some n → n.name.size ≤ maxLen)
    (hapart : ∀ (i k : Nat) (x y : Addr), i < j → k < j → i < l.length → k < l.length → i ≠ k → A i = some x → A k = some y → x.block ≠ y.block)
    {g' c' : Nat} {n : Nd} {a1 : Option Addr} {c1 : Nat} (hn : l[j]? = some n) (ho : w'.ownsRow base 92 7 (.slice (some ⟨g', 0, none⟩) (j + 1) c') (j + 1) (xs ++ ndCells n a1 c1))
    (h1 : Own w' base 3 .i64 a1 c1 n.cols) (hs : n.name.size ≤ maxLen)
    (hrow : ∀ (i : Nat) (x : Addr), i < j → i < l.length → A i = some x → x.block ≠ g') (hrow1 : ∀ x, a1 = some x → x.block ≠ g')
    (hap1 : ∀ (i : Nat) (x y : Addr), i < j → i < l.length → A i = some x → a1 = some y → x.block ≠ y.block) :
    PartN w' base g' c' (j + 1) l (j + 1) (xs ++ ndCells n a1 c1) (fun i => if i = j then a1 else A i) (fun i => if i = j then c1 else C i) := by
  refine ⟨ho, ?_, ?_, ?_, ?_, ?_⟩
  · intro i n' hi hn'
    by_cases hij : i = j
    · subst hij
      rw [hn] at hn'; cases hn'
      simp only [if_true]
      constructor <;> rw [List.getElem?_append_right (by omega)] <;> simp [ndCells, hx]
    · simp only [if_neg hij]
      have hc := hcells i n' (by omega) hn'
      exact ⟨by rw [List.getElem?_append_left (by omega)]; exact hc.c0, by rw [List.getElem?_append_left (by omega)]; exact hc.c1, by rw [List.getElem?_append_left (by omega)]; exact hc.c2, by rw [List.getElem?_append_left (by omega)]; exact hc.c3, by rw [List.getElem?_append_left (by omega)]; exact hc.c4, by rw [List.getElem?_append_left (by omega)]; exact hc.c5, by rw [List.getElem?_append_left (by omega)]; exact hc.c6⟩
  · intro i n' hi hn'
    by_cases hij : i = j
    · subst hij
      rw [hn] at hn'; cases hn'
      simp only [if_true]; exact h1
    · simp only [if_neg hij]; exact hcols i n' (by omega) hn'
  · intro i n' hi hn'
    by_cases hij : i = j
    · subst hij; rw [hn] at hn'; cases hn'; exact hs
    · exact hname i n' (by omega) hn'
  · intro i x hi hil hx'
    by_cases hij : i = j
    · subst hij; simp only [if_true] at hx'; exact hrow1 x hx'
    · simp only [if_neg hij] at hx'; exact hrow i x (by omega) hil hx'
  · intro i k x y hi hk hil hkl hik hx' hy'
    by_cases hij : i = j
    · subst hij
      simp only [if_true] at hx'
      simp only [if_neg (Ne.symm hik)] at hy'
      exact Ne.symm (hap1 k y x (by omega) hkl hy' hx')
    · simp only [if_neg hij] at hx'
      by_cases hkj : k = j
      · subst hkj; simp only [if_true] at hy'; exact hap1 i x y (by omega) hil hx' hy'
      · simp only [if_neg hkj] at hy'; exact hapart i k x y (by omega) (by omega) hil hkl hik hx' hy'

/-- The columns of the next node become the call's own. -/
theorem PartN.own1 (h : PartN w base g c m l j xs A C) {w1 : World} {n : Nd} {a0 a1 : Option Addr} {c0 c1 : Nat} (hj : j < m) (hn : l[j]? = some n) (hb : Below w.heap.size w w1)
    (hc : NdC xs (j * 7) n a0 c0) (ho : Own w1 w.heap.size 3 .i64 a1 c1 n.cols) (hbase : base ≤ w.heap.size) (hs : n.name.size ≤ maxLen) :
    PartN (w1.setCell ⟨g, j * 7 + 6, none⟩ (.slice a1 n.cols.length c1)) base g c m l (j + 1) (xs.set (j * 7 + 6) (.slice a1 n.cols.length c1)) (fun i => if i = j then a1 else A i) (fun i => if i = j then c1 else C i) := by
  have hg := (owns_block h.own).2
  have h1 := h.below hb
  have hlen : xs.length = m * 7 := h.own.1
  have key : ∀ i, i ≠ j * 7 + 6 → (xs.set (j * 7 + 6) (.slice a1 n.cols.length c1))[i]? = xs[i]? := fun i hi => List.getElem?_set_ne (by omega)
  refine ⟨(h1.own.stored (j * 7 + 6) _).1, ?_, ?_, ?_, ?_, ?_⟩
  · intro i n' hi hn'
    by_cases hij : i = j
    · subst hij
      rw [hn] at hn'; cases hn'
      simp only [if_true]
      exact ⟨(key _ (by omega)).trans hc.c0, (key _ (by omega)).trans hc.c1, (key _ (by omega)).trans hc.c2, (key _ (by omega)).trans hc.c3, (key _ (by omega)).trans hc.c4, (key _ (by omega)).trans hc.c5, by rw [List.getElem?_set_self (by omega)]⟩
    · simp only [if_neg hij]
      have hc' := h.cells i n' (by omega) hn'
      exact ⟨(key _ (by omega)).trans hc'.c0, (key _ (by omega)).trans hc'.c1, (key _ (by omega)).trans hc'.c2, (key _ (by omega)).trans hc'.c3, (key _ (by omega)).trans hc'.c4, (key _ (by omega)).trans hc'.c5, (key _ (by omega)).trans hc'.c6⟩
  · intro i n' hi hn'
    by_cases hij : i = j
    · subst hij
      rw [hn] at hn'; cases hn'
      simp only [if_true]
      exact (ho.far (fun x hx => by have := (ho.lt x hx).1; simp only; omega) _).base_le hbase
    · simp only [if_neg hij]
      have hil : i < l.length := by
        rcases Nat.lt_or_ge i l.length with h1 | h1
        · exact h1
        · rw [List.getElem?_eq_none h1] at hn'; cases hn'
      exact (h1.cols i n' (by omega) hn').far (fun x hx => h.row i x (by omega) hil hx) _
  · intro i n' hi hn'
    by_cases hij : i = j
    · subst hij
      rw [hn] at hn'; cases hn'; exact hs
    · exact h.name i n' (by omega) hn'
  · intro i x hi hil hx
    by_cases hij : i = j
    · subst hij
      simp only [if_true] at hx
      have := (ho.lt x hx).1; omega
    · simp only [if_neg hij] at hx
      exact h.row i x (by omega) hil hx
  · intro i k x y hi hk hil hkl hik hx hy
    have key : ∀ i x, i < j → i < l.length → A i = some x → x.block < w.heap.size := fun i x hi hil hx => ((h.cols i _ hi (List.getElem?_eq_getElem hil)).lt x hx).2
    by_cases hij : i = j
    · subst hij
      simp only [if_true] at hx
      simp only [if_neg (Ne.symm hik)] at hy
      have := (ho.lt x hx).1
      have := key k y (by omega) hkl hy
      omega
    · simp only [if_neg hij] at hx
      by_cases hkj : k = j
      · subst hkj
        simp only [if_true] at hy
        have := (ho.lt y hy).1
        have := key i x (by omega) hil hx
        omega
      · simp only [if_neg hkj] at hy
        exact h.apart i k x y (by omega) (by omega) hil hkl hik hx hy
end
theorem nodes_ind {l : List Nd} {P : Nat → Nd → Option Addr → Nat → Prop} (h : ∀ i n, l[i]? = some n → ∃ a c, P i n a c) : ∃ (A : Nat → Option Addr) (C : Nat → Nat), ∀ i n, l[i]? = some n → P i n (A i) (C i) := by
  have key : ∀ i, ∃ ac : Option Addr × Nat, ∀ n, l[i]? = some n → P i n ac.1 ac.2 := by
    intro i
    cases hn : l[i]? with
    | none => exact ⟨(none, 0), fun n hh => by cases hh⟩
    | some n =>
      obtain ⟨a, c, hp⟩ := h i n hn
      exact ⟨(a, c), fun m hh => by cases hh; exact hp⟩
  obtain ⟨f, hf⟩ := Classical.axiomOfChoice key
  exact ⟨fun i => (f i).1, fun i => (f i).2, fun i n hn => hf i n hn⟩

/-- The cells of a slice of nodes, one behind the other. -/
def allCells : List Nd → (Nat → Option Addr) → (Nat → Nat) → List Value
  | [], _, _ => []
  | n :: l, A, C => ndCells n (A 0) (C 0) ++ allCells l (fun i => A (i + 1)) (fun i => C (i + 1))
theorem allCells_len : ∀ (l : List Nd) (A : Nat → Option Addr) (C : Nat → Nat), (allCells l A C).length = l.length * 7
  | [], _, _ => rfl
  | n :: l, A, C => by simp [allCells, ndCells, allCells_len l]; omega
theorem allCells_get : ∀ (l : List Nd) (A : Nat → Option Addr) (C : Nat → Nat) (i : Nat) (n : Nd), l[i]? = some n → ∀ t, t < 7 → (allCells l A C)[i * 7 + t]? = (ndCells n (A i) (C i))[t]?
  | [], _, _, i, n, h, _, _ => by simp at h
  | m :: l, A, C, 0, n, h, t, ht => by
    simp at h; subst h
    simp only [allCells]
    rw [List.getElem?_append_left (by simp [ndCells]; omega)]; simp
  | m :: l, A, C, i + 1, n, h, t, ht => by
    simp only [List.getElem?_cons_succ] at h
    simp only [allCells]
    rw [List.getElem?_append_right (by simp [ndCells]; omega)]
    rw [show (i + 1) * 7 + t - (ndCells m (A 0) (C 0)).length = i * 7 + t by simp [ndCells]; omega]
    exact allCells_get l _ _ i n h t ht
theorem allCells_one : ∀ (l : List Nd) (A : Nat → Option Addr) (C : Nat → Nat), ∀ u ∈ allCells l A C, u.oneCell' = true
  | [], _, _, u, h => by cases h
  | n :: l, A, C, u, h => by
    simp only [allCells, List.mem_append] at h
    rcases h with h | h
    · simp [ndCells] at h; rcases h with rfl | rfl | rfl | rfl | rfl | rfl | rfl <;> rfl
    · exact allCells_one l _ _ u h
theorem allCells_cell {w : World} {b off : Nat} {A : Nat → Option Addr} {C : Nat → Nat} {l : List Nd} (h : ∀ i n, l[i]? = some n → NdAt w b (off + i * 7) n (A i) (C i)) :
    ∀ j u, (allCells l A C)[j]? = some u → w.cell? ⟨b, off + j, none⟩ = some u := by
  intro j u hu
  have hj : j < l.length * 7 := by
    rcases Nat.lt_or_ge j (allCells l A C).length with h1 | h1
    · rwa [allCells_len] at h1
    · rw [List.getElem?_eq_none h1] at hu; cases hu
  have hq : j / 7 < l.length := by omega
  have hd := h (j / 7) _ (List.getElem?_eq_getElem hq)
  have e := allCells_get l A C (j / 7) _ (List.getElem?_eq_getElem hq) (j % 7) (by omega)
  rw [show j / 7 * 7 + j % 7 = j by omega] at e
  rw [e] at hu
  have hm : j % 7 = 0 ∨ j % 7 = 1 ∨ j % 7 = 2 ∨ j % 7 = 3 ∨ j % 7 = 4 ∨ j % 7 = 5 ∨ j % 7 = 6 := by omega
  have hoff : off + j = off + j / 7 * 7 + j % 7 := by omega
  rw [hoff]
  rcases hm with hm | hm | hm | hm | hm | hm | hm <;> rw [hm] at hu ⊢ <;> simp [ndCells] at hu <;> rw [← hu]
  · exact hd.c0
  · exact hd.c1
  · exact hd.c2
  · exact hd.c3
  · exact hd.c4
  · exact hd.c5
  · exact hd.c6
end Go.Proofs.YtfpbhedophlnkaaGreatDoor
namespace Go.Proofs.YtfpbhedophlnkaaGreatDoor
open Go.RowKit
set_option linter.unusedSimpArgs false
set_option linter.unusedVariables false

theorem Tryz.as_scanNode_scanNode (v : Value) (W : World) : (Instr.typeAssert (.iface 234 v) 94 234 true).run Tryz.prog W = .ok (.tuple #[v, .bool true]) W := by kernel_rfl
theorem Tryz.as_scanNode_filterNode (v : Value) (W : World) : (Instr.typeAssert (.iface 234 v) 94 223 true).run Tryz.prog W = .ok (.tuple #[.agg #[.int .i64 0, .int .i64 0, .int .i64 0, .bool false], .bool false]) W := by kernel_rfl
theorem Tryz.as_scanNode_keepNode (v : Value) (W : World) : (Instr.typeAssert (.iface 234 v) 94 226 true).run Tryz.prog W = .ok (.tuple #[.agg #[.slice none 0 0], .bool false]) W := by kernel_rfl
theorem Tryz.as_scanNode_joinNode (v : Value) (W : World) : (Instr.typeAssert (.iface 234 v) 94 228 true).run Tryz.prog W = .ok (.tuple #[.agg #[.int .i64 0, .int .i64 0], .bool false]) W := by kernel_rfl
theorem Tryz.as_scanNode_bothNode (v : Value) (W : World) : (Instr.typeAssert (.iface 234 v) 94 230 true).run Tryz.prog W = .ok (.tuple #[.agg #[], .bool false]) W := by kernel_rfl
theorem Tryz.as_scanNode_sortNode (v : Value) (W : World) : (Instr.typeAssert (.iface 234 v) 94 232 true).run Tryz.prog W = .ok (.tuple #[.agg #[.int .i64 0], .bool false]) W := by kernel_rfl
theorem Tryz.as_scanNode_limitNode (v : Value) (W : World) : (Instr.typeAssert (.iface 234 v) 94 258 true).run Tryz.prog W = .ok (.tuple #[.agg #[.int .i64 0, .bool false], .bool false]) W := by kernel_rfl
theorem Tryz.as_scanNode_onceNode (v : Value) (W : World) : (Instr.typeAssert (.iface 234 v) 94 259 true).run Tryz.prog W = .ok (.tuple #[.agg #[], .bool false]) W := by kernel_rfl
theorem Tryz.as_filterNode_scanNode (v : Value) (W : World) : (Instr.typeAssert (.iface 223 v) 94 234 true).run Tryz.prog W = .ok (.tuple #[.agg #[.string ⟨#[]⟩], .bool false]) W := by kernel_rfl
theorem Tryz.as_filterNode_filterNode (v : Value) (W : World) : (Instr.typeAssert (.iface 223 v) 94 223 true).run Tryz.prog W = .ok (.tuple #[v, .bool true]) W := by kernel_rfl
theorem Tryz.as_filterNode_keepNode (v : Value) (W : World) : (Instr.typeAssert (.iface 223 v) 94 226 true).run Tryz.prog W = .ok (.tuple #[.agg #[.slice none 0 0], .bool false]) W := by kernel_rfl
theorem Tryz.as_filterNode_joinNode (v : Value) (W : World) : (Instr.typeAssert (.iface 223 v) 94 228 true).run Tryz.prog W = .ok (.tuple #[.agg #[.int .i64 0, .int .i64 0], .bool false]) W := by kernel_rfl
theorem Tryz.as_filterNode_bothNode (v : Value) (W : World) : (Instr.typeAssert (.iface 223 v) 94 230 true).run Tryz.prog W = .ok (.tuple #[.agg #[], .bool false]) W := by kernel_rfl
theorem Tryz.as_filterNode_sortNode (v : Value) (W : World) : (Instr.typeAssert (.iface 223 v) 94 232 true).run Tryz.prog W = .ok (.tuple #[.agg #[.int .i64 0], .bool false]) W := by kernel_rfl
theorem Tryz.as_filterNode_limitNode (v : Value) (W : World) : (Instr.typeAssert (.iface 223 v) 94 258 true).run Tryz.prog W = .ok (.tuple #[.agg #[.int .i64 0, .bool false], .bool false]) W := by kernel_rfl
theorem Tryz.as_filterNode_onceNode (v : Value) (W : World) : (Instr.typeAssert (.iface 223 v) 94 259 true).run Tryz.prog W = .ok (.tuple #[.agg #[], .bool false]) W := by kernel_rfl
theorem Tryz.as_keepNode_scanNode (v : Value) (W : World) : (Instr.typeAssert (.iface 226 v) 94 234 true).run Tryz.prog W = .ok (.tuple #[.agg #[.string ⟨#[]⟩], .bool false]) W := by kernel_rfl
theorem Tryz.as_keepNode_filterNode (v : Value) (W : World) : (Instr.typeAssert (.iface 226 v) 94 223 true).run Tryz.prog W = .ok (.tuple #[.agg #[.int .i64 0, .int .i64 0, .int .i64 0, .bool false], .bool false]) W := by kernel_rfl
theorem Tryz.as_keepNode_keepNode (v : Value) (W : World) : (Instr.typeAssert (.iface 226 v) 94 226 true).run Tryz.prog W = .ok (.tuple #[v, .bool true]) W := by kernel_rfl
theorem Tryz.as_keepNode_joinNode (v : Value) (W : World) : (Instr.typeAssert (.iface 226 v) 94 228 true).run Tryz.prog W = .ok (.tuple #[.agg #[.int .i64 0, .int .i64 0], .bool false]) W := by kernel_rfl
theorem Tryz.as_keepNode_bothNode (v : Value) (W : World) : (Instr.typeAssert (.iface 226 v) 94 230 true).run Tryz.prog W = .ok (.tuple #[.agg #[], .bool false]) W := by kernel_rfl
theorem Tryz.as_keepNode_sortNode (v : Value) (W : World) : (Instr.typeAssert (.iface 226 v) 94 232 true).run Tryz.prog W = .ok (.tuple #[.agg #[.int .i64 0], .bool false]) W := by kernel_rfl
theorem Tryz.as_keepNode_limitNode (v : Value) (W : World) : (Instr.typeAssert (.iface 226 v) 94 258 true).run Tryz.prog W = .ok (.tuple #[.agg #[.int .i64 0, .bool false], .bool false]) W := by kernel_rfl
theorem Tryz.as_keepNode_onceNode (v : Value) (W : World) : (Instr.typeAssert (.iface 226 v) 94 259 true).run Tryz.prog W = .ok (.tuple #[.agg #[], .bool false]) W := by kernel_rfl
theorem Tryz.as_joinNode_scanNode (v : Value) (W : World) : (Instr.typeAssert (.iface 228 v) 94 234 true).run Tryz.prog W = .ok (.tuple #[.agg #[.string ⟨#[]⟩], .bool false]) W := by kernel_rfl
theorem Tryz.as_joinNode_filterNode (v : Value) (W : World) : (Instr.typeAssert (.iface 228 v) 94 223 true).run Tryz.prog W = .ok (.tuple #[.agg #[.int .i64 0, .int .i64 0, .int .i64 0, .bool false], .bool false]) W := by kernel_rfl
theorem Tryz.as_joinNode_keepNode (v : Value) (W : World) : (Instr.typeAssert (.iface 228 v) 94 226 true).run Tryz.prog W = .ok (.tuple #[.agg #[.slice none 0 0], .bool false]) W := by kernel_rfl
theorem Tryz.as_joinNode_joinNode (v : Value) (W : World) : (Instr.typeAssert (.iface 228 v) 94 228 true).run Tryz.prog W = .ok (.tuple #[v, .bool true]) W := by kernel_rfl
theorem Tryz.as_joinNode_bothNode (v : Value) (W : World) : (Instr.typeAssert (.iface 228 v) 94 230 true).run Tryz.prog W = .ok (.tuple #[.agg #[], .bool false]) W := by kernel_rfl
theorem Tryz.as_joinNode_sortNode (v : Value) (W : World) : (Instr.typeAssert (.iface 228 v) 94 232 true).run Tryz.prog W = .ok (.tuple #[.agg #[.int .i64 0], .bool false]) W := by kernel_rfl
theorem Tryz.as_joinNode_limitNode (v : Value) (W : World) : (Instr.typeAssert (.iface 228 v) 94 258 true).run Tryz.prog W = .ok (.tuple #[.agg #[.int .i64 0, .bool false], .bool false]) W := by kernel_rfl
theorem Tryz.as_joinNode_onceNode (v : Value) (W : World) : (Instr.typeAssert (.iface 228 v) 94 259 true).run Tryz.prog W = .ok (.tuple #[.agg #[], .bool false]) W := by kernel_rfl
theorem Tryz.as_bothNode_scanNode (v : Value) (W : World) : (Instr.typeAssert (.iface 230 v) 94 234 true).run Tryz.prog W = .ok (.tuple #[.agg #[.string ⟨#[]⟩], .bool false]) W := by kernel_rfl
theorem Tryz.as_bothNode_filterNode (v : Value) (W : World) : (Instr.typeAssert (.iface 230 v) 94 223 true).run Tryz.prog W = .ok (.tuple #[.agg #[.int .i64 0, .int .i64 0, .int .i64 0, .bool false], .bool false]) W := by kernel_rfl
theorem Tryz.as_bothNode_keepNode (v : Value) (W : World) : (Instr.typeAssert (.iface 230 v) 94 226 true).run Tryz.prog W = .ok (.tuple #[.agg #[.slice none 0 0], .bool false]) W := by kernel_rfl
theorem Tryz.as_bothNode_joinNode (v : Value) (W : World) : (Instr.typeAssert (.iface 230 v) 94 228 true).run Tryz.prog W = .ok (.tuple #[.agg #[.int .i64 0, .int .i64 0], .bool false]) W := by kernel_rfl
theorem Tryz.as_bothNode_bothNode (v : Value) (W : World) : (Instr.typeAssert (.iface 230 v) 94 230 true).run Tryz.prog W = .ok (.tuple #[v, .bool true]) W := by kernel_rfl
theorem Tryz.as_bothNode_sortNode (v : Value) (W : World) : (Instr.typeAssert (.iface 230 v) 94 232 true).run Tryz.prog W = .ok (.tuple #[.agg #[.int .i64 0], .bool false]) W := by kernel_rfl
theorem Tryz.as_bothNode_limitNode (v : Value) (W : World) : (Instr.typeAssert (.iface 230 v) 94 258 true).run Tryz.prog W = .ok (.tuple #[.agg #[.int .i64 0, .bool false], .bool false]) W := by kernel_rfl
theorem Tryz.as_bothNode_onceNode (v : Value) (W : World) : (Instr.typeAssert (.iface 230 v) 94 259 true).run Tryz.prog W = .ok (.tuple #[.agg #[], .bool false]) W := by kernel_rfl
theorem Tryz.as_sortNode_scanNode (v : Value) (W : World) : (Instr.typeAssert (.iface 232 v) 94 234 true).run Tryz.prog W = .ok (.tuple #[.agg #[.string ⟨#[]⟩], .bool false]) W := by kernel_rfl
theorem Tryz.as_sortNode_filterNode (v : Value) (W : World) : (Instr.typeAssert (.iface 232 v) 94 223 true).run Tryz.prog W = .ok (.tuple #[.agg #[.int .i64 0, .int .i64 0, .int .i64 0, .bool false], .bool false]) W := by kernel_rfl
theorem Tryz.as_sortNode_keepNode (v : Value) (W : World) : (Instr.typeAssert (.iface 232 v) 94 226 true).run Tryz.prog W = .ok (.tuple #[.agg #[.slice none 0 0], .bool false]) W := by kernel_rfl
theorem Tryz.as_sortNode_joinNode (v : Value) (W : World) : (Instr.typeAssert (.iface 232 v) 94 228 true).run Tryz.prog W = .ok (.tuple #[.agg #[.int .i64 0, .int .i64 0], .bool false]) W := by kernel_rfl
theorem Tryz.as_sortNode_bothNode (v : Value) (W : World) : (Instr.typeAssert (.iface 232 v) 94 230 true).run Tryz.prog W = .ok (.tuple #[.agg #[], .bool false]) W := by kernel_rfl
theorem Tryz.as_sortNode_sortNode (v : Value) (W : World) : (Instr.typeAssert (.iface 232 v) 94 232 true).run Tryz.prog W = .ok (.tuple #[v, .bool true]) W := by kernel_rfl
theorem Tryz.as_sortNode_limitNode (v : Value) (W : World) : (Instr.typeAssert (.iface 232 v) 94 258 true).run Tryz.prog W = .ok (.tuple #[.agg #[.int .i64 0, .bool false], .bool false]) W := by kernel_rfl
theorem Tryz.as_sortNode_onceNode (v : Value) (W : World) : (Instr.typeAssert (.iface 232 v) 94 259 true).run Tryz.prog W = .ok (.tuple #[.agg #[], .bool false]) W := by kernel_rfl
theorem Tryz.as_limitNode_scanNode (v : Value) (W : World) : (Instr.typeAssert (.iface 258 v) 94 234 true).run Tryz.prog W = .ok (.tuple #[.agg #[.string ⟨#[]⟩], .bool false]) W := by kernel_rfl
theorem Tryz.as_limitNode_filterNode (v : Value) (W : World) : (Instr.typeAssert (.iface 258 v) 94 223 true).run Tryz.prog W = .ok (.tuple #[.agg #[.int .i64 0, .int .i64 0, .int .i64 0, .bool false], .bool false]) W := by kernel_rfl
theorem Tryz.as_limitNode_keepNode (v : Value) (W : World) : (Instr.typeAssert (.iface 258 v) 94 226 true).run Tryz.prog W = .ok (.tuple #[.agg #[.slice none 0 0], .bool false]) W := by kernel_rfl
theorem Tryz.as_limitNode_joinNode (v : Value) (W : World) : (Instr.typeAssert (.iface 258 v) 94 228 true).run Tryz.prog W = .ok (.tuple #[.agg #[.int .i64 0, .int .i64 0], .bool false]) W := by kernel_rfl
theorem Tryz.as_limitNode_bothNode (v : Value) (W : World) : (Instr.typeAssert (.iface 258 v) 94 230 true).run Tryz.prog W = .ok (.tuple #[.agg #[], .bool false]) W := by kernel_rfl
theorem Tryz.as_limitNode_sortNode (v : Value) (W : World) : (Instr.typeAssert (.iface 258 v) 94 232 true).run Tryz.prog W = .ok (.tuple #[.agg #[.int .i64 0], .bool false]) W := by kernel_rfl
theorem Tryz.as_limitNode_limitNode (v : Value) (W : World) : (Instr.typeAssert (.iface 258 v) 94 258 true).run Tryz.prog W = .ok (.tuple #[v, .bool true]) W := by kernel_rfl
theorem Tryz.as_limitNode_onceNode (v : Value) (W : World) : (Instr.typeAssert (.iface 258 v) 94 259 true).run Tryz.prog W = .ok (.tuple #[.agg #[], .bool false]) W := by kernel_rfl
theorem Tryz.as_onceNode_scanNode (v : Value) (W : World) : (Instr.typeAssert (.iface 259 v) 94 234 true).run Tryz.prog W = .ok (.tuple #[.agg #[.string ⟨#[]⟩], .bool false]) W := by kernel_rfl
theorem Tryz.as_onceNode_filterNode (v : Value) (W : World) : (Instr.typeAssert (.iface 259 v) 94 223 true).run Tryz.prog W = .ok (.tuple #[.agg #[.int .i64 0, .int .i64 0, .int .i64 0, .bool false], .bool false]) W := by kernel_rfl
theorem Tryz.as_onceNode_keepNode (v : Value) (W : World) : (Instr.typeAssert (.iface 259 v) 94 226 true).run Tryz.prog W = .ok (.tuple #[.agg #[.slice none 0 0], .bool false]) W := by kernel_rfl
theorem Tryz.as_onceNode_joinNode (v : Value) (W : World) : (Instr.typeAssert (.iface 259 v) 94 228 true).run Tryz.prog W = .ok (.tuple #[.agg #[.int .i64 0, .int .i64 0], .bool false]) W := by kernel_rfl
theorem Tryz.as_onceNode_bothNode (v : Value) (W : World) : (Instr.typeAssert (.iface 259 v) 94 230 true).run Tryz.prog W = .ok (.tuple #[.agg #[], .bool false]) W := by kernel_rfl
theorem Tryz.as_onceNode_sortNode (v : Value) (W : World) : (Instr.typeAssert (.iface 259 v) 94 232 true).run Tryz.prog W = .ok (.tuple #[.agg #[.int .i64 0], .bool false]) W := by kernel_rfl
theorem Tryz.as_onceNode_limitNode (v : Value) (W : World) : (Instr.typeAssert (.iface 259 v) 94 258 true).run Tryz.prog W = .ok (.tuple #[.agg #[.int .i64 0, .bool false], .bool false]) W := by kernel_rfl
theorem Tryz.as_onceNode_onceNode (v : Value) (W : World) : (Instr.typeAssert (.iface 259 v) 94 259 true).run Tryz.prog W = .ok (.tuple #[v, .bool true]) W := by kernel_rfl
theorem Tryz.as_nil_scanNode (W : World) : (Instr.typeAssert .nilIface 94 234 true).run Tryz.prog W = .ok (.tuple #[.agg #[.string ⟨#[]⟩], .bool false]) W := by kernel_rfl
theorem Tryz.as_nil_filterNode (W : World) : (Instr.typeAssert .nilIface 94 223 true).run Tryz.prog W = .ok (.tuple #[.agg #[.int .i64 0, .int .i64 0, .int .i64 0, .bool false], .bool false]) W := by kernel_rfl
theorem Tryz.as_nil_keepNode (W : World) : (Instr.typeAssert .nilIface 94 226 true).run Tryz.prog W = .ok (.tuple #[.agg #[.slice none 0 0], .bool false]) W := by kernel_rfl
theorem Tryz.as_nil_joinNode (W : World) : (Instr.typeAssert .nilIface 94 228 true).run Tryz.prog W = .ok (.tuple #[.agg #[.int .i64 0, .int .i64 0], .bool false]) W := by kernel_rfl
theorem Tryz.as_nil_bothNode (W : World) : (Instr.typeAssert .nilIface 94 230 true).run Tryz.prog W = .ok (.tuple #[.agg #[], .bool false]) W := by kernel_rfl
theorem Tryz.as_nil_sortNode (W : World) : (Instr.typeAssert .nilIface 94 232 true).run Tryz.prog W = .ok (.tuple #[.agg #[.int .i64 0], .bool false]) W := by kernel_rfl
theorem Tryz.as_nil_limitNode (W : World) : (Instr.typeAssert .nilIface 94 258 true).run Tryz.prog W = .ok (.tuple #[.agg #[.int .i64 0, .bool false], .bool false]) W := by kernel_rfl
theorem Tryz.as_nil_onceNode (W : World) : (Instr.typeAssert .nilIface 94 259 true).run Tryz.prog W = .ok (.tuple #[.agg #[], .bool false]) W := by kernel_rfl
end Go.Proofs.YtfpbhedophlnkaaGreatDoor
