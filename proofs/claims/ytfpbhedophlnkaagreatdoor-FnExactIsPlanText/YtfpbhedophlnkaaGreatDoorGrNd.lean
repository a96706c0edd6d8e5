/-
  A row of nodes that grows by one node at a time, its columns in rows of the call's own. No program, no walk.
-/
import Derived.Test.YtfpbhedophlnkaaGreatDoorOwnN
import Derived.Laws.OwnMore
namespace Go.Proofs.YtfpbhedophlnkaaGreatDoor
open Go.RowKit
set_option linter.unusedSimpArgs false
set_option linter.unusedVariables false

theorem Tryz.infoNodeG : (Tryz.prog.info? 92).map (fun i => (i.zero, i.size, i.bytes)) = some (some (.agg #[.int .i64 0, .string ⟨#[]⟩, .int .i64 0, .int .i64 0, .int .i64 0, .bool false, .slice none 0 0]), 7, 80) := by kernel_rfl
def ndRow (n : Nd) (a : Option Addr) (c : Nat) : List Value := [.int .i64 n.kind, .string n.name, .int .i64 n.col, .int .i64 n.op, .int .i64 n.num, .bool n.slot, .slice a n.cols.length c]
structure GrN (w : World) (base top : Nat) (v : Value) (l : List Nd) (xs : List Value) (A : Nat → Option Addr) (C : Nat → Nat) : Prop where
  own : w.ownsRow base 92 7 v l.length xs
  cells : ∀ (i : Nat) (n : Nd), l[i]? = some n → NdC xs (i * 7) n (A i) (C i)
  cols : ∀ (i : Nat) (n : Nd), l[i]? = some n → Own w base 3 .i64 (A i) (C i) n.cols
  name : ∀ (i : Nat) (n : Nd), l[i]? = some n → n.name.size ≤ maxLen
  row : ∀ (i : Nat) (x : Addr), i < l.length → A i = some x → v.ownBlock ≠ some x.block
  apart : ∀ (i k : Nat) (x y : Addr), i < l.length → k < l.length → i ≠ k → A i = some x → A k = some y → x.block ≠ y.block
  topv : ∀ g, v.ownBlock = some g → g < top
  topc : ∀ (i : Nat) (x : Addr), i < l.length → A i = some x → x.block < top
/-- A row of nodes of the call's own that can grow; all its blocks lie below top. -/
def GrowN (w : World) (base top : Nat) (v : Value) (l : List Nd) : Prop := ∃ xs A C, GrN w base top v l xs A C

theorem GrowN.nil {w : World} {base top : Nat} : GrowN w base top (.slice none 0 0) [] :=
  ⟨[], fun _ => none, fun _ => 0, World.ownsRow_nil _ _ _ _, fun i n h => by simp at h, fun i n h => by simp at h, fun i n h => by simp at h, fun i x h => by simp at h, fun i k x y h => by simp at h, fun g h => by simp [Value.ownBlock] at h, fun i x h => by simp at h⟩
theorem GrowN.lit {w : World} {base : Nat} (hb : base ≤ w.heap.size) : GrowN (w.alloc (.cells #[] 92)) base (w.heap.size + 1) (.slice (some ⟨w.heap.size, 0, none⟩) 0 0) [] :=
  ⟨[], fun _ => none, fun _ => 0, World.ownsRow_lit w #[] 0 hb (Nat.zero_le _) rfl, fun i n h => by simp at h, fun i n h => by simp at h, fun i n h => by simp at h, fun i x h => by simp at h, fun i k x y h => by simp at h, fun g h => by simp [Value.ownBlock] at h; omega, fun i x h => by simp at h⟩

section
variable {w w' : World} {base top : Nat} {v : Value} {l : List Nd}
theorem GrowN.grown {row : Option Nat} (h : GrowN w base top v l) (hg : w.grownBy w' row) (hr : ∀ r, row = some r → r < base) : GrowN w' base top v l := by
  obtain ⟨xs, A, C, h⟩ := h
  refine ⟨xs, A, C, h.own.kept hg ?_, h.cells, fun i n hn => (h.cols i n hn).grown hg ?_, h.name, h.row, h.apart, h.topv, h.topc⟩
  · cases hv : v.ownBlock with
    | none => exact .inl rfl
    | some g => right; intro e; have := (h.own.lt g hv).1; have := hr g e.symm; omega
  · intro x hx e
    have := ((h.cols i n hn).lt x hx).1
    have := hr _ e.symm
    omega
theorem GrowN.below (h : GrowN w base top v l) (hb : Below w.heap.size w w') : GrowN w' base top v l :=
  h.grown (row := none) ⟨hb.os, hb.tape, hb.output, hb.size, fun k hk _ => hb.block k hk⟩ (fun _ e => by cases e)
theorem GrowN.mono {top' : Nat} (h : GrowN w base top v l) (ht : top ≤ top') : GrowN w base top' v l := by
  obtain ⟨xs, A, C, h⟩ := h
  exact ⟨xs, A, C, h.own, h.cells, h.cols, h.name, h.row, h.apart, fun g hg => Nat.lt_of_lt_of_le (h.topv g hg) ht, fun i x hi hx => Nat.lt_of_lt_of_le (h.topc i x hi hx) ht⟩
theorem GrowN.top_ (h : GrowN w base top v l) : GrowN w base w.heap.size v l := by
  obtain ⟨xs, A, C, h⟩ := h
  exact ⟨xs, A, C, h.own, h.cells, h.cols, h.name, h.row, h.apart, fun g hg => (h.own.lt g hg).2, fun i x hi hx => ((h.cols i _ (List.getElem?_eq_getElem hi)).lt x hx).2⟩
theorem GrowN.lt {ao : Option Addr} {n c : Nat} (h : GrowN w base top (.slice ao n c) l) : ∀ x, ao = some x → base ≤ x.block ∧ x.block < w.heap.size := by
  obtain ⟨xs, A, C, h⟩ := h
  intro x hx
  subst hx
  exact h.own.lt x.block rfl
theorem GrowN.ownN {ao : Option Addr} {c : Nat} (h : GrowN w base top (.slice ao l.length c) l) : OwnN w base ao c l := by
  obtain ⟨xs, A, C, h⟩ := h
  rcases h.own.2 with ⟨_, hn⟩ | ⟨g, cap, cur, hv, _⟩
  · left; exact List.eq_nil_of_length_eq_zero hn
  · simp only [Value.slice.injEq] at hv
    obtain ⟨rfl, _, rfl⟩ := hv
    refine .inr ⟨g, xs, A, C, rfl, ⟨h.own, fun i n _ hn => h.cells i n hn, fun i n _ hn => h.cols i n hn, fun i n _ hn => h.name i n hn, fun i x _ hi hx => ?_, fun i k x y _ _ hi hk hik hx hy => h.apart i k x y hi hk hik hx hy⟩⟩
    have := h.row i x hi hx
    intro e; exact this (by simp [Value.ownBlock, e])
theorem GrowN.rd {ao : Option Addr} {c : Nat} (h : GrowN w base top (.slice ao l.length c) l) : RdN w ao l := h.ownN.rd
end

theorem gr_left {xs ys : List Value} {o : Nat} {n : Nd} {a : Option Addr} {c : Nat} (h : NdC xs o n a c) : NdC (xs ++ ys) o n a c := by
  have hl : o + 6 < xs.length := (List.getElem?_eq_some_iff.1 h.c6).1
  exact ⟨by rw [List.getElem?_append_left (by omega)]; exact h.c0, by rw [List.getElem?_append_left (by omega)]; exact h.c1, by rw [List.getElem?_append_left (by omega)]; exact h.c2, by rw [List.getElem?_append_left (by omega)]; exact h.c3, by rw [List.getElem?_append_left (by omega)]; exact h.c4, by rw [List.getElem?_append_left (by omega)]; exact h.c5, by rw [List.getElem?_append_left (by omega)]; exact h.c6⟩
theorem gr_last {xs : List Value} {o : Nat} {n : Nd} {a : Option Addr} {c : Nat} (h : xs.length = o) : NdC (xs ++ ndRow n a c) o n a c := by
  subst h
  constructor <;> rw [List.getElem?_append_right (by omega)] <;> simp [ndRow]
theorem ndRow_one (n : Nd) (a : Option Addr) (c : Nat) : ∀ u ∈ ndRow n a c, u.oneCell' = true := by
  intro u hu
  simp only [ndRow, List.mem_cons, List.not_mem_nil, or_false] at hu
  rcases hu with rfl | rfl | rfl | rfl | rfl | rfl | rfl <;> rfl

/-- 'append(xs, n)' at a row of nodes of the call's own, whatever it is: n lies in a block of its own, its columns in a row made since. -/
theorem wpList_appendG {P : Program} (w : World) {ops : Array Oper} {rest : List Oper} {o : Oper} {a : Act} {Q : Exit → Act → World → Prop} (hgd : o.guard = none) (s x : Operand) (t : TypeId)
    (ho : o.op = .call { callee := .builtin .append, args := #[s, x], argTypes := #[t, t] }) (base top : Nat) {z : Value} (ht : P.underlying t = some (.slice 92))
    (hi : (P.info? 92).map (fun i => (i.zero, i.size, i.bytes)) = some (some z, 7, 80)) (hz : z.cells.size = 7) (ao : Option Addr) (c k : Nat) (l : List Nd) (hs : a.eval s = .slice ao k c) (hk : k = l.length)
    (hown : GrowN w base top (.slice ao l.length c) l) (htop : top ≤ w.heap.size) (hbase : base ≤ top) (bl cx : Nat) (n : Nd) (a2 : Option Addr) (c2 : Nat) (hx : a.eval x = .slice (some ⟨bl, 0, none⟩) 1 cx)
    (hc : ∀ t u, (ndRow n a2 c2)[t]? = some u → w.cell? ⟨bl, t, none⟩ = some u) (hcol : Own w top 3 .i64 a2 c2 n.cols) (hnm : n.name.size ≤ maxLen) (hj : l.length ≤ 1048576)
    (h : ∀ ao' c' w', GrowN w' base w'.heap.size (.slice ao' (l.length + 1) c') (l ++ [n]) → w.grownBy w' (ao.map (·.block)) → wpList P ops Q rest (a.put o.dst (.slice ao' (l.length + 1) c')) w') :
    wpList P ops Q (o :: rest) a w := by
  obtain ⟨i, hi0, hz0, hz1, hz2⟩ := info_parts hi
  subst hk
  obtain ⟨xs, A, C, hown⟩ := hown
  have hxl : xs.length = l.length * 7 := hown.own.1
  refine wpList_append_own_at w hgd s x t ho base 92 i z 7 80 ht hi0 hz0 hz1 hz2 hz (by omega) _ l.length xs hs hown.own ⟨bl, 0, none⟩ 1 cx (ndRow n a2 c2) hx (by simp [ndRow]) ?_ (ndRow_one n a2 c2) (by unfold maxLen; omega) (by omega) (Nat.le_trans hbase htop) ?_
  · intro t u hu
    have := hc t u hu
    unfold Addr.add
    split
    · rename_i h0; subst h0; exact this
    · show w.cell? ⟨bl, 0 + t, none⟩ = some u
      rw [Nat.zero_add]; exact this
  · intro v' w' h1 hg _ h4
    have hlen : (l ++ [n]).length = l.length + 1 := by simp
    have hg2 : w.grownBy w' (ao.map (·.block)) := by
      cases ao with
      | none => exact hg
      | some x => exact hg
    rcases h1.2 with ⟨_, hz'⟩ | ⟨g', cap, cur, rfl, r⟩
    · omega
    · refine h _ _ _ ⟨_, fun i => if i < l.length then A i else a2, fun i => if i < l.length then C i else c2, ⟨by rw [hlen]; exact h1, ?_, ?_, ?_, ?_, ?_, fun g hg' => (h1.lt g hg').2, ?_⟩⟩ hg2
      · intro i m hm
        by_cases hil : i < l.length
        · simp only [if_pos hil]
          rw [List.getElem?_append_left hil] at hm
          exact gr_left (hown.cells i m hm)
        · simp only [if_neg hil]
          obtain rfl : i = l.length := by have := (List.getElem?_eq_some_iff.1 hm).1; simp at this; omega
          simp at hm; subst hm
          exact gr_last hxl
      · intro i m hm
        by_cases hil : i < l.length
        · simp only [if_pos hil]
          rw [List.getElem?_append_left hil] at hm
          exact (hown.cols i m hm).grown hg (fun x hx e => hown.row i x hil hx e.symm)
        · simp only [if_neg hil]
          obtain rfl : i = l.length := by have := (List.getElem?_eq_some_iff.1 hm).1; simp at this; omega
          simp at hm; subst hm
          refine (hcol.grown hg (fun x hx e => ?_)).base_le hbase
          have := (hcol.lt x hx).1
          have := hown.topv _ e.symm
          omega
      · intro i m hm
        by_cases hil : i < l.length
        · rw [List.getElem?_append_left hil] at hm
          exact hown.name i m hm
        · obtain rfl : i = l.length := by have := (List.getElem?_eq_some_iff.1 hm).1; simp at this; omega
          simp at hm; subst hm; exact hnm
      · intro i x hi hx' e
        rw [hlen] at hi
        by_cases hil : i < l.length
        · simp only [if_pos hil] at hx'
          have := hown.topc i x hil hx'
          rcases h4 with h4 | h4
          · exact hown.row i x hil hx' (h4 ▸ e)
          · rw [h4] at e; simp at e; omega
        · simp only [if_neg hil] at hx'
          have h5 := hcol.lt x hx'
          rcases h4 with h4 | h4
          · have := hown.topv _ (h4 ▸ e); omega
          · rw [h4] at e; simp at e; omega
      · intro i k x y hi hk hik hx' hy'
        rw [hlen] at hi hk
        by_cases hil : i < l.length
        · simp only [if_pos hil] at hx'
          have := hown.topc i x hil hx'
          by_cases hkl : k < l.length
          · simp only [if_pos hkl] at hy'
            exact hown.apart i k x y hil hkl hik hx' hy'
          · simp only [if_neg hkl] at hy'
            have := (hcol.lt y hy').1
            omega
        · simp only [if_neg hil] at hx'
          have := (hcol.lt x hx').1
          by_cases hkl : k < l.length
          · simp only [if_pos hkl] at hy'
            have := hown.topc k y hkl hy'
            omega
          · omega
      · intro i x hi hx'
        rw [hlen] at hi
        have hsz := hg.size
        by_cases hil : i < l.length
        · simp only [if_pos hil] at hx'
          have := hown.topc i x hil hx'
          omega
        · simp only [if_neg hil] at hx'
          have := (hcol.lt x hx').2
          omega
/-- What a node's own fresh block holds. -/
theorem ndRow_new {w : World} {n : Nd} {a : Option Addr} {c : Nat} : ∀ t u, (ndRow n a c)[t]? = some u → (w.alloc (.cells #[.int .i64 n.kind, .string n.name, .int .i64 n.col, .int .i64 n.op, .int .i64 n.num, .bool n.slot, .slice a n.cols.length c] 92)).cell? ⟨w.heap.size, t, none⟩ = some u := by
  intro t u h
  refine (cell_of_row _ _ _ _ _ _ (heap_alloc_new w _)).trans ?_
  rw [← h]; simp [ndRow]
theorem ndRow_at {w : World} {n : Nd} {a : Option Addr} {c b : Nat} (hb : b = w.heap.size) : ∀ t u, (ndRow n a c)[t]? = some u → (w.alloc (.cells #[.int .i64 n.kind, .string n.name, .int .i64 n.col, .int .i64 n.op, .int .i64 n.num, .bool n.slot, .slice a n.cols.length c] 92)).cell? ⟨b, t, none⟩ = some u := by
  subst hb; exact ndRow_new
theorem below_gr {B : Nat} {a b d : World} {ao : Option Addr} {base top n c : Nat} {l : List Nd} (h : Below B a b) (hB : B ≤ a.heap.size) (ho : GrowN b base top (.slice ao n c) l) (hb : B ≤ base) (k : b.grownBy d (ao.map (·.block))) : Below B a d :=
  below_grow h hB k (fun x hx => Nat.le_trans hb (ho.lt x hx).1)
end Go.Proofs.YtfpbhedophlnkaaGreatDoor
