/-
  Rows of nodes of the call's own, one put behind the other. No program, no walk.
-/
import Derived.Test.YtfbgflmolkgopaaCopyS
namespace Go.Proofs.Ytfbgflmolkgopaa
open Go.RowKit
set_option linter.unusedSimpArgs false
set_option linter.unusedVariables false

theorem PartN.rdN {w : World} {base g c : Nat} {l : List Nd} {xs : List Value} {A : Nat → Option Addr} {C : Nat → Nat} (h : PartN w base g c l.length l l.length xs A C) : RdN w (some ⟨g, 0, none⟩) l := by
  refine .inr ⟨g, 0, rfl, fun i n hi => ⟨A i, C i, ?_⟩⟩
  have hl : i < l.length := by
    rcases Nat.lt_or_ge i l.length with h1 | h1
    · exact h1
    · rw [List.getElem?_eq_none h1] at hi; cases hi
  exact h.at_ hl hl hi
theorem PartN.xs_eq {w : World} {base g c : Nat} {l : List Nd} {xs : List Value} {A : Nat → Option Addr} {C : Nat → Nat} (h : PartN w base g c l.length l l.length xs A C) : xs = allCells l A C := by
  have hx : xs.length = l.length * 7 := h.own.1
  refine List.ext_getElem? fun j => ?_
  rcases Nat.lt_or_ge j (l.length * 7) with hj | hj
  · obtain ⟨q, r, rfl, hr⟩ : ∃ q r, j = q * 7 + r ∧ r < 7 := ⟨j / 7, j % 7, by omega, by omega⟩
    have hq : q < l.length := by omega
    have hc := h.cells q _ hq (List.getElem?_eq_getElem hq)
    rw [allCells_get l A C q _ (List.getElem?_eq_getElem hq) r hr]
    have hm : r = 0 ∨ r = 1 ∨ r = 2 ∨ r = 3 ∨ r = 4 ∨ r = 5 ∨ r = 6 := by omega
    rcases hm with rfl | rfl | rfl | rfl | rfl | rfl | rfl
    · exact hc.c0
    · exact hc.c1
    · exact hc.c2
    · exact hc.c3
    · exact hc.c4
    · exact hc.c5
    · exact hc.c6
  · rw [List.getElem?_eq_none (by omega), List.getElem?_eq_none (by rw [allCells_len]; omega)]
theorem some_lt {α : Type} {xs : List α} {i : Nat} {v : α} (h : xs[i]? = some v) : i < xs.length := (List.getElem?_eq_some_iff.1 h).1
theorem NdC.left {xs ys : List Value} {o : Nat} {n : Nd} {a : Option Addr} {c : Nat} (h : NdC xs o n a c) : NdC (xs ++ ys) o n a c := by
  have hl := some_lt h.c6
  exact ⟨by rw [List.getElem?_append_left (by omega)]; exact h.c0, by rw [List.getElem?_append_left (by omega)]; exact h.c1, by rw [List.getElem?_append_left (by omega)]; exact h.c2, by rw [List.getElem?_append_left (by omega)]; exact h.c3, by rw [List.getElem?_append_left (by omega)]; exact h.c4, by rw [List.getElem?_append_left (by omega)]; exact h.c5, by rw [List.getElem?_append_left (by omega)]; exact h.c6⟩
theorem NdC.right {xs ys : List Value} {o k : Nat} {n : Nd} {a : Option Addr} {c : Nat} (h : NdC ys o n a c) (hk : k = xs.length + o) : NdC (xs ++ ys) k n a c := by
  subst hk
  have key : ∀ t v, ys[o + t]? = some v → (xs ++ ys)[xs.length + o + t]? = some v := fun t v hv => by
    rw [List.getElem?_append_right (by omega), show xs.length + o + t - xs.length = o + t by omega]; exact hv
  exact ⟨key 0 _ h.c0, key 1 _ h.c1, key 2 _ h.c2, key 3 _ h.c3, key 4 _ h.c4, key 5 _ h.c5, key 6 _ h.c6⟩

/-- A whole row of nodes is put behind another. -/
theorem join_step {wb W3 w4 : World} {base g cc : Nat} {l : List Nd} {xs : List Value} {A : Nat → Option Addr} {C : Nat → Nat} {g2 c2 : Nat} {l2 : List Nd} {xs2 : List Value} {A2 : Nat → Option Addr} {C2 : Nat → Nat} {v' : Value}
    (hp : PartN wb base g cc l.length l l.length xs A C) (hb : Below wb.heap.size wb W3) (hp2 : PartN W3 wb.heap.size g2 c2 l2.length l2 l2.length xs2 A2 C2) (hbase : base ≤ wb.heap.size)
    (ho : w4.ownsRow base 37 7 v' (l.length + l2.length) (xs ++ xs2)) (hg : W3.grownBy w4 (some g)) (hblk : v'.ownBlock = some g ∨ v'.ownBlock = some W3.heap.size) :
    ∃ g' c4 A' C', v' = .slice (some ⟨g', 0, none⟩) (l.length + l2.length) c4 ∧ PartN w4 base g' c4 (l ++ l2).length (l ++ l2) (l ++ l2).length (xs ++ xs2) A' C' := by
  have hgb := owns_block hp.own
  have h3 := hp.below hb
  have z3 := hb.size
  have hx : xs.length = l.length * 7 := hp.own.1
  rcases ho.2 with ⟨rfl, hz⟩ | ⟨g', c4, cur, rfl, r⟩
  · simp [Value.ownBlock] at hblk
  · have hg' : g' = g ∨ g' = W3.heap.size := by simpa [Value.ownBlock] using hblk
    have hAlt : ∀ (i : Nat) (x : Addr), i < l.length → A i = some x → x.block < wb.heap.size := fun i x hi hx => ((hp.cols i _ hi (List.getElem?_eq_getElem hi)).lt x hx).2
    have hAlt2 : ∀ (i : Nat) (x : Addr), i < l2.length → A2 i = some x → wb.heap.size ≤ x.block ∧ x.block < W3.heap.size := fun i x hi hx => (hp2.cols i _ hi (List.getElem?_eq_getElem hi)).lt x hx
    refine ⟨g', c4, fun i => if i < l.length then A i else A2 (i - l.length), fun i => if i < l.length then C i else C2 (i - l.length), rfl, ?_⟩
    refine ⟨by rw [List.length_append]; exact ho, ?_, ?_, ?_, ?_, ?_⟩
    · intro i n hi hn
      by_cases hil : i < l.length
      · simp only [if_pos hil]
        rw [List.getElem?_append_left hil] at hn
        exact (hp.cells i n hil hn).left
      · simp only [if_neg hil]
        rw [List.getElem?_append_right (by omega)] at hn
        exact (hp2.cells _ n (some_lt hn) hn).right (by rw [hx]; omega)
    · intro i n hi hn
      by_cases hil : i < l.length
      · simp only [if_pos hil]
        rw [List.getElem?_append_left hil] at hn
        exact (h3.cols i n hil hn).grown hg (fun x hx => by simp; exact hp.row i x hil hil hx)
      · simp only [if_neg hil]
        rw [List.getElem?_append_right (by omega)] at hn
        exact ((hp2.cols _ n (some_lt hn) hn).grown hg (fun x hx => by have := hAlt2 _ x (some_lt hn) hx; simp; omega)).base_le hbase
    · intro i n hi hn
      by_cases hil : i < l.length
      · rw [List.getElem?_append_left hil] at hn
        exact hp.name i n hil hn
      · rw [List.getElem?_append_right (by omega)] at hn
        exact hp2.name _ n (some_lt hn) hn
    · intro i x _ hi hx'
      rw [List.length_append] at hi
      by_cases hil : i < l.length
      · simp only [if_pos hil] at hx'
        rcases hg' with rfl | rfl
        · exact hp.row i x hil hil hx'
        · have := hAlt i x hil hx'; omega
      · simp only [if_neg hil] at hx'
        have := hAlt2 _ x (by omega) hx'
        rcases hg' with rfl | rfl <;> omega
    · intro i k x y _ _ hi hk hik hx' hy'
      rw [List.length_append] at hi hk
      by_cases hil : i < l.length
      · simp only [if_pos hil] at hx'
        by_cases hkl : k < l.length
        · simp only [if_pos hkl] at hy'
          exact hp.apart i k x y hil hkl hil hkl hik hx' hy'
        · simp only [if_neg hkl] at hy'
          have := hAlt i x hil hx'
          have := hAlt2 _ y (by omega) hy'
          omega
      · simp only [if_neg hil] at hx'
        by_cases hkl : k < l.length
        · simp only [if_pos hkl] at hy'
          have := hAlt k y hkl hy'
          have := hAlt2 _ x (by omega) hx'
          omega
        · simp only [if_neg hkl] at hy'
          exact hp2.apart _ _ x y (by omega) (by omega) (by omega) (by omega) (by omega) hx' hy'

/-- 'append(out, more...)' at rows of nodes. -/
theorem wpList_appendNs {P : Program} (w : World) {ops : Array Oper} {rest : List Oper} {o : Oper} {a : Act} {Q : Exit → Act → World → Prop} (hgd : o.guard = none) (s x : Operand) (t : TypeId)
    (ho : o.op = .call { callee := .builtin .append, args := #[s, x], argTypes := #[t, t] }) (base : Nat) {z : Value} (ht : P.underlying t = some (.slice 37))
    (hi : (P.info? 37).map (fun i => (i.zero, i.size, i.bytes)) = some (some z, 7, 80)) (hz : z.cells.size = 7) (v : Value) (n : Nat) (xs : List Value) (hs : a.eval s = v)
    (hown : w.ownsRow base 37 7 v n xs) (b off m c2 : Nat) (l2 : List Nd) (A2 : Nat → Option Addr) (C2 : Nat → Nat) (hx : a.eval x = .slice (some ⟨b, off, none⟩) m c2) (hm : m = l2.length)
    (hc : ∀ i n, l2[i]? = some n → NdAt w b (off + i * 7) n (A2 i) (C2 i)) (hj : n + m ≤ 16777216) (hbase : base ≤ w.heap.size)
    (h : ∀ v' w', w'.ownsRow base 37 7 v' (n + m) (xs ++ allCells l2 A2 C2) → w.grownBy w' v.ownBlock → (v'.ownBlock = v.ownBlock ∨ v'.ownBlock = some w.heap.size) → wpList P ops Q rest (a.put o.dst v') w') :
    wpList P ops Q (o :: rest) a w := by
  obtain ⟨i, hi0, hz0, hz1, hz2⟩ := info_parts hi
  subst hm
  refine wpList_append_own_at w hgd s x t ho base 37 i z 7 80 ht hi0 hz0 hz1 hz2 hz (by omega) _ n xs hs hown ⟨b, off, none⟩ l2.length c2 (allCells l2 A2 C2) hx (allCells_len _ _ _) ?_ (allCells_one _ _ _) (by unfold maxLen; omega) (by omega) hbase ?_
  · intro j u hu
    have := allCells_cell hc j u hu
    unfold Addr.add
    split
    · rename_i h0; subst h0; exact this
    · exact this
  · intro v' w' h1 h2 _ h4
    exact h v' w' h1 h2 h4
end Go.Proofs.Ytfbgflmolkgopaa
