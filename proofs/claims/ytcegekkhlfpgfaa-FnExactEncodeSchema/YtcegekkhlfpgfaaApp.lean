/-
  append of one value of one cell to a row that the call itself made, or to nil. No walk.
-/
import Derived.Test.YtcegekkhlfpgfaaMem
import Derived.Maps.AppendAt
import Derived.OwnWalk
namespace Go.Proofs.Ytcegekkhlfpgfaa
open Go.RowKit
set_option linter.unusedSimpArgs false
set_option linter.unusedVariables false

/-- A row of the call's own: a slice value of it, with the cells xs. -/
def OwnV (w : World) (base : Nat) (e : TypeId) (ao : Option Addr) (c : Nat) (xs : List Value) : Prop :=
  w.ownsRow base e 1 (.slice ao xs.length c) xs.length xs

section
variable {w w' : World} {base : Nat} {e : TypeId} {ao : Option Addr} {c : Nat} {xs : List Value}
theorem OwnV.none_ : OwnV w base e none 0 [] := World.ownsRow_nil _ _ _ _
theorem OwnV.form (h : OwnV w base e ao c xs) : (ao = none ∧ c = 0 ∧ xs = []) ∨ ∃ g, ao = some ⟨g, 0, none⟩ ∧ base ≤ g ∧ g < w.heap.size := by
  rcases h.2 with ⟨hv, hn⟩ | ⟨g, cap, cur, hv, hb, hg, _⟩
  · simp only [Value.slice.injEq] at hv
    exact .inl ⟨hv.1, hv.2.2, List.eq_nil_of_length_eq_zero hn⟩
  · simp only [Value.slice.injEq] at hv
    refine .inr ⟨g, hv.1, hb, ?_⟩
    rcases Nat.lt_or_ge g w.heap.size with hlt | hge
    · exact hlt
    · rw [Array.getElem?_eq_none hge] at hg; cases hg
theorem OwnV.lt (h : OwnV w base e ao c xs) : ∀ a, ao = some a → base ≤ a.block ∧ a.block < w.heap.size := by
  rcases h.form with ⟨rfl, _⟩ | ⟨g, rfl, h1, h2⟩
  · intro a ha; cases ha
  · intro a ha; cases ha; exact ⟨h1, h2⟩
theorem OwnV.cell {g : Nat} (h : OwnV w base e (some ⟨g, 0, none⟩) c xs) (i : Nat) (hi : i < xs.length) : w.cell? ⟨g, i, none⟩ = xs[i]? := World.ownsRow.cellAt h i (by omega)
theorem OwnV.keep (h : OwnV w base e ao c xs) (hk : ∀ a : Addr, ao = some a → a.block < w.heap.size → w'.heap[a.block]? = w.heap[a.block]?) : OwnV w' base e ao c xs := by
  refine ⟨h.1, ?_⟩
  have hl := h.lt
  rcases h.2 with h2 | ⟨g, cap, cur, hv, hb, hg, r⟩
  · exact .inl h2
  · refine .inr ⟨g, cap, cur, hv, hb, ?_, r⟩
    simp only [Value.slice.injEq] at hv
    rw [hk _ hv.1 (hl _ hv.1).2]; exact hg
theorem OwnV.below (h : OwnV w base e ao c xs) (hb : Below w.heap.size w w') : OwnV w' base e ao c xs := h.keep fun _ _ hlt => hb.block _ hlt
theorem OwnV.alloc (h : OwnV w base e ao c xs) (o : Obj) : OwnV (w.alloc o) base e ao c xs := h.below ((Below.refl _ _).alloc (Nat.le_refl _) o)
theorem OwnV.far (h : OwnV w base e ao c xs) {p : Addr} (hp : ∀ x, ao = some x → x.block ≠ p.block) (u : Value) : OwnV (w.setCell p u) base e ao c xs :=
  h.keep fun a ha _ => Below.heap_setCell w p u a.block (hp a ha)
theorem OwnV.base_le {base' : Nat} (h : OwnV w base e ao c xs) (hb : base' ≤ base) : OwnV w base' e ao c xs := by
  refine ⟨h.1, ?_⟩
  rcases h.2 with h2 | ⟨g, cap, cur, hv, hg, r⟩
  · exact .inl h2
  · exact .inr ⟨g, cap, cur, hv, Nat.le_trans hb hg, r⟩
end

/-- 'append(xs, v)': v lies in a block of its own. -/
theorem wpList_appendV {P : Program} (w : World) {ops : Array Oper} {rest : List Oper} {o : Oper} {a : Act} {Q : Exit → Act → World → Prop} (hgd : o.guard = none) (s x : Operand) (t : TypeId)
    (ho : o.op = .call { callee := .builtin .append, args := #[s, x], argTypes := #[t, t] }) (base : Nat) (e : TypeId) (z : Value) (bytes : Nat) (ht : P.underlying t = some (.slice e))
    (hi : (P.info? e).map (fun i => (i.zero, i.size, i.bytes)) = some (some z, 1, bytes)) (hzs : z.cells.size = 1)
    (ao : Option Addr) (c n : Nat) (xs : List Value) (hs : a.eval s = .slice ao n c) (hn : n = xs.length) (hown : OwnV w base e ao c xs)
    (bl cx : Nat) (v : Value) (hx : a.eval x = .slice (some ⟨bl, 0, none⟩) 1 cx) (hv : w.cell? ⟨bl, 0, none⟩ = some v) (hv1 : v.oneCell' = true)
    (h63 : xs.length + 1 ≤ maxLen) (hby : (xs.length + 1) * bytes ≤ 140737488355328) (hbase : base ≤ w.heap.size)
    (h : ∀ ao' c' w', OwnV w' base e ao' c' (xs ++ [v]) → w.grownBy w' (ao.map (·.block)) → (ao' = ao ∨ ao' = some ⟨w.heap.size, 0, none⟩) → wpList P ops Q rest (a.put o.dst (.slice ao' (xs.length + 1) c')) w') :
    wpList P ops Q (o :: rest) a w := by
  obtain ⟨i, hi0, hz0, hz1, hz2⟩ := info_parts hi
  subst hn
  refine wpList_append_own_at w hgd s x t ho base e i z 1 bytes ht hi0 hz0 hz1 hz2 hzs (by omega) _ xs.length xs hs hown ⟨bl, 0, none⟩ 1 cx [v] hx rfl ?_ ?_ h63 hby hbase ?_
  · intro j u hj
    match j, hj with
    | 0, hj => simp at hj; subst hj; simpa [Addr.add] using hv
  · intro u hu; simp at hu; subst hu; exact hv1
  · intro v' w' ho' hg' _ hblk
    have hg2 : w.grownBy w' (ao.map (·.block)) := by
      cases ao with
      | none => exact hg'
      | some x => exact hg'
    have hlen : (xs ++ [v]).length = xs.length + 1 := by simp
    rcases ho'.2 with ⟨rfl, hz⟩ | ⟨g, cap, cur, rfl, r⟩
    · omega
    · refine h _ _ _ (by unfold OwnV; rw [hlen]; exact ho') hg2 ?_
      rcases hblk with hb | hb
      · cases ao with
        | none => simp [Value.ownBlock] at hb
        | some x =>
          left
          rcases hown.form with ⟨hh, _⟩ | ⟨g', hh, _⟩
          · cases hh
          · cases hh
            simp [Value.ownBlock] at hb
            rw [hb]
      · right; simp [Value.ownBlock] at hb; rw [hb]
end Go.Proofs.Ytcegekkhlfpgfaa
