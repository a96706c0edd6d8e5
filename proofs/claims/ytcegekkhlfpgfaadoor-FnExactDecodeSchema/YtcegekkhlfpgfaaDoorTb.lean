/-
  Tables as data and in memory: what a slice of tables reads as, what of it the call itself owns, and append of one table. No walk.
-/
import Derived.Test.YtcegekkhlfpgfaaDoorStrs
import Derived.Maps.AppendAt
import Derived.OwnWalk
namespace Go.Proofs.YtcegekkhlfpgfaaDoor
open Go.RowKit
set_option linter.unusedSimpArgs false
set_option linter.unusedVariables false

/-- A table, as data. -/
structure Tb where
  name : ByteArray
  width : Int

/-- The cells of a list of tables. -/
def tbC : List Tb → List Value
  | [] => []
  | t :: l => .string t.name :: .int .i64 t.width :: tbC l
theorem tbC_len : ∀ l : List Tb, (tbC l).length = l.length * 2
  | [] => rfl
  | t :: l => by simp only [tbC, List.length_cons, tbC_len l]; omega
theorem tbC_app : ∀ l m : List Tb, tbC (l ++ m) = tbC l ++ tbC m
  | [], _ => rfl
  | t :: l, m => by simp [tbC, tbC_app l m]
theorem tbC_one : ∀ (l : List Tb), ∀ u ∈ tbC l, u.oneCell' = true
  | [], u, h => by cases h
  | t :: l, u, h => by
    simp only [tbC, List.mem_cons] at h
    rcases h with rfl | rfl | h
    · rfl
    · rfl
    · exact tbC_one l u h
theorem tbC_get0 : ∀ (l : List Tb) (i : Nat) (t : Tb), l[i]? = some t → (tbC l)[i * 2]? = some (.string t.name)
  | [], i, t, h => by simp at h
  | s :: l, 0, t, h => by simp at h; subst h; rfl
  | s :: l, i + 1, t, h => by
    simp only [List.getElem?_cons_succ] at h
    rw [show (i + 1) * 2 = i * 2 + 1 + 1 by omega]
    simp only [tbC, List.getElem?_cons_succ]
    exact tbC_get0 l i t h
theorem tbC_get1 : ∀ (l : List Tb) (i : Nat) (t : Tb), l[i]? = some t → (tbC l)[i * 2 + 1]? = some (.int .i64 t.width)
  | [], i, t, h => by simp at h
  | s :: l, 0, t, h => by simp at h; subst h; rfl
  | s :: l, i + 1, t, h => by
    simp only [List.getElem?_cons_succ] at h
    rw [show (i + 1) * 2 + 1 = i * 2 + 1 + 1 + 1 by omega]
    simp only [tbC, List.getElem?_cons_succ]
    exact tbC_get1 l i t h

/-- The two cells at place o of block b read as the table t. -/
structure TbAt (w : World) (b o : Nat) (t : Tb) : Prop where
  c0 : w.cell? ⟨b, o, none⟩ = some (.string t.name)
  c1 : w.cell? ⟨b, o + 1, none⟩ = some (.int .i64 t.width)
  nm : t.name.size ≤ maxLen

/-- The slice that begins at 'ao' reads as the tables l. -/
def RdT (w : World) (ao : Option Addr) (l : List Tb) : Prop :=
  l = [] ∨ ∃ b off, ao = some ⟨b, off, none⟩ ∧ ∀ i t, l[i]? = some t → TbAt w b (off + i * 2) t

/-- A slice of tables of the call's own. -/
def OwnT (w : World) (base : Nat) (ao : Option Addr) (c : Nat) (l : List Tb) : Prop :=
  w.ownsRow base 71 2 (.slice ao l.length c) l.length (tbC l) ∧ ∀ t ∈ l, t.name.size ≤ maxLen

/-- The call returned a slice of tables of its own, and nothing that was there has turned. -/
def MadeT (w : World) (l : List Tb) (en : Ending) (w' : World) : Prop :=
  ∃ ao c, en = .returned (.slice ao l.length c) ∧ OwnT w' w.heap.size ao c l ∧ Below w.heap.size w w'

section
variable {w w' : World} {base b o : Nat} {t : Tb} {ao : Option Addr} {c : Nat} {l : List Tb}

theorem TbAt.lt (h : TbAt w b o t) : b < w.heap.size := World.block_lt_of_cell? w ⟨b, o, none⟩ h.c0
theorem TbAt.below (h : TbAt w b o t) (hb : Below w.heap.size w w') : TbAt w' b o t :=
  ⟨(hb.cell (p := ⟨b, o, none⟩) h.lt).trans h.c0, (hb.cell (p := ⟨b, o + 1, none⟩) h.lt).trans h.c1, h.nm⟩
theorem RdT.nil : RdT w ao [] := .inl rfl
theorem RdT.below (h : RdT w ao l) (hb : Below w.heap.size w w') : RdT w' ao l := by
  rcases h with h | ⟨b, off, rfl, hc⟩
  · exact .inl h
  · exact .inr ⟨b, off, rfl, fun i n hi => (hc i n hi).below hb⟩
theorem RdT.at_ (h : RdT w ao l) {i : Nat} (hi : i < l.length) : ∃ b off t, ao = some ⟨b, off, none⟩ ∧ l[i]? = some t ∧ TbAt w b (off + i * 2) t := by
  rcases h with rfl | ⟨b, off, rfl, hc⟩
  · simp at hi
  · exact ⟨b, off, _, rfl, List.getElem?_eq_getElem hi, hc i _ (List.getElem?_eq_getElem hi)⟩
theorem RdT.name (h : RdT w ao l) {t : Tb} (ht : t ∈ l) : t.name.size ≤ maxLen := by
  obtain ⟨i, hi, rfl⟩ := List.mem_iff_getElem.1 ht
  obtain ⟨b, off, t', rfl, hx, hat⟩ := h.at_ hi
  rw [List.getElem?_eq_getElem hi] at hx; cases hx
  exact hat.nm

theorem OwnT.form (h : OwnT w base ao c l) : (ao = none ∧ c = 0 ∧ l = []) ∨ ∃ g, ao = some ⟨g, 0, none⟩ ∧ base ≤ g ∧ g < w.heap.size := by
  rcases h.1.2 with ⟨hv, hn⟩ | ⟨g, cap, cur, hv, hb, hg, _⟩
  · simp only [Value.slice.injEq] at hv
    exact .inl ⟨hv.1, hv.2.2, List.eq_nil_of_length_eq_zero hn⟩
  · simp only [Value.slice.injEq] at hv
    refine .inr ⟨g, hv.1, hb, ?_⟩
    rcases Nat.lt_or_ge g w.heap.size with hlt | hge
    · exact hlt
    · rw [Array.getElem?_eq_none hge] at hg; cases hg
theorem OwnT.lt (h : OwnT w base ao c l) : ∀ a, ao = some a → base ≤ a.block ∧ a.block < w.heap.size := by
  rcases h.form with ⟨rfl, _⟩ | ⟨g, rfl, h1, h2⟩
  · intro a ha; cases ha
  · intro a ha; cases ha; exact ⟨h1, h2⟩
theorem OwnT.len_le (h : OwnT w base ao c l) : l.length ≤ maxLen := by
  rcases h.1.2 with ⟨_, hn⟩ | ⟨g, cap, cur, _, _, _, h1, h2, _⟩
  · rw [hn]; exact Nat.zero_le _
  · exact Nat.le_trans h1 h2
theorem OwnT.rd (h : OwnT w base ao c l) : RdT w ao l := by
  rcases h.form with ⟨_, _, rfl⟩ | ⟨g, rfl, _⟩
  · exact .inl rfl
  · refine .inr ⟨g, 0, rfl, fun i t hi => ?_⟩
    have hlt : i < l.length := by
      rcases Nat.lt_or_ge i l.length with h1 | h1
      · exact h1
      · rw [List.getElem?_eq_none h1] at hi; cases hi
    rw [Nat.zero_add]
    exact ⟨(World.ownsRow.cellAt h.1 (i * 2) (by omega)).trans (tbC_get0 l i t hi), (World.ownsRow.cellAt h.1 (i * 2 + 1) (by omega)).trans (tbC_get1 l i t hi), h.2 t (List.mem_of_getElem? hi)⟩
theorem OwnT.keep (h : OwnT w base ao c l) (hk : ∀ a : Addr, ao = some a → a.block < w.heap.size → w'.heap[a.block]? = w.heap[a.block]?) : OwnT w' base ao c l := by
  have hl := h.lt
  refine ⟨⟨h.1.1, ?_⟩, h.2⟩
  rcases h.1.2 with h2 | ⟨g, cap, cur, hv, hb, hg, r⟩
  · exact .inl h2
  · refine .inr ⟨g, cap, cur, hv, hb, ?_, r⟩
    simp only [Value.slice.injEq] at hv
    rw [hk _ hv.1 (hl _ hv.1).2]; exact hg
theorem OwnT.below (h : OwnT w base ao c l) (hb : Below w.heap.size w w') : OwnT w' base ao c l := h.keep fun _ _ hlt => hb.block _ hlt
theorem OwnT.grown {row : Option Nat} (h : OwnT w base ao c l) (hg : w.grownBy w' row) (hne : ∀ a, ao = some a → some a.block ≠ row) : OwnT w' base ao c l :=
  h.keep fun a ha hlt => hg.block _ hlt (hne a ha)
theorem OwnT.base_le {base' : Nat} (h : OwnT w base ao c l) (hb : base' ≤ base) : OwnT w base' ao c l := by
  refine ⟨⟨h.1.1, ?_⟩, h.2⟩
  rcases h.1.2 with h2 | ⟨g, cap, cur, hv, hg, r⟩
  · exact .inl h2
  · exact .inr ⟨g, cap, cur, hv, Nat.le_trans hb hg, r⟩
theorem OwnT.none_ : OwnT w base none 0 [] := ⟨World.ownsRow_nil _ _ _ _, fun t h => by cases h⟩
theorem OwnT.alloc (h : OwnT w base ao c l) (o : Obj) : OwnT (w.alloc o) base ao c l := h.below ((Below.refl _ _).alloc (Nat.le_refl _) o)
theorem OwnT.apart {ao' : Option Addr} (h : OwnT w base ao c l) (hg : w.grownBy w' (ao'.map (·.block))) (hne : ∀ a b, ao = some a → ao' = some b → a.block ≠ b.block) : OwnT w' base ao c l :=
  h.grown hg (by
    intro a ha
    cases ao' with
    | none => simp
    | some b => simp; exact hne a b ha rfl)
end

/-- 'append(xs, t)': t lies in a block of its own. -/
theorem wpList_appendT {P : Program} (w : World) {ops : Array Oper} {rest : List Oper} {o : Oper} {a : Act} {Q : Exit → Act → World → Prop} (hgd : o.guard = none) (s x : Operand) (ty : TypeId)
    (ho : o.op = .call { callee := .builtin .append, args := #[s, x], argTypes := #[ty, ty] }) (base : Nat) (ht : P.underlying ty = some (.slice 71))
    (hi : (P.info? 71).map (fun i => (i.zero, i.size, i.bytes)) = some (some (.agg #[.string ⟨#[]⟩, .int .i64 0]), 2, 24))
    (ao : Option Addr) (c n : Nat) (l : List Tb) (hs : a.eval s = .slice ao n c) (hn : n = l.length) (hown : OwnT w base ao c l)
    (bl cx : Nat) (t : Tb) (hx : a.eval x = .slice (some ⟨bl, 0, none⟩) 1 cx) (hv : TbAt w bl 0 t)
    (hby : l.length + 1 ≤ 4194304) (hbase : base ≤ w.heap.size)
    (h : ∀ ao' c' w', OwnT w' base ao' c' (l ++ [t]) → w.grownBy w' (ao.map (·.block)) → wpList P ops Q rest (a.put o.dst (.slice ao' (l.length + 1) c')) w') :
    wpList P ops Q (o :: rest) a w := by
  obtain ⟨i, hi0, hz0, hz1, hz2⟩ := info_parts hi
  subst hn
  refine wpList_append_own_at w hgd s x ty ho base 71 i _ 2 24 ht hi0 hz0 hz1 hz2 rfl (by omega) _ l.length (tbC l) hs hown.1 ⟨bl, 0, none⟩ 1 cx (tbC [t]) hx rfl ?_ (tbC_one [t]) (by unfold maxLen; omega) (by omega) hbase ?_
  · intro j u hj
    match j, hj with
    | 0, hj => simp [tbC] at hj; subst hj; simpa [Addr.add] using hv.c0
    | 1, hj => simp [tbC] at hj; subst hj; simpa [Addr.add] using hv.c1
    | j + 2, hj => simp [tbC] at hj
  · intro v' w' ho' hg' _ _
    have hg2 : w.grownBy w' (ao.map (·.block)) := by
      cases ao with
      | none => exact hg'
      | some x => exact hg'
    rw [← tbC_app] at ho'
    have hnm : ∀ s ∈ l ++ [t], s.name.size ≤ maxLen := by
      intro s hs
      rcases List.mem_append.1 hs with h1 | h1
      · exact hown.2 s h1
      · simp at h1; subst h1; exact hv.nm
    have hlen : (l ++ [t]).length = l.length + 1 := by simp
    rcases ho'.2 with ⟨rfl, hz⟩ | ⟨g, cap, cur, rfl, r⟩
    · omega
    · exact h _ _ _ ⟨by rw [hlen]; exact ho', hnm⟩ hg2
theorem below_appT {w wr w1 : World} {ao : Option Addr} {c : Nat} {l : List Tb} (hb : Below w.heap.size w wr) (ho : OwnT wr w.heap.size ao c l) (hg : wr.grownBy w1 (ao.map (·.block))) : Below w.heap.size w w1 := by
  refine hb.grown hg hb.size ?_
  intro g hg'
  rcases ao with _ | a
  · cases hg'
  · simp at hg'; subst hg'; exact (ho.lt a rfl).1
theorem ownT_empty {w : World} {base : Nat} (h : base ≤ w.heap.size) : OwnT (w.alloc (.cells #[] 71)) base (some ⟨w.heap.size, 0, none⟩) 0 [] :=
  ⟨⟨rfl, .inr ⟨w.heap.size, 0, #[], rfl, h, heap_alloc_new w _, Nat.le_refl _, Nat.zero_le _, rfl, rfl⟩⟩, fun t h => by cases h⟩
end Go.Proofs.YtcegekkhlfpgfaaDoor
