/-
  Words for slices of strings in memory: what a slice reads as, what the call itself owns, and how both are carried from world to world. No walk. Tables as data and in memory: what a slice of tables reads as, what of it the call itself owns, and append of one table. No walk. What a walk is told of a table, or of a slice of tables, that came in: it reads as one. No walk. Texts by their bytes: plain facts, and the contract of spec.l01Less. For every two texts. Schemas as plain data: which list of tables is one, what a map of names to widths tells, in which order. No program, no walk.
-/
import Derived.Test.YtanfllednlpbaaaGreatJ5x
import Derived.Maps.AppendAt
import Derived.OwnWalk
import Derived.Test.YtanfllednlpbaaaGreatRows
import Derived.Deep.Slices
import Derived.Deep.Fields
import Derived.ChangeSame
import Derived.WalkKit
import Derived.ProofKit
import Derived.Deep.RegionWith
import Derived.Deep.QuietTactic
import Derived.BigQuiet
namespace Go.Proofs.YtanfllednlpbaaaGreat
open Go.RowKit
set_option linter.unusedSimpArgs false
set_option linter.unusedVariables false

/-- The slice that begins at 'ao' reads as the strings l. -/
def RdS (w : World) (ao : Option Addr) (l : List ByteArray) : Prop :=
  l = [] ∨ ∃ b off, ao = some ⟨b, off, none⟩ ∧ ∀ i, i < l.length → w.cell? ⟨b, off + i, none⟩ = some (.string (l.getD i ByteArray.empty))

/-- A row of the call's own: a slice value of it, with the strings l. -/
def OwnS (w : World) (base : Nat) (ao : Option Addr) (c : Nat) (l : List ByteArray) : Prop :=
  w.ownsRow base 9 1 (.slice ao l.length c) l.length (l.map Value.string)

/-- The call returned a slice of its own with the strings l, and nothing that was there has turned. -/
def MadeS (w : World) (l : List ByteArray) (en : Ending) (w' : World) : Prop :=
  ∃ ao c, en = .returned (.slice ao l.length c) ∧ OwnS w' w.heap.size ao c l ∧ Below w.heap.size w w'

section
variable {w w' : World} {base : Nat} {ao : Option Addr} {c : Nat} {l : List ByteArray}

theorem RdS.keep (h : RdS w ao l) (hk : ∀ a p : Addr, ao = some a → p.block = a.block → p.block < w.heap.size → w'.cell? p = w.cell? p) : RdS w' ao l := by
  rcases h with rfl | ⟨b, off, rfl, hc⟩
  · exact .inl rfl
  · refine .inr ⟨b, off, rfl, fun i hi => ?_⟩
    have h1 := hc i hi
    rw [hk ⟨b, off, none⟩ ⟨b, off + i, none⟩ rfl rfl (World.block_lt_of_cell? w ⟨b, off + i, none⟩ h1)]
    exact h1
theorem RdS.below (h : RdS w ao l) (hb : Below w.heap.size w w') : RdS w' ao l := h.keep fun _ _ _ _ hp => hb.cell hp
theorem RdS.at_ {b off : Nat} {i : Nat} (hc : ∀ i, i < l.length → w.cell? ⟨b, off + i, none⟩ = some (.string (l.getD i ByteArray.empty))) (hi : i < l.length) :
    ∃ z, z ∈ l ∧ l[i]? = some z ∧ w.cell? ⟨b, off + i, none⟩ = some (.string z) ∧ l.take (i + 1) = l.take i ++ [z] := by
  refine ⟨l[i], List.getElem_mem hi, List.getElem?_eq_getElem hi, ?_, List.take_succ_eq_append_getElem hi⟩
  have := hc i hi
  rwa [List.getD_eq_getElem?_getD, List.getElem?_eq_getElem hi] at this

theorem OwnS.form (h : OwnS w base ao c l) : (ao = none ∧ c = 0 ∧ l = []) ∨ ∃ g, ao = some ⟨g, 0, none⟩ ∧ base ≤ g ∧ g < w.heap.size := by
  rcases h.2 with ⟨hv, hn⟩ | ⟨g, cap, cur, hv, hb, hg, _⟩
  · simp only [Value.slice.injEq] at hv
    exact .inl ⟨hv.1, hv.2.2, List.eq_nil_of_length_eq_zero hn⟩
  · simp only [Value.slice.injEq] at hv
    refine .inr ⟨g, hv.1, hb, ?_⟩
    rcases Nat.lt_or_ge g w.heap.size with hlt | hge
    · exact hlt
    · rw [Array.getElem?_eq_none hge] at hg; cases hg
theorem OwnS.lt (h : OwnS w base ao c l) : ∀ a, ao = some a → base ≤ a.block ∧ a.block < w.heap.size := by
  rcases h.form with ⟨rfl, _⟩ | ⟨g, rfl, h1, h2⟩
  · intro a ha; cases ha
  · intro a ha; cases ha; exact ⟨h1, h2⟩
theorem OwnS.len_le (h : OwnS w base ao c l) : l.length ≤ maxLen := by
  rcases h.2 with ⟨_, hn⟩ | ⟨g, cap, cur, _, _, _, h1, h2, _⟩
  · rw [hn]; exact Nat.zero_le _
  · exact Nat.le_trans h1 h2
theorem OwnS.cell {g : Nat} (h : OwnS w base (some ⟨g, 0, none⟩) c l) (i : Nat) (hi : i < l.length) : w.cell? ⟨g, i, none⟩ = some (.string (l.getD i ByteArray.empty)) := by
  have := World.ownsRow.cellAt h i (by omega)
  rw [this, List.getElem?_map, List.getD_eq_getElem?_getD, List.getElem?_eq_getElem hi]; rfl
theorem OwnS.rd (h : OwnS w base ao c l) : RdS w ao l := by
  rcases h.form with ⟨_, _, rfl⟩ | ⟨g, rfl, _⟩
  · exact .inl rfl
  · exact .inr ⟨g, 0, rfl, fun i hi => by rw [Nat.zero_add]; exact h.cell i hi⟩
theorem OwnS.keep (h : OwnS w base ao c l) (hk : ∀ a : Addr, ao = some a → a.block < w.heap.size → w'.heap[a.block]? = w.heap[a.block]?) : OwnS w' base ao c l := by
  refine ⟨h.1, ?_⟩
  have hl := h.lt
  rcases h.2 with h2 | ⟨g, cap, cur, hv, hb, hg, r⟩
  · exact .inl h2
  · refine .inr ⟨g, cap, cur, hv, hb, ?_, r⟩
    simp only [Value.slice.injEq] at hv
    rw [hk _ hv.1 (hl _ hv.1).2]; exact hg
theorem OwnS.below (h : OwnS w base ao c l) (hb : Below w.heap.size w w') : OwnS w' base ao c l := h.keep fun _ _ hlt => hb.block _ hlt
theorem OwnS.grown {row : Option Nat} (h : OwnS w base ao c l) (hg : w.grownBy w' row) (hne : ∀ a, ao = some a → some a.block ≠ row) : OwnS w' base ao c l :=
  h.keep fun a ha hlt => hg.block _ hlt (hne a ha)
theorem OwnS.base_le {base' : Nat} (h : OwnS w base ao c l) (hb : base' ≤ base) : OwnS w base' ao c l := by
  refine ⟨h.1, ?_⟩
  rcases h.2 with h2 | ⟨g, cap, cur, hv, hg, r⟩
  · exact .inl h2
  · exact .inr ⟨g, cap, cur, hv, Nat.le_trans hb hg, r⟩
theorem OwnS.none_ : OwnS w base none 0 [] := World.ownsRow_nil _ _ _ _
theorem OwnS.apart {ao' : Option Addr} (h : OwnS w base ao c l) (hg : w.grownBy w' (ao'.map (·.block))) (hne : ∀ a b, ao = some a → ao' = some b → a.block ≠ b.block) : OwnS w' base ao c l :=
  h.grown hg (by
    intro a ha
    cases ao' with
    | none => simp
    | some b => simp; exact hne a b ha rfl)
end

/-- Whether two rows of strings are the same. -/
def eqSs (a b : List ByteArray) : Bool := decide (a.map ByteArray.toList = b.map ByteArray.toList)
theorem eqSs_no {l m : List ByteArray} {j : Nat} {x y : ByteArray} (h : ¬ x.toList = y.toList) (hx : l[j]? = some x) (hy : m[j]? = some y) : eqSs l m = false := by
  unfold eqSs; simp only [decide_eq_false_iff_not]
  intro he
  have h1 : (l.map ByteArray.toList)[j]? = some x.toList := by rw [List.getElem?_map, hx]; rfl
  have h2 : (m.map ByteArray.toList)[j]? = some y.toList := by rw [List.getElem?_map, hy]; rfl
  rw [he, h2] at h1
  exact h (by injection h1 with h1; exact h1.symm)
theorem eqSs_yes {l m : List ByteArray} {j : Nat} (h : l.length = m.length) (hj : l.length ≤ j) (ht : (l.take j).map ByteArray.toList = (m.take j).map ByteArray.toList) : eqSs l m = true := by
  unfold eqSs; rw [List.take_of_length_le hj, List.take_of_length_le (by omega)] at ht; simpa using ht
theorem eqSs_refl (l : List ByteArray) : eqSs l l = true := by unfold eqSs; simp

/-- What marking lays into n cells from the number m on. -/
def marksS (m : Int) (n : Nat) : List ByteArray := (List.range n).map fun (i : Nat) => mtext (m + (i : Int))
theorem marksS_len (m : Int) (n : Nat) : (marksS m n).length = n := by simp [marksS]
theorem marksS_succ (m : Int) (n : Nat) : marksS m (n + 1) = marksS m n ++ [mtext (m + (n : Int))] := by simp [marksS, List.range_succ]
theorem marksS_get (m : Int) (n i : Nat) (h : i < n) : (marksS m n)[i]? = some (mtext (m + (i : Int))) := by simp [marksS, h]
theorem marksS_step (m : Int) (l : List ByteArray) (j : Nat) (h : j < l.length) : (marksS m j ++ l.drop j).set j (mtext (m + (j : Int))) = marksS m (j + 1) ++ l.drop (j + 1) := by
  rw [List.set_append_right _ _ (by rw [marksS_len]; exact Nat.le_refl _), marksS_len, Nat.sub_self, marksS_succ, List.append_assoc, List.drop_eq_getElem_cons h]
  rfl
theorem map_set_str (l : List ByteArray) (i : Nat) (z : ByteArray) : (l.map Value.string).set i (.string z) = (l.set i z).map Value.string := by
  rw [List.map_set]
end Go.Proofs.YtanfllednlpbaaaGreat
namespace Go.Proofs.YtanfllednlpbaaaGreat
open Go.RowKit
set_option linter.unusedSimpArgs false
set_option linter.unusedVariables false

/-- A table, as data. -/
structure Tb where
  name : ByteArray
  width : Int

/-- The cells of a list of tables. -/
def tbC : List Tb → List Value
  | [] => []
  | t :: l => .string t.name :: .int .i64 t.width :: tbC l
theorem tbC_len : ∀ l : List Tb, (tbC l).length = l.length * 2
  | [] => rfl
  | t :: l => by simp only [tbC, List.length_cons, tbC_len l]; omega
theorem tbC_app : ∀ l m : List Tb, tbC (l ++ m) = tbC l ++ tbC m
  | [], _ => rfl
  | t :: l, m => by simp [tbC, tbC_app l m]
theorem tbC_one : ∀ (l : List Tb), ∀ u ∈ tbC l, u.oneCell' = true
  | [], u, h => by cases h
  | t :: l, u, h => by
    simp only [tbC, List.mem_cons] at h
    rcases h with rfl | rfl | h
    · rfl
    · rfl
    · exact tbC_one l u h
theorem tbC_get0 : ∀ (l : List Tb) (i : Nat) (t : Tb), l[i]? = some t → (tbC l)[i * 2]? = some (.string t.name)
  | [], i, t, h => by simp at h
  | s :: l, 0, t, h => by simp at h; subst h; rfl
  | s :: l, i + 1, t, h => by
    simp only [List.getElem?_cons_succ] at h
    rw [show (i + 1) * 2 = i * 2 + 1 + 1 by omega]
    simp only [tbC, List.getElem?_cons_succ]
    exact tbC_get0 l i t h
theorem tbC_get1 : ∀ (l : List Tb) (i : Nat) (t : Tb), l[i]? = some t → (tbC l)[i * 2 + 1]? = some (.int .i64 t.width)
  | [], i, t, h => by simp at h
  | s :: l, 0, t, h => by simp at h; subst h; rfl
  | s :: l, i + 1, t, h => by
    simp only [List.getElem?_cons_succ] at h
    rw [show (i + 1) * 2 + 1 = i * 2 + 1 + 1 + 1 by omega]
    simp only [tbC, List.getElem?_cons_succ]
    exact tbC_get1 l i t h

/-- The two cells at place o of block b read as the table t. -/
structure TbAt (w : World) (b o : Nat) (t : Tb) : Prop where
  c0 : w.cell? ⟨b, o, none⟩ = some (.string t.name)
  c1 : w.cell? ⟨b, o + 1, none⟩ = some (.int .i64 t.width)
  nm : t.name.size ≤ maxLen

/-- The slice that begins at 'ao' reads as the tables l. -/
def RdT (w : World) (ao : Option Addr) (l : List Tb) : Prop :=
  l = [] ∨ ∃ b off, ao = some ⟨b, off, none⟩ ∧ ∀ i t, l[i]? = some t → TbAt w b (off + i * 2) t

/-- A slice of tables of the call's own. -/
def OwnT (w : World) (base : Nat) (ao : Option Addr) (c : Nat) (l : List Tb) : Prop :=
  w.ownsRow base 89 2 (.slice ao l.length c) l.length (tbC l) ∧ ∀ t ∈ l, t.name.size ≤ maxLen

/-- The call returned a slice of tables of its own, and nothing that was there has turned. -/
def MadeT (w : World) (l : List Tb) (en : Ending) (w' : World) : Prop :=
  ∃ ao c, en = .returned (.slice ao l.length c) ∧ OwnT w' w.heap.size ao c l ∧ Below w.heap.size w w'

section
variable {w w' : World} {base b o : Nat} {t : Tb} {ao : Option Addr} {c : Nat} {l : List Tb}

theorem TbAt.lt (h : TbAt w b o t) : b < w.heap.size := World.block_lt_of_cell? w ⟨b, o, none⟩ h.c0
theorem TbAt.below (h : TbAt w b o t) (hb : Below w.heap.size w w') : TbAt w' b o t :=
  ⟨(hb.cell (p := ⟨b, o, none⟩) h.lt).trans h.c0, (hb.cell (p := ⟨b, o + 1, none⟩) h.lt).trans h.c1, h.nm⟩
theorem RdT.nil : RdT w ao [] := .inl rfl
theorem RdT.below (h : RdT w ao l) (hb : Below w.heap.size w w') : RdT w' ao l := by
  rcases h with h | ⟨b, off, rfl, hc⟩
  · exact .inl h
  · exact .inr ⟨b, off, rfl, fun i n hi => (hc i n hi).below hb⟩
theorem RdT.at_ (h : RdT w ao l) {i : Nat} (hi : i < l.length) : ∃ b off t, ao = some ⟨b, off, none⟩ ∧ l[i]? = some t ∧ TbAt w b (off + i * 2) t := by
  rcases h with rfl | ⟨b, off, rfl, hc⟩
  · simp at hi
  · exact ⟨b, off, _, rfl, List.getElem?_eq_getElem hi, hc i _ (List.getElem?_eq_getElem hi)⟩
theorem RdT.name (h : RdT w ao l) {t : Tb} (ht : t ∈ l) : t.name.size ≤ maxLen := by
  obtain ⟨i, hi, rfl⟩ := List.mem_iff_getElem.1 ht
  obtain ⟨b, off, t', rfl, hx, hat⟩ := h.at_ hi
  rw [List.getElem?_eq_getElem hi] at hx; cases hx
  exact hat.nm

theorem OwnT.form (h : OwnT w base ao c l) : (ao = none ∧ c = 0 ∧ l = []) ∨ ∃ g, ao = some ⟨g, 0, none⟩ ∧ base ≤ g ∧ g < w.heap.size := by
  rcases h.1.2 with ⟨hv, hn⟩ | ⟨g, cap, cur, hv, hb, hg, _⟩
  · simp only [Value.slice.injEq] at hv
    exact .inl ⟨hv.1, hv.2.2, List.eq_nil_of_length_eq_zero hn⟩
  · simp only [Value.slice.injEq] at hv
    refine .inr ⟨g, hv.1, hb, ?_⟩
    rcases Nat.lt_or_ge g w.heap.size with hlt | hge
    · exact hlt
    · rw [Array.getElem?_eq_none hge] at hg; cases hg
theorem OwnT.lt (h : OwnT w base ao c l) : ∀ a, ao = some a → base ≤ a.block ∧ a.block < w.heap.size := by
  rcases h.form with ⟨rfl, _⟩ | ⟨g, rfl, h1, h2⟩
  · intro a ha; cases ha
  · intro a ha; cases ha; exact ⟨h1, h2⟩
theorem OwnT.len_le (h : OwnT w base ao c l) : l.length ≤ maxLen := by
  rcases h.1.2 with ⟨_, hn⟩ | ⟨g, cap, cur, _, _, _, h1, h2, _⟩
  · rw [hn]; exact Nat.zero_le _
  · exact Nat.le_trans h1 h2
theorem OwnT.rd (h : OwnT w base ao c l) : RdT w ao l := by
  rcases h.form with ⟨_, _, rfl⟩ | ⟨g, rfl, _⟩
  · exact .inl rfl
  · refine .inr ⟨g, 0, rfl, fun i t hi => ?_⟩
    have hlt : i < l.length := by
      rcases Nat.lt_or_ge i l.length with h1 | h1
      · exact h1
      · rw [List.getElem?_eq_none h1] at hi; cases hi
    rw [Nat.zero_add]
    exact ⟨(World.ownsRow.cellAt h.1 (i * 2) (by omega)).trans (tbC_get0 l i t hi), (World.ownsRow.cellAt h.1 (i * 2 + 1) (by omega)).trans (tbC_get1 l i t hi), h.2 t (List.mem_of_getElem? hi)⟩
theorem OwnT.keep (h : OwnT w base ao c l) (hk : ∀ a : Addr, ao = some a → a.block < w.heap.size → w'.heap[a.block]? = w.heap[a.block]?) : OwnT w' base ao c l := by
  have hl := h.lt
  refine ⟨⟨h.1.1, ?_⟩, h.2⟩
  rcases h.1.2 with h2 | ⟨g, cap, cur, hv, hb, hg, r⟩
  · exact .inl h2
  · refine .inr ⟨g, cap, cur, hv, hb, ?_, r⟩
    simp only [Value.slice.injEq] at hv
    rw [hk _ hv.1 (hl _ hv.1).2]; exact hg
theorem OwnT.below (h : OwnT w base ao c l) (hb : Below w.heap.size w w') : OwnT w' base ao c l := h.keep fun _ _ hlt => hb.block _ hlt
theorem OwnT.grown {row : Option Nat} (h : OwnT w base ao c l) (hg : w.grownBy w' row) (hne : ∀ a, ao = some a → some a.block ≠ row) : OwnT w' base ao c l :=
  h.keep fun a ha hlt => hg.block _ hlt (hne a ha)
theorem OwnT.base_le {base' : Nat} (h : OwnT w base ao c l) (hb : base' ≤ base) : OwnT w base' ao c l := by
  refine ⟨⟨h.1.1, ?_⟩, h.2⟩
  rcases h.1.2 with h2 | ⟨g, cap, cur, hv, hg, r⟩
  · exact .inl h2
  · exact .inr ⟨g, cap, cur, hv, Nat.le_trans hb hg, r⟩
theorem OwnT.none_ : OwnT w base none 0 [] := ⟨World.ownsRow_nil _ _ _ _, fun t h => by cases h⟩
theorem OwnT.alloc (h : OwnT w base ao c l) (o : Obj) : OwnT (w.alloc o) base ao c l := h.below ((Below.refl _ _).alloc (Nat.le_refl _) o)
theorem OwnT.apart {ao' : Option Addr} (h : OwnT w base ao c l) (hg : w.grownBy w' (ao'.map (·.block))) (hne : ∀ a b, ao = some a → ao' = some b → a.block ≠ b.block) : OwnT w' base ao c l :=
  h.grown hg (by
    intro a ha
    cases ao' with
    | none => simp
    | some b => simp; exact hne a b ha rfl)
end

/-- 'append(xs, t)': t lies in a block of its own. -/
theorem wpList_appendT {P : Program} (w : World) {ops : Array Oper} {rest : List Oper} {o : Oper} {a : Act} {Q : Exit → Act → World → Prop} (hgd : o.guard = none) (s x : Operand) (ty : TypeId)
    (ho : o.op = .call { callee := .builtin .append, args := #[s, x], argTypes := #[ty, ty] }) (base : Nat) (ht : P.underlying ty = some (.slice 89))
    (hi : (P.info? 89).map (fun i => (i.zero, i.size, i.bytes)) = some (some (.agg #[.string ⟨#[]⟩, .int .i64 0]), 2, 24))
    (ao : Option Addr) (c n : Nat) (l : List Tb) (hs : a.eval s = .slice ao n c) (hn : n = l.length) (hown : OwnT w base ao c l)
    (bl cx : Nat) (t : Tb) (hx : a.eval x = .slice (some ⟨bl, 0, none⟩) 1 cx) (hv : TbAt w bl 0 t)
    (hby : l.length + 1 ≤ 4194304) (hbase : base ≤ w.heap.size)
    (h : ∀ ao' c' w', OwnT w' base ao' c' (l ++ [t]) → w.grownBy w' (ao.map (·.block)) → wpList P ops Q rest (a.put o.dst (.slice ao' (l.length + 1) c')) w') :
    wpList P ops Q (o :: rest) a w := by
  obtain ⟨i, hi0, hz0, hz1, hz2⟩ := info_parts hi
  subst hn
  refine wpList_append_own_at w hgd s x ty ho base 89 i _ 2 24 ht hi0 hz0 hz1 hz2 rfl (by omega) _ l.length (tbC l) hs hown.1 ⟨bl, 0, none⟩ 1 cx (tbC [t]) hx rfl ?_ (tbC_one [t]) (by unfold maxLen; omega) (by omega) hbase ?_
  · intro j u hj
    match j, hj with
    | 0, hj => simp [tbC] at hj; subst hj; simpa [Addr.add] using hv.c0
    | 1, hj => simp [tbC] at hj; subst hj; simpa [Addr.add] using hv.c1
    | j + 2, hj => simp [tbC] at hj
  · intro v' w' ho' hg' _ _
    have hg2 : w.grownBy w' (ao.map (·.block)) := by
      cases ao with
      | none => exact hg'
      | some x => exact hg'
    rw [← tbC_app] at ho'
    have hnm : ∀ s ∈ l ++ [t], s.name.size ≤ maxLen := by
      intro s hs
      rcases List.mem_append.1 hs with h1 | h1
      · exact hown.2 s h1
      · simp at h1; subst h1; exact hv.nm
    have hlen : (l ++ [t]).length = l.length + 1 := by simp
    rcases ho'.2 with ⟨rfl, hz⟩ | ⟨g, cap, cur, rfl, r⟩
    · omega
    · exact h _ _ _ ⟨by rw [hlen]; exact ho', hnm⟩ hg2
theorem below_appT {w wr w1 : World} {ao : Option Addr} {c : Nat} {l : List Tb} (hb : Below w.heap.size w wr) (ho : OwnT wr w.heap.size ao c l) (hg : wr.grownBy w1 (ao.map (·.block))) : Below w.heap.size w w1 := by
  refine hb.grown hg hb.size ?_
  intro g hg'
  rcases ao with _ | a
  · cases hg'
  · simp at hg'; subst hg'; exact (ho.lt a rfl).1
theorem ownT_empty {w : World} {base : Nat} (h : base ≤ w.heap.size) : OwnT (w.alloc (.cells #[] 89)) base (some ⟨w.heap.size, 0, none⟩) 0 [] :=
  ⟨⟨rfl, .inr ⟨w.heap.size, 0, #[], rfl, h, heap_alloc_new w _, Nat.le_refl _, Nat.zero_le _, rfl, rfl⟩⟩, fun t h => by cases h⟩
end Go.Proofs.YtanfllednlpbaaaGreat
namespace Go.Proofs.YtanfllednlpbaaaGreat
open Go.RowKit Go.ChangeShapes Go.WideShapes Go.Deep
set_option linter.unusedSimpArgs false
set_option linter.unusedVariables false

/-- The two values of a table. -/
def tbL (t : Tb) : List Value := [.string t.name, .int .i64 t.width]
theorem len2 {α : Type} {l : List α} (h : l.length = 2) : ∃ a0 a1, l = [a0, a1] := by
  match l, h with
  | [a0, a1], _ => exact ⟨a0, a1, rfl⟩
theorem add_add_eqT (b off p t : Nat) : ((⟨b, off, none⟩ : Addr).add p).add t = ⟨b, off + p + t, none⟩ := by
  unfold Addr.add
  by_cases q1 : p = 0 <;> by_cases q2 : t = 0 <;> simp [q1, q2]

section
variable {H : Type} {enc : TypeId × Value → H} {w : World} {base : Nat} {held : Bool}
theorem open_tbL {fuel : Nat} {cs : List Value} {x : DataW H × List MemPlace} (h : DataW.trod enc Tryz.prog w base (fun _ => true) held fuel 86 cs = some x) :
    ∃ t, cs = tbL t ∧ t.name.size ≤ maxLen ∧ (Lit.int .i64 t.width).wf = true := by
  obtain ⟨ys, m, _, _, hlen, hyl, hf⟩ := DataW.trod_struct Tryz.underlying86 h
  have h2 : cs.length = 2 := hlen.trans (by kernel_rfl)
  have y2 : ys.length = 2 := hyl
  have k0 : DataW.trod enc Tryz.prog w base (fun _ => true) held m 9 ((cs.drop 0).take (Tryz.prog.cellsOf 9)) = ys[0]? := hf 0 _ rfl
  have k1 : DataW.trod enc Tryz.prog w base (fun _ => true) held m 3 ((cs.drop 1).take (Tryz.prog.cellsOf 3)) = ys[1]? := hf 1 _ rfl
  have ci : Tryz.prog.cellsOf 3 = 1 := by kernel_rfl
  have cs' : Tryz.prog.cellsOf 9 = 1 := by kernel_rfl
  rw [cs'] at k0
  rw [ci] at k1
  obtain ⟨c0, c1, rfl⟩ := len2 h2
  obtain ⟨y0, y1, rfl⟩ := len2 y2
  clear hf h hlen hyl ci cs' h2 y2
  obtain ⟨name, e0, _, hs⟩ := DataW.trod_string Tryz.underlying9 (show DataW.trod enc Tryz.prog w base (fun _ => true) held m 9 [c0] = some y0 from k0)
  obtain ⟨width, e1, hw⟩ := DataW.trod_int Tryz.underlying3 (show DataW.trod enc Tryz.prog w base (fun _ => true) held m 3 [c1] = some y1 from k1)
  simp only [List.cons.injEq, and_true] at e0 e1
  subst e0 e1
  exact ⟨⟨name, width⟩, rfl, hs, hw.2⟩
theorem tables_of (w : World) (b off : Nat) : ∀ len : Nat, (∀ i, i < len → ∃ t, TbAt w b (off + i * 2) t) → ∃ l : List Tb, l.length = len ∧ ∀ i t, l[i]? = some t → TbAt w b (off + i * 2) t := by
  intro len
  induction len with
  | zero => intro _; exact ⟨[], rfl, fun i n h => by simp at h⟩
  | succ k ih =>
    intro h
    obtain ⟨l, hl, hh⟩ := ih fun i hi => h i (by omega)
    obtain ⟨n, hn⟩ := h k (by omega)
    refine ⟨l ++ [n], by simp [hl], fun i m hm => ?_⟩
    rcases Nat.lt_or_ge i l.length with h1 | h1
    · rw [List.getElem?_append_left h1] at hm; exact hh i m hm
    · rw [List.getElem?_append_right h1] at hm
      have : i = k := by
        rcases Nat.lt_or_ge (i - l.length) 1 with h2 | h2
        · omega
        · rw [List.getElem?_eq_none (by simpa using h2)] at hm; cases hm
      subst this
      rw [hl, Nat.sub_self] at hm
      simp at hm; subst hm; exact hn
theorem open_tables {fuel : Nat} {a : Option Addr} {len cap : Nat} {x : DataW H × List MemPlace} (h : DataW.trod enc Tryz.prog w base (fun _ => true) held fuel 41 [.slice a len cap] = some x) :
    ∃ l : List Tb, len = l.length ∧ l.length ≤ maxLen ∧ RdT w a l := by
  have c7 : Tryz.prog.cellsOf 86 = 2 := by kernel_rfl
  rcases open_slice Tryz.underlying41 h with ⟨hcs, _⟩ | ⟨y, len', cap', m, n, D, Pl, hcs, _, hl, hm, hmm, _, hi⟩
  · simp at hcs
    obtain ⟨rfl, rfl, rfl⟩ := hcs
    exact ⟨[], rfl, Nat.zero_le _, .inl rfl⟩
  · simp at hcs
    obtain ⟨rfl, rfl, rfl⟩ := hcs
    by_cases h0 : len = 0
    · subst h0; exact ⟨[], rfl, Nat.zero_le _, .inl rfl⟩
    · rw [c7] at hi
      simp only [if_true] at hmm
      obtain ⟨b, off, spot⟩ := y
      have hspot : spot = none := by
        obtain ⟨cs', hc, ht⟩ := hi 0 (by omega)
        obtain ⟨t', rfl, _⟩ := open_tbL ht
        have := (World.cells?_some hc).2.2 0 (by omega)
        simpa [Addr.add] using World.cell?_spot (this.trans rfl)
      subst hspot
      obtain ⟨l, hl', hh⟩ := tables_of w b off len (fun i him => by
        obtain ⟨cs', hc, ht⟩ := hi i (by omega)
        obtain ⟨t', rfl, h1, h2⟩ := open_tbL ht
        have hat := (World.cells?_some hc).2.2
        have key : ∀ t, t < 2 → w.cell? ⟨b, off + i * 2 + t, none⟩ = (tbL t')[t]? := by
          intro t ht'
          rw [← hat t ht', add_add_eqT]
        exact ⟨t', key 0 (by omega), key 1 (by omega), h1⟩)
      exact ⟨l, hl'.symm, by omega, .inr ⟨b, off, rfl, hh⟩⟩
end
end Go.Proofs.YtanfllednlpbaaaGreat
namespace Go.Proofs.YtanfllednlpbaaaGreat
open Go.RowKit
set_option linter.unusedSimpArgs false
set_option linter.unusedVariables false

theorem less_at {x y : UInt8} : ∀ (j : Nat) (a b : List UInt8), a.take j = b.take j → a[j]? = some x → b[j]? = some y → x ≠ y → (a < b ↔ x < y)
  | 0, [], _, _, h, _, _ => by simp at h
  | 0, _ :: _, [], _, _, h, _ => by simp at h
  | 0, u :: a, v :: b, _, hx, hy, hxy => by
    simp at hx hy; subst hx hy
    rw [List.cons_lt_cons_iff]
    constructor
    · rintro (h | ⟨h, _⟩)
      · exact h
      · exact absurd h hxy
    · exact fun h => .inl h
  | j + 1, [], _, _, h, _, _ => by simp at h
  | j + 1, _ :: _, [], _, _, h, _ => by simp at h
  | j + 1, u :: a, v :: b, ht, hx, hy, hxy => by
    simp only [List.take_succ_cons, List.cons.injEq] at ht
    obtain ⟨rfl, ht⟩ := ht
    simp only [List.getElem?_cons_succ] at hx hy
    rw [List.cons_lt_cons_iff, ← less_at j a b ht hx hy hxy]
    constructor
    · rintro (h | ⟨_, h⟩)
      · exact absurd h (UInt8.lt_irrefl _)
      · exact h
    · exact fun h => .inr ⟨rfl, h⟩
theorem less_end : ∀ (j : Nat) (a b : List UInt8), a.take j = b.take j → (a.length = j ∧ j ≤ b.length ∨ j ≤ a.length ∧ b.length = j) → (a < b ↔ a.length < b.length)
  | 0, [], [], _, _ => by simp
  | 0, [], _ :: _, _, _ => by simp
  | 0, _ :: _, [], _, _ => by simp
  | 0, _ :: _, _ :: _, _, h => by simp at h
  | j + 1, [], b, _, h => by simp at h
  | j + 1, u :: a, [], _, h => by simp at h
  | j + 1, u :: a, v :: b, ht, h => by
    simp only [List.take_succ_cons, List.cons.injEq] at ht
    obtain ⟨rfl, ht⟩ := ht
    simp only [List.length_cons] at h ⊢
    rw [List.cons_lt_cons_iff]
    have := less_end j a b ht (by omega)
    constructor
    · rintro (h | ⟨_, h⟩)
      · exact absurd h (UInt8.lt_irrefl _)
      · have := this.1 h; omega
    · exact fun h => .inr ⟨rfl, this.2 (by omega)⟩

/-- Whether a text is before another. -/
def lessS (a b : ByteArray) : Bool := decide (a.data.toList < b.data.toList)

set_option maxRecDepth 100000 in
set_option maxHeartbeats 1600000 in
theorem l01Less_any (a b : ByteArray) (w : World) (ha : a.size ≤ maxLen) (hb : b.size ≤ maxLen) :
    Calls Tryz.prog 113 #[.string a, .string b] w fun e w' => e = .returned (.bool (lessS a b)) ∧ ∃ m, w' = w.drewN m := by
  unfold maxLen at ha hb
  have la : a.data.toList.length = a.size := by rw [Array.length_toList]; rfl
  have lb : b.data.toList.length = b.size := by rw [Array.length_toList]; rfl
  have LA := Lib.hid la; have LB := Lib.hid lb; clear la lb
  go_enter Tryz.func113, Tryz.ntmps113
  go_wp2_with fail
  go_loopw [5] (fun i wr => ∃ k q : Nat, k ≤ a.size ∧ k ≤ b.size ∧ i = .int .i64 k ∧ a.data.toList.take k = b.data.toList.take k ∧ wr = w.drewN q) (fun i _ => a.size - (intOf i).toNat)
  case atStart => exact ⟨0, 0, Nat.zero_le _, Nat.zero_le _, rfl, rfl, rfl⟩
  case round =>
    obtain ⟨k, q, h1, h2, rfl, ht, rfl⟩ := hrel
    have HT := Lib.hid ht; clear ht
    by_cases k1 : k < a.size
    · by_cases k2 : k < b.size
      · have X := Lib.hid (show a.data.toList[k]? = some a[k] by rw [Array.getElem?_toList, Array.getElem?_eq_getElem (show k < a.data.size from k1)]; rfl)
        have Y := Lib.hid (show b.data.toList[k]? = some b[k] by rw [Array.getElem?_toList, Array.getElem?_eq_getElem (show k < b.data.size from k2)]; rfl)
        have TA := Lib.hid (show a.data.toList.take (k + 1) = a.data.toList.take k ++ [a[k]] by rw [List.take_add_one, X.out]; rfl)
        have TB := Lib.hid (show b.data.toList.take (k + 1) = b.data.toList.take k ++ [b[k]] by rw [List.take_add_one, Y.out]; rfl)
        by_cases hxy : a[k] = b[k]
        · have E := Lib.hid hxy
          have hb0 : ((a[k].toNat : Int) != (b[k].toNat : Int)) = false := by simp [hxy]
          clear hxy
          go_wp2_with fail
          go_quiet (fail)
          go_wp2_with fail
          go_roundw
          case rel => exact ⟨k + 1, _, by omega, by omega, by go_num, by rw [TA.out, TB.out, HT.out, E.out], by first | rfl | rw [World.drewN_drewN]⟩
          case measure => simp [intOf]; omega
        · have hne : a[k].toNat ≠ b[k].toNat := fun h => hxy (UInt8.toNat_inj.1 h)
          have hb0 : ((a[k].toNat : Int) != (b[k].toNat : Int)) = true := by simp; omega
          have F := Lib.hid (less_at k _ _ HT.out X.out Y.out hxy)
          clear hxy
          go_wp2_with fail
          go_quiet (fail)
          go_wp2_with fail
          go_quiet (fail)
          go_wp2_with fail
          go_ret
          refine ⟨ret_bool ?_, _, by rw [World.drewN_drewN, World.drewN_drewN]⟩
          unfold lessS
          exact decide_eq_decide.2 (UInt8.lt_iff_toNat_lt.symm.trans F.out.symm)
      · go_wp2_with fail
        go_ret
        refine ⟨ret_bool ?_, _, rfl⟩
        have := less_end k _ _ HT.out (by rw [LA.out, LB.out]; omega)
        rw [LA.out, LB.out] at this
        unfold lessS
        rw [decide_eq_decide.2 this]
    · go_wp2_with fail
      go_ret
      refine ⟨ret_bool ?_, _, rfl⟩
      have := less_end k _ _ HT.out (by rw [LA.out, LB.out]; omega)
      rw [LA.out, LB.out] at this
      unfold lessS
      rw [decide_eq_decide.2 this]
theorem l01Less_is {a b : ByteArray} {v : Bool} (h : lessS a b = v) (w : World) (ha : a.size ≤ maxLen) (hb : b.size ≤ maxLen) :
    Calls Tryz.prog 113 #[.string a, .string b] w fun e w' => e = .returned (.bool v) ∧ ∃ m, w' = w.drewN m := by
  rw [← h]; exact l01Less_any a b w ha hb
end Go.Proofs.YtanfllednlpbaaaGreat
namespace Go.Proofs.YtanfllednlpbaaaGreat
set_option linter.unusedSimpArgs false
set_option linter.unusedVariables false

abbrev Key := List UInt8
def Tb.key (t : Tb) : Key := t.name.data.toList
theorem key_inj {s t : Tb} (h : s.key = t.key) (hw : s.width = t.width) : s = t := by
  cases s; cases t
  simp only [Tb.key] at h hw
  have : ∀ {x y : ByteArray}, x.data.toList = y.data.toList → x = y := fun h => by apply ByteArray.ext; exact Array.toList_inj.1 h
  rw [this h, hw]
/-- The tables ascend by their names. -/
def AscT (l : List Tb) : Prop := l.Pairwise fun s t => s.key < t.key
instance (l : List Tb) : Decidable (AscT l) := inferInstanceAs (Decidable (l.Pairwise _))
def tableB (t : Tb) : Bool := wordB t.key && decide (1 ≤ t.width ∧ t.width ≤ 6)
/-- Whether a list of tables is a schema. -/
def schemaB (l : List Tb) : Bool := decide (l.length ≤ 8 ∧ (∀ t ∈ l, tableB t = true) ∧ AscT l)
theorem schemaB_iff {l : List Tb} : schemaB l = true ↔ l.length ≤ 8 ∧ (∀ t ∈ l, tableB t = true) ∧ AscT l := by simp only [schemaB, decide_eq_true_eq]
theorem schemaB_no {l : List Tb} (h : ¬ (l.length ≤ 8 ∧ (∀ t ∈ l, tableB t = true) ∧ AscT l)) : schemaB l = false := by simp only [schemaB, decide_eq_false_iff_not]; exact h
theorem klt_irrefl (a : Key) : ¬ a < a := List.lt_irrefl a

theorem ascT_take {l : List Tb} (h : AscT l) (j : Nat) : AscT (l.take j) := List.Pairwise.sublist (List.take_sublist _ _) h
/-- One table more. -/
theorem ascT_succ {l : List Tb} {j : Nat} {t : Tb} (h : AscT (l.take j)) (ht : l[j]? = some t) (hp : ∀ s, 0 < j → l[j - 1]? = some s → s.key < t.key) : AscT (l.take (j + 1)) := by
  rw [List.take_add_one, ht]
  refine List.pairwise_append.2 ⟨h, by simp, fun a ha b hb => ?_⟩
  obtain rfl : b = t := by simpa using hb
  cases j with
  | zero => simp at ha
  | succ j =>
    have hjl : j < l.length := by
      rcases Nat.lt_or_ge (j + 1) l.length with h1 | h1
      · omega
      · rw [List.getElem?_eq_none h1] at ht; cases ht
    have hs := hp l[j] (by omega) (by simp [List.getElem?_eq_getElem hjl])
    rw [List.take_succ_eq_append_getElem hjl] at h ha
    rcases List.mem_append.1 ha with h1 | h1
    · exact List.lt_trans ((List.pairwise_append.1 h).2.2 a h1 l[j] (by simp)) hs
    · simp at h1; subst h1; exact hs
theorem ascT_neigh {l : List Tb} (h : AscT l) {j : Nat} {s t : Tb} (hs : l[j]? = some s) (ht : l[j + 1]? = some t) : s.key < t.key := by
  obtain ⟨h1, rfl⟩ := List.getElem?_eq_some_iff.1 hs
  obtain ⟨h2, rfl⟩ := List.getElem?_eq_some_iff.1 ht
  exact List.pairwise_iff_getElem.1 h j (j + 1) h1 h2 (by omega)

/-! ### A map of names to widths -/
abbrev Fn := Key → Option Int
def upd (f : Fn) (k : Key) (v : Int) : Fn := fun x => if x = k then some v else f x
def fnOf (l : List Tb) : Fn := l.foldl (fun f t => upd f t.key t.width) (fun _ => none)
theorem fnOf_snoc (l : List Tb) (t : Tb) : fnOf (l ++ [t]) = upd (fnOf l) t.key t.width := by simp [fnOf, List.foldl_append]
theorem fnOf_take {l : List Tb} {j : Nat} {t : Tb} (h : l[j]? = some t) : fnOf (l.take (j + 1)) = upd (fnOf (l.take j)) t.key t.width := by
  rw [List.take_add_one, h]; exact fnOf_snoc _ _

/-- The list tells what the map has, by the names. -/
def ToldM (f : Fn) (l : List Tb) : Prop := AscT l ∧ ∀ k v, f k = some v ↔ ∃ t ∈ l, t.key = k ∧ t.width = v

theorem told_one : ∀ (l m : List Tb), AscT l → AscT m → (∀ k v, (∃ t ∈ l, t.key = k ∧ t.width = v) ↔ ∃ t ∈ m, t.key = k ∧ t.width = v) → l = m
  | [], [], _, _, _ => rfl
  | [], y :: m, _, _, h => by
    obtain ⟨t, ht, _⟩ := (h y.key y.width).2 ⟨y, by simp, rfl, rfl⟩; cases ht
  | x :: l, [], _, _, h => by
    obtain ⟨t, ht, _⟩ := (h x.key x.width).1 ⟨x, by simp, rfl, rfl⟩; cases ht
  | x :: l, y :: m, hl, hm, h => by
    have hl' := List.pairwise_cons.1 hl
    have hm' := List.pairwise_cons.1 hm
    have e : x = y := by
      obtain ⟨t, ht, h1, h2⟩ := (h x.key x.width).1 ⟨x, by simp, rfl, rfl⟩
      obtain ⟨u, hu, h3, h4⟩ := (h y.key y.width).2 ⟨y, by simp, rfl, rfl⟩
      rcases List.mem_cons.1 ht with ht | ht
      · subst ht; exact (key_inj h1 h2).symm
      rcases List.mem_cons.1 hu with hu | hu
      · subst hu; exact key_inj h3 h4
      have q1 := hm'.1 t ht
      have q2 := hl'.1 u hu
      rw [h1] at q1; rw [h3] at q2
      exact absurd (List.lt_trans q1 q2) (klt_irrefl _)
    subst e
    rw [told_one l m hl'.2 hm'.2 ?_]
    intro k v
    constructor
    · rintro ⟨t, ht, h1, h2⟩
      obtain ⟨u, hu, h3, h4⟩ := (h k v).1 ⟨t, List.mem_cons_of_mem _ ht, h1, h2⟩
      rcases List.mem_cons.1 hu with hu | hu
      · subst hu; have := hl'.1 t ht; rw [h1, h3] at this; exact absurd this (klt_irrefl _)
      · exact ⟨u, hu, h3, h4⟩
    · rintro ⟨t, ht, h1, h2⟩
      obtain ⟨u, hu, h3, h4⟩ := (h k v).2 ⟨t, List.mem_cons_of_mem _ ht, h1, h2⟩
      rcases List.mem_cons.1 hu with hu | hu
      · subst hu; have := hm'.1 t ht; rw [h1, h3] at this; exact absurd this (klt_irrefl _)
      · exact ⟨u, hu, h3, h4⟩
theorem ToldM.uniq {f : Fn} {l m : List Tb} (h : ToldM f l) (k : ToldM f m) : l = m :=
  told_one l m h.1 k.1 fun x v => (h.2 x v).symm.trans (k.2 x v)
/-- A list that ascends tells its own map. -/
theorem told_snoc {l : List Tb} {t : Tb} (h : AscT (l ++ [t])) (ih : ToldM (fnOf l) l) : ToldM (fnOf (l ++ [t])) (l ++ [t]) := by
  refine ⟨h, fun k v => ?_⟩
  obtain ⟨h1, _, h2⟩ := List.pairwise_append.1 h
  have ih := ih.2
  rw [fnOf_snoc]
  unfold upd
  by_cases e : k = t.key
  · rw [if_pos e]
    constructor
    · intro hv; injection hv with hv; exact ⟨t, by simp, e.symm, hv⟩
    · rintro ⟨s, hs, h3, h4⟩
      rcases List.mem_append.1 hs with hs | hs
      · have := h2 s hs t (by simp); rw [h3, e] at this; exact absurd this (klt_irrefl _)
      · simp at hs; subst hs; rw [h4]
  · rw [if_neg e, ih]
    constructor
    · rintro ⟨s, hs, h3, h4⟩; exact ⟨s, by simp [hs], h3, h4⟩
    · rintro ⟨s, hs, h3, h4⟩
      rcases List.mem_append.1 hs with hs | hs
      · exact ⟨s, hs, h3, h4⟩
      · simp at hs; subst hs; exact absurd h3.symm e
theorem told_take (l : List Tb) (h : AscT l) : ∀ j, j ≤ l.length → ToldM (fnOf (l.take j)) (l.take j)
  | 0, _ => ⟨List.Pairwise.nil, fun k v => by simp [fnOf]⟩
  | j + 1, hj => by
    have e : l.take (j + 1) = l.take j ++ [l[j]] := List.take_succ_eq_append_getElem (by omega)
    have h' := ascT_take h (j + 1)
    rw [e] at h' ⊢
    exact told_snoc h' (told_take l h j (by omega))
theorem told_self (l : List Tb) (h : AscT l) : ToldM (fnOf l) l := by
  have := told_take l h l.length (Nat.le_refl _)
  rwa [List.take_length] at this
/-- What is told of a list's own map is the list, just if it ascends. -/
theorem told_same {l m : List Tb} (h : ToldM (fnOf l) m) : m = l ↔ AscT l :=
  ⟨fun e => e ▸ h.1, fun ha => h.uniq (told_self l ha)⟩
end Go.Proofs.YtanfllednlpbaaaGreat
