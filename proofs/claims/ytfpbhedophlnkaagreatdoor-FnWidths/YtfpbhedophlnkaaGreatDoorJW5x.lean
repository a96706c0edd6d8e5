/-
  Tables as data and in memory: what a slice of tables reads as, what of it the call itself owns, and append of one table. No walk. Texts by their bytes: plain facts, and the contract of spec.l01Less. For every two texts. Schemas as plain data: which list of tables is one, what a map of names to widths tells, in which order. No program, no walk. A map of names to widths in memory: what it reads as, key by key; the step of a loop over it. No walk.
-/
import Derived.Test.YtfpbhedophlnkaaGreatDoorJW4x
import Derived.Maps.AppendAt
import Derived.OwnWalk
import Derived.Deep.RegionWith
import Derived.Deep.QuietTactic
import Derived.BigQuiet
import Derived.Maps.RangeWalk
import Derived.Maps.OwnSet
import Derived.Maps.OwnOps
namespace Go.Proofs.YtfpbhedophlnkaaGreatDoor
open Go.RowKit
set_option linter.unusedSimpArgs false
set_option linter.unusedVariables false

/-- A table, as data. -/
structure Tb where
  name : ByteArray
  width : Int

/-- The cells of a list of tables. -/
def tbC : List Tb → List Value
  | [] => []
  | t :: l => .string t.name :: .int .i64 t.width :: tbC l
theorem tbC_len : ∀ l : List Tb, (tbC l).length = l.length * 2
  | [] => rfl
  | t :: l => by simp only [tbC, List.length_cons, tbC_len l]; omega
theorem tbC_app : ∀ l m : List Tb, tbC (l ++ m) = tbC l ++ tbC m
  | [], _ => rfl
  | t :: l, m => by simp [tbC, tbC_app l m]
theorem tbC_one : ∀ (l : List Tb), ∀ u ∈ tbC l, u.oneCell' = true
  | [], u, h => by cases h
  | t :: l, u, h => by
    simp only [tbC, List.mem_cons] at h
    rcases h with rfl | rfl | h
    · rfl
    · rfl
    · exact tbC_one l u h
theorem tbC_get0 : ∀ (l : List Tb) (i : Nat) (t : Tb), l[i]? = some t → (tbC l)[i * 2]? = some (.string t.name)
  | [], i, t, h => by simp at h
  | s :: l, 0, t, h => by simp at h; subst h; rfl
  | s :: l, i + 1, t, h => by
    simp only [List.getElem?_cons_succ] at h
    rw [show (i + 1) * 2 = i * 2 + 1 + 1 by omega]
    simp only [tbC, List.getElem?_cons_succ]
    exact tbC_get0 l i t h
theorem tbC_get1 : ∀ (l : List Tb) (i : Nat) (t : Tb), l[i]? = some t → (tbC l)[i * 2 + 1]? = some (.int .i64 t.width)
  | [], i, t, h => by simp at h
  | s :: l, 0, t, h => by simp at h; subst h; rfl
  | s :: l, i + 1, t, h => by
    simp only [List.getElem?_cons_succ] at h
    rw [show (i + 1) * 2 + 1 = i * 2 + 1 + 1 + 1 by omega]
    simp only [tbC, List.getElem?_cons_succ]
    exact tbC_get1 l i t h

/-- The two cells at place o of block b read as the table t. -/
structure TbAt (w : World) (b o : Nat) (t : Tb) : Prop where
  c0 : w.cell? ⟨b, o, none⟩ = some (.string t.name)
  c1 : w.cell? ⟨b, o + 1, none⟩ = some (.int .i64 t.width)
  nm : t.name.size ≤ maxLen

/-- The slice that begins at 'ao' reads as the tables l. -/
def RdT (w : World) (ao : Option Addr) (l : List Tb) : Prop :=
  l = [] ∨ ∃ b off, ao = some ⟨b, off, none⟩ ∧ ∀ i t, l[i]? = some t → TbAt w b (off + i * 2) t

/-- A slice of tables of the call's own. -/
def OwnT (w : World) (base : Nat) (ao : Option Addr) (c : Nat) (l : List Tb) : Prop :=
  w.ownsRow base 99 2 (.slice ao l.length c) l.length (tbC l) ∧ ∀ t ∈ l, t.name.size ≤ maxLen

/-- The call returned a slice of tables of its own, and nothing that was there has turned. -/
def MadeT (w : World) (l : List Tb) (en : Ending) (w' : World) : Prop :=
  ∃ ao c, en = .returned (.slice ao l.length c) ∧ OwnT w' w.heap.size ao c l ∧ Below w.heap.size w w'

section
variable {w w' : World} {base b o : Nat} {t : Tb} {ao : Option Addr} {c : Nat} {l : List Tb}

theorem TbAt.lt (h : TbAt w b o t) : b < w.heap.size := World.block_lt_of_cell? w ⟨b, o, none⟩ h.c0
theorem TbAt.below (h : TbAt w b o t) (hb : Below w.heap.size w w') : TbAt w' b o t :=
  ⟨(hb.cell (p := ⟨b, o, none⟩) h.lt).trans h.c0, (hb.cell (p := ⟨b, o + 1, none⟩) h.lt).trans h.c1, h.nm⟩
theorem RdT.nil : RdT w ao [] := .inl rfl
theorem RdT.below (h : RdT w ao l) (hb : Below w.heap.size w w') : RdT w' ao l := by
  rcases h with h | ⟨b, off, rfl, hc⟩
  · exact .inl h
  · exact .inr ⟨b, off, rfl, fun i n hi => (hc i n hi).below hb⟩
theorem RdT.at_ (h : RdT w ao l) {i : Nat} (hi : i < l.length) : ∃ b off t, ao = some ⟨b, off, none⟩ ∧ l[i]? = some t ∧ TbAt w b (off + i * 2) t := by
  rcases h with rfl | ⟨b, off, rfl, hc⟩
  · simp at hi
  · exact ⟨b, off, _, rfl, List.getElem?_eq_getElem hi, hc i _ (List.getElem?_eq_getElem hi)⟩
theorem RdT.name (h : RdT w ao l) {t : Tb} (ht : t ∈ l) : t.name.size ≤ maxLen := by
  obtain ⟨i, hi, rfl⟩ := List.mem_iff_getElem.1 ht
  obtain ⟨b, off, t', rfl, hx, hat⟩ := h.at_ hi
  rw [List.getElem?_eq_getElem hi] at hx; cases hx
  exact hat.nm

theorem OwnT.form (h : OwnT w base ao c l) : (ao = none ∧ c = 0 ∧ l = []) ∨ ∃ g, ao = some ⟨g, 0, none⟩ ∧ base ≤ g ∧ g < w.heap.size := by
  rcases h.1.2 with ⟨hv, hn⟩ | ⟨g, cap, cur, hv, hb, hg, _⟩
  · simp only [Value.slice.injEq] at hv
    exact .inl ⟨hv.1, hv.2.2, List.eq_nil_of_length_eq_zero hn⟩
  · simp only [Value.slice.injEq] at hv
    refine .inr ⟨g, hv.1, hb, ?_⟩
    rcases Nat.lt_or_ge g w.heap.size with hlt | hge
    · exact hlt
    · rw [Array.getElem?_eq_none hge] at hg; cases hg
theorem OwnT.lt (h : OwnT w base ao c l) : ∀ a, ao = some a → base ≤ a.block ∧ a.block < w.heap.size := by
  rcases h.form with ⟨rfl, _⟩ | ⟨g, rfl, h1, h2⟩
  · intro a ha; cases ha
  · intro a ha; cases ha; exact ⟨h1, h2⟩
theorem OwnT.len_le (h : OwnT w base ao c l) : l.length ≤ maxLen := by
  rcases h.1.2 with ⟨_, hn⟩ | ⟨g, cap, cur, _, _, _, h1, h2, _⟩
  · rw [hn]; exact Nat.zero_le _
  · exact Nat.le_trans h1 h2
theorem OwnT.rd (h : OwnT w base ao c l) : RdT w ao l := by
  rcases h.form with ⟨_, _, rfl⟩ | ⟨g, rfl, _⟩
  · exact .inl rfl
  · refine .inr ⟨g, 0, rfl, fun i t hi => ?_⟩
    have hlt : i < l.length := by
      rcases Nat.lt_or_ge i l.length with h1 | h1
      · exact h1
      · rw [List.getElem?_eq_none h1] at hi; cases hi
    rw [Nat.zero_add]
    exact ⟨(World.ownsRow.cellAt h.1 (i * 2) (by omega)).trans (tbC_get0 l i t hi), (World.ownsRow.cellAt h.1 (i * 2 + 1) (by omega)).trans (tbC_get1 l i t hi), h.2 t (List.mem_of_getElem? hi)⟩
theorem OwnT.keep (h : OwnT w base ao c l) (hk : ∀ a : Addr, ao = some a → a.block < w.heap.size → w'.heap[a.block]? = w.heap[a.block]?) : OwnT w' base ao c l := by
  have hl := h.lt
  refine ⟨⟨h.1.1, ?_⟩, h.2⟩
  rcases h.1.2 with h2 | ⟨g, cap, cur, hv, hb, hg, r⟩
  · exact .inl h2
  · refine .inr ⟨g, cap, cur, hv, hb, ?_, r⟩
    simp only [Value.slice.injEq] at hv
    rw [hk _ hv.1 (hl _ hv.1).2]; exact hg
theorem OwnT.below (h : OwnT w base ao c l) (hb : Below w.heap.size w w') : OwnT w' base ao c l := h.keep fun _ _ hlt => hb.block _ hlt
theorem OwnT.grown {row : Option Nat} (h : OwnT w base ao c l) (hg : w.grownBy w' row) (hne : ∀ a, ao = some a → some a.block ≠ row) : OwnT w' base ao c l :=
  h.keep fun a ha hlt => hg.block _ hlt (hne a ha)
theorem OwnT.base_le {base' : Nat} (h : OwnT w base ao c l) (hb : base' ≤ base) : OwnT w base' ao c l := by
  refine ⟨⟨h.1.1, ?_⟩, h.2⟩
  rcases h.1.2 with h2 | ⟨g, cap, cur, hv, hg, r⟩
  · exact .inl h2
  · exact .inr ⟨g, cap, cur, hv, Nat.le_trans hb hg, r⟩
theorem OwnT.none_ : OwnT w base none 0 [] := ⟨World.ownsRow_nil _ _ _ _, fun t h => by cases h⟩
theorem OwnT.alloc (h : OwnT w base ao c l) (o : Obj) : OwnT (w.alloc o) base ao c l := h.below ((Below.refl _ _).alloc (Nat.le_refl _) o)
theorem OwnT.apart {ao' : Option Addr} (h : OwnT w base ao c l) (hg : w.grownBy w' (ao'.map (·.block))) (hne : ∀ a b, ao = some a → ao' = some b → a.block ≠ b.block) : OwnT w' base ao c l :=
  h.grown hg (by
    intro a ha
    cases ao' with
    | none => simp
    | some b => simp; exact hne a b ha rfl)
end

/-- 'append(xs, t)': t lies in a block of its own. -/
theorem wpList_appendT {P : Program} (w : World) {ops : Array Oper} {rest : List Oper} {o : Oper} {a : Act} {Q : Exit → Act → World → Prop} (hgd : o.guard = none) (s x : Operand) (ty : TypeId)
    (ho : o.op = .call { callee := .builtin .append, args := #[s, x], argTypes := #[ty, ty] }) (base : Nat) (ht : P.underlying ty = some (.slice 99))
    (hi : (P.info? 99).map (fun i => (i.zero, i.size, i.bytes)) = some (some (.agg #[.string ⟨#[]⟩, .int .i64 0]), 2, 24))
    (ao : Option Addr) (c n : Nat) (l : List Tb) (hs : a.eval s = .slice ao n c) (hn : n = l.length) (hown : OwnT w base ao c l)
    (bl cx : Nat) (t : Tb) (hx : a.eval x = .slice (some ⟨bl, 0, none⟩) 1 cx) (hv : TbAt w bl 0 t)
    (hby : l.length + 1 ≤ 4194304) (hbase : base ≤ w.heap.size)
    (h : ∀ ao' c' w', OwnT w' base ao' c' (l ++ [t]) → w.grownBy w' (ao.map (·.block)) → wpList P ops Q rest (a.put o.dst (.slice ao' (l.length + 1) c')) w') :
    wpList P ops Q (o :: rest) a w := by
  obtain ⟨i, hi0, hz0, hz1, hz2⟩ := info_parts hi
  subst hn
  refine wpList_append_own_at w hgd s x ty ho base 99 i _ 2 24 ht hi0 hz0 hz1 hz2 rfl (by omega) _ l.length (tbC l) hs hown.1 ⟨bl, 0, none⟩ 1 cx (tbC [t]) hx rfl ?_ (tbC_one [t]) (by unfold maxLen; omega) (by omega) hbase ?_
  · intro j u hj
    match j, hj with
    | 0, hj => simp [tbC] at hj; subst hj; simpa [Addr.add] using hv.c0
    | 1, hj => simp [tbC] at hj; subst hj; simpa [Addr.add] using hv.c1
    | j + 2, hj => simp [tbC] at hj
  · intro v' w' ho' hg' _ _
    have hg2 : w.grownBy w' (ao.map (·.block)) := by
      cases ao with
      | none => exact hg'
      | some x => exact hg'
    rw [← tbC_app] at ho'
    have hnm : ∀ s ∈ l ++ [t], s.name.size ≤ maxLen := by
      intro s hs
      rcases List.mem_append.1 hs with h1 | h1
      · exact hown.2 s h1
      · simp at h1; subst h1; exact hv.nm
    have hlen : (l ++ [t]).length = l.length + 1 := by simp
    rcases ho'.2 with ⟨rfl, hz⟩ | ⟨g, cap, cur, rfl, r⟩
    · omega
    · exact h _ _ _ ⟨by rw [hlen]; exact ho', hnm⟩ hg2
theorem below_appT {w wr w1 : World} {ao : Option Addr} {c : Nat} {l : List Tb} (hb : Below w.heap.size w wr) (ho : OwnT wr w.heap.size ao c l) (hg : wr.grownBy w1 (ao.map (·.block))) : Below w.heap.size w w1 := by
  refine hb.grown hg hb.size ?_
  intro g hg'
  rcases ao with _ | a
  · cases hg'
  · simp at hg'; subst hg'; exact (ho.lt a rfl).1
theorem ownT_empty {w : World} {base : Nat} (h : base ≤ w.heap.size) : OwnT (w.alloc (.cells #[] 99)) base (some ⟨w.heap.size, 0, none⟩) 0 [] :=
  ⟨⟨rfl, .inr ⟨w.heap.size, 0, #[], rfl, h, heap_alloc_new w _, Nat.le_refl _, Nat.zero_le _, rfl, rfl⟩⟩, fun t h => by cases h⟩
end Go.Proofs.YtfpbhedophlnkaaGreatDoor
namespace Go.Proofs.YtfpbhedophlnkaaGreatDoor
open Go.RowKit
set_option linter.unusedSimpArgs false
set_option linter.unusedVariables false

theorem less_at {x y : UInt8} : ∀ (j : Nat) (a b : List UInt8), a.take j = b.take j → a[j]? = some x → b[j]? = some y → x ≠ y → (a < b ↔ x < y)
  | 0, [], _, _, h, _, _ => by simp at h
  | 0, _ :: _, [], _, _, h, _ => by simp at h
  | 0, u :: a, v :: b, _, hx, hy, hxy => by
    simp at hx hy; subst hx hy
    rw [List.cons_lt_cons_iff]
    constructor
    · rintro (h | ⟨h, _⟩)
      · exact h
      · exact absurd h hxy
    · exact fun h => .inl h
  | j + 1, [], _, _, h, _, _ => by simp at h
  | j + 1, _ :: _, [], _, _, h, _ => by simp at h
  | j + 1, u :: a, v :: b, ht, hx, hy, hxy => by
    simp only [List.take_succ_cons, List.cons.injEq] at ht
    obtain ⟨rfl, ht⟩ := ht
    simp only [List.getElem?_cons_succ] at hx hy
    rw [List.cons_lt_cons_iff, ← less_at j a b ht hx hy hxy]
    constructor
    · rintro (h | ⟨_, h⟩)
      · exact absurd h (UInt8.lt_irrefl _)
      · exact h
    · exact fun h => .inr ⟨rfl, h⟩
theorem less_end : ∀ (j : Nat) (a b : List UInt8), a.take j = b.take j → (a.length = j ∧ j ≤ b.length ∨ j ≤ a.length ∧ b.length = j) → (a < b ↔ a.length < b.length)
  | 0, [], [], _, _ => by simp
  | 0, [], _ :: _, _, _ => by simp
  | 0, _ :: _, [], _, _ => by simp
  | 0, _ :: _, _ :: _, _, h => by simp at h
  | j + 1, [], b, _, h => by simp at h
  | j + 1, u :: a, [], _, h => by simp at h
  | j + 1, u :: a, v :: b, ht, h => by
    simp only [List.take_succ_cons, List.cons.injEq] at ht
    obtain ⟨rfl, ht⟩ := ht
    simp only [List.length_cons] at h ⊢
    rw [List.cons_lt_cons_iff]
    have := less_end j a b ht (by omega)
    constructor
    · rintro (h | ⟨_, h⟩)
      · exact absurd h (UInt8.lt_irrefl _)
      · have := this.1 h; omega
    · exact fun h => .inr ⟨rfl, this.2 (by omega)⟩

/-- Whether a text is before another. -/
def lessS (a b : ByteArray) : Bool := decide (a.data.toList < b.data.toList)

set_option maxRecDepth 100000 in
set_option maxHeartbeats 1600000 in
theorem l01Less_any (a b : ByteArray) (w : World) (ha : a.size ≤ maxLen) (hb : b.size ≤ maxLen) :
    Calls Tryz.prog 98 #[.string a, .string b] w fun e w' => e = .returned (.bool (lessS a b)) ∧ ∃ m, w' = w.drewN m := by
  unfold maxLen at ha hb
  have la : a.data.toList.length = a.size := by rw [Array.length_toList]; rfl
  have lb : b.data.toList.length = b.size := by rw [Array.length_toList]; rfl
  have LA := Lib.hid la; have LB := Lib.hid lb; clear la lb
  go_enter Tryz.func98, Tryz.ntmps98
  go_wp2_with fail
  go_loopw [5] (fun i wr => ∃ k q : Nat, k ≤ a.size ∧ k ≤ b.size ∧ i = .int .i64 k ∧ a.data.toList.take k = b.data.toList.take k ∧ wr = w.drewN q) (fun i _ => a.size - (intOf i).toNat)
  case atStart => exact ⟨0, 0, Nat.zero_le _, Nat.zero_le _, rfl, rfl, rfl⟩
  case round =>
    obtain ⟨k, q, h1, h2, rfl, ht, rfl⟩ := hrel
    have HT := Lib.hid ht; clear ht
    by_cases k1 : k < a.size
    · by_cases k2 : k < b.size
      · have X := Lib.hid (show a.data.toList[k]? = some a[k] by rw [Array.getElem?_toList, Array.getElem?_eq_getElem (show k < a.data.size from k1)]; rfl)
        have Y := Lib.hid (show b.data.toList[k]? = some b[k] by rw [Array.getElem?_toList, Array.getElem?_eq_getElem (show k < b.data.size from k2)]; rfl)
        have TA := Lib.hid (show a.data.toList.take (k + 1) = a.data.toList.take k ++ [a[k]] by rw [List.take_add_one, X.out]; rfl)
        have TB := Lib.hid (show b.data.toList.take (k + 1) = b.data.toList.take k ++ [b[k]] by rw [List.take_add_one, Y.out]; rfl)
        by_cases hxy : a[k] = b[k]
        · have E := Lib.hid hxy
          have hb0 : ((a[k].toNat : Int) != (b[k].toNat : Int)) = false := by simp [hxy]
          clear hxy
          go_wp2_with fail
          go_quiet (fail)
          go_wp2_with fail
          go_roundw
          case rel => exact ⟨k + 1, _, by omega, by omega, by go_num, by rw [TA.out, TB.out, HT.out, E.out], by first | rfl | rw [World.drewN_drewN]⟩
          case measure => simp [intOf]; omega
        · have hne : a[k].toNat ≠ b[k].toNat := fun h => hxy (UInt8.toNat_inj.1 h)
          have hb0 : ((a[k].toNat : Int) != (b[k].toNat : Int)) = true := by simp; omega
          have F := Lib.hid (less_at k _ _ HT.out X.out Y.out hxy)
          clear hxy
          go_wp2_with fail
          go_quiet (fail)
          go_wp2_with fail
          go_quiet (fail)
          go_wp2_with fail
          go_ret
          refine ⟨ret_bool ?_, _, by rw [World.drewN_drewN, World.drewN_drewN]⟩
          unfold lessS
          exact decide_eq_decide.2 (UInt8.lt_iff_toNat_lt.symm.trans F.out.symm)
      · go_wp2_with fail
        go_ret
        refine ⟨ret_bool ?_, _, rfl⟩
        have := less_end k _ _ HT.out (by rw [LA.out, LB.out]; omega)
        rw [LA.out, LB.out] at this
        unfold lessS
        rw [decide_eq_decide.2 this]
    · go_wp2_with fail
      go_ret
      refine ⟨ret_bool ?_, _, rfl⟩
      have := less_end k _ _ HT.out (by rw [LA.out, LB.out]; omega)
      rw [LA.out, LB.out] at this
      unfold lessS
      rw [decide_eq_decide.2 this]
theorem l01Less_is {a b : ByteArray} {v : Bool} (h : lessS a b = v) (w : World) (ha : a.size ≤ maxLen) (hb : b.size ≤ maxLen) :
    Calls Tryz.prog 98 #[.string a, .string b] w fun e w' => e = .returned (.bool v) ∧ ∃ m, w' = w.drewN m := by
  rw [← h]; exact l01Less_any a b w ha hb
end Go.Proofs.YtfpbhedophlnkaaGreatDoor
namespace Go.Proofs.YtfpbhedophlnkaaGreatDoor
set_option linter.unusedSimpArgs false
set_option linter.unusedVariables false

abbrev Key := List UInt8
def Tb.key (t : Tb) : Key := t.name.data.toList
theorem key_inj {s t : Tb} (h : s.key = t.key) (hw : s.width = t.width) : s = t := by
  cases s; cases t
  simp only [Tb.key] at h hw
  have : ∀ {x y : ByteArray}, x.data.toList = y.data.toList → x = y := fun h => by apply ByteArray.ext; exact Array.toList_inj.1 h
  rw [this h, hw]
/-- The tables ascend by their names. -/
def AscT (l : List Tb) : Prop := l.Pairwise fun s t => s.key < t.key
instance (l : List Tb) : Decidable (AscT l) := inferInstanceAs (Decidable (l.Pairwise _))
def tableB (t : Tb) : Bool := wordB t.key && decide (1 ≤ t.width ∧ t.width ≤ 6)
/-- Whether a list of tables is a schema. -/
def schemaB (l : List Tb) : Bool := decide (l.length ≤ 8 ∧ (∀ t ∈ l, tableB t = true) ∧ AscT l)
theorem schemaB_iff {l : List Tb} : schemaB l = true ↔ l.length ≤ 8 ∧ (∀ t ∈ l, tableB t = true) ∧ AscT l := by simp only [schemaB, decide_eq_true_eq]
theorem schemaB_no {l : List Tb} (h : ¬ (l.length ≤ 8 ∧ (∀ t ∈ l, tableB t = true) ∧ AscT l)) : schemaB l = false := by simp only [schemaB, decide_eq_false_iff_not]; exact h
theorem klt_irrefl (a : Key) : ¬ a < a := List.lt_irrefl a

theorem ascT_take {l : List Tb} (h : AscT l) (j : Nat) : AscT (l.take j) := List.Pairwise.sublist (List.take_sublist _ _) h
/-- One table more. -/
theorem ascT_succ {l : List Tb} {j : Nat} {t : Tb} (h : AscT (l.take j)) (ht : l[j]? = some t) (hp : ∀ s, 0 < j → l[j - 1]? = some s → s.key < t.key) : AscT (l.take (j + 1)) := by
  rw [List.take_add_one, ht]
  refine List.pairwise_append.2 ⟨h, by simp, fun a ha b hb => ?_⟩
  obtain rfl : b = t := by simpa using hb
  cases j with
  | zero => simp at ha
  | succ j =>
    have hjl : j < l.length := by
      rcases Nat.lt_or_ge (j + 1) l.length with h1 | h1
      · omega
      · rw [List.getElem?_eq_none h1] at ht; cases ht
    have hs := hp l[j] (by omega) (by simp [List.getElem?_eq_getElem hjl])
    rw [List.take_succ_eq_append_getElem hjl] at h ha
    rcases List.mem_append.1 ha with h1 | h1
    · exact List.lt_trans ((List.pairwise_append.1 h).2.2 a h1 l[j] (by simp)) hs
    · simp at h1; subst h1; exact hs
theorem ascT_neigh {l : List Tb} (h : AscT l) {j : Nat} {s t : Tb} (hs : l[j]? = some s) (ht : l[j + 1]? = some t) : s.key < t.key := by
  obtain ⟨h1, rfl⟩ := List.getElem?_eq_some_iff.1 hs
  obtain ⟨h2, rfl⟩ := List.getElem?_eq_some_iff.1 ht
  exact List.pairwise_iff_getElem.1 h j (j + 1) h1 h2 (by omega)

/-! ### A map of names to widths -/
abbrev Fn := Key → Option Int
def upd (f : Fn) (k : Key) (v : Int) : Fn := fun x => if x = k then some v else f x
def fnOf (l : List Tb) : Fn := l.foldl (fun f t => upd f t.key t.width) (fun _ => none)
theorem fnOf_snoc (l : List Tb) (t : Tb) : fnOf (l ++ [t]) = upd (fnOf l) t.key t.width := by simp [fnOf, List.foldl_append]
theorem fnOf_take {l : List Tb} {j : Nat} {t : Tb} (h : l[j]? = some t) : fnOf (l.take (j + 1)) = upd (fnOf (l.take j)) t.key t.width := by
  rw [List.take_add_one, h]; exact fnOf_snoc _ _

/-- The list tells what the map has, by the names. -/
def ToldM (f : Fn) (l : List Tb) : Prop := AscT l ∧ ∀ k v, f k = some v ↔ ∃ t ∈ l, t.key = k ∧ t.width = v

theorem told_one : ∀ (l m : List Tb), AscT l → AscT m → (∀ k v, (∃ t ∈ l, t.key = k ∧ t.width = v) ↔ ∃ t ∈ m, t.key = k ∧ t.width = v) → l = m
  | [], [], _, _, _ => rfl
  | [], y :: m, _, _, h => by
    obtain ⟨t, ht, _⟩ := (h y.key y.width).2 ⟨y, by simp, rfl, rfl⟩; cases ht
  | x :: l, [], _, _, h => by
    obtain ⟨t, ht, _⟩ := (h x.key x.width).1 ⟨x, by simp, rfl, rfl⟩; cases ht
  | x :: l, y :: m, hl, hm, h => by
    have hl' := List.pairwise_cons.1 hl
    have hm' := List.pairwise_cons.1 hm
    have e : x = y := by
      obtain ⟨t, ht, h1, h2⟩ := (h x.key x.width).1 ⟨x, by simp, rfl, rfl⟩
      obtain ⟨u, hu, h3, h4⟩ := (h y.key y.width).2 ⟨y, by simp, rfl, rfl⟩
      rcases List.mem_cons.1 ht with ht | ht
      · subst ht; exact (key_inj h1 h2).symm
      rcases List.mem_cons.1 hu with hu | hu
      · subst hu; exact key_inj h3 h4
      have q1 := hm'.1 t ht
      have q2 := hl'.1 u hu
      rw [h1] at q1; rw [h3] at q2
      exact absurd (List.lt_trans q1 q2) (klt_irrefl _)
    subst e
    rw [told_one l m hl'.2 hm'.2 ?_]
    intro k v
    constructor
    · rintro ⟨t, ht, h1, h2⟩
      obtain ⟨u, hu, h3, h4⟩ := (h k v).1 ⟨t, List.mem_cons_of_mem _ ht, h1, h2⟩
      rcases List.mem_cons.1 hu with hu | hu
      · subst hu; have := hl'.1 t ht; rw [h1, h3] at this; exact absurd this (klt_irrefl _)
      · exact ⟨u, hu, h3, h4⟩
    · rintro ⟨t, ht, h1, h2⟩
      obtain ⟨u, hu, h3, h4⟩ := (h k v).2 ⟨t, List.mem_cons_of_mem _ ht, h1, h2⟩
      rcases List.mem_cons.1 hu with hu | hu
      · subst hu; have := hm'.1 t ht; rw [h1, h3] at this; exact absurd this (klt_irrefl _)
      · exact ⟨u, hu, h3, h4⟩
theorem ToldM.uniq {f : Fn} {l m : List Tb} (h : ToldM f l) (k : ToldM f m) : l = m :=
  told_one l m h.1 k.1 fun x v => (h.2 x v).symm.trans (k.2 x v)
/-- A list that ascends tells its own map. -/
theorem told_snoc {l : List Tb} {t : Tb} (h : AscT (l ++ [t])) (ih : ToldM (fnOf l) l) : ToldM (fnOf (l ++ [t])) (l ++ [t]) := by
  refine ⟨h, fun k v => ?_⟩
  obtain ⟨h1, _, h2⟩ := List.pairwise_append.1 h
  have ih := ih.2
  rw [fnOf_snoc]
  unfold upd
  by_cases e : k = t.key
  · rw [if_pos e]
    constructor
    · intro hv; injection hv with hv; exact ⟨t, by simp, e.symm, hv⟩
    · rintro ⟨s, hs, h3, h4⟩
      rcases List.mem_append.1 hs with hs | hs
      · have := h2 s hs t (by simp); rw [h3, e] at this; exact absurd this (klt_irrefl _)
      · simp at hs; subst hs; rw [h4]
  · rw [if_neg e, ih]
    constructor
    · rintro ⟨s, hs, h3, h4⟩; exact ⟨s, by simp [hs], h3, h4⟩
    · rintro ⟨s, hs, h3, h4⟩
      rcases List.mem_append.1 hs with hs | hs
      · exact ⟨s, hs, h3, h4⟩
      · simp at hs; subst hs; exact absurd h3.symm e
theorem told_take (l : List Tb) (h : AscT l) : ∀ j, j ≤ l.length → ToldM (fnOf (l.take j)) (l.take j)
  | 0, _ => ⟨List.Pairwise.nil, fun k v => by simp [fnOf]⟩
  | j + 1, hj => by
    have e : l.take (j + 1) = l.take j ++ [l[j]] := List.take_succ_eq_append_getElem (by omega)
    have h' := ascT_take h (j + 1)
    rw [e] at h' ⊢
    exact told_snoc h' (told_take l h j (by omega))
theorem told_self (l : List Tb) (h : AscT l) : ToldM (fnOf l) l := by
  have := told_take l h l.length (Nat.le_refl _)
  rwa [List.take_length] at this
/-- What is told of a list's own map is the list, just if it ascends. -/
theorem told_same {l m : List Tb} (h : ToldM (fnOf l) m) : m = l ↔ AscT l :=
  ⟨fun e => e ▸ h.1, fun ha => h.uniq (told_self l ha)⟩
end Go.Proofs.YtfpbhedophlnkaaGreatDoor
namespace Go.Proofs.YtfpbhedophlnkaaGreatDoor
open Go.RowKit Go.Maps
set_option linter.unusedSimpArgs false
set_option linter.unusedVariables false

abbrev DW := DataW Unit
theorem Tryz.keyed : Keyed Tryz.prog 9 := string_keyed Tryz.underlying9
/-- The datum has at each name what f says. -/
def FnD (D : DW) (f : Fn) : Prop := IsMap D ∧ ∀ k : Key, has D (.string k) = (f k).isSome ∧ ∀ v, f k = some v → ∀ z, D.atKey (.string k) z = .lit (.int .i64 v)
theorem FnD.empty : FnD (.map []) (fun _ => none) := ⟨isMap_empty, fun k => ⟨rfl, fun v h => by cases h⟩⟩
theorem FnD.put {D : DW} {f : Fn} (h : FnD D f) (k : Key) (v : Int) : FnD (D.put (.string k) (.lit (.int .i64 v))) (upd f k v) := by
  refine ⟨h.1.put _ _, fun x => ?_⟩
  unfold upd
  by_cases e : x = k
  · subst e
    rw [if_pos rfl]
    refine ⟨has_put_same (k := .string x) h.1 trivial _, fun u hu z => ?_⟩
    injection hu with hu; subst hu
    exact atKey_put_same (k := .string x) h.1 trivial _ _
  · rw [if_neg e]
    have hne : (Lit.string x) ≠ .string k := fun h => e (by injection h)
    exact ⟨(has_put_other hne _).trans (h.2 x).1, fun u hu z => (atKey_put_other hne _ _).trans ((h.2 x).2 u hu z)⟩
/-- The map in block b, with at most n entries. -/
def OwnM (w : World) (b n : Nat) (f : Fn) : Prop := ∃ D : DW, w.ownsMap Tryz.prog 9 (plainElem Tryz.prog 3) b n D ∧ FnD D f
theorem OwnM.lt {w : World} {b n : Nat} {f : Fn} (h : OwnM w b n f) : b < w.heap.size := by obtain ⟨D, h1, _⟩ := h; exact h1.lt
theorem OwnM.below {w w' : World} {b n : Nat} {f : Fn} (h : OwnM w b n f) (hb : Below w.heap.size w w') : OwnM w' b n f := by
  have hl := h.lt
  obtain ⟨D, ⟨es, clock, h1, h2⟩, h3⟩ := h
  exact ⟨D, ⟨es, clock, (hb.block b hl).trans h1, h2⟩, h3⟩
theorem owns_size {w : World} {b n : Nat} {D : DW} (h : w.ownsMap Tryz.prog 9 (plainElem Tryz.prog 3) b n D) : size D ≤ n := by
  obtain ⟨es, clock, _, _, hs, rfl⟩ := h
  rw [size_eq, length_sorted, List.length_map]; simpa using hs

/-- Those entries that are no longer to come are in the list, each once. -/
def Col (f : Fn) (left : Lit → Bool) (l : List Tb) : Prop :=
  l.Pairwise (fun s t => s.key ≠ t.key) ∧ ∀ k v, (f k = some v ∧ left (.string k) = false) ↔ ∃ t ∈ l, t.key = k ∧ t.width = v
theorem col_start {D : DW} {f : Fn} (h : FnD D f) : Col f (has D) [] :=
  ⟨List.Pairwise.nil, fun k v => ⟨fun ⟨h1, h2⟩ => (by rw [(h.2 k).1, h1] at h2; cases h2), fun ⟨t, ht, _⟩ => (by cases ht)⟩⟩
theorem col_step {D : DW} {f : Fn} {left : Lit → Bool} {l : List Tb} {t : Tb} (hD : FnD D f) (h : Col f left l) (hl : left (.string t.key) = true) (hat : ∀ zd, D.atKey (.string t.key) zd = .lit (.int .i64 t.width)) :
    Col f (fun z => left z && !z.sameKey (.string t.key)) (l ++ [t]) := by
  have hf : f t.key = some t.width := by
    cases hv : f t.key with
    | none =>
      have h1 : has D (.string t.key) = false := by rw [(hD.2 t.key).1, hv]; rfl
      have := hat .nil
      rw [atKey_of_not_has h1] at this; cases this
    | some v =>
      have := (hD.2 t.key).2 v hv .nil
      rw [hat .nil] at this
      injection this with this; injection this with _ this; rw [this]
  have hne : ∀ s ∈ l, s.key ≠ t.key := by
    intro s hs e
    have := ((h.2 s.key s.width).2 ⟨s, hs, rfl, rfl⟩).2
    rw [e, hl] at this; cases this
  refine ⟨List.pairwise_append.2 ⟨h.1, by simp, fun a ha b hb => (by rw [show b = t from (by simpa using hb)]; exact hne a ha)⟩, fun k v => ?_⟩
  by_cases e : k = t.key
  · subst e
    have hs : (Lit.string t.key).sameKey (.string t.key) = true := WideAt.sameKey_self trivial
    constructor
    · rintro ⟨h1, _⟩
      rw [hf] at h1; injection h1 with h1
      exact ⟨t, by simp, rfl, h1⟩
    · rintro ⟨s, hs', h1, h2⟩
      refine ⟨?_, by simp [hs]⟩
      rcases List.mem_append.1 hs' with h3 | h3
      · exact absurd h1 (hne s h3)
      · simp at h3; subst h3; rw [hf, h2]
  · have hs : (Lit.string k).sameKey (.string t.key) = false := sameKey_ne fun h => e (by injection h)
    simp only [hs, Bool.not_false, Bool.and_true]
    rw [h.2 k v]
    constructor
    · rintro ⟨s, h1, h2, h3⟩; exact ⟨s, by simp [h1], h2, h3⟩
    · rintro ⟨s, h1, h2, h3⟩
      rcases List.mem_append.1 h1 with h1 | h1
      · exact ⟨s, h1, h2, h3⟩
      · simp at h1; subst h1; exact absurd h2.symm e
/-- What is collected and sorted by the names is told. -/
theorem col_told {f : Fn} {left : Lit → Bool} {l m : List Tb} (h : Col f left l) (hl : ∀ kl, left kl = false) (hp : m.Perm l) (hs : m.Pairwise (fun s t => ¬ t.key < s.key)) : ToldM f m := by
  have hn : m.Pairwise (fun s t => s.key ≠ t.key) := (hp.pairwise_iff (fun {a b} (h : a.key ≠ b.key) => h.symm)).2 h.1
  refine ⟨?_, fun k v => ?_⟩
  · refine (hs.and hn).imp ?_
    rintro s t ⟨h1, h2⟩
    rcases Std.lt_trichotomy (a := s.key) (b := t.key) with h3 | h3 | h3
    · exact h3
    · exact absurd h3 h2
    · exact absurd h3 h1
  · have := h.2 k v
    rw [hl] at this
    simp only [and_true] at this
    rw [this]
    constructor
    · rintro ⟨t, h1, h2⟩; exact ⟨t, hp.mem_iff.2 h1, h2⟩
    · rintro ⟨t, h1, h2⟩; exact ⟨t, hp.mem_iff.1 h1, h2⟩

/-- 'for name, width := range w': one step. -/
theorem wpList_next_si {P : Program} (w : World) {ops : Array Oper} {rest : List Oper} {o : Oper} {a : Act} {Q : Exit → Act → World → Prop} (hg : o.guard = none) (it : Operand) (hop : o.op = Op.next it false) (k e : TypeId) (K : Keyed P k) (hk : P.underlying k = some .string) (he : P.underlying e = some (.int .i64))
    (b r n : Nat) (D : DW) (left : Lit → Bool) (cnt : Nat) (hit : a.eval it = .pointer (some ⟨r, 0, none⟩)) (h : w.ranges P k (plainElem P e) b r n D left cnt)
    (hDone : cnt = 0 → (∀ kl, left kl = false) → wpList P ops Q rest (a.put o.dst (.tuple #[.bool false])) w)
    (hMore : ∀ (x : ByteArray) (c : Int) (w' : World) (cnt' : Nat), x.size ≤ maxLen → left (.string x.data.toList) = true → (∀ zd, D.atKey (.string x.data.toList) zd = .lit (.int .i64 c)) → w'.ranges P k (plainElem P e) b r n D (fun z => left z && !z.sameKey (.string x.data.toList)) cnt' → cnt' < cnt →
      w.grownBy w' (some r) → w'.heap.size = w.heap.size → (Instr.entry (.pointer (some ⟨r, 0, none⟩))).run P w' = .ok (.tuple #[.string x, .int .i64 c]) w' → wpList P ops Q rest (a.put o.dst (.tuple #[.bool true, .string x, .int .i64 c])) w') :
    wpList P ops Q (o :: rest) a w :=
  wpList_next_ranges w hg it hop k K (plainElem P e) Value.string (Value.int .i64) (fun key kl hkey => by obtain ⟨x, rfl, _⟩ := WideMaps.string_of_keyOf hk hkey; exact ⟨x, rfl⟩) (fun v y hv => by obtain ⟨c, rfl, _⟩ := plainElem_int_inv he hv; exact ⟨c, rfl⟩)
    b r n D left cnt hit h hDone (fun x c kl y w' cnt' hkey hlk hv hat hrg hlt hgr hsz hen => by
      obtain ⟨x', ex, rfl, hwx⟩ := WideMaps.string_of_keyOf hk hkey
      cases ex
      obtain ⟨c', ec, rfl, hwc⟩ := plainElem_int_inv he hv
      cases ec
      exact hMore x c w' cnt' hwx hlk hat hrg hlt hgr hsz hen)
end Go.Proofs.YtfpbhedophlnkaaGreatDoor
