/-
  Words for slices of integers in memory: what a slice reads as, what the call itself owns, and how both are carried from world to world. No program, no walk. append of one value of one cell to a row that the call itself made, or to nil. No walk. Plain facts on lists of bytes and on numbers, used by the proofs of this seat. No program, no walk.
-/
import Derived.Below
import Derived.OwnWalk
import Derived.Laws.OwnMore
import Derived.Deep.Draws
import Derived.Lib.Hide
import Derived.Maps.AppendAt
namespace Go.Proofs.YtanfllednlpbaaaGreat
open Go.RowKit
set_option linter.unusedSimpArgs false
set_option linter.unusedVariables false

theorem ret_bool {a b : Bool} (h : a = b) : Ending.returned (.bool a) = .returned (.bool b) := by rw [h]
theorem ret_slice {ao : Option Addr} {n m c : Nat} (h : n = m) : Ending.returned (.slice ao n c) = .returned (.slice ao m c) := by rw [h]
theorem ret_int {k : IntKind} {a b : Int} (h : a = b) : Ending.returned (.int k a) = .returned (.int k b) := by rw [h]

/-- The slice that begins at 'ao' reads as the numbers l. -/
def Rd (w : World) (k : IntKind) (ao : Option Addr) (l : List Int) : Prop :=
  l = [] ∨ ∃ b off, ao = some ⟨b, off, none⟩ ∧ ∀ i, i < l.length → w.cell? ⟨b, off + i, none⟩ = some (.int k (l.getD i 0))

/-- A row of the call's own: a slice value of it, with the numbers l. -/
def Own (w : World) (base : Nat) (e : TypeId) (k : IntKind) (ao : Option Addr) (c : Nat) (l : List Int) : Prop :=
  w.ownsRow base e 1 (.slice ao l.length c) l.length (l.map (Value.int k))

/-- Bytes. -/
def By (l : List Int) : Prop := ∀ z ∈ l, 0 ≤ z ∧ z < 256

/-- The call returned a slice of its own with the numbers l, and nothing that was there has turned. -/
def Made (w : World) (e : TypeId) (k : IntKind) (l : List Int) (en : Ending) (w' : World) : Prop :=
  ∃ ao c, en = .returned (.slice ao l.length c) ∧ Own w' w.heap.size e k ao c l ∧ Below w.heap.size w w'

/-- As 'Made', beside a bool. -/
def Made2 (w : World) (e : TypeId) (k : IntKind) (l : List Int) (ok : Bool) (en : Ending) (w' : World) : Prop :=
  ∃ ao c, en = .returned (.tuple #[.slice ao l.length c, .bool ok]) ∧ Own w' w.heap.size e k ao c l ∧ Below w.heap.size w w'
theorem ret_two {ao : Option Addr} {n m c : Nat} {b : Bool} (h : n = m) : Ending.returned (.tuple #[.slice ao n c, .bool b]) = .returned (.tuple #[.slice ao m c, .bool b]) := by rw [h]

section
variable {w w' : World} {base : Nat} {e : TypeId} {k : IntKind} {ao : Option Addr} {c : Nat} {l : List Int}

theorem Rd.nil : Rd w k ao [] := .inl rfl
theorem Rd.keep (h : Rd w k ao l) (hk : ∀ a p : Addr, ao = some a → p.block = a.block → p.block < w.heap.size → w'.cell? p = w.cell? p) : Rd w' k ao l := by
  rcases h with rfl | ⟨b, off, rfl, hc⟩
  · exact .inl rfl
  · refine .inr ⟨b, off, rfl, fun i hi => ?_⟩
    have h1 := hc i hi
    rw [hk ⟨b, off, none⟩ ⟨b, off + i, none⟩ rfl rfl (World.block_lt_of_cell? w ⟨b, off + i, none⟩ h1)]
    exact h1
theorem Rd.below (h : Rd w k ao l) (hb : Below w.heap.size w w') : Rd w' k ao l := h.keep fun _ _ _ _ hp => hb.cell hp
theorem Rd.grown {row : Option Nat} (h : Rd w k ao l) (hg : w.grownBy w' row) (hne : ∀ a, ao = some a → some a.block ≠ row) : Rd w' k ao l :=
  h.keep fun a p ha hp hlt => World.cell?_of_block (hg.block p.block hlt (by rw [hp]; exact hne a ha))
/-- What a round needs of the element at its place. -/
theorem Rd.at_ {b off : Nat} {i : Nat} (hc : ∀ i, i < l.length → w.cell? ⟨b, off + i, none⟩ = some (.int k (l.getD i 0))) (hi : i < l.length) :
    ∃ z, z ∈ l ∧ l[i]? = some z ∧ w.cell? ⟨b, off + i, none⟩ = some (.int k z) ∧ l.take (i + 1) = l.take i ++ [z] := by
  refine ⟨l[i], List.getElem_mem hi, List.getElem?_eq_getElem hi, ?_, List.take_succ_eq_append_getElem hi⟩
  have := hc i hi
  rwa [List.getD_eq_getElem?_getD, List.getElem?_eq_getElem hi] at this

theorem Own.form (h : Own w base e k ao c l) : (ao = none ∧ c = 0 ∧ l = []) ∨ ∃ g, ao = some ⟨g, 0, none⟩ ∧ base ≤ g ∧ g < w.heap.size := by
  rcases h.2 with ⟨hv, hn⟩ | ⟨g, cap, cur, hv, hb, hg, _⟩
  · simp only [Value.slice.injEq] at hv
    exact .inl ⟨hv.1, hv.2.2, List.eq_nil_of_length_eq_zero hn⟩
  · simp only [Value.slice.injEq] at hv
    refine .inr ⟨g, hv.1, hb, ?_⟩
    rcases Nat.lt_or_ge g w.heap.size with hlt | hge
    · exact hlt
    · rw [Array.getElem?_eq_none hge] at hg; cases hg
theorem Own.nilcap (h : Own w base e k ao c l) : ao = none → c = 0 := by
  rcases h.form with ⟨_, hc, _⟩ | ⟨g, rfl, _⟩
  · exact fun _ => hc
  · intro hh; cases hh
theorem Own.cap_ge (h : Own w base e k ao c l) : l.length ≤ c := by
  rcases h.2 with ⟨hv, hn⟩ | ⟨g, cap, cur, hv, _, _, h1, _⟩
  · omega
  · simp only [Value.slice.injEq] at hv; omega
theorem Own.cap_le (h : Own w base e k ao c l) : c ≤ maxLen := by
  rcases h.2 with ⟨hv, _⟩ | ⟨g, cap, cur, hv, _, _, _, h2, _⟩
  · simp only [Value.slice.injEq] at hv; rw [hv.2.2]; exact Nat.zero_le _
  · simp only [Value.slice.injEq] at hv; rw [hv.2.2]; exact h2
theorem Own.lt (h : Own w base e k ao c l) : ∀ a, ao = some a → base ≤ a.block ∧ a.block < w.heap.size := by
  rcases h.form with ⟨rfl, _⟩ | ⟨g, rfl, h1, h2⟩
  · intro a ha; cases ha
  · intro a ha; cases ha; exact ⟨h1, h2⟩
theorem Own.len_le (h : Own w base e k ao c l) : l.length ≤ maxLen := by
  rcases h.2 with ⟨_, hn⟩ | ⟨g, cap, cur, _, _, _, h1, h2, _⟩
  · rw [hn]; exact Nat.zero_le _
  · exact Nat.le_trans h1 h2
theorem Own.cell {g : Nat} (h : Own w base e k (some ⟨g, 0, none⟩) c l) (i : Nat) (hi : i < l.length) : w.cell? ⟨g, i, none⟩ = some (.int k (l.getD i 0)) := by
  have := World.ownsRow.cellAt h i (by omega)
  rw [this, List.getElem?_map, List.getD_eq_getElem?_getD, List.getElem?_eq_getElem hi]; rfl
theorem Own.rd (h : Own w base e k ao c l) : Rd w k ao l := by
  rcases h.form with ⟨_, _, rfl⟩ | ⟨g, rfl, _⟩
  · exact .inl rfl
  · exact .inr ⟨g, 0, rfl, fun i hi => by rw [Nat.zero_add]; exact h.cell i hi⟩
theorem Own.keep (h : Own w base e k ao c l) (hk : ∀ a : Addr, ao = some a → a.block < w.heap.size → w'.heap[a.block]? = w.heap[a.block]?) : Own w' base e k ao c l := by
  refine ⟨h.1, ?_⟩
  have hl := h.lt
  rcases h.2 with h2 | ⟨g, cap, cur, hv, hb, hg, r⟩
  · exact .inl h2
  · refine .inr ⟨g, cap, cur, hv, hb, ?_, r⟩
    simp only [Value.slice.injEq] at hv
    rw [hk _ hv.1 (hl _ hv.1).2]; exact hg
theorem Own.below (h : Own w base e k ao c l) (hb : Below w.heap.size w w') : Own w' base e k ao c l := h.keep fun _ _ hlt => hb.block _ hlt
theorem Own.grown {row : Option Nat} (h : Own w base e k ao c l) (hg : w.grownBy w' row) (hne : ∀ a, ao = some a → some a.block ≠ row) : Own w' base e k ao c l :=
  h.keep fun a ha hlt => hg.block _ hlt (hne a ha)
theorem Own.base_le {base' : Nat} (h : Own w base e k ao c l) (hb : base' ≤ base) : Own w base' e k ao c l := by
  refine ⟨h.1, ?_⟩
  rcases h.2 with h2 | ⟨g, cap, cur, hv, hg, r⟩
  · exact .inl h2
  · exact .inr ⟨g, cap, cur, hv, Nat.le_trans hb hg, r⟩
theorem Own.alloc (h : Own w base e k ao c l) (o : Obj) : Own (w.alloc o) base e k ao c l := h.below ((Below.refl _ _).alloc (Nat.le_refl _) o)
theorem Own.none_ : Own w base e k none 0 [] := World.ownsRow_nil _ _ _ _
theorem By.nil : By [] := by intro z hz; cases hz
theorem By.app {a b : List Int} (ha : By a) (hb : By b) : By (a ++ b) := by
  intro z hz; rcases List.mem_append.1 hz with h | h
  · exact ha z h
  · exact hb z h
theorem By.one {z : Int} (h0 : 0 ≤ z) (h1 : z < 256) : By [z] := by intro y hy; simp at hy; subst hy; exact ⟨h0, h1⟩
theorem below_step {B : Nat} {a b d : World} (h : Below B a b) (hB : B ≤ a.heap.size) (k : Below b.heap.size b d) : Below B a d := h.trans (k.mono (Nat.le_trans hB h.size))
theorem below_grow {B : Nat} {a b d : World} {ao : Option Addr} (h : Below B a b) (hB : B ≤ a.heap.size) (k : b.grownBy d (ao.map (·.block))) (hr : ∀ x, ao = some x → B ≤ x.block) : Below B a d :=
  h.grown k (Nat.le_trans hB h.size) (by
    intro g hg
    cases ao with
    | none => cases hg
    | some x => simp at hg; subst hg; exact hr x rfl)
/-- Two rows whose blocks differ: what is done to the second leaves the first. -/
theorem Own.apart {ao' : Option Addr} (h : Own w base e k ao c l) (hg : w.grownBy w' (ao'.map (·.block))) (hne : ∀ a b, ao = some a → ao' = some b → a.block ≠ b.block) : Own w' base e k ao c l :=
  h.grown hg (by
    intro a ha
    cases ao' with
    | none => simp
    | some b => simp; exact hne a b ha rfl)
theorem below_of_grown {B : Nat} {row : Option Nat} (hg : w.grownBy w' row) (hB : B ≤ w.heap.size) (hr : ∀ g, row = some g → B ≤ g) : Below B w w' :=
  (Below.refl B w).grown hg hB hr
end
theorem cell_one (w : World) (v : Value) (t : TypeId) : (w.alloc (Obj.cells #[v] t)).cell? ⟨w.heap.size, 0, none⟩ = some v := by
  rw [World.cell?_alloc_new]; rfl
end Go.Proofs.YtanfllednlpbaaaGreat
namespace Go.Proofs.YtanfllednlpbaaaGreat
open Go.RowKit
set_option linter.unusedSimpArgs false
set_option linter.unusedVariables false

/-- A row of the call's own: a slice value of it, with the cells xs. -/
def OwnV (w : World) (base : Nat) (e : TypeId) (ao : Option Addr) (c : Nat) (xs : List Value) : Prop :=
  w.ownsRow base e 1 (.slice ao xs.length c) xs.length xs

section
variable {w w' : World} {base : Nat} {e : TypeId} {ao : Option Addr} {c : Nat} {xs : List Value}
theorem OwnV.none_ : OwnV w base e none 0 [] := World.ownsRow_nil _ _ _ _
theorem OwnV.form (h : OwnV w base e ao c xs) : (ao = none ∧ c = 0 ∧ xs = []) ∨ ∃ g, ao = some ⟨g, 0, none⟩ ∧ base ≤ g ∧ g < w.heap.size := by
  rcases h.2 with ⟨hv, hn⟩ | ⟨g, cap, cur, hv, hb, hg, _⟩
  · simp only [Value.slice.injEq] at hv
    exact .inl ⟨hv.1, hv.2.2, List.eq_nil_of_length_eq_zero hn⟩
  · simp only [Value.slice.injEq] at hv
    refine .inr ⟨g, hv.1, hb, ?_⟩
    rcases Nat.lt_or_ge g w.heap.size with hlt | hge
    · exact hlt
    · rw [Array.getElem?_eq_none hge] at hg; cases hg
theorem OwnV.lt (h : OwnV w base e ao c xs) : ∀ a, ao = some a → base ≤ a.block ∧ a.block < w.heap.size := by
  rcases h.form with ⟨rfl, _⟩ | ⟨g, rfl, h1, h2⟩
  · intro a ha; cases ha
  · intro a ha; cases ha; exact ⟨h1, h2⟩
theorem OwnV.cell {g : Nat} (h : OwnV w base e (some ⟨g, 0, none⟩) c xs) (i : Nat) (hi : i < xs.length) : w.cell? ⟨g, i, none⟩ = xs[i]? := World.ownsRow.cellAt h i (by omega)
theorem OwnV.keep (h : OwnV w base e ao c xs) (hk : ∀ a : Addr, ao = some a → a.block < w.heap.size → w'.heap[a.block]? = w.heap[a.block]?) : OwnV w' base e ao c xs := by
  refine ⟨h.1, ?_⟩
  have hl := h.lt
  rcases h.2 with h2 | ⟨g, cap, cur, hv, hb, hg, r⟩
  · exact .inl h2
  · refine .inr ⟨g, cap, cur, hv, hb, ?_, r⟩
    simp only [Value.slice.injEq] at hv
    rw [hk _ hv.1 (hl _ hv.1).2]; exact hg
theorem OwnV.below (h : OwnV w base e ao c xs) (hb : Below w.heap.size w w') : OwnV w' base e ao c xs := h.keep fun _ _ hlt => hb.block _ hlt
theorem OwnV.alloc (h : OwnV w base e ao c xs) (o : Obj) : OwnV (w.alloc o) base e ao c xs := h.below ((Below.refl _ _).alloc (Nat.le_refl _) o)
theorem OwnV.far (h : OwnV w base e ao c xs) {p : Addr} (hp : ∀ x, ao = some x → x.block ≠ p.block) (u : Value) : OwnV (w.setCell p u) base e ao c xs :=
  h.keep fun a ha _ => Below.heap_setCell w p u a.block (hp a ha)
theorem OwnV.base_le {base' : Nat} (h : OwnV w base e ao c xs) (hb : base' ≤ base) : OwnV w base' e ao c xs := by
  refine ⟨h.1, ?_⟩
  rcases h.2 with h2 | ⟨g, cap, cur, hv, hg, r⟩
  · exact .inl h2
  · exact .inr ⟨g, cap, cur, hv, Nat.le_trans hb hg, r⟩
end

/-- 'append(xs, v)': v lies in a block of its own. -/
theorem wpList_appendV {P : Program} (w : World) {ops : Array Oper} {rest : List Oper} {o : Oper} {a : Act} {Q : Exit → Act → World → Prop} (hgd : o.guard = none) (s x : Operand) (t : TypeId)
    (ho : o.op = .call { callee := .builtin .append, args := #[s, x], argTypes := #[t, t] }) (base : Nat) (e : TypeId) (z : Value) (bytes : Nat) (ht : P.underlying t = some (.slice e))
    (hi : (P.info? e).map (fun i => (i.zero, i.size, i.bytes)) = some (some z, 1, bytes)) (hzs : z.cells.size = 1)
    (ao : Option Addr) (c n : Nat) (xs : List Value) (hs : a.eval s = .slice ao n c) (hn : n = xs.length) (hown : OwnV w base e ao c xs)
    (bl cx : Nat) (v : Value) (hx : a.eval x = .slice (some ⟨bl, 0, none⟩) 1 cx) (hv : w.cell? ⟨bl, 0, none⟩ = some v) (hv1 : v.oneCell' = true)
    (h63 : xs.length + 1 ≤ maxLen) (hby : (xs.length + 1) * bytes ≤ 140737488355328) (hbase : base ≤ w.heap.size)
    (h : ∀ ao' c' w', OwnV w' base e ao' c' (xs ++ [v]) → w.grownBy w' (ao.map (·.block)) → (ao' = ao ∨ ao' = some ⟨w.heap.size, 0, none⟩) → wpList P ops Q rest (a.put o.dst (.slice ao' (xs.length + 1) c')) w') :
    wpList P ops Q (o :: rest) a w := by
  obtain ⟨i, hi0, hz0, hz1, hz2⟩ := info_parts hi
  subst hn
  refine wpList_append_own_at w hgd s x t ho base e i z 1 bytes ht hi0 hz0 hz1 hz2 hzs (by omega) _ xs.length xs hs hown ⟨bl, 0, none⟩ 1 cx [v] hx rfl ?_ ?_ h63 hby hbase ?_
  · intro j u hj
    match j, hj with
    | 0, hj => simp at hj; subst hj; simpa [Addr.add] using hv
  · intro u hu; simp at hu; subst hu; exact hv1
  · intro v' w' ho' hg' _ hblk
    have hg2 : w.grownBy w' (ao.map (·.block)) := by
      cases ao with
      | none => exact hg'
      | some x => exact hg'
    have hlen : (xs ++ [v]).length = xs.length + 1 := by simp
    rcases ho'.2 with ⟨rfl, hz⟩ | ⟨g, cap, cur, rfl, r⟩
    · omega
    · refine h _ _ _ (by unfold OwnV; rw [hlen]; exact ho') hg2 ?_
      rcases hblk with hb | hb
      · cases ao with
        | none => simp [Value.ownBlock] at hb
        | some x =>
          left
          rcases hown.form with ⟨hh, _⟩ | ⟨g', hh, _⟩
          · cases hh
          · cases hh
            simp [Value.ownBlock] at hb
            rw [hb]
      · right; simp [Value.ownBlock] at hb; rw [hb]
end Go.Proofs.YtanfllednlpbaaaGreat
namespace Go.Proofs.YtanfllednlpbaaaGreat
set_option linter.unusedSimpArgs false
set_option linter.unusedVariables false

/-- A letter a .. z or a digit. -/
def charB (c : Nat) : Bool := (decide (97 ≤ c) && decide (c ≤ 122)) || (decide (48 ≤ c) && decide (c ≤ 57))
def allB (l : List UInt8) : Bool := l.all fun c => charB c.toNat
/-- What chapter 1 calls a word. -/
def wordB (l : List UInt8) : Bool := decide (1 ≤ l.length) && decide (l.length ≤ 12) && decide (97 ≤ (l.headD 0).toNat) && allB l

theorem allB_take_succ (s : ByteArray) (k : Nat) (h : k < s.size) : allB (s.data.toList.take (k + 1)) = (allB (s.data.toList.take k) && charB s[k].toNat) := by
  have e : s.data.toList.take (k + 1) = s.data.toList.take k ++ [s[k]] := by rw [List.take_succ_eq_append_getElem (by simpa using h)]; rfl
  rw [e]; unfold allB; simp
theorem allB_false_of (s : ByteArray) (k : Nat) (h : k < s.size) (hc : charB s[k].toNat = false) : allB s.data.toList = false := by
  unfold allB
  rw [List.all_eq_false]
  exact ⟨s[k], by simp [ByteArray.getElem_eq_getElem_data], by simp [hc]⟩
theorem head_eq (s : ByteArray) (h : 0 < s.size) : s.data.toList.headD 0 = s[0] := by
  rcases s with ⟨⟨l⟩⟩
  cases l with
  | nil => simp [ByteArray.size] at h
  | cons a l => rfl
theorem charT {n : Nat} (h : (97 ≤ n ∧ n ≤ 122) ∨ (48 ≤ n ∧ n ≤ 57)) : charB n = true := by unfold charB; simp; omega
theorem charF {n : Nat} (h : ¬ ((97 ≤ n ∧ n ≤ 122) ∨ (48 ≤ n ∧ n ≤ 57))) : charB n = false := by
  cases hc : charB n with
  | false => rfl
  | true => exact absurd (by unfold charB at hc; simpa using hc) h
theorem char_of {n : Nat} (h : charB n = true) : (97 ≤ n ∧ n ≤ 122) ∨ (48 ≤ n ∧ n ≤ 57) := by unfold charB at h; simpa using h
theorem wordB_no {s : ByteArray} {k : Nat} (h : k < s.size) (hc : charB s[k].toNat = false) : wordB s.data.toList = false := by
  unfold wordB; rw [allB_false_of s k h hc]; simp
theorem wordB_head {s : ByteArray} (h : 0 < s.size) (hc : s[0].toNat < 97) : wordB s.data.toList = false := by
  unfold wordB; rw [head_eq s h]; simp; omega
theorem wordB_len {s : ByteArray} (h : ¬ (1 ≤ s.size ∧ s.size ≤ 12)) : wordB s.data.toList = false := by
  unfold wordB; simp; omega
theorem wordB_yes {s : ByteArray} (h1 : 1 ≤ s.size) (h2 : s.size ≤ 12) (h3 : 97 ≤ s[0].toNat) (k : Nat) (hk : s.size ≤ k) (ha : allB (s.data.toList.take k) = true) : wordB s.data.toList = true := by
  rw [List.take_of_length_le (by simpa using hk)] at ha
  unfold wordB; rw [head_eq s (by omega), ha]; simp; omega
end Go.Proofs.YtanfllednlpbaaaGreat
