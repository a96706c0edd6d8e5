/-
  Contract of markText: it answers one text for one number. For every number that is not too great. Words for slices of strings in memory: what a slice reads as, what the call itself owns, and how both are carried from world to world. No walk. Texts by their bytes: plain facts, and the contract of spec.l01Less. For every two texts. append of strings to a row of strings of the call's own: one string, or a whole slice of them. No walk.
-/
import Derived.Test.YtfbgflmolkgopaaK1
import Derived.Laws.Strings
import Derived.Laws.IdiomStrings
import Derived.Deep.RegionWith
import Derived.Deep.QuietTactic
import Derived.BigQuiet
import Derived.Maps.AppendAt
import Derived.OwnWalk
namespace Go.Proofs.Ytfbgflmolkgopaa
open Go.RowKit
set_option linter.unusedSimpArgs false
set_option linter.unusedVariables false

/-- The decimal digits of a number, at most f of them. -/
def digF : Nat → Nat → List UInt8
  | 0, _ => []
  | f + 1, n => if n = 0 then [] else digF f (n / 10) ++ [UInt8.ofNat (48 + n % 10)]
/-- The mark of a number. -/
def mtext (k : Int) : ByteArray := if k ≤ 0 then ⟨#[109, 48]⟩ else ⟨(109 :: digF 20 k.toNat).toArray⟩
theorem digF_step {f n : Nat} (h : 0 < n) : digF (f + 1) n = digF f (n / 10) ++ [UInt8.ofNat (48 + n % 10)] := by
  simp only [digF]; rw [if_neg (by omega)]
theorem digF_zero (f : Nat) : digF f 0 = [] := by cases f <;> simp [digF]
theorem digF_len : ∀ f n, (digF f n).length ≤ f
  | 0, _ => Nat.le_refl _
  | f + 1, n => by
    simp only [digF]; split
    · simp
    · have := digF_len f (n / 10); simp; omega
theorem mtext_size (k : Int) : (mtext k).size ≤ 21 := by
  unfold mtext; split
  · decide
  · have := digF_len 20 k.toNat
    simp [ByteArray.size]; omega

theorem app_bytes (a b : List UInt8) : ((⟨a.toArray⟩ : ByteArray) ++ (⟨b.toArray⟩ : ByteArray)) = ⟨(a ++ b).toArray⟩ := by
  apply ByteArray.ext
  simp

end Go.Proofs.Ytfbgflmolkgopaa
namespace Go.Proofs.Ytfbgflmolkgopaa
open Go.RowKit
set_option linter.unusedSimpArgs false
set_option linter.unusedVariables false

/-- The slice that begins at 'ao' reads as the strings l. -/
def RdS (w : World) (ao : Option Addr) (l : List ByteArray) : Prop :=
  l = [] ∨ ∃ b off, ao = some ⟨b, off, none⟩ ∧ ∀ i, i < l.length → w.cell? ⟨b, off + i, none⟩ = some (.string (l.getD i ByteArray.empty))

/-- A row of the call's own: a slice value of it, with the strings l. -/
def OwnS (w : World) (base : Nat) (ao : Option Addr) (c : Nat) (l : List ByteArray) : Prop :=
  w.ownsRow base 9 1 (.slice ao l.length c) l.length (l.map Value.string)

/-- The call returned a slice of its own with the strings l, and nothing that was there has turned. -/
def MadeS (w : World) (l : List ByteArray) (en : Ending) (w' : World) : Prop :=
  ∃ ao c, en = .returned (.slice ao l.length c) ∧ OwnS w' w.heap.size ao c l ∧ Below w.heap.size w w'

section
variable {w w' : World} {base : Nat} {ao : Option Addr} {c : Nat} {l : List ByteArray}

theorem RdS.keep (h : RdS w ao l) (hk : ∀ a p : Addr, ao = some a → p.block = a.block → p.block < w.heap.size → w'.cell? p = w.cell? p) : RdS w' ao l := by
  rcases h with rfl | ⟨b, off, rfl, hc⟩
  · exact .inl rfl
  · refine .inr ⟨b, off, rfl, fun i hi => ?_⟩
    have h1 := hc i hi
    rw [hk ⟨b, off, none⟩ ⟨b, off + i, none⟩ rfl rfl (World.block_lt_of_cell? w ⟨b, off + i, none⟩ h1)]
    exact h1
theorem RdS.below (h : RdS w ao l) (hb : Below w.heap.size w w') : RdS w' ao l := h.keep fun _ _ _ _ hp => hb.cell hp
theorem RdS.at_ {b off : Nat} {i : Nat} (hc : ∀ i, i < l.length → w.cell? ⟨b, off + i, none⟩ = some (.string (l.getD i ByteArray.empty))) (hi : i < l.length) :
    ∃ z, z ∈ l ∧ l[i]? = some z ∧ w.cell? ⟨b, off + i, none⟩ = some (.string z) ∧ l.take (i + 1) = l.take i ++ [z] := by
  refine ⟨l[i], List.getElem_mem hi, List.getElem?_eq_getElem hi, ?_, List.take_succ_eq_append_getElem hi⟩
  have := hc i hi
  rwa [List.getD_eq_getElem?_getD, List.getElem?_eq_getElem hi] at this

theorem OwnS.form (h : OwnS w base ao c l) : (ao = none ∧ c = 0 ∧ l = []) ∨ ∃ g, ao = some ⟨g, 0, none⟩ ∧ base ≤ g ∧ g < w.heap.size := by
  rcases h.2 with ⟨hv, hn⟩ | ⟨g, cap, cur, hv, hb, hg, _⟩
  · simp only [Value.slice.injEq] at hv
    exact .inl ⟨hv.1, hv.2.2, List.eq_nil_of_length_eq_zero hn⟩
  · simp only [Value.slice.injEq] at hv
    refine .inr ⟨g, hv.1, hb, ?_⟩
    rcases Nat.lt_or_ge g w.heap.size with hlt | hge
    · exact hlt
    · rw [Array.getElem?_eq_none hge] at hg; cases hg
theorem OwnS.lt (h : OwnS w base ao c l) : ∀ a, ao = some a → base ≤ a.block ∧ a.block < w.heap.size := by
  rcases h.form with ⟨rfl, _⟩ | ⟨g, rfl, h1, h2⟩
  · intro a ha; cases ha
  · intro a ha; cases ha; exact ⟨h1, h2⟩
theorem OwnS.len_le (h : OwnS w base ao c l) : l.length ≤ maxLen := by
  rcases h.2 with ⟨_, hn⟩ | ⟨g, cap, cur, _, _, _, h1, h2, _⟩
  · rw [hn]; exact Nat.zero_le _
  · exact Nat.le_trans h1 h2
theorem OwnS.cell {g : Nat} (h : OwnS w base (some ⟨g, 0, none⟩) c l) (i : Nat) (hi : i < l.length) : w.cell? ⟨g, i, none⟩ = some (.string (l.getD i ByteArray.empty)) := by
  have := World.ownsRow.cellAt h i (by omega)
  rw [this, List.getElem?_map, List.getD_eq_getElem?_getD, List.getElem?_eq_getElem hi]; rfl
theorem OwnS.rd (h : OwnS w base ao c l) : RdS w ao l := by
  rcases h.form with ⟨_, _, rfl⟩ | ⟨g, rfl, _⟩
  · exact .inl rfl
  · exact .inr ⟨g, 0, rfl, fun i hi => by rw [Nat.zero_add]; exact h.cell i hi⟩
theorem OwnS.keep (h : OwnS w base ao c l) (hk : ∀ a : Addr, ao = some a → a.block < w.heap.size → w'.heap[a.block]? = w.heap[a.block]?) : OwnS w' base ao c l := by
  refine ⟨h.1, ?_⟩
  have hl := h.lt
  rcases h.2 with h2 | ⟨g, cap, cur, hv, hb, hg, r⟩
  · exact .inl h2
  · refine .inr ⟨g, cap, cur, hv, hb, ?_, r⟩
    simp only [Value.slice.injEq] at hv
    rw [hk _ hv.1 (hl _ hv.1).2]; exact hg
theorem OwnS.below (h : OwnS w base ao c l) (hb : Below w.heap.size w w') : OwnS w' base ao c l := h.keep fun _ _ hlt => hb.block _ hlt
theorem OwnS.grown {row : Option Nat} (h : OwnS w base ao c l) (hg : w.grownBy w' row) (hne : ∀ a, ao = some a → some a.block ≠ row) : OwnS w' base ao c l :=
  h.keep fun a ha hlt => hg.block _ hlt (hne a ha)
theorem OwnS.base_le {base' : Nat} (h : OwnS w base ao c l) (hb : base' ≤ base) : OwnS w base' ao c l := by
  refine ⟨h.1, ?_⟩
  rcases h.2 with h2 | ⟨g, cap, cur, hv, hg, r⟩
  · exact .inl h2
  · exact .inr ⟨g, cap, cur, hv, Nat.le_trans hb hg, r⟩
theorem OwnS.none_ : OwnS w base none 0 [] := World.ownsRow_nil _ _ _ _
theorem OwnS.apart {ao' : Option Addr} (h : OwnS w base ao c l) (hg : w.grownBy w' (ao'.map (·.block))) (hne : ∀ a b, ao = some a → ao' = some b → a.block ≠ b.block) : OwnS w' base ao c l :=
  h.grown hg (by
    intro a ha
    cases ao' with
    | none => simp
    | some b => simp; exact hne a b ha rfl)
end

/-- Whether two rows of strings are the same. -/
def eqSs (a b : List ByteArray) : Bool := decide (a.map ByteArray.toList = b.map ByteArray.toList)
theorem eqSs_no {l m : List ByteArray} {j : Nat} {x y : ByteArray} (h : ¬ x.toList = y.toList) (hx : l[j]? = some x) (hy : m[j]? = some y) : eqSs l m = false := by
  unfold eqSs; simp only [decide_eq_false_iff_not]
  intro he
  have h1 : (l.map ByteArray.toList)[j]? = some x.toList := by rw [List.getElem?_map, hx]; rfl
  have h2 : (m.map ByteArray.toList)[j]? = some y.toList := by rw [List.getElem?_map, hy]; rfl
  rw [he, h2] at h1
  exact h (by injection h1 with h1; exact h1.symm)
theorem eqSs_yes {l m : List ByteArray} {j : Nat} (h : l.length = m.length) (hj : l.length ≤ j) (ht : (l.take j).map ByteArray.toList = (m.take j).map ByteArray.toList) : eqSs l m = true := by
  unfold eqSs; rw [List.take_of_length_le hj, List.take_of_length_le (by omega)] at ht; simpa using ht
theorem eqSs_refl (l : List ByteArray) : eqSs l l = true := by unfold eqSs; simp

/-- What marking lays into n cells from the number m on. -/
def marksS (m : Int) (n : Nat) : List ByteArray := (List.range n).map fun (i : Nat) => mtext (m + (i : Int))
theorem marksS_len (m : Int) (n : Nat) : (marksS m n).length = n := by simp [marksS]
theorem marksS_succ (m : Int) (n : Nat) : marksS m (n + 1) = marksS m n ++ [mtext (m + (n : Int))] := by simp [marksS, List.range_succ]
theorem marksS_get (m : Int) (n i : Nat) (h : i < n) : (marksS m n)[i]? = some (mtext (m + (i : Int))) := by simp [marksS, h]
theorem marksS_step (m : Int) (l : List ByteArray) (j : Nat) (h : j < l.length) : (marksS m j ++ l.drop j).set j (mtext (m + (j : Int))) = marksS m (j + 1) ++ l.drop (j + 1) := by
  rw [List.set_append_right _ _ (by rw [marksS_len]; exact Nat.le_refl _), marksS_len, Nat.sub_self, marksS_succ, List.append_assoc, List.drop_eq_getElem_cons h]
  rfl
theorem map_set_str (l : List ByteArray) (i : Nat) (z : ByteArray) : (l.map Value.string).set i (.string z) = (l.set i z).map Value.string := by
  rw [List.map_set]
end Go.Proofs.Ytfbgflmolkgopaa
namespace Go.Proofs.Ytfbgflmolkgopaa
open Go.RowKit
set_option linter.unusedSimpArgs false
set_option linter.unusedVariables false

theorem less_at {x y : UInt8} : ∀ (j : Nat) (a b : List UInt8), a.take j = b.take j → a[j]? = some x → b[j]? = some y → x ≠ y → (a < b ↔ x < y)
  | 0, [], _, _, h, _, _ => by simp at h
  | 0, _ :: _, [], _, _, h, _ => by simp at h
  | 0, u :: a, v :: b, _, hx, hy, hxy => by
    simp at hx hy; subst hx hy
    rw [List.cons_lt_cons_iff]
    constructor
    · rintro (h | ⟨h, _⟩)
      · exact h
      · exact absurd h hxy
    · exact fun h => .inl h
  | j + 1, [], _, _, h, _, _ => by simp at h
  | j + 1, _ :: _, [], _, _, h, _ => by simp at h
  | j + 1, u :: a, v :: b, ht, hx, hy, hxy => by
    simp only [List.take_succ_cons, List.cons.injEq] at ht
    obtain ⟨rfl, ht⟩ := ht
    simp only [List.getElem?_cons_succ] at hx hy
    rw [List.cons_lt_cons_iff, ← less_at j a b ht hx hy hxy]
    constructor
    · rintro (h | ⟨_, h⟩)
      · exact absurd h (UInt8.lt_irrefl _)
      · exact h
    · exact fun h => .inr ⟨rfl, h⟩
theorem less_end : ∀ (j : Nat) (a b : List UInt8), a.take j = b.take j → (a.length = j ∧ j ≤ b.length ∨ j ≤ a.length ∧ b.length = j) → (a < b ↔ a.length < b.length)
  | 0, [], [], _, _ => by simp
  | 0, [], _ :: _, _, _ => by simp
  | 0, _ :: _, [], _, _ => by simp
  | 0, _ :: _, _ :: _, _, h => by simp at h
  | j + 1, [], b, _, h => by simp at h
  | j + 1, u :: a, [], _, h => by simp at h
  | j + 1, u :: a, v :: b, ht, h => by
    simp only [List.take_succ_cons, List.cons.injEq] at ht
    obtain ⟨rfl, ht⟩ := ht
    simp only [List.length_cons] at h ⊢
    rw [List.cons_lt_cons_iff]
    have := less_end j a b ht (by omega)
    constructor
    · rintro (h | ⟨_, h⟩)
      · exact absurd h (UInt8.lt_irrefl _)
      · have := this.1 h; omega
    · exact fun h => .inr ⟨rfl, this.2 (by omega)⟩

/-- Whether a text is before another. -/
def lessS (a b : ByteArray) : Bool := decide (a.data.toList < b.data.toList)

end Go.Proofs.Ytfbgflmolkgopaa
namespace Go.Proofs.Ytfbgflmolkgopaa
open Go.RowKit
set_option linter.unusedSimpArgs false
set_option linter.unusedVariables false

theorem Try.infoStr : (Try.prog.info? 9).map (fun i => (i.zero, i.size, i.bytes)) = some (some (.string ⟨#[]⟩), 1, 16) := by kernel_rfl

/-- 'append(xs, ys...)' at a slice of strings of the call's own. -/
theorem wpList_appendSs {P : Program} (w : World) {ops : Array Oper} {rest : List Oper} {o : Oper} {a : Act} {Q : Exit → Act → World → Prop} (hgd : o.guard = none) (s x : Operand) (t : TypeId)
    (ho : o.op = .call { callee := .builtin .append, args := #[s, x], argTypes := #[t, t] }) (base : Nat) (ht : P.underlying t = some (.slice 9))
    (hi : (P.info? 9).map (fun i => (i.zero, i.size, i.bytes)) = some (some (.string ⟨#[]⟩), 1, 16))
    (ao : Option Addr) (c n : Nat) (l : List ByteArray) (hs : a.eval s = .slice ao n c) (hn : n = l.length) (hown : OwnS w base ao c l)
    (bl m cx : Nat) (ys : List ByteArray) (hx : a.eval x = .slice (some ⟨bl, 0, none⟩) m cx) (hm : m = ys.length) (hv : ∀ i, i < ys.length → w.cell? ⟨bl, i, none⟩ = some (.string (ys.getD i ByteArray.empty)))
    (hby : l.length + ys.length ≤ 1048576) (hbase : base ≤ w.heap.size)
    (h : ∀ ao' c' w', OwnS w' base ao' c' (l ++ ys) → w.grownBy w' (ao.map (·.block)) → wpList P ops Q rest (a.put o.dst (.slice ao' (l ++ ys).length c')) w') :
    wpList P ops Q (o :: rest) a w := by
  obtain ⟨i, hi0, hz0, hz1, hz2⟩ := info_parts hi
  subst hn hm
  refine wpList_append_own_at w hgd s x t ho base 9 i (.string ⟨#[]⟩) 1 16 ht hi0 hz0 hz1 hz2 rfl (by omega) _ l.length (l.map Value.string) hs hown ⟨bl, 0, none⟩ ys.length cx (ys.map Value.string) hx (by simp) ?_ ?_ (by unfold maxLen; omega) (by omega) hbase ?_
  · intro j u hj
    rw [List.getElem?_map] at hj
    cases hy : ys[j]? with
    | none => rw [hy] at hj; cases hj
    | some y =>
      rw [hy] at hj; simp at hj; subst hj
      have hlt : j < ys.length := by
        rcases Nat.lt_or_ge j ys.length with h1 | h1
        · exact h1
        · rw [List.getElem?_eq_none h1] at hy; cases hy
      have := hv j hlt
      rw [List.getD_eq_getElem?_getD, hy] at this
      by_cases h0 : j = 0
      · subst h0; simpa [Addr.add] using this
      · simpa [Addr.add, h0] using this
  · intro u hu
    obtain ⟨y, _, rfl⟩ := List.mem_map.1 hu
    rfl
  · intro v' w' ho' hg' _ hblk
    have hg2 : w.grownBy w' (ao.map (·.block)) := by
      cases ao with
      | none => exact hg'
      | some x => exact hg'
    have hlen : (l ++ ys).length = l.length + ys.length := by simp
    rw [← List.map_append] at ho'
    rcases ho'.2 with ⟨rfl, hz⟩ | ⟨g, cap, cur, rfl, r⟩
    · have hl0 : l ++ ys = [] := List.eq_nil_of_length_eq_zero (by omega)
      have := h none 0 w' (by rw [hl0]; exact OwnS.none_) hg2
      rw [hl0] at this; exact this
    · have := h _ _ _ (by unfold OwnS; rw [hlen]; exact ho') hg2
      rw [hlen] at this; exact this
theorem below_appS {w wr w1 : World} {ao : Option Addr} {c : Nat} {l : List ByteArray} {o : Obj} (hb : Below w.heap.size w wr) (ho : OwnS wr w.heap.size ao c l) (hg : (wr.alloc o).grownBy w1 (ao.map (·.block))) : Below w.heap.size w w1 := by
  refine (hb.alloc hb.size o).grown hg (by have := hb.size; simp; omega) ?_
  intro g hg'
  rcases ao with _ | a
  · cases hg'
  · simp at hg'; subst hg'; exact (ho.lt a rfl).1
theorem below_appS0 {w wr w1 : World} {ao : Option Addr} {c : Nat} {l : List ByteArray} (hb : Below w.heap.size w wr) (ho : OwnS wr w.heap.size ao c l) (hg : wr.grownBy w1 (ao.map (·.block))) : Below w.heap.size w w1 := by
  refine hb.grown hg hb.size ?_
  intro g hg'
  rcases ao with _ | a
  · cases hg'
  · simp at hg'; subst hg'; exact (ho.lt a rfl).1
theorem OwnS.alloc {w : World} {base : Nat} {ao : Option Addr} {c : Nat} {l : List ByteArray} (h : OwnS w base ao c l) (o : Obj) : OwnS (w.alloc o) base ao c l :=
  h.below ((Below.refl _ _).alloc (Nat.le_refl _) o)
end Go.Proofs.Ytfbgflmolkgopaa
