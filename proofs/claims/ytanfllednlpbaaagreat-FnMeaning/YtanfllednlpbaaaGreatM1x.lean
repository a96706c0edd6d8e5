/-
  Words for slices of integers in memory: what a slice reads as, what the call itself owns, and how both are carried from world to world. No program, no walk. What a walk is told of a slice of integers that came in, and that it reads as a list. No program, no walk. Plain facts on lists of bytes and on numbers, used by the proofs of this seat. No program, no walk. Nodes and plans as plain data: which node is one, where a tree of a list ends, how deep it is, the tree itself and what is found in it. No program, no walk.
-/
import Derived.Below
import Derived.OwnWalk
import Derived.Laws.OwnMore
import Derived.Deep.Draws
import Derived.Lib.Hide
import Derived.WalkKit
import Derived.ProofKit
namespace Go.Proofs.YtanfllednlpbaaaGreat
open Go.RowKit
set_option linter.unusedSimpArgs false
set_option linter.unusedVariables false
theorem ret_bool {a b : Bool} (h : a = b) : Ending.returned (.bool a) = .returned (.bool b) := by rw [h]
theorem ret_slice {ao : Option Addr} {n m c : Nat} (h : n = m) : Ending.returned (.slice ao n c) = .returned (.slice ao m c) := by rw [h]
theorem ret_int {k : IntKind} {a b : Int} (h : a = b) : Ending.returned (.int k a) = .returned (.int k b) := by rw [h]
def Rd (w : World) (k : IntKind) (ao : Option Addr) (l : List Int) : Prop :=
  l = [] ∨ ∃ b off, ao = some ⟨b, off, none⟩ ∧ ∀ i, i < l.length → w.cell? ⟨b, off + i, none⟩ = some (.int k (l.getD i 0))
def Own (w : World) (base : Nat) (e : TypeId) (k : IntKind) (ao : Option Addr) (c : Nat) (l : List Int) : Prop :=
  w.ownsRow base e 1 (.slice ao l.length c) l.length (l.map (Value.int k))
def By (l : List Int) : Prop := ∀ z ∈ l, 0 ≤ z ∧ z < 256
def Made (w : World) (e : TypeId) (k : IntKind) (l : List Int) (en : Ending) (w' : World) : Prop :=
  ∃ ao c, en = .returned (.slice ao l.length c) ∧ Own w' w.heap.size e k ao c l ∧ Below w.heap.size w w'
section
variable {w w' : World} {base : Nat} {e : TypeId} {k : IntKind} {ao : Option Addr} {c : Nat} {l : List Int}
theorem Rd.nil : Rd w k ao [] := .inl rfl
theorem Rd.keep (h : Rd w k ao l) (hk : ∀ a p : Addr, ao = some a → p.block = a.block → p.block < w.heap.size → w'.cell? p = w.cell? p) : Rd w' k ao l := by
  rcases h with rfl | ⟨b, off, rfl, hc⟩
  · exact .inl rfl
  · refine .inr ⟨b, off, rfl, fun i hi => ?_⟩
    have h1 := hc i hi
    rw [hk ⟨b, off, none⟩ ⟨b, off + i, none⟩ rfl rfl (World.block_lt_of_cell? w ⟨b, off + i, none⟩ h1)]
    exact h1
theorem Rd.below (h : Rd w k ao l) (hb : Below w.heap.size w w') : Rd w' k ao l := h.keep fun _ _ _ _ hp => hb.cell hp
theorem Rd.grown {row : Option Nat} (h : Rd w k ao l) (hg : w.grownBy w' row) (hne : ∀ a, ao = some a → some a.block ≠ row) : Rd w' k ao l :=
  h.keep fun a p ha hp hlt => World.cell?_of_block (hg.block p.block hlt (by rw [hp]; exact hne a ha))
theorem Rd.at_ {b off : Nat} {i : Nat} (hc : ∀ i, i < l.length → w.cell? ⟨b, off + i, none⟩ = some (.int k (l.getD i 0))) (hi : i < l.length) :
    ∃ z, z ∈ l ∧ l[i]? = some z ∧ w.cell? ⟨b, off + i, none⟩ = some (.int k z) ∧ l.take (i + 1) = l.take i ++ [z] := by
  refine ⟨l[i], List.getElem_mem hi, List.getElem?_eq_getElem hi, ?_, List.take_succ_eq_append_getElem hi⟩
  have := hc i hi
  rwa [List.getD_eq_getElem?_getD, List.getElem?_eq_getElem hi] at this
theorem Own.form (h : Own w base e k ao c l) : (ao = none ∧ c = 0 ∧ l = []) ∨ ∃ g, ao = some ⟨g, 0, none⟩ ∧ base ≤ g ∧ g < w.heap.size := by
  rcases h.2 with ⟨hv, hn⟩ | ⟨g, cap, cur, hv, hb, hg, _⟩
  · simp only [Value.slice.injEq] at hv
    exact .inl ⟨hv.1, hv.2.2, List.eq_nil_of_length_eq_zero hn⟩
  · simp only [Value.slice.injEq] at hv
    refine .inr ⟨g, hv.1, hb, ?_⟩
    rcases Nat.lt_or_ge g w.heap.size with hlt | hge
    · exact hlt
    · rw [Array.getElem?_eq_none hge] at hg; cases hg
theorem Own.cap_ge (h : Own w base e k ao c l) : l.length ≤ c := by
  rcases h.2 with ⟨hv, hn⟩ | ⟨g, cap, cur, hv, _, _, h1, _⟩
  · omega
  · simp only [Value.slice.injEq] at hv; omega
theorem Own.cap_le (h : Own w base e k ao c l) : c ≤ maxLen := by
  rcases h.2 with ⟨hv, _⟩ | ⟨g, cap, cur, hv, _, _, _, h2, _⟩
  · simp only [Value.slice.injEq] at hv; rw [hv.2.2]; exact Nat.zero_le _
  · simp only [Value.slice.injEq] at hv; rw [hv.2.2]; exact h2
theorem Own.lt (h : Own w base e k ao c l) : ∀ a, ao = some a → base ≤ a.block ∧ a.block < w.heap.size := by
  rcases h.form with ⟨rfl, _⟩ | ⟨g, rfl, h1, h2⟩
  · intro a ha; cases ha
  · intro a ha; cases ha; exact ⟨h1, h2⟩
theorem Own.cell {g : Nat} (h : Own w base e k (some ⟨g, 0, none⟩) c l) (i : Nat) (hi : i < l.length) : w.cell? ⟨g, i, none⟩ = some (.int k (l.getD i 0)) := by
  have := World.ownsRow.cellAt h i (by omega)
  rw [this, List.getElem?_map, List.getD_eq_getElem?_getD, List.getElem?_eq_getElem hi]; rfl
theorem Own.rd (h : Own w base e k ao c l) : Rd w k ao l := by
  rcases h.form with ⟨_, _, rfl⟩ | ⟨g, rfl, _⟩
  · exact .inl rfl
  · exact .inr ⟨g, 0, rfl, fun i hi => by rw [Nat.zero_add]; exact h.cell i hi⟩
theorem Own.keep (h : Own w base e k ao c l) (hk : ∀ a : Addr, ao = some a → a.block < w.heap.size → w'.heap[a.block]? = w.heap[a.block]?) : Own w' base e k ao c l := by
  refine ⟨h.1, ?_⟩
  have hl := h.lt
  rcases h.2 with h2 | ⟨g, cap, cur, hv, hb, hg, r⟩
  · exact .inl h2
  · refine .inr ⟨g, cap, cur, hv, hb, ?_, r⟩
    simp only [Value.slice.injEq] at hv
    rw [hk _ hv.1 (hl _ hv.1).2]; exact hg
theorem Own.below (h : Own w base e k ao c l) (hb : Below w.heap.size w w') : Own w' base e k ao c l := h.keep fun _ _ hlt => hb.block _ hlt
theorem Own.grown {row : Option Nat} (h : Own w base e k ao c l) (hg : w.grownBy w' row) (hne : ∀ a, ao = some a → some a.block ≠ row) : Own w' base e k ao c l :=
  h.keep fun a ha hlt => hg.block _ hlt (hne a ha)
theorem Own.base_le {base' : Nat} (h : Own w base e k ao c l) (hb : base' ≤ base) : Own w base' e k ao c l := by
  refine ⟨h.1, ?_⟩
  rcases h.2 with h2 | ⟨g, cap, cur, hv, hg, r⟩
  · exact .inl h2
  · exact .inr ⟨g, cap, cur, hv, Nat.le_trans hb hg, r⟩
theorem Own.alloc (h : Own w base e k ao c l) (o : Obj) : Own (w.alloc o) base e k ao c l := h.below ((Below.refl _ _).alloc (Nat.le_refl _) o)
theorem Own.none_ : Own w base e k none 0 [] := World.ownsRow_nil _ _ _ _
theorem By.nil : By [] := by intro z hz; cases hz
theorem By.app {a b : List Int} (ha : By a) (hb : By b) : By (a ++ b) := by
  intro z hz; rcases List.mem_append.1 hz with h | h
  · exact ha z h
  · exact hb z h
theorem By.one {z : Int} (h0 : 0 ≤ z) (h1 : z < 256) : By [z] := by intro y hy; simp at hy; subst hy; exact ⟨h0, h1⟩
theorem below_step {B : Nat} {a b d : World} (h : Below B a b) (hB : B ≤ a.heap.size) (k : Below b.heap.size b d) : Below B a d := h.trans (k.mono (Nat.le_trans hB h.size))
theorem below_grow {B : Nat} {a b d : World} {ao : Option Addr} (h : Below B a b) (hB : B ≤ a.heap.size) (k : b.grownBy d (ao.map (·.block))) (hr : ∀ x, ao = some x → B ≤ x.block) : Below B a d :=
  h.grown k (Nat.le_trans hB h.size) (by
    intro g hg
    cases ao with
    | none => cases hg
    | some x => simp at hg; subst hg; exact hr x rfl)
theorem Own.apart {ao' : Option Addr} (h : Own w base e k ao c l) (hg : w.grownBy w' (ao'.map (·.block))) (hne : ∀ a b, ao = some a → ao' = some b → a.block ≠ b.block) : Own w' base e k ao c l :=
  h.grown hg (by
    intro a ha
    cases ao' with
    | none => simp
    | some b => simp; exact hne a b ha rfl)
theorem below_of_grown {B : Nat} {row : Option Nat} (hg : w.grownBy w' row) (hB : B ≤ w.heap.size) (hr : ∀ g, row = some g → B ≤ g) : Below B w w' :=
  (Below.refl B w).grown hg hB hr
end
theorem cell_one (w : World) (v : Value) (t : TypeId) : (w.alloc (Obj.cells #[v] t)).cell? ⟨w.heap.size, 0, none⟩ = some v := by
  rw [World.cell?_alloc_new]; rfl
def IsRow (k : IntKind) (w : World) (a : Option Addr) (len cap : Nat) (zs : List Int) : Prop :=
  (a = none ∧ len = 0 ∧ cap = 0 ∧ zs = []) ∨
  ∃ x, a = some x ∧ len ≤ cap ∧ cap ≤ maxLen ∧ zs.length = cap ∧ (∀ i, i < zs.length → w.cell? (x.add i) = some (.int k (zs.getD i 0))) ∧ ∀ n ∈ zs, (Lit.int k n).wf = true
theorem IsRow.rd {k : IntKind} {w : World} {a : Option Addr} {len cap : Nat} {zs : List Int} (h : IsRow k w a len cap zs) :
    ∃ l : List Int, len = l.length ∧ l.length ≤ maxLen ∧ Rd w k a l ∧ ∀ n ∈ l, (Lit.int k n).wf = true := by
  rcases h with ⟨rfl, rfl, rfl, rfl⟩ | ⟨x, rfl, hl, hm, hz, hc, hw⟩
  · exact ⟨[], rfl, Nat.zero_le _, .inl rfl, by intro n hn; cases hn⟩
  · refine ⟨zs.take len, by simp; omega, by simp; omega, ?_, fun n hn => hw n (List.mem_of_mem_take hn)⟩
    by_cases h0 : len = 0
    · left; subst h0; rfl
    · right
      obtain ⟨b, off, spot⟩ := x
      have h1 := hc 0 (by omega)
      have hspot : spot = none := by simpa [Addr.add] using World.cell?_spot h1
      subst hspot
      refine ⟨b, off, rfl, fun i hi => ?_⟩
      have hi' : i < len := by simp at hi; omega
      have h2 := hc i (by omega)
      rw [List.getD_eq_getElem?_getD, List.getElem?_take, if_pos hi', ← List.getD_eq_getElem?_getD, ← h2]
      unfold Addr.add
      split
      · rename_i h; subst h; rfl
      · rfl
theorem by_of_wf {l : List Int} (h : ∀ n ∈ l, (Lit.int .u8 n).wf = true) : By l := by
  intro z hz
  have := h z hz
  simp [Lit.wf, IntKind.min, IntKind.max, IntKind.signed, IntKind.bits] at this
  exact ⟨by omega, by omega⟩
end Go.Proofs.YtanfllednlpbaaaGreat
namespace Go.Proofs.YtanfllednlpbaaaGreat
set_option linter.unusedSimpArgs false
set_option linter.unusedVariables false
def charB (c : Nat) : Bool := (decide (97 ≤ c) && decide (c ≤ 122)) || (decide (48 ≤ c) && decide (c ≤ 57))
def allB (l : List UInt8) : Bool := l.all fun c => charB c.toNat
def wordB (l : List UInt8) : Bool := decide (1 ≤ l.length) && decide (l.length ≤ 12) && decide (97 ≤ (l.headD 0).toNat) && allB l
theorem allB_take_succ (s : ByteArray) (k : Nat) (h : k < s.size) : allB (s.data.toList.take (k + 1)) = (allB (s.data.toList.take k) && charB s[k].toNat) := by
  have e : s.data.toList.take (k + 1) = s.data.toList.take k ++ [s[k]] := by rw [List.take_succ_eq_append_getElem (by simpa using h)]; rfl
  rw [e]; unfold allB; simp
theorem allB_false_of (s : ByteArray) (k : Nat) (h : k < s.size) (hc : charB s[k].toNat = false) : allB s.data.toList = false := by
  unfold allB
  rw [List.all_eq_false]
  exact ⟨s[k], by simp [ByteArray.getElem_eq_getElem_data], by simp [hc]⟩
theorem head_eq (s : ByteArray) (h : 0 < s.size) : s.data.toList.headD 0 = s[0] := by
  rcases s with ⟨⟨l⟩⟩
  cases l with
  | nil => simp [ByteArray.size] at h
  | cons a l => rfl
theorem charT {n : Nat} (h : (97 ≤ n ∧ n ≤ 122) ∨ (48 ≤ n ∧ n ≤ 57)) : charB n = true := by unfold charB; simp; omega
theorem charF {n : Nat} (h : ¬ ((97 ≤ n ∧ n ≤ 122) ∨ (48 ≤ n ∧ n ≤ 57))) : charB n = false := by
  cases hc : charB n with
  | false => rfl
  | true => exact absurd (by unfold charB at hc; simpa using hc) h
theorem char_of {n : Nat} (h : charB n = true) : (97 ≤ n ∧ n ≤ 122) ∨ (48 ≤ n ∧ n ≤ 57) := by unfold charB at h; simpa using h
theorem wordB_no {s : ByteArray} {k : Nat} (h : k < s.size) (hc : charB s[k].toNat = false) : wordB s.data.toList = false := by
  unfold wordB; rw [allB_false_of s k h hc]; simp
theorem wordB_head {s : ByteArray} (h : 0 < s.size) (hc : s[0].toNat < 97) : wordB s.data.toList = false := by
  unfold wordB; rw [head_eq s h]; simp; omega
theorem wordB_len {s : ByteArray} (h : ¬ (1 ≤ s.size ∧ s.size ≤ 12)) : wordB s.data.toList = false := by
  unfold wordB; simp; omega
theorem wordB_yes {s : ByteArray} (h1 : 1 ≤ s.size) (h2 : s.size ≤ 12) (h3 : 97 ≤ s[0].toNat) (k : Nat) (hk : s.size ≤ k) (ha : allB (s.data.toList.take k) = true) : wordB s.data.toList = true := by
  rw [List.take_of_length_le (by simpa using hk)] at ha
  unfold wordB; rw [head_eq s (by omega), ha]; simp; omega
structure Nd where
  kind : Int
  name : ByteArray
  col : Int
  op : Int
  num : Int
  slot : Bool
  cols : List Int
def colB (x : Int) : Bool := decide (0 ≤ x) && decide (x ≤ 63)
theorem colB_t {x : Int} (h0 : 0 ≤ x) (h1 : x ≤ 63) : colB x = true := by simp [colB, h0, h1]
theorem colB_f {x : Int} (h : x < 0 ∨ 63 < x) : colB x = false := by simp [colB]; omega
def nodeB (n : Nd) : Bool :=
  if n.kind = 0 then wordB n.name.data.toList && decide (n.col = 0 ∧ n.op = 0 ∧ n.num = 0 ∧ n.slot = false ∧ n.cols = [])
  else if n.kind = 1 then decide (n.name.data.toList = [] ∧ (0 ≤ n.col ∧ n.col ≤ 63) ∧ (0 ≤ n.op ∧ n.op ≤ 3) ∧ (-1000000 ≤ n.num ∧ n.num ≤ 1000000) ∧ (n.op = 3 → n.num = 0 ∧ n.slot = false) ∧ (n.slot = true → 0 ≤ n.num ∧ n.num ≤ 39) ∧ n.cols = [])
  else if n.kind = 2 then decide (n.name.data.toList = [] ∧ n.col = 0 ∧ n.op = 0 ∧ n.num = 0 ∧ n.slot = false ∧ 1 ≤ n.cols.length ∧ n.cols.length ≤ 6) && n.cols.all colB
  else if n.kind = 3 then decide (n.name.data.toList = [] ∧ (0 ≤ n.col ∧ n.col ≤ 63) ∧ n.op = 0 ∧ (0 ≤ n.num ∧ n.num ≤ 63) ∧ n.slot = false ∧ n.cols = [])
  else if n.kind = 4 then decide (n.name.data.toList = [] ∧ n.col = 0 ∧ n.op = 0 ∧ n.num = 0 ∧ n.slot = false ∧ n.cols = [])
  else if n.kind = 5 then decide (n.name.data.toList = [] ∧ (0 ≤ n.col ∧ n.col ≤ 63) ∧ n.op = 0 ∧ n.num = 0 ∧ n.slot = false ∧ n.cols = [])
  else if n.kind = 6 then decide (n.name.data.toList = [] ∧ n.col = 0 ∧ n.op = 0 ∧ (0 ≤ n.num ∧ n.num ≤ 1000000) ∧ (n.slot = true → n.num ≤ 39) ∧ n.cols = [])
  else if n.kind = 7 then decide (n.name.data.toList = [] ∧ n.col = 0 ∧ n.op = 0 ∧ n.num = 0 ∧ n.slot = false ∧ n.cols = [])
  else false
def arity (k : Int) : Int :=
  if k = 0 then 0 else if k = 3 ∨ k = 4 then 2 else if k = 1 ∨ k = 2 ∨ k = 5 ∨ k = 6 ∨ k = 7 then 1 else -1
theorem arity_cases (k : Int) : arity k = -1 ∨ arity k = 0 ∨ arity k = 1 ∨ arity k = 2 := by
  unfold arity; split
  · simp
  · split
    · simp
    · split <;> simp
theorem kind_of_nodeB {n : Nd} (h : nodeB n = true) : 0 ≤ n.kind ∧ n.kind ≤ 7 := by
  unfold nodeB at h
  repeat' split at h
  all_goals first | omega | cases h
theorem arity_of_nodeB {n : Nd} (h : nodeB n = true) : arity n.kind = 0 ∨ arity n.kind = 1 ∨ arity n.kind = 2 := by
  have := kind_of_nodeB h
  have hc : n.kind = 0 ∨ n.kind = 1 ∨ n.kind = 2 ∨ n.kind = 3 ∨ n.kind = 4 ∨ n.kind = 5 ∨ n.kind = 6 ∨ n.kind = 7 := by omega
  rcases hc with h | h | h | h | h | h | h | h <;> simp [arity, h]
def endN (p : List Nd) : Nat → Nat → Option (Nat × Nat)
  | 0, _ => none
  | r + 1, k =>
    match p[k]? with
    | none => none
    | some n =>
      if arity n.kind = 1 then
        match endN p r (k + 1) with
        | none => none
        | some (e, d) => some (e, d + 1)
      else if arity n.kind = 2 then
        match endN p r (k + 1) with
        | none => none
        | some (e, d) =>
          match endN p r e with
          | none => none
          | some (e', d') => some (e', (if d < d' then d' else d) + 1)
      else some (k + 1, 1)
inductive Tr where
  | t0 (n : Nd) (pl en : Nat)
  | t1 (n : Nd) (pl en : Nat) (c : Tr)
  | t2 (n : Nd) (pl en : Nat) (c d : Tr)
namespace Tr
def nd : Tr → Nd
  | t0 n _ _ => n
  | t1 n _ _ _ => n
  | t2 n _ _ _ _ => n
def pl : Tr → Nat
  | t0 _ p _ => p
  | t1 _ p _ _ => p
  | t2 _ p _ _ _ => p
def en : Tr → Nat
  | t0 _ _ e => e
  | t1 _ _ e _ => e
  | t2 _ _ e _ _ => e
def depth : Tr → Nat
  | t0 _ _ _ => 1
  | t1 _ _ _ c => c.depth + 1
  | t2 _ _ _ c d => max c.depth d.depth + 1
def kids : Tr → List Tr
  | t0 _ _ _ => []
  | t1 _ _ _ c => [c]
  | t2 _ _ _ c d => [c, d]
def find (k : Nat) : Tr → Option Tr
  | t0 n p e => if k < p ∨ e ≤ k then none else some (t0 n p e)
  | t1 n p e c => if k < p ∨ e ≤ k then none else
    match c.find k with
    | some s => some s
    | none => some (t1 n p e c)
  | t2 n p e c d => if k < p ∨ e ≤ k then none else
    match c.find k with
    | some s => some s
    | none =>
      match d.find k with
      | some s => some s
      | none => some (t2 n p e c d)
theorem en0 (n : Nd) (p e : Nat) : (t0 n p e).en = e := rfl
theorem en1 (n : Nd) (p e : Nat) (c : Tr) : (t1 n p e c).en = e := rfl
theorem en2 (n : Nd) (p e : Nat) (c d : Tr) : (t2 n p e c d).en = e := rfl
end Tr
def growT (p : List Nd) : Nat → Nat → Option Tr
  | 0, _ => none
  | f + 1, k =>
    match p[k]? with
    | none => none
    | some n =>
      if nodeB n = false then none
      else if arity n.kind = 1 then
        match growT p f (k + 1) with
        | none => none
        | some c => some (.t1 n k c.en c)
      else if arity n.kind = 2 then
        match growT p f (k + 1) with
        | none => none
        | some c =>
          match growT p f c.en with
          | none => none
          | some d => some (.t2 n k d.en c d)
      else some (.t0 n k (k + 1))
theorem growT_sound (p : List Nd) : ∀ (f k : Nat) (T : Tr), growT p f k = some T →
    T.pl = k ∧ k < T.en ∧ T.en ≤ p.length ∧ p[k]? = some T.nd ∧ (∀ i n, k ≤ i → i < T.en → p[i]? = some n → nodeB n = true) := by
  intro f
  induction f with
  | zero => intro k T h; cases h
  | succ f ih =>
    intro k T h
    simp only [growT] at h
    cases hp : p[k]? with
    | none => rw [hp] at h; cases h
    | some n =>
      rw [hp] at h
      simp only at h
      have hk : k < p.length := by
        rcases Nat.lt_or_ge k p.length with h1 | h1
        · exact h1
        · rw [List.getElem?_eq_none h1] at hp; cases hp
      cases hn : nodeB n with
      | false => rw [hn, if_pos rfl] at h; cases h
      | true =>
        rw [hn] at h
        simp only [Bool.true_eq_false, if_false] at h
        split at h
        · cases hc : growT p f (k + 1) with
          | none => rw [hc] at h; cases h
          | some c =>
            rw [hc] at h; simp only [Option.some.injEq] at h; subst h
            obtain ⟨h1, h2, h3, h4, h5⟩ := ih _ _ hc
            refine ⟨rfl, (show k < c.en by omega), h3, rfl, fun i m hi1 hi2 hm => ?_⟩
            by_cases he : i = k
            · subst he; rw [hp] at hm; cases hm; exact hn
            · exact h5 i m (by omega) hi2 hm
        · split at h
          · cases hc : growT p f (k + 1) with
            | none => rw [hc] at h; cases h
            | some c =>
              rw [hc] at h; simp only at h
              cases hd : growT p f c.en with
              | none => rw [hd] at h; cases h
              | some d =>
                rw [hd] at h; simp only [Option.some.injEq] at h; subst h
                obtain ⟨h1, h2, h3, h4, h5⟩ := ih _ _ hc
                obtain ⟨g1, g2, g3, g4, g5⟩ := ih _ _ hd
                refine ⟨rfl, (show k < d.en by omega), g3, rfl, fun i m hi1 hi2 hm => ?_⟩
                by_cases he : i = k
                · subst he; rw [hp] at hm; cases hm; exact hn
                · by_cases hi : i < c.en
                  · exact h5 i m (by omega) hi hm
                  · exact g5 i m (by omega) hi2 hm
          · simp only [Option.some.injEq] at h; subst h
            refine ⟨rfl, (show k < k + 1 by omega), (show k + 1 ≤ p.length by omega), rfl, fun i m hi1 hi2 hm => ?_⟩
            obtain rfl : i = k := by simp only [Tr.en0] at hi2; omega
            rw [hp] at hm; cases hm; exact hn
theorem depth_pos (T : Tr) : 1 ≤ T.depth := by cases T <;> simp [Tr.depth]
theorem endN_grow (p : List Nd) (hall : ∀ n ∈ p, nodeB n = true) : ∀ (f r k : Nat), p.length ≤ f + k →
    endN p r k = match growT p f k with
      | none => none
      | some T => if T.depth ≤ r then some (T.en, T.depth) else none := by
  intro f
  induction f with
  | zero =>
    intro r k hf
    cases r with
    | zero => rfl
    | succ r => simp only [endN, growT]; rw [List.getElem?_eq_none (by omega)]
  | succ f ih =>
    intro r k hf
    cases r with
    | zero =>
      simp only [endN]
      cases hg : growT p (f + 1) k with
      | none => rfl
      | some T => have := depth_pos T; simp only; rw [if_neg (by omega)]
    | succ r =>
      simp only [endN, growT]
      cases hp : p[k]? with
      | none => rfl
      | some n =>
        have hn : nodeB n = true := hall n (List.mem_of_getElem? hp)
        simp only [hn, Bool.true_eq_false, if_false]
        rw [ih r (k + 1) (by omega)]
        by_cases h1 : arity n.kind = 1
        · simp only [h1, if_true]
          cases hc : growT p f (k + 1) with
          | none => rfl
          | some c =>
            have e : (Tr.t1 n k c.en c).depth = c.depth + 1 := rfl
            by_cases hd : c.depth ≤ r
            · simp only [if_pos hd]; rw [if_pos (by rw [e]; omega)]; rfl
            · simp only [if_neg hd]; rw [if_neg (by rw [e]; omega)]
        · simp only [if_neg h1]
          by_cases h2 : arity n.kind = 2
          · simp only [h2, if_true]
            cases hc : growT p f (k + 1) with
            | none => rfl
            | some c =>
              have hs := growT_sound p _ _ _ hc
              simp only
              by_cases hd : c.depth ≤ r
              · rw [if_pos hd]
                simp only
                rw [ih r c.en (by omega)]
                cases he : growT p f c.en with
                | none => rfl
                | some d =>
                  have e : (Tr.t2 n k d.en c d).depth = max c.depth d.depth + 1 := rfl
                  by_cases hd' : d.depth ≤ r
                  · have e3 : (Tr.t2 n k d.en c d).depth ≤ r + 1 := by rw [e]; omega
                    simp only [if_pos hd', if_pos e3]
                    have e2 : (if c.depth < d.depth then d.depth else c.depth) + 1 = (Tr.t2 n k d.en c d).depth := by rw [e]; split <;> omega
                    rw [e2]; rfl
                  · simp only [if_neg hd']; rw [if_neg (by rw [e]; omega)]
              · rw [if_neg hd]
                simp only
                cases he : growT p f c.en with
                | none => rfl
                | some d =>
                  have e : (Tr.t2 n k d.en c d).depth = max c.depth d.depth + 1 := rfl
                  simp only; rw [if_neg (by rw [e]; omega)]
          · simp only [if_neg h2]
            have e : (Tr.t0 n k (k + 1)).depth = 1 := rfl
            rw [if_pos (by rw [e]; omega)]; rfl
def treeN (p : List Nd) : Option Tr :=
  if p.length ≤ 40 then
    match growT p p.length 0 with
    | none => none
    | some T => if T.en = p.length ∧ T.depth ≤ 10 then some T else none
  else none
def planB (p : List Nd) : Bool := (treeN p).isSome
theorem treeN_some {p : List Nd} {T : Tr} (h : treeN p = some T) : p.length ≤ 40 ∧ growT p p.length 0 = some T ∧ T.en = p.length ∧ T.depth ≤ 10 := by
  unfold treeN at h
  split at h
  · rename_i h40
    cases hg : growT p p.length 0 with
    | none => rw [hg] at h; cases h
    | some S =>
      rw [hg] at h; simp only at h
      split at h
      · rename_i hc; cases h; exact ⟨h40, rfl, hc.1, hc.2⟩
      · cases h
  · cases h
theorem treeN_all {p : List Nd} {T : Tr} (h : treeN p = some T) : ∀ n ∈ p, nodeB n = true := by
  obtain ⟨_, hg, he, _⟩ := treeN_some h
  have hs := growT_sound p _ _ _ hg
  intro n hn
  obtain ⟨i, hi, rfl⟩ := List.mem_iff_getElem.1 hn
  exact hs.2.2.2.2 i _ (Nat.zero_le _) (by omega) (List.getElem?_eq_getElem hi)
theorem treeN_pos {p : List Nd} {T : Tr} (h : treeN p = some T) : 1 ≤ p.length := by
  obtain ⟨_, hg, he, _⟩ := treeN_some h
  have hs := growT_sound p _ _ _ hg
  omega
theorem planB_spec (p : List Nd) (h2 : p.length ≤ 40) (hall : ∀ n ∈ p, nodeB n = true) :
    planB p = decide ((endN p 10 0).map (·.1) = some p.length) := by
  unfold planB treeN
  rw [if_pos h2, endN_grow p hall p.length 10 0 (by omega)]
  cases hg : growT p p.length 0 with
  | none => simp
  | some T =>
    by_cases hd : T.depth ≤ 10 <;> by_cases he : T.en = p.length <;> simp [hd, he]
theorem planB_len {p : List Nd} (h : p.length < 1 ∨ 40 < p.length) : planB p = false := by
  cases ht : treeN p with
  | none => simp [planB, ht]
  | some T => have := treeN_pos ht; have := treeN_some ht; omega
theorem planB_node {p : List Nd} {n : Nd} (hn : n ∈ p) (h : nodeB n = false) : planB p = false := by
  cases ht : treeN p with
  | none => simp [planB, ht]
  | some T => have := treeN_all ht n hn; rw [h] at this; cases this
theorem growT_more (p : List Nd) : ∀ (f k : Nat) (T : Tr), growT p f k = some T → growT p (f + 1) k = some T := by
  intro f
  induction f with
  | zero => intro k T h; cases h
  | succ f ih =>
    intro k T h
    rw [growT] at h ⊢
    cases hp : p[k]? with
    | none => rw [hp] at h; cases h
    | some n =>
      rw [hp] at h
      simp only at h ⊢
      split at h
      · cases h
      · rename_i hn
        rw [if_neg hn]
        split at h
        · rename_i h1
          rw [if_pos h1]
          cases hc : growT p f (k + 1) with
          | none => rw [hc] at h; cases h
          | some c => rw [hc] at h; rw [ih _ _ hc]; exact h
        · rename_i h1
          rw [if_neg h1]
          split at h
          · rename_i h2
            rw [if_pos h2]
            cases hc : growT p f (k + 1) with
            | none => rw [hc] at h; cases h
            | some c =>
              rw [hc] at h; rw [ih _ _ hc]
              simp only at h ⊢
              cases hd : growT p f c.en with
              | none => rw [hd] at h; cases h
              | some d => rw [hd] at h; rw [ih _ _ hd]; exact h
          · rename_i h2
            rw [if_neg h2]; exact h
theorem find_grow (p : List Nd) : ∀ (f j k : Nat) (T : Tr), growT p f j = some T → j ≤ k → k < T.en →
    ∃ S, T.find k = some S ∧ growT p f k = some S ∧ S.depth ≤ T.depth ∧ S.en ≤ T.en := by
  intro f
  induction f with
  | zero => intro j k T h; cases h
  | succ f ih =>
    intro j k T h hj hk
    have hs0 := growT_sound p _ _ _ h
    have hfull := h
    simp only [growT] at h
    cases hp : p[j]? with
    | none => rw [hp] at h; cases h
    | some n =>
      rw [hp] at h
      simp only at h
      have hjl : j < p.length := by
        rcases Nat.lt_or_ge j p.length with h1 | h1
        · exact h1
        · rw [List.getElem?_eq_none h1] at hp; cases hp
      cases hn : nodeB n with
      | false => rw [hn, if_pos rfl] at h; cases h
      | true =>
        rw [hn] at h
        simp only [Bool.true_eq_false, if_false] at h
        split at h
        · cases hc : growT p f (j + 1) with
          | none => rw [hc] at h; cases h
          | some c =>
            rw [hc] at h; simp only [Option.some.injEq] at h; subst h
            have hs := growT_sound p _ _ _ hc
            simp only [Tr.en1] at hk
            by_cases he : k = j
            · subst he
              refine ⟨_, ?_, hfull, Nat.le_refl _, Nat.le_refl _⟩
              have hno : c.find k = none := by
                cases c <;> simp [Tr.find, Tr.pl] at hs ⊢ <;> omega
              simp only [Tr.find]
              rw [if_neg (by omega), hno]
            · obtain ⟨S, hS, hg, hd, hen⟩ := ih (j + 1) k c hc (by omega) hk
              refine ⟨S, ?_, ?_, by simp only [Tr.depth]; omega, hen⟩
              · simp only [Tr.find]
                rw [if_neg (by omega), hS]
              · have hS1 := growT_sound p _ _ _ hg
                exact growT_more p _ _ _ hg
        · split at h
          · cases hc : growT p f (j + 1) with
            | none => rw [hc] at h; cases h
            | some c =>
              rw [hc] at h; simp only at h
              cases hd : growT p f c.en with
              | none => rw [hd] at h; cases h
              | some d =>
                rw [hd] at h; simp only [Option.some.injEq] at h; subst h
                have hs := growT_sound p _ _ _ hc
                have hs' := growT_sound p _ _ _ hd
                simp only [Tr.en2] at hk
                by_cases he : k = j
                · subst he
                  refine ⟨_, ?_, hfull, Nat.le_refl _, Nat.le_refl _⟩
                  have hno : c.find k = none := by
                    cases c <;> simp [Tr.find, Tr.pl] at hs ⊢ <;> omega
                  have hno' : d.find k = none := by
                    cases d <;> simp [Tr.find, Tr.pl] at hs' ⊢ <;> omega
                  simp only [Tr.find]
                  rw [if_neg (by omega), hno]
                  simp only
                  rw [hno']
                · by_cases hkc : k < c.en
                  · obtain ⟨S, hS, hg, hdd, hen⟩ := ih (j + 1) k c hc (by omega) hkc
                    refine ⟨S, ?_, growT_more p _ _ _ hg, by simp only [Tr.depth]; omega, by simp only [Tr.en2]; omega⟩
                    simp only [Tr.find]
                    rw [if_neg (by omega), hS]
                  · obtain ⟨S, hS, hg, hdd, hen⟩ := ih c.en k d hd (by omega) hk
                    refine ⟨S, ?_, growT_more p _ _ _ hg, by simp only [Tr.depth]; omega, by simp only [Tr.en2]; omega⟩
                    have hno : c.find k = none := by
                      cases c <;> simp [Tr.find, Tr.en] at hkc ⊢ <;> omega
                    simp only [Tr.find]
                    rw [if_neg (by omega), hno]
                    simp only
                    rw [hS]
          · simp only [Option.some.injEq] at h; subst h
            simp only [Tr.en0] at hk
            obtain rfl : k = j := by omega
            refine ⟨_, ?_, hfull, Nat.le_refl _, Nat.le_refl _⟩
            simp only [Tr.find]
            rw [if_neg (by omega)]
end Go.Proofs.YtanfllednlpbaaaGreat
