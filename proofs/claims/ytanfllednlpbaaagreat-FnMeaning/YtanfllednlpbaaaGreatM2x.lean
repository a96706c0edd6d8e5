/-
  Words for slices of nodes in memory: what a node's seven cells read as, what a slice of nodes reads as, what of it the call itself owns. No program, no walk. Plain facts on rows of integers that are compared, filled and marked. No walk. Contracts of the helpers over slices of int: eqIntS, markIntS, toIntS, heldIntS. For every slice of int. Contracts of the helpers over nodes: szIntS, szNode, toNode, eqNode. For every node. Contract of markText: it answers one text for one number. For every number that is not too great. Words for slices of strings in memory: what a slice reads as, what the call itself owns, and how both are carried from world to world. No walk. Tables as data and in memory: what a slice of tables reads as, what of it the call itself owns, and append of one table. No walk. Contracts of the helpers over tables: szTable, szTableS, toTable, toTableS, eqTable, eqTableS. For every slice of tables. Contract of spec.l01Num: a number as a text. For every number. How long a number's text is. Plain facts; no walk. What is kept where one block alone has turned. No program, no walk.
-/
import Derived.Test.YtanfllednlpbaaaGreatM1x
import Derived.Test.YtanfllednlpbaaaGreatRows
import Derived.WalkKit
import Derived.WalkSpells
import Derived.WalkLawsBesides
import Derived.Deep.QuietTactic
import Derived.BigQuiet
import Derived.Laws.Strings
import Derived.Laws.IdiomStrings
import Derived.Maps.AppendAt
import Derived.OwnWalk
import Derived.Deep.RegionWith
import Derived.Lib.ItoaNum
namespace Go.Proofs.YtanfllednlpbaaaGreat
open Go.RowKit
set_option linter.unusedSimpArgs false
set_option linter.unusedVariables false
structure NdAt (w : World) (b o : Nat) (n : Nd) (a : Option Addr) (c : Nat) : Prop where
  c0 : w.cell? ⟨b, o, none⟩ = some (.int .i64 n.kind)
  c1 : w.cell? ⟨b, o + 1, none⟩ = some (.string n.name)
  c2 : w.cell? ⟨b, o + 2, none⟩ = some (.int .i64 n.col)
  c3 : w.cell? ⟨b, o + 3, none⟩ = some (.int .i64 n.op)
  c4 : w.cell? ⟨b, o + 4, none⟩ = some (.int .i64 n.num)
  c5 : w.cell? ⟨b, o + 5, none⟩ = some (.bool n.slot)
  c6 : w.cell? ⟨b, o + 6, none⟩ = some (.slice a n.cols.length c)
  rd : Rd w .i64 a n.cols
  cap : n.cols.length ≤ c
  mx : c ≤ maxLen
  nm : n.name.size ≤ maxLen
def RdN (w : World) (ao : Option Addr) (l : List Nd) : Prop :=
  l = [] ∨ ∃ b off, ao = some ⟨b, off, none⟩ ∧ ∀ i n, l[i]? = some n → ∃ a c, NdAt w b (off + i * 7) n a c
section
variable {w w' : World} {b o : Nat} {n : Nd} {a ao : Option Addr} {c : Nat} {l : List Nd}
theorem NdAt.lt (h : NdAt w b o n a c) : b < w.heap.size := World.block_lt_of_cell? w ⟨b, o, none⟩ h.c0
theorem NdAt.below (h : NdAt w b o n a c) (hb : Below w.heap.size w w') : NdAt w' b o n a c :=
  ⟨(hb.cell (p := ⟨b, o, none⟩) h.lt).trans h.c0, (hb.cell (p := ⟨b, o + 1, none⟩) h.lt).trans h.c1, (hb.cell (p := ⟨b, o + 2, none⟩) h.lt).trans h.c2, (hb.cell (p := ⟨b, o + 3, none⟩) h.lt).trans h.c3,
   (hb.cell (p := ⟨b, o + 4, none⟩) h.lt).trans h.c4, (hb.cell (p := ⟨b, o + 5, none⟩) h.lt).trans h.c5, (hb.cell (p := ⟨b, o + 6, none⟩) h.lt).trans h.c6, h.rd.below hb, h.cap, h.mx, h.nm⟩
theorem RdN.nil : RdN w ao [] := .inl rfl
theorem RdN.below (h : RdN w ao l) (hb : Below w.heap.size w w') : RdN w' ao l := by
  rcases h with h | ⟨b, off, rfl, hc⟩
  · exact .inl h
  · refine .inr ⟨b, off, rfl, fun i n hi => ?_⟩
    obtain ⟨a, c, hn⟩ := hc i n hi
    exact ⟨a, c, hn.below hb⟩
theorem RdN.at_ (h : RdN w ao l) {i : Nat} (hi : i < l.length) : ∃ b off n a c, ao = some ⟨b, off, none⟩ ∧ l[i]? = some n ∧ NdAt w b (off + i * 7) n a c := by
  rcases h with rfl | ⟨b, off, rfl, hc⟩
  · simp at hi
  · obtain ⟨a, c, hn⟩ := hc i _ (List.getElem?_eq_getElem hi)
    exact ⟨b, off, _, a, c, rfl, List.getElem?_eq_getElem hi, hn⟩
theorem RdN.part {b off : Nat} (h : RdN w (some ⟨b, off, none⟩) l) (k m : Nat) : RdN w (some ⟨b, off + k * 7, none⟩) ((l.drop k).take m) := by
  rcases h with rfl | ⟨b', off', he, hc⟩
  · left; simp
  · simp only [Option.some.injEq, Addr.mk.injEq, and_true] at he
    obtain ⟨rfl, rfl⟩ := he
    refine .inr ⟨b, _, rfl, fun i n hi => ?_⟩
    rw [List.getElem?_take] at hi
    split at hi
    · rw [List.getElem?_drop] at hi
      obtain ⟨a, c, hn⟩ := hc _ _ hi
      refine ⟨a, c, ?_⟩
      rw [show off + k * 7 + i * 7 = off + (k + i) * 7 by omega]
      exact hn
    · cases hi
end
def eqL (a b : List Int) : Bool := decide (a = b)
theorem eqL_no {l m : List Int} {j : Nat} {x y : Int} (h : ¬ x = y) (hx : l[j]? = some x) (hy : m[j]? = some y) : eqL l m = false := by
  unfold eqL; simp; rintro rfl; rw [hx] at hy; exact h (by injection hy)
theorem eqL_yes {l m : List Int} {j : Nat} (h : l.length = m.length) (hj : l.length ≤ j) (ht : l.take j = m.take j) : eqL l m = true := by
  unfold eqL; simp; rw [List.take_of_length_le hj, List.take_of_length_le (by omega)] at ht; exact ht
theorem eqL_refl (l : List Int) : eqL l l = true := by unfold eqL; simp
theorem below_drewN {B : Nat} {a w : World} (h : Below B a w) (n : Nat) : Below B a (w.drewN n) := ⟨h.os, h.tape, h.output, h.size, h.block⟩
theorem Own.far {w : World} {base : Nat} {e : TypeId} {k : IntKind} {ao : Option Addr} {c : Nat} {l : List Int} {p : Addr} (h : Own w base e k ao c l) (hp : ∀ x, ao = some x → x.block ≠ p.block) (u : Value) :
    Own (w.setCell p u) base e k ao c l := h.keep fun a ha _ => Below.heap_setCell w p u a.block (hp a ha)
theorem bcell {W w1 : World} (hb : Below W.heap.size W w1) :
    (∀ b o, b < W.heap.size → w1.cell? ⟨b, o, none⟩ = W.cell? ⟨b, o, none⟩) ∧ (∀ b o, b < W.heap.size → w1.frozen? ⟨b, o, none⟩ = W.frozen? ⟨b, o, none⟩) :=
  ⟨fun b o h => hb.cell (p := ⟨b, o, none⟩) h, fun b o h => hb.frozen (p := ⟨b, o, none⟩) h⟩
section
variable {w w' : World} {base : Nat} {ao : Option Addr} {c : Nat} {l : List ByteArray}
end
structure Tb where
  name : ByteArray
  width : Int
def tbC : List Tb → List Value
  | [] => []
  | t :: l => .string t.name :: .int .i64 t.width :: tbC l
theorem tbC_len : ∀ l : List Tb, (tbC l).length = l.length * 2
  | [] => rfl
  | t :: l => by simp only [tbC, List.length_cons, tbC_len l]; omega
theorem tbC_app : ∀ l m : List Tb, tbC (l ++ m) = tbC l ++ tbC m
  | [], _ => rfl
  | t :: l, m => by simp [tbC, tbC_app l m]
theorem tbC_one : ∀ (l : List Tb), ∀ u ∈ tbC l, u.oneCell' = true
  | [], u, h => by cases h
  | t :: l, u, h => by
    simp only [tbC, List.mem_cons] at h
    rcases h with rfl | rfl | h
    · rfl
    · rfl
    · exact tbC_one l u h
theorem tbC_get0 : ∀ (l : List Tb) (i : Nat) (t : Tb), l[i]? = some t → (tbC l)[i * 2]? = some (.string t.name)
  | [], i, t, h => by simp at h
  | s :: l, 0, t, h => by simp at h; subst h; rfl
  | s :: l, i + 1, t, h => by
    simp only [List.getElem?_cons_succ] at h
    rw [show (i + 1) * 2 = i * 2 + 1 + 1 by omega]
    simp only [tbC, List.getElem?_cons_succ]
    exact tbC_get0 l i t h
theorem tbC_get1 : ∀ (l : List Tb) (i : Nat) (t : Tb), l[i]? = some t → (tbC l)[i * 2 + 1]? = some (.int .i64 t.width)
  | [], i, t, h => by simp at h
  | s :: l, 0, t, h => by simp at h; subst h; rfl
  | s :: l, i + 1, t, h => by
    simp only [List.getElem?_cons_succ] at h
    rw [show (i + 1) * 2 + 1 = i * 2 + 1 + 1 + 1 by omega]
    simp only [tbC, List.getElem?_cons_succ]
    exact tbC_get1 l i t h
structure TbAt (w : World) (b o : Nat) (t : Tb) : Prop where
  c0 : w.cell? ⟨b, o, none⟩ = some (.string t.name)
  c1 : w.cell? ⟨b, o + 1, none⟩ = some (.int .i64 t.width)
  nm : t.name.size ≤ maxLen
def RdT (w : World) (ao : Option Addr) (l : List Tb) : Prop :=
  l = [] ∨ ∃ b off, ao = some ⟨b, off, none⟩ ∧ ∀ i t, l[i]? = some t → TbAt w b (off + i * 2) t
def OwnT (w : World) (base : Nat) (ao : Option Addr) (c : Nat) (l : List Tb) : Prop :=
  w.ownsRow base 89 2 (.slice ao l.length c) l.length (tbC l) ∧ ∀ t ∈ l, t.name.size ≤ maxLen
def MadeT (w : World) (l : List Tb) (en : Ending) (w' : World) : Prop :=
  ∃ ao c, en = .returned (.slice ao l.length c) ∧ OwnT w' w.heap.size ao c l ∧ Below w.heap.size w w'
section
variable {w w' : World} {base b o : Nat} {t : Tb} {ao : Option Addr} {c : Nat} {l : List Tb}
theorem TbAt.lt (h : TbAt w b o t) : b < w.heap.size := World.block_lt_of_cell? w ⟨b, o, none⟩ h.c0
theorem TbAt.below (h : TbAt w b o t) (hb : Below w.heap.size w w') : TbAt w' b o t :=
  ⟨(hb.cell (p := ⟨b, o, none⟩) h.lt).trans h.c0, (hb.cell (p := ⟨b, o + 1, none⟩) h.lt).trans h.c1, h.nm⟩
theorem RdT.nil : RdT w ao [] := .inl rfl
theorem RdT.below (h : RdT w ao l) (hb : Below w.heap.size w w') : RdT w' ao l := by
  rcases h with h | ⟨b, off, rfl, hc⟩
  · exact .inl h
  · exact .inr ⟨b, off, rfl, fun i n hi => (hc i n hi).below hb⟩
theorem RdT.at_ (h : RdT w ao l) {i : Nat} (hi : i < l.length) : ∃ b off t, ao = some ⟨b, off, none⟩ ∧ l[i]? = some t ∧ TbAt w b (off + i * 2) t := by
  rcases h with rfl | ⟨b, off, rfl, hc⟩
  · simp at hi
  · exact ⟨b, off, _, rfl, List.getElem?_eq_getElem hi, hc i _ (List.getElem?_eq_getElem hi)⟩
theorem RdT.name (h : RdT w ao l) {t : Tb} (ht : t ∈ l) : t.name.size ≤ maxLen := by
  obtain ⟨i, hi, rfl⟩ := List.mem_iff_getElem.1 ht
  obtain ⟨b, off, t', rfl, hx, hat⟩ := h.at_ hi
  rw [List.getElem?_eq_getElem hi] at hx; cases hx
  exact hat.nm
theorem OwnT.form (h : OwnT w base ao c l) : (ao = none ∧ c = 0 ∧ l = []) ∨ ∃ g, ao = some ⟨g, 0, none⟩ ∧ base ≤ g ∧ g < w.heap.size := by
  rcases h.1.2 with ⟨hv, hn⟩ | ⟨g, cap, cur, hv, hb, hg, _⟩
  · simp only [Value.slice.injEq] at hv
    exact .inl ⟨hv.1, hv.2.2, List.eq_nil_of_length_eq_zero hn⟩
  · simp only [Value.slice.injEq] at hv
    refine .inr ⟨g, hv.1, hb, ?_⟩
    rcases Nat.lt_or_ge g w.heap.size with hlt | hge
    · exact hlt
    · rw [Array.getElem?_eq_none hge] at hg; cases hg
theorem OwnT.lt (h : OwnT w base ao c l) : ∀ a, ao = some a → base ≤ a.block ∧ a.block < w.heap.size := by
  rcases h.form with ⟨rfl, _⟩ | ⟨g, rfl, h1, h2⟩
  · intro a ha; cases ha
  · intro a ha; cases ha; exact ⟨h1, h2⟩
theorem OwnT.rd (h : OwnT w base ao c l) : RdT w ao l := by
  rcases h.form with ⟨_, _, rfl⟩ | ⟨g, rfl, _⟩
  · exact .inl rfl
  · refine .inr ⟨g, 0, rfl, fun i t hi => ?_⟩
    have hlt : i < l.length := by
      rcases Nat.lt_or_ge i l.length with h1 | h1
      · exact h1
      · rw [List.getElem?_eq_none h1] at hi; cases hi
    rw [Nat.zero_add]
    exact ⟨(World.ownsRow.cellAt h.1 (i * 2) (by omega)).trans (tbC_get0 l i t hi), (World.ownsRow.cellAt h.1 (i * 2 + 1) (by omega)).trans (tbC_get1 l i t hi), h.2 t (List.mem_of_getElem? hi)⟩
theorem OwnT.keep (h : OwnT w base ao c l) (hk : ∀ a : Addr, ao = some a → a.block < w.heap.size → w'.heap[a.block]? = w.heap[a.block]?) : OwnT w' base ao c l := by
  have hl := h.lt
  refine ⟨⟨h.1.1, ?_⟩, h.2⟩
  rcases h.1.2 with h2 | ⟨g, cap, cur, hv, hb, hg, r⟩
  · exact .inl h2
  · refine .inr ⟨g, cap, cur, hv, hb, ?_, r⟩
    simp only [Value.slice.injEq] at hv
    rw [hk _ hv.1 (hl _ hv.1).2]; exact hg
theorem OwnT.below (h : OwnT w base ao c l) (hb : Below w.heap.size w w') : OwnT w' base ao c l := h.keep fun _ _ hlt => hb.block _ hlt
theorem OwnT.grown {row : Option Nat} (h : OwnT w base ao c l) (hg : w.grownBy w' row) (hne : ∀ a, ao = some a → some a.block ≠ row) : OwnT w' base ao c l :=
  h.keep fun a ha hlt => hg.block _ hlt (hne a ha)
theorem OwnT.base_le {base' : Nat} (h : OwnT w base ao c l) (hb : base' ≤ base) : OwnT w base' ao c l := by
  refine ⟨⟨h.1.1, ?_⟩, h.2⟩
  rcases h.1.2 with h2 | ⟨g, cap, cur, hv, hg, r⟩
  · exact .inl h2
  · exact .inr ⟨g, cap, cur, hv, Nat.le_trans hb hg, r⟩
theorem OwnT.none_ : OwnT w base none 0 [] := ⟨World.ownsRow_nil _ _ _ _, fun t h => by cases h⟩
theorem OwnT.alloc (h : OwnT w base ao c l) (o : Obj) : OwnT (w.alloc o) base ao c l := h.below ((Below.refl _ _).alloc (Nat.le_refl _) o)
theorem OwnT.apart {ao' : Option Addr} (h : OwnT w base ao c l) (hg : w.grownBy w' (ao'.map (·.block))) (hne : ∀ a b, ao = some a → ao' = some b → a.block ≠ b.block) : OwnT w' base ao c l :=
  h.grown hg (by
    intro a ha
    cases ao' with
    | none => simp
    | some b => simp; exact hne a b ha rfl)
end
theorem wpList_appendT {P : Program} (w : World) {ops : Array Oper} {rest : List Oper} {o : Oper} {a : Act} {Q : Exit → Act → World → Prop} (hgd : o.guard = none) (s x : Operand) (ty : TypeId)
    (ho : o.op = .call { callee := .builtin .append, args := #[s, x], argTypes := #[ty, ty] }) (base : Nat) (ht : P.underlying ty = some (.slice 89))
    (hi : (P.info? 89).map (fun i => (i.zero, i.size, i.bytes)) = some (some (.agg #[.string ⟨#[]⟩, .int .i64 0]), 2, 24))
    (ao : Option Addr) (c n : Nat) (l : List Tb) (hs : a.eval s = .slice ao n c) (hn : n = l.length) (hown : OwnT w base ao c l)
    (bl cx : Nat) (t : Tb) (hx : a.eval x = .slice (some ⟨bl, 0, none⟩) 1 cx) (hv : TbAt w bl 0 t)
    (hby : l.length + 1 ≤ 4194304) (hbase : base ≤ w.heap.size)
    (h : ∀ ao' c' w', OwnT w' base ao' c' (l ++ [t]) → w.grownBy w' (ao.map (·.block)) → wpList P ops Q rest (a.put o.dst (.slice ao' (l.length + 1) c')) w') :
    wpList P ops Q (o :: rest) a w := by
  obtain ⟨i, hi0, hz0, hz1, hz2⟩ := info_parts hi
  subst hn
  refine wpList_append_own_at w hgd s x ty ho base 89 i _ 2 24 ht hi0 hz0 hz1 hz2 rfl (by omega) _ l.length (tbC l) hs hown.1 ⟨bl, 0, none⟩ 1 cx (tbC [t]) hx rfl ?_ (tbC_one [t]) (by unfold maxLen; omega) (by omega) hbase ?_
  · intro j u hj
    match j, hj with
    | 0, hj => simp [tbC] at hj; subst hj; simpa [Addr.add] using hv.c0
    | 1, hj => simp [tbC] at hj; subst hj; simpa [Addr.add] using hv.c1
    | j + 2, hj => simp [tbC] at hj
  · intro v' w' ho' hg' _ _
    have hg2 : w.grownBy w' (ao.map (·.block)) := by
      cases ao with
      | none => exact hg'
      | some x => exact hg'
    rw [← tbC_app] at ho'
    have hnm : ∀ s ∈ l ++ [t], s.name.size ≤ maxLen := by
      intro s hs
      rcases List.mem_append.1 hs with h1 | h1
      · exact hown.2 s h1
      · simp at h1; subst h1; exact hv.nm
    have hlen : (l ++ [t]).length = l.length + 1 := by simp
    rcases ho'.2 with ⟨rfl, hz⟩ | ⟨g, cap, cur, rfl, r⟩
    · omega
    · exact h _ _ _ ⟨by rw [hlen]; exact ho', hnm⟩ hg2
theorem Tryz.infoTable : (Tryz.prog.info? 89).map (fun i => (i.zero, i.size, i.bytes)) = some (some (.agg #[.string ⟨#[]⟩, .int .i64 0]), 2, 24) := by kernel_rfl
theorem dec_ten {u : Nat} (h : 10 ≤ u) : Lib.decDigits u = Lib.decDigits (u / 10) ++ [UInt8.ofNat (48 + u % 10)] := by
  rw [Lib.decDigits, dif_neg (by omega)]
theorem dec_one {u : Nat} (h : u < 10) : Lib.decDigits u = [UInt8.ofNat (48 + u)] := by
  rw [Lib.decDigits, dif_pos h]
def leftD (u : Nat) : List UInt8 := if u = 0 then [] else Lib.decDigits u
theorem leftD_step {u : Nat} (h : u ≠ 0) : leftD u = leftD (u / 10) ++ [UInt8.ofNat (48 + u % 10)] := by
  unfold leftD
  rw [if_neg h]
  by_cases h10 : u < 10
  · rw [dec_one h10, if_pos (by omega), Nat.mod_eq_of_lt h10]; rfl
  · rw [dec_ten (by omega), if_neg (by omega)]
theorem leftD_len : ∀ (k u : Nat), u < 10 ^ k → (leftD u).length ≤ k
  | 0, u, h => by simp at h; subst h; simp [leftD]
  | k + 1, u, h => by
    by_cases h0 : u = 0
    · subst h0; simp [leftD]
    · rw [leftD_step h0]
      have := leftD_len k (u / 10) (by rw [Nat.pow_succ] at h; omega)
      simp; omega
def numT (x : Int) : ByteArray := ⟨(Lib.itoa x).toArray⟩
theorem conv_one (P : Program) (src dst e : TypeId) (hs : P.underlying src = some (.slice e)) (he : P.underlying e = some (.int .u8)) (hd : P.underlying dst = some .string) (w : World) (u : Nat) (x : Int) (hx : x = ((48 + u % 10 : Nat) : Int)) :
    Sem.run P (convert src dst (.slice (some ⟨w.heap.size, 0, none⟩) 1 1)) (w.alloc (.cells #[.int .u8 x] e)) = .ok (.string ⟨#[UInt8.ofNat (48 + u % 10)]⟩) (w.alloc (.cells #[.int .u8 x] e)) := by
  refine run_convert_bytes_back (P := P) _ src dst e ⟨w.heap.size, 0, none⟩ 1 [UInt8.ofNat (48 + u % 10)] hs he hd ?_
  intro j hj
  obtain rfl : j = 0 := by simp at hj; omega
  rw [show (⟨w.heap.size, 0, none⟩ : Addr).add 0 = ⟨w.heap.size, 0, none⟩ from rfl, World.cell?_alloc_new]
  have : (UInt8.ofNat (48 + u % 10)).toNat = 48 + u % 10 := by rw [UInt8.toNat_ofNat']; omega
  simp [this, hx]
  try omega
def NumRel (w : World) (u : Nat) (wr : World) (s i : Value) : Prop :=
  ∃ (y : Nat) (X : ByteArray), i = .int .i64 y ∧ s = .string X ∧ y ≤ u ∧ leftD u = leftD y ++ X.data.toList ∧ Below w.heap.size w wr
theorem num_next {w w1 : World} {u y : Nat} {X : ByteArray} (h0 : y ≠ 0) (hy : y ≤ u) (hX : leftD u = leftD y ++ X.data.toList) (hb : Below w.heap.size w w1) (S : ByteArray) (hS : S.data.toList = UInt8.ofNat (48 + y % 10) :: X.data.toList) (z : Int) (hz : z = ((y / 10 : Nat) : Int)) : NumRel w u w1 (.string S) (.int .i64 z) := by
  refine ⟨y / 10, S, by rw [hz], rfl, by omega, ?_, hb⟩
  rw [hX, leftD_step h0, hS]; simp
set_option maxRecDepth 100000 in
set_option maxHeartbeats 1600000 in
theorem numPos_any (u : Nat) (hu : 0 < u) (hb63 : u < 9223372036854775808) (w : World) :
    Calls Tryz.prog 71 #[.int .i64 u] w fun e w' => e = .returned (.string (numT u)) ∧ Below w.heap.size w w' := by
  have hu' : (0 : Int) < (u : Int) := by omega
  have hu'' : ((u : Int) == 0) = false := by simp; omega
  have P0 := Lib.hid (show NumRel w u w (.string ⟨#[]⟩) (.int .i64 u) from ⟨u, _, rfl, rfl, Nat.le_refl _, by simp, Below.refl _ _⟩)
  have L := Lib.hid (leftD_len 19 u (by have : (10 : Nat) ^ 19 = 10000000000000000000 := by decide
                                        omega))
  go_enter Tryz.func71, Tryz.ntmps71
  go_wp2_with fail
  go_loopw [3, 0] (fun s i wr => NumRel w u wr s i) (fun _ i _ => (intOf i).toNat)
  case atStart => exact P0.out
  case round =>
    clear P0
    obtain ⟨y, X, rfl, rfl, hy, hX, hb⟩ := hrel
    have HX := Lib.hid hX; have HB := Lib.hid hb
    have hxs : X.size ≤ 19 := by
      have h1 : X.data.toList.length = X.size := by rw [Array.length_toList]; rfl
      have h2 := L.out
      rw [hX, List.length_append, h1] at h2
      omega
    clear hX hb
    by_cases h0 : y = 0
    · subst h0
      have E := Lib.hid (show X = numT u by
        have h1 := HX.out
        simp only [leftD, if_true, List.nil_append] at h1
        rw [if_neg (by omega)] at h1
        apply ByteArray.ext
        unfold numT Lib.itoa
        rw [if_neg (by omega), Int.toNat_natCast, h1])
      go_wp2_with fail
      go_ret
      rw [E.out]
      exact ⟨rfl, HB.out⟩
    · have hy0 : (0 : Int) < (y : Int) := by omega
      have hy1 : ((y : Int) == 0) = false := by simp; omega
      have hy2 : ((y : Int) != 0) = true := by simp; omega
      have hy3 : (y : Int) ≤ 9223372036854775807 := by omega
      have hm0 : (0 : Int) ≤ (y : Int) % 10 := by omega
      have hm9 : (y : Int) % 10 ≤ 9 := by omega
      have H0 := Lib.hid h0; clear h0
      have hcv := conv_one Tryz.prog 22 9 5 Tryz.underlying22 Tryz.underlying5 Tryz.underlying9 wr y (48 + (y : Int) % 10) (by omega)
      have e1 : ¬ (9223372036854775807 < 1 + X.size) := by omega
      go_wp2_with fail
      go_roundw
      case rel => exact num_next H0.out hy HX.out (HB.out.alloc HB.out.size _) _ (by simp [ByteArray.data_append]) _ (by omega)
      case measure => simp [intOf]; omega
def NumRelN (w : World) (u : Nat) (wr : World) (s i : Value) : Prop :=
  ∃ (y : Nat) (X : ByteArray), i = .int .i64 (-(y : Int)) ∧ s = .string X ∧ y ≤ u ∧ leftD u = leftD y ++ X.data.toList ∧ Below w.heap.size w wr
theorem numN_next {w w1 : World} {u y : Nat} {X : ByteArray} (h0 : y ≠ 0) (hy : y ≤ u) (hX : leftD u = leftD y ++ X.data.toList) (hb : Below w.heap.size w w1) (S : ByteArray) (hS : S.data.toList = UInt8.ofNat (48 + y % 10) :: X.data.toList) (z : Int) (hz : z = -((y / 10 : Nat) : Int)) : NumRelN w u w1 (.string S) (.int .i64 z) := by
  refine ⟨y / 10, S, by rw [hz], rfl, by omega, ?_, hb⟩
  rw [hX, leftD_step h0, hS]; simp
theorem tmod_neg_nat (y : Nat) : Int.tmod (-(y : Int)) 10 = -((y % 10 : Nat) : Int) := by
  rw [Int.neg_tmod, Int.tmod_eq_emod_of_nonneg (by omega)]; omega
theorem tdiv_neg_nat (y : Nat) : Int.tdiv (-(y : Int)) 10 = -((y / 10 : Nat) : Int) := by
  rw [Int.neg_tdiv, Int.tdiv_eq_ediv_of_nonneg (by omega)]; omega
set_option maxRecDepth 100000 in
set_option maxHeartbeats 1600000 in
theorem numNeg_any (u : Nat) (hu : 0 < u) (hb63 : u ≤ 9223372036854775808) (w : World) :
    Calls Tryz.prog 71 #[.int .i64 (-(u : Int))] w fun e w' => e = .returned (.string (numT (-(u : Int)))) ∧ Below w.heap.size w w' := by
  have hu' : (-(u : Int)) < 0 := by omega
  have hu'' : (-(u : Int) == 0) = false := by simp; omega
  have hu3 : ¬ ((u : Int) = 0) := by omega
  have P0 := Lib.hid (show NumRelN w u w (.string ⟨#[]⟩) (.int .i64 (-(u : Int))) from ⟨u, _, rfl, rfl, Nat.le_refl _, by simp, Below.refl _ _⟩)
  have L := Lib.hid (leftD_len 19 u (by have : (10 : Nat) ^ 19 = 10000000000000000000 := by decide
                                        omega))
  go_enter Tryz.func71, Tryz.ntmps71
  go_wp2_with fail
  go_loopw [3, 0] (fun s i wr => NumRelN w u wr s i) (fun _ i _ => (-(intOf i)).toNat)
  case atStart => exact P0.out
  case round =>
    clear P0
    obtain ⟨y, X, rfl, rfl, hy, hX, hb⟩ := hrel
    have HX := Lib.hid hX; have HB := Lib.hid hb
    have hxs : X.size ≤ 19 := by
      have h1 : X.data.toList.length = X.size := by rw [Array.length_toList]; rfl
      have h2 := L.out
      rw [hX, List.length_append, h1] at h2
      omega
    clear hX hb
    by_cases h0 : y = 0
    · subst h0
      have E := Lib.hid (show (⟨#[45]⟩ : ByteArray) ++ X = numT (-(u : Int)) by
        have h1 := HX.out
        simp only [leftD, if_true, List.nil_append] at h1
        rw [if_neg (by omega)] at h1
        apply ByteArray.ext
        unfold numT Lib.itoa
        rw [if_pos (by omega), Int.natAbs_neg, Int.natAbs_natCast, h1]
        simp [ByteArray.data_append])
      have e1 : ¬ (9223372036854775807 < 1 + X.size) := by omega
      go_wp2_with fail
      go_ret
      rw [E.out]
      exact ⟨rfl, HB.out⟩
    · have hy0 : (0 : Int) < (y : Int) := by omega
      have hy1 : ((-(y : Int)) != 0) = true := by simp; omega
      have hy2 : ((-(y : Int)) == 0) = false := by simp; omega
      have hy4 : ¬ ((y : Int) = 0) := by omega
      have H0 := Lib.hid h0; clear h0
      have e1 : ¬ (9223372036854775807 < 1 + X.size) := by omega
      have ht := tmod_neg_nat y
      have htd := tdiv_neg_nat y
      by_cases hm : y % 10 = 0
      · have hcv := conv_one Tryz.prog 22 9 5 Tryz.underlying22 Tryz.underlying5 Tryz.underlying9 wr y 48 (by omega)
        rw [hm] at ht hcv
        go_wp2_with fail
        go_roundw
        case rel => exact numN_next H0.out hy HX.out (HB.out.alloc HB.out.size _) _ (by rw [hm]; simp [ByteArray.data_append]) _ (by omega)
        case measure => simp [intOf]; omega
      · have hcv := conv_one Tryz.prog 22 9 5 Tryz.underlying22 Tryz.underlying5 Tryz.underlying9 wr y (48 + (y : Int) % 10) (by omega)
        have hmp : (0 : Int) < (y : Int) % 10 := by omega
        have hm9 : (y : Int) % 10 ≤ 9 := by omega
        have hml : -((y : Int) % 10) < 0 := by omega
        have hy9 : (y : Int) ≤ 9223372036854775808 := by omega
        clear hm
        go_wp2_with fail
        go_roundw
        case rel => exact numN_next H0.out hy HX.out (HB.out.alloc HB.out.size _) _ (by simp [ByteArray.data_append]) _ (by omega)
        case measure => simp [intOf]; omega
theorem num_all (x : Int) (h0 : -9223372036854775808 ≤ x) (h1 : x ≤ 9223372036854775807) (w : World) :
    Calls Tryz.prog 71 #[.int .i64 x] w fun e w' => e = .returned (.string (numT x)) ∧ Below w.heap.size w w' := by
  by_cases hz : x = 0
  · subst hz
    go_enter Tryz.func71, Tryz.ntmps71
    go_wp2_with fail
    go_ret
    have E : numT 0 = ⟨#[48]⟩ := by
      unfold numT Lib.itoa
      rw [if_neg (by omega), show (0 : Int).toNat = 0 from rfl, dec_one (by omega)]; rfl
    rw [E]
    exact ⟨rfl, Below.refl _ _⟩
  · by_cases hp : 0 < x
    · have := numPos_any x.toNat (by omega) (by omega) w
      rwa [Int.toNat_of_nonneg (by omega)] at this
    · have := numNeg_any (-x).toNat (by omega) (by omega) w
      rw [Int.toNat_of_nonneg (by omega), Int.neg_neg] at this
      exact this
theorem dec_len_le (u : Nat) (h : u ≤ 9223372036854775808) : (Lib.decDigits u).length ≤ 19 := by
  by_cases h0 : u = 0
  · subst h0; rw [dec_one (by omega)]; simp
  · have := leftD_len 19 u (by have : (10 : Nat) ^ 19 = 10000000000000000000 := by decide
                               omega)
    unfold leftD at this
    rwa [if_neg h0] at this
theorem numT_size {x : Int} (h0 : -9223372036854775808 ≤ x) (h1 : x ≤ 9223372036854775807) : (numT x).size ≤ 20 := by
  have e : (numT x).size = (Lib.itoa x).length := by
    have : (numT x).data.toList.length = (numT x).size := by rw [Array.length_toList]; rfl
    rw [← this]; simp [numT]
  rw [e]
  unfold Lib.itoa
  split
  · have := dec_len_le x.natAbs (by omega); simp; omega
  · have := dec_len_le x.toNat (by omega); omega
theorem grownBy_trans {a b c : World} {row : Option Nat} (h : a.grownBy b row) (k : b.grownBy c row) : a.grownBy c row :=
  ⟨k.os.trans h.os, k.tape.trans h.tape, k.output.trans h.output, Nat.le_trans h.size k.size, fun i hi hne => (k.block i (Nat.lt_of_lt_of_le hi h.size) hne).trans (h.block i hi hne)⟩
theorem grownBy_below {a b c : World} {row : Option Nat} (h : a.grownBy b row) (k : Below b.heap.size b c) : a.grownBy c row :=
  ⟨k.os.trans h.os, k.tape.trans h.tape, k.output.trans h.output, Nat.le_trans h.size k.size, fun i hi hne => (k.block i (Nat.lt_of_lt_of_le hi h.size)).trans (h.block i hi hne)⟩
theorem Rd.far {w w' : World} {k : IntKind} {ao : Option Addr} {l : List Int} {g : Nat} (h : Rd w k ao l) (hne : ∀ a, ao = some a → l ≠ [] → a.block ≠ g) (hk : ∀ p : Addr, p.block ≠ g → w'.cell? p = w.cell? p) : Rd w' k ao l := by
  rcases h with rfl | ⟨b, off, rfl, hc⟩
  · exact .inl rfl
  · by_cases hl : l = []
    · exact .inl hl
    · exact .inr ⟨b, off, rfl, fun i hi => (hk ⟨b, off + i, none⟩ (hne ⟨b, off, none⟩ rfl hl)).trans (hc i hi)⟩
end Go.Proofs.YtanfllednlpbaaaGreat
