/-
  A row of nodes that grows by one node at a time, its columns in rows of the call's own. No program, no walk. Contract of takeCounted at nodes. For every slice of bytes and every place. Contract of the program's reader's end. For every slice of bytes and every place. The call that answers nodes of its own beside a number. A plan read out of bytes: the call that answers nodes beside a number; bounds. No program, no walk.
-/
import Derived.Test.YtfpbhedophlnkaaGreatDoorJ17x
import Derived.Laws.OwnMore
import Derived.Test.YtfpbhedophlnkaaGreatDoorJ43x
import Derived.Test.YtfpbhedophlnkaaGreatDoorJ14x
import Derived.ScopeJumps
import Derived.Test.YtfpbhedophlnkaaGreatDoorJ41x
import Derived.Deep.QuietTactic
import Derived.BigQuiet
namespace Go.Proofs.YtfpbhedophlnkaaGreatDoor
open Go.RowKit
set_option linter.unusedSimpArgs false
set_option linter.unusedVariables false

theorem Tryz.infoNodeG : (Tryz.prog.info? 92).map (fun i => (i.zero, i.size, i.bytes)) = some (some (.agg #[.int .i64 0, .string ⟨#[]⟩, .int .i64 0, .int .i64 0, .int .i64 0, .bool false, .slice none 0 0]), 7, 80) := by kernel_rfl
def ndRow (n : Nd) (a : Option Addr) (c : Nat) : List Value := [.int .i64 n.kind, .string n.name, .int .i64 n.col, .int .i64 n.op, .int .i64 n.num, .bool n.slot, .slice a n.cols.length c]
structure GrN (w : World) (base top : Nat) (v : Value) (l : List Nd) (xs : List Value) (A : Nat → Option Addr) (C : Nat → Nat) : Prop where
  own : w.ownsRow base 92 7 v l.length xs
  cells : ∀ (i : Nat) (n : Nd), l[i]? = some n → NdC xs (i * 7) n (A i) (C i)
  cols : ∀ (i : Nat) (n : Nd), l[i]? = some n → Own w base 3 .i64 (A i) (C i) n.cols
  name : ∀ (i : Nat) (n : Nd), l[i]? = some n → n.name.size ≤ maxLen
  row : ∀ (i : Nat) (x : Addr), i < l.length → A i = some x → v.ownBlock ≠ some x.block
  apart : ∀ (i k : Nat) (x y : Addr), i < l.length → k < l.length → i ≠ k → A i = some x → A k = some y → x.block ≠ y.block
  topv : ∀ g, v.ownBlock = some g → g < top
  topc : ∀ (i : Nat) (x : Addr), i < l.length → A i = some x → x.block < top
/-- A row of nodes of the call's own that can grow; all its blocks lie below top. -/
def GrowN (w : World) (base top : Nat) (v : Value) (l : List Nd) : Prop := ∃ xs A C, GrN w base top v l xs A C

theorem GrowN.nil {w : World} {base top : Nat} : GrowN w base top (.slice none 0 0) [] :=
  ⟨[], fun _ => none, fun _ => 0, World.ownsRow_nil _ _ _ _, fun i n h => by simp at h, fun i n h => by simp at h, fun i n h => by simp at h, fun i x h => by simp at h, fun i k x y h => by simp at h, fun g h => by simp [Value.ownBlock] at h, fun i x h => by simp at h⟩
theorem GrowN.lit {w : World} {base : Nat} (hb : base ≤ w.heap.size) : GrowN (w.alloc (.cells #[] 92)) base (w.heap.size + 1) (.slice (some ⟨w.heap.size, 0, none⟩) 0 0) [] :=
  ⟨[], fun _ => none, fun _ => 0, World.ownsRow_lit w #[] 0 hb (Nat.zero_le _) rfl, fun i n h => by simp at h, fun i n h => by simp at h, fun i n h => by simp at h, fun i x h => by simp at h, fun i k x y h => by simp at h, fun g h => by simp [Value.ownBlock] at h; omega, fun i x h => by simp at h⟩

section
variable {w w' : World} {base top : Nat} {v : Value} {l : List Nd}
theorem GrowN.grown {row : Option Nat} (h : GrowN w base top v l) (hg : w.grownBy w' row) (hr : ∀ r, row = some r → r < base) : GrowN w' base top v l := by
  obtain ⟨xs, A, C, h⟩ := h
  refine ⟨xs, A, C, h.own.kept hg ?_, h.cells, fun i n hn => (h.cols i n hn).grown hg ?_, h.name, h.row, h.apart, h.topv, h.topc⟩
  · cases hv : v.ownBlock with
    | none => exact .inl rfl
    | some g => right; intro e; have := (h.own.lt g hv).1; have := hr g e.symm; omega
  · intro x hx e
    have := ((h.cols i n hn).lt x hx).1
    have := hr _ e.symm
    omega
theorem GrowN.below (h : GrowN w base top v l) (hb : Below w.heap.size w w') : GrowN w' base top v l :=
  h.grown (row := none) ⟨hb.os, hb.tape, hb.output, hb.size, fun k hk _ => hb.block k hk⟩ (fun _ e => by cases e)
theorem GrowN.mono {top' : Nat} (h : GrowN w base top v l) (ht : top ≤ top') : GrowN w base top' v l := by
  obtain ⟨xs, A, C, h⟩ := h
  exact ⟨xs, A, C, h.own, h.cells, h.cols, h.name, h.row, h.apart, fun g hg => Nat.lt_of_lt_of_le (h.topv g hg) ht, fun i x hi hx => Nat.lt_of_lt_of_le (h.topc i x hi hx) ht⟩
theorem GrowN.top_ (h : GrowN w base top v l) : GrowN w base w.heap.size v l := by
  obtain ⟨xs, A, C, h⟩ := h
  exact ⟨xs, A, C, h.own, h.cells, h.cols, h.name, h.row, h.apart, fun g hg => (h.own.lt g hg).2, fun i x hi hx => ((h.cols i _ (List.getElem?_eq_getElem hi)).lt x hx).2⟩
theorem GrowN.lt {ao : Option Addr} {n c : Nat} (h : GrowN w base top (.slice ao n c) l) : ∀ x, ao = some x → base ≤ x.block ∧ x.block < w.heap.size := by
  obtain ⟨xs, A, C, h⟩ := h
  intro x hx
  subst hx
  exact h.own.lt x.block rfl
theorem GrowN.ownN {ao : Option Addr} {c : Nat} (h : GrowN w base top (.slice ao l.length c) l) : OwnN w base ao c l := by
  obtain ⟨xs, A, C, h⟩ := h
  rcases h.own.2 with ⟨_, hn⟩ | ⟨g, cap, cur, hv, _⟩
  · left; exact List.eq_nil_of_length_eq_zero hn
  · simp only [Value.slice.injEq] at hv
    obtain ⟨rfl, _, rfl⟩ := hv
    refine .inr ⟨g, xs, A, C, rfl, ⟨h.own, fun i n _ hn => h.cells i n hn, fun i n _ hn => h.cols i n hn, fun i n _ hn => h.name i n hn, fun i x _ hi hx => ?_, fun i k x y _ _ hi hk hik hx hy => h.apart i k x y hi hk hik hx hy⟩⟩
    have := h.row i x hi hx
    intro e; exact this (by simp [Value.ownBlock, e])
theorem GrowN.rd {ao : Option Addr} {c : Nat} (h : GrowN w base top (.slice ao l.length c) l) : RdN w ao l := h.ownN.rd
end

theorem gr_left {xs ys : List Value} {o : Nat} {n : Nd} {a : Option Addr} {c : Nat} (h : NdC xs o n a c) : NdC (xs ++ ys) o n a c := by
  have hl : o + 6 < xs.length := (List.getElem?_eq_some_iff.1 h.c6).1
  exact ⟨by rw [List.getElem?_append_left (by omega)]; exact h.c0, by rw [List.getElem?_append_left (by omega)]; exact h.c1, by rw [List.getElem?_append_left (by omega)]; exact h.c2, by rw [List.getElem?_append_left (by omega)]; exact h.c3, by rw [List.getElem?_append_left (by omega)]; exact h.c4, by rw [List.getElem?_append_left (by omega)]; exact h.c5, by rw [List.getElem?_append_left (by omega)]; exact h.c6⟩
theorem gr_last {xs : List Value} {o : Nat} {n : Nd} {a : Option Addr} {c : Nat} (h : xs.length = o) : NdC (xs ++ ndRow n a c) o n a c := by
  subst h
  constructor <;> rw [List.getElem?_append_right (by omega)] <;> simp [ndRow]
theorem ndRow_one (n : Nd) (a : Option Addr) (c : Nat) : ∀ u ∈ ndRow n a c, u.oneCell' = true := by
  intro u hu
  simp only [ndRow, List.mem_cons, List.not_mem_nil, or_false] at hu
  rcases hu with rfl | rfl | rfl | rfl | rfl | rfl | rfl <;> rfl

/-- 'append(xs, n)' at a row of nodes of the call's own, whatever it is: n lies in a block of its own, its columns in a row made since. -/
theorem wpList_appendG {P : Program} (w : World) {ops : Array Oper} {rest : List Oper} {o : Oper} {a : Act} {Q : Exit → Act → World → Prop} (hgd : o.guard = none) (s x : Operand) (t : TypeId)
    (ho : o.op = .call { callee := .builtin .append, args := #[s, x], argTypes := #[t, t] }) (base top : Nat) {z : Value} (ht : P.underlying t = some (.slice 92))
    (hi : (P.info? 92).map (fun i => (i.zero, i.size, i.bytes)) = some (some z, 7, 80)) (hz : z.cells.size = 7) (ao : Option Addr) (c k : Nat) (l : List Nd) (hs : a.eval s = .slice ao k c) (hk : k = l.length)
    (hown : GrowN w base top (.slice ao l.length c) l) (htop : top ≤ w.heap.size) (hbase : base ≤ top) (bl cx : Nat) (n : Nd) (a2 : Option Addr) (c2 : Nat) (hx : a.eval x = .slice (some ⟨bl, 0, none⟩) 1 cx)
    (hc : ∀ t u, (ndRow n a2 c2)[t]? = some u → w.cell? ⟨bl, t, none⟩ = some u) (hcol : Own w top 3 .i64 a2 c2 n.cols) (hnm : n.name.size ≤ maxLen) (hj : l.length ≤ 1048576)
    (h : ∀ ao' c' w', GrowN w' base w'.heap.size (.slice ao' (l.length + 1) c') (l ++ [n]) → w.grownBy w' (ao.map (·.block)) → wpList P ops Q rest (a.put o.dst (.slice ao' (l.length + 1) c')) w') :
    wpList P ops Q (o :: rest) a w := by
  obtain ⟨i, hi0, hz0, hz1, hz2⟩ := info_parts hi
  subst hk
  obtain ⟨xs, A, C, hown⟩ := hown
  have hxl : xs.length = l.length * 7 := hown.own.1
  refine wpList_append_own_at w hgd s x t ho base 92 i z 7 80 ht hi0 hz0 hz1 hz2 hz (by omega) _ l.length xs hs hown.own ⟨bl, 0, none⟩ 1 cx (ndRow n a2 c2) hx (by simp [ndRow]) ?_ (ndRow_one n a2 c2) (by unfold maxLen; omega) (by omega) (Nat.le_trans hbase htop) ?_
  · intro t u hu
    have := hc t u hu
    unfold Addr.add
    split
    · rename_i h0; subst h0; exact this
    · show w.cell? ⟨bl, 0 + t, none⟩ = some u
      rw [Nat.zero_add]; exact this
  · intro v' w' h1 hg _ h4
    have hlen : (l ++ [n]).length = l.length + 1 := by simp
    have hg2 : w.grownBy w' (ao.map (·.block)) := by
      cases ao with
      | none => exact hg
      | some x => exact hg
    rcases h1.2 with ⟨_, hz'⟩ | ⟨g', cap, cur, rfl, r⟩
    · omega
    · refine h _ _ _ ⟨_, fun i => if i < l.length then A i else a2, fun i => if i < l.length then C i else c2, ⟨by rw [hlen]; exact h1, ?_, ?_, ?_, ?_, ?_, fun g hg' => (h1.lt g hg').2, ?_⟩⟩ hg2
      · intro i m hm
        by_cases hil : i < l.length
        · simp only [if_pos hil]
          rw [List.getElem?_append_left hil] at hm
          exact gr_left (hown.cells i m hm)
        · simp only [if_neg hil]
          obtain rfl : i = l.length := by have := (List.getElem?_eq_some_iff.1 hm).1; simp at this; omega
          simp at hm; subst hm
          exact gr_last hxl
      · intro i m hm
        by_cases hil : i < l.length
        · simp only [if_pos hil]
          rw [List.getElem?_append_left hil] at hm
          exact (hown.cols i m hm).grown hg (fun x hx e => hown.row i x hil hx e.symm)
        · simp only [if_neg hil]
          obtain rfl : i = l.length := by have := (List.getElem?_eq_some_iff.1 hm).1; simp at this; omega
          simp at hm; subst hm
          refine (hcol.grown hg (fun x hx e => ?_)).base_le hbase
          have := (hcol.lt x hx).1
          have := hown.topv _ e.symm
          omega
      · intro i m hm
        by_cases hil : i < l.length
        · rw [List.getElem?_append_left hil] at hm
          exact hown.name i m hm
        · obtain rfl : i = l.length := by have := (List.getElem?_eq_some_iff.1 hm).1; simp at this; omega
          simp at hm; subst hm; exact hnm
      · intro i x hi hx' e
        rw [hlen] at hi
        by_cases hil : i < l.length
        · simp only [if_pos hil] at hx'
          have := hown.topc i x hil hx'
          rcases h4 with h4 | h4
          · exact hown.row i x hil hx' (h4 ▸ e)
          · rw [h4] at e; simp at e; omega
        · simp only [if_neg hil] at hx'
          have h5 := hcol.lt x hx'
          rcases h4 with h4 | h4
          · have := hown.topv _ (h4 ▸ e); omega
          · rw [h4] at e; simp at e; omega
      · intro i k x y hi hk hik hx' hy'
        rw [hlen] at hi hk
        by_cases hil : i < l.length
        · simp only [if_pos hil] at hx'
          have := hown.topc i x hil hx'
          by_cases hkl : k < l.length
          · simp only [if_pos hkl] at hy'
            exact hown.apart i k x y hil hkl hik hx' hy'
          · simp only [if_neg hkl] at hy'
            have := (hcol.lt y hy').1
            omega
        · simp only [if_neg hil] at hx'
          have := (hcol.lt x hx').1
          by_cases hkl : k < l.length
          · simp only [if_pos hkl] at hy'
            have := hown.topc k y hkl hy'
            omega
          · omega
      · intro i x hi hx'
        rw [hlen] at hi
        have hsz := hg.size
        by_cases hil : i < l.length
        · simp only [if_pos hil] at hx'
          have := hown.topc i x hil hx'
          omega
        · simp only [if_neg hil] at hx'
          have := (hcol.lt x hx').2
          omega
/-- What a node's own fresh block holds. -/
theorem ndRow_new {w : World} {n : Nd} {a : Option Addr} {c : Nat} : ∀ t u, (ndRow n a c)[t]? = some u → (w.alloc (.cells #[.int .i64 n.kind, .string n.name, .int .i64 n.col, .int .i64 n.op, .int .i64 n.num, .bool n.slot, .slice a n.cols.length c] 92)).cell? ⟨w.heap.size, t, none⟩ = some u := by
  intro t u h
  refine (cell_of_row _ _ _ _ _ _ (heap_alloc_new w _)).trans ?_
  rw [← h]; simp [ndRow]
theorem ndRow_at {w : World} {n : Nd} {a : Option Addr} {c b : Nat} (hb : b = w.heap.size) : ∀ t u, (ndRow n a c)[t]? = some u → (w.alloc (.cells #[.int .i64 n.kind, .string n.name, .int .i64 n.col, .int .i64 n.op, .int .i64 n.num, .bool n.slot, .slice a n.cols.length c] 92)).cell? ⟨b, t, none⟩ = some u := by
  subst hb; exact ndRow_new
theorem below_gr {B : Nat} {a b d : World} {ao : Option Addr} {base top n c : Nat} {l : List Nd} (h : Below B a b) (hB : B ≤ a.heap.size) (ho : GrowN b base top (.slice ao n c) l) (hb : B ≤ base) (k : b.grownBy d (ao.map (·.block))) : Below B a d :=
  below_grow h hB k (fun x hx => Nat.le_trans hb (ho.lt x hx).1)
end Go.Proofs.YtfpbhedophlnkaaGreatDoor
namespace Go.Proofs.YtfpbhedophlnkaaGreatDoor
open Go.RowKit
set_option linter.unusedSimpArgs false
set_option linter.unusedVariables false

def CntPN (res : Option (List Nd × Int)) (R : Nat) (b : Option Addr) (d : Nat) (l : List Int) (w : World) (e : Ending) (w' : World) : Prop :=
  w.grownBy w' (some R) ∧ match res with
    | none => e = .returned (.tuple #[.slice none 0 0, .bool false]) ∧ ∃ s', Rdr w' R b d l s'
    | some x => ∃ ao c, e = .returned (.tuple #[.slice ao x.1.length c, .bool true]) ∧ OwnN w' w.heap.size ao c x.1 ∧ Rdr w' R b d l (some x.2)
theorem cntPN_no {res : Option (List Nd × Int)} {R : Nat} {b : Option Addr} {d : Nat} {l : List Int} {w w' : World} {s' : Option Int} (h : res = none) (hg : w.grownBy w' (some R)) (hr : Rdr w' R b d l s') : CntPN res R b d l w (.returned (.tuple #[.slice none 0 0, .bool false])) w' := by
  rw [h]; exact ⟨hg, rfl, s', hr⟩
def RcRelN (w wr : World) (R : Nat) (b : Option Addr) (d : Nat) (l : List Int) (p : Int) (m : Nat) (v i : Value) : Prop :=
  ∃ (k : Nat) (acc : List Nd) (q : Int) (ao : Option Addr) (c n : Nat), v = .slice ao n c ∧ i = .int .i64 k ∧ n = acc.length ∧ k ≤ m ∧ nodsK l p k = some (acc, q) ∧ GrowN wr w.heap.size wr.heap.size (.slice ao acc.length c) acc ∧ Rdr wr R b d l (some q) ∧ w.grownBy wr (some R)
/-- What holds where the run leaves by the label. -/
def RcJN (w : World) (R : Nat) (b : Option Addr) (d : Nat) (l : List Int) (res : Option (List Nd × Int)) (a' : Act) (w' : World) : Prop :=
  ∃ v0 v1 v2 v3 v4 v5 v6 v7 v8 v9 v10 v11 v12 v13 v14 v15 v16 v17 v18 v19 v20 v21 v22 v23 v24 v25 v26 v27 v28 v29 v30 v31 v32 v33 v34 v35 v36 v37 v38 v39 v40 : Value, a' = { tmps := #[v0, v1, v2, v3, v4, v5, v6, v7, v8, v9, v10, v11, v12, v13, v14, v15, v16, v17, v18, v19, v20, v21, v22, v23, v24, v25, v26, v27, v28, v29, v30, v31, v32, v33, v34, v35, v36, v37, v38, v39, v40], defers := [] } ∧ res = none ∧ w.grownBy w' (some R) ∧ ∃ s', Rdr w' R b d l s'

set_option maxRecDepth 100000 in
set_option maxHeartbeats 3200000 in
theorem takeNods_any (R : Nat) (b : Option Addr) (d : Nat) (l : List Int) (s : Option Int) (w : World) (h : Rdr w R b d l s) :
    Calls Tryz.prog 120 #[.pointer (some ⟨R, 0, none⟩), .int .i64 40, .func (.func 121) #[.pointer (some ⟨R, 0, none⟩)] #[]] w (CntPN (countNd l s 40) R b d l w) := by
  have hR := h.lt
  have HBT := Lib.hid h.bytes
  have T1 := Lib.hid (rNum_any R b d l s w h)
  have T2 := Lib.hid (fun W q (h : Rdr W R b d l (some q)) => rNode_any R b d l (some q) W h)
  obtain ⟨res, hres⟩ : ∃ r, r = countNd l s 40 := ⟨_, rfl⟩
  rw [← hres]
  unfold countNd at hres
  obtain ⟨⟨x, s1⟩, hx⟩ : ∃ r, r = numR l s := ⟨_, rfl⟩
  rw [← hx] at T1 hres
  simp only at hres
  have RES := Lib.hid hres
  clear hres hx h
  go_enter Tryz.func120, Tryz.ntmps120
  go_wp2_with fail
  refine wp_scope_jumps 0 (RcJN w R b d l res) (fun _ _ => 0) rfl ?_ ?_
  · go_wp2_with fail
    refine T1.out.mono ?_
    rintro e w1 ⟨rfl, h1, g1⟩
    simp only at h1 ⊢
    have H1 := Lib.hid h1; have G1 := Lib.hid g1
    obtain ⟨p1, er, hh, hp1, he1, _⟩ := id h1
    have c2 : w1.cell? ⟨R, 2, none⟩ = some er := cell_of_row w1 R 2 _ _ _ hh
    have HE := Lib.hid he1
    clear hh he1 h1 g1 T1
    rcases HE.out with ⟨hs, rfl⟩ | ⟨hs, k1, k2, rfl⟩
    · by_cases hc : 0 ≤ x ∧ x ≤ 40
      · obtain ⟨m, rfl⟩ : ∃ m : Nat, x = m := ⟨x.toNat, by omega⟩
        have hm8 : m ≤ 40 := by omega
        have E : Hid (res = nodsK l p1 m) := by show _ = _; rw [RES.out, hs]; simp only; rw [if_pos (by omega), Int.toNat_natCast]
        have hb1 : decide ((m : Int) < 0) = false := by simp
        have hb2 : decide ((40 : Int) < m) = false := by simp; omega
        have H1' : Hid (Rdr w1 R b d l (some p1)) := by have := H1.out; rw [hs] at this; exact this
        clear hc
        go_wp2_with fail
        go_loopw [8, 27] (fun v i wr => RcRelN w wr R b d l p1 m v i) (fun _ i _ => m - (intOf i).toNat)
        case atStart => exact ⟨0, [], p1, none, 0, 0, rfl, rfl, rfl, Nat.zero_le _, rfl, GrowN.nil, H1'.out, G1.out⟩
        case round =>
          obtain ⟨k, acc, q, ao, c, n, rfl, rfl, hn, hk, ht, ho, hr, hg⟩ := hrel
          have HT := Lib.hid ht; have HO := Lib.hid ho; have HG := Lib.hid hg; have HN := Lib.hid hn; have HRR := Lib.hid hr
          have hal := nodsK_len ht
          have TT := Lib.hid (T2.out wr q hr)
          have hsz := hg.size
          have HZ := Lib.hid hsz
          clear hn ht ho hr hg
          by_cases hlt : k < m
          · have hnm' : (nodeR l (some q)).1.name.size ≤ 12 := fieldR_name l _ _
            obtain ⟨⟨t, s2⟩, hx2⟩ : ∃ r, r = nodeR l (some q) := ⟨_, rfl⟩
            rw [← hx2] at TT hnm'
            have HX := Lib.hid hx2.symm
            clear hx2
            simp only at hnm'
            cases s2 with
            | some q' =>
              have TK : Hid (nodsK l p1 (k + 1) = some (acc ++ [t], q')) := nodsK_yes HT.out HX.out
              go_wp2_with fail
              refine TT.out.mono ?_
              rintro e w2 ⟨a2, c2, rfl, ho2, h2, g2⟩
              simp only at h2 ⊢
              have hs2 := g2.size
              have OW2 := Lib.hid (HO.out.grown g2 (fun r hr => by cases hr; exact hR))
              have G2 := Lib.hid (grownBy_trans HG.out g2)
              have H2 := Lib.hid h2
              have OL := Lib.hid (fun x hx => (HO.out.lt x hx).1)
              have BA := Lib.hid ((Below.refl w.heap.size w2).alloc (by omega) (.cells #[.int .i64 t.kind, .string t.name, .int .i64 t.col, .int .i64 t.op, .int .i64 t.num, .bool t.slot, .slice a2 t.cols.length c2] 92))
              have CA := Lib.hid (ho2.alloc (.cells #[.int .i64 t.kind, .string t.name, .int .i64 t.col, .int .i64 t.op, .int .i64 t.num, .bool t.slot, .slice a2 t.cols.length c2] 92))
              clear h2 g2 ho2
              go_wp2_with (at_builtin; go_must (refine wpList_appendG _ rfl (.tmp 29) (.tmp 32) 25 rfl w.heap.size wr.heap.size Tryz.underlying25 Tryz.infoNodeG rfl ao c n acc rfl HN.out (OW2.out.below ((Below.refl _ w2).alloc (Nat.le_refl _) _)) (by simp; omega) HZ.out w2.heap.size 1 t a2 c2 rfl ndRow_new CA.out (by unfold maxLen; omega) (by omega) ?_; intro ao' c' w4 o4 g4; have O4 := Lib.hid o4; have B24 := Lib.hid (below_grow BA.out (by omega) g4 (fun x hx => OL.out x hx)); clear o4 g4; have R4 := Lib.hid (H2.out.belowB (B := w.heap.size) hR HBT.out B24.out); have G4 := Lib.hid (grownBy_belowB G2.out B24.out); obtain ⟨p4, er4, hh4, hp4, he4, _⟩ := id R4.out; have d2 : w4.cell? ⟨R, 2, none⟩ = some er4 := cell_of_row w4 R 2 _ _ _ hh4; have hq4 : q' = p4 ∧ er4 = .nilIface := erv_some he4; obtain ⟨rfl, rfl⟩ := hq4; clear hh4 he4))
              clear HX HT
              go_roundw
              case rel => exact ⟨k + 1, acc ++ [t], q', ao', c', _, rfl, by go_num, by simp; omega, by omega, TK.out, by simpa using O4.out, R4.out, G4.out⟩
              case measure => simp [intOf]; omega
            | none =>
              have E2 : Hid (res = none) := by show _ = _; rw [E.out]; exact nodsK_stays (nodsK_no HT.out HX.out) m (by omega)
              go_wp2_with fail
              refine TT.out.mono ?_
              rintro e w2 ⟨a2, c2, rfl, ho2, h2, g2⟩
              simp only at h2 ⊢
              have hs2 := g2.size
              have OW2 := Lib.hid (HO.out.grown g2 (fun r hr => by cases hr; exact hR))
              have G2 := Lib.hid (grownBy_trans HG.out g2)
              have H2 := Lib.hid h2
              have OL := Lib.hid (fun x hx => (HO.out.lt x hx).1)
              have BA := Lib.hid ((Below.refl w.heap.size w2).alloc (by omega) (.cells #[.int .i64 t.kind, .string t.name, .int .i64 t.col, .int .i64 t.op, .int .i64 t.num, .bool t.slot, .slice a2 t.cols.length c2] 92))
              have CA := Lib.hid (ho2.alloc (.cells #[.int .i64 t.kind, .string t.name, .int .i64 t.col, .int .i64 t.op, .int .i64 t.num, .bool t.slot, .slice a2 t.cols.length c2] 92))
              clear h2 g2 ho2
              go_wp2_with (at_builtin; go_must (refine wpList_appendG _ rfl (.tmp 29) (.tmp 32) 25 rfl w.heap.size wr.heap.size Tryz.underlying25 Tryz.infoNodeG rfl ao c n acc rfl HN.out (OW2.out.below ((Below.refl _ w2).alloc (Nat.le_refl _) _)) (by simp; omega) HZ.out w2.heap.size 1 t a2 c2 rfl ndRow_new CA.out (by unfold maxLen; omega) (by omega) ?_; intro ao' c' w4 o4 g4; have O4 := Lib.hid o4; have B24 := Lib.hid (below_grow BA.out (by omega) g4 (fun x hx => OL.out x hx)); clear o4 g4; have R4 := Lib.hid (H2.out.belowB (B := w.heap.size) hR HBT.out B24.out); have G4 := Lib.hid (grownBy_belowB G2.out B24.out); obtain ⟨p4, er4, hh4, hp4, he4, _⟩ := id R4.out; have d2 : w4.cell? ⟨R, 2, none⟩ = some er4 := cell_of_row w4 R 2 _ _ _ hh4; obtain ⟨j1, j2, rfl⟩ := erv_none he4; clear hh4 he4))
              go_step3
              exact ⟨rfl, _, _, _, _, _, _, _, _, _, _, _, _, _, _, _, _, _, _, _, _, _, _, _, _, _, _, _, _, _, _, _, _, _, _, _, _, _, _, _, _, _, rfl, E2.out, G4.out, _, R4.out⟩
          · obtain rfl : k = m := by omega
            have E2 : Hid (res = some (acc, q)) := by show _ = _; rw [E.out, HT.out]
            go_wp2_with fail
            simp only [Exit.jump]
            go_ret2
            rw [E2.out]
            exact ⟨HG.out, ao, c, by rw [HN.out]; rfl, HO.out.ownN, HRR.out⟩
      · have E : Hid (res = none) := by show _ = _; rw [RES.out, hs]; simp only; rw [if_neg hc]
        by_cases h0 : x < 0
        · have hb1 : decide (x < 0) = true := by simpa using h0
          go_wp2_with fail
          go_step3
          exact ⟨rfl, _, _, _, _, _, _, _, _, _, _, _, _, _, _, _, _, _, _, _, _, _, _, _, _, _, _, _, _, _, _, _, _, _, _, _, _, _, _, _, _, _, rfl, E.out, G1.out, _, H1.out⟩
        · have hb1 : decide (x < 0) = false := by simpa using h0
          have hb2 : decide (40 < x) = true := by simp; omega
          go_wp2_with fail
          go_step3
          exact ⟨rfl, _, _, _, _, _, _, _, _, _, _, _, _, _, _, _, _, _, _, _, _, _, _, _, _, _, _, _, _, _, _, _, _, _, _, _, _, _, _, _, _, _, rfl, E.out, G1.out, _, H1.out⟩
    · have E : Hid (res = none) := by show _ = _; rw [RES.out, hs]
      go_wp2_with fail
      go_step3
      exact ⟨rfl, _, _, _, _, _, _, _, _, _, _, _, _, _, _, _, _, _, _, _, _, _, _, _, _, _, _, _, _, _, _, _, _, _, _, _, _, _, _, _, _, _, rfl, E.out, G1.out, _, H1.out⟩
  · rintro a' w' ⟨v0, v1, v2, v3, v4, v5, v6, v7, v8, v9, v10, v11, v12, v13, v14, v15, v16, v17, v18, v19, v20, v21, v22, v23, v24, v25, v26, v27, v28, v29, v30, v31, v32, v33, v34, v35, v36, v37, v38, v39, v40, rfl, hn, hg, s', hr⟩
    go_wp2_with fail
    simp only [Exit.jump]
    go_ret2
    exact cntPN_no hn hg hr
end Go.Proofs.YtfpbhedophlnkaaGreatDoor
namespace Go.Proofs.YtfpbhedophlnkaaGreatDoor
open Go.RowKit
set_option linter.unusedSimpArgs false
set_option linter.unusedVariables false

set_option maxRecDepth 100000 in
theorem rEnd_any (R : Nat) (b : Option Addr) (d : Nat) (l : List Int) (p : Int) (w : World) (h : Rdr w R b d l (some p)) :
    Calls Tryz.prog 95 #[.pointer (some ⟨R, 0, none⟩)] w fun e w' => e = .returned (.bool (p == l.length)) ∧ Below w.heap.size w w' := by
  obtain ⟨q, er, hh, hp, he, _⟩ := h
  obtain rfl : q = p := by
    rcases he with ⟨hs, _⟩ | ⟨hs, _⟩
    · injection hs with hs; exact hs.symm
    · cases hs
  have c0 : w.cell? ⟨R, 0, none⟩ = some (.slice b l.length d) := cell_of_row w R 0 _ _ _ hh
  have c1 : w.cell? ⟨R, 1, none⟩ = some (.int .i64 q) := cell_of_row w R 1 _ _ _ hh
  clear hh he hp
  go_enter Tryz.func95, Tryz.ntmps95
  go_wp2_with fail
  go_quiet (fail)
  go_wp2_with fail
  go_ret
  exact ⟨rfl, below_drewN (Below.refl _ _) _⟩
end Go.Proofs.YtfpbhedophlnkaaGreatDoor
namespace Go.Proofs.YtfpbhedophlnkaaGreatDoor
open Go.RowKit
set_option linter.unusedSimpArgs false
set_option linter.unusedVariables false

/-- The call returned nodes of its own beside a number, and nothing that was there has turned. -/
def MadeN2 (res : List Nd × Int) (w : World) (e : Ending) (w' : World) : Prop :=
  ∃ ao c, e = .returned (.tuple #[.slice ao res.1.length c, .int .i64 res.2]) ∧ OwnN w' w.heap.size ao c res.1 ∧ Below w.heap.size w w'
theorem madeN2_no {res : List Nd × Int} {x : Int} {w w' : World} (h : res = ([], x)) (hb : Below w.heap.size w w') : MadeN2 res w (.returned (.tuple #[.slice none 0 0, .int .i64 x])) w' := by
  rw [h]; exact ⟨none, 0, rfl, .inl rfl, hb⟩
theorem madeN2_yes {res : List Nd × Int} {x : Int} {w w' : World} {acc : List Nd} {ao : Option Addr} {c n : Nat} (h : res = (acc, x)) (hn : n = acc.length) (ho : OwnN w' w.heap.size ao c acc) (hb : Below w.heap.size w w') : MadeN2 res w (.returned (.tuple #[.slice ao n c, .int .i64 x])) w' := by
  rw [h, hn]; exact ⟨ao, c, rfl, ho, hb⟩
end Go.Proofs.YtfpbhedophlnkaaGreatDoor
namespace Go.Proofs.YtfpbhedophlnkaaGreatDoor
open Go.RowKit
set_option linter.unusedSimpArgs false
set_option linter.unusedVariables false

theorem decP_small {l : List Int} (hl : By l) : (decP l).1.length ≤ 40 ∧ ∀ n ∈ (decP l).1, n.cols.length ≤ 300 := by
  unfold decP
  cases hu : unfL l with
  | none => simp
  | some m =>
    simp only
    cases hc : countNd m (some 0) 40 with
    | none => simp
    | some x =>
      obtain ⟨acc, q⟩ := x
      simp only
      split
      · simp
      · split
        · exact ⟨countNd_40 hc, countNd_cols (unfL_by hl hu) hc⟩
        · simp
end Go.Proofs.YtfpbhedophlnkaaGreatDoor
