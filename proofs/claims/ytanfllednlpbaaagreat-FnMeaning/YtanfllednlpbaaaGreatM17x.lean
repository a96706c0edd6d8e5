/-
  Rows of numbers in a slice: what such a slice reads as, and what of it the call itself owns. No program, no walk. Contracts of slices.Values, its function, slices.AppendSeq (onto nothing) and slices.Collect at rows: for whatever comes one by one. What a walk is told of a node, or of a slice of nodes, that came in: it reads as one. No walk. What a walk is told of a slice of rows that came in: it reads as one. No walk. Rows of numbers that are handed on as they lie: slices as values, and a row of them that is copied one by one. No walk.
-/
import Derived.Test.YtanfllednlpbaaaGreatM1x
import Derived.Test.YtanfllednlpbaaaGreatM6x
import Derived.Test.YtanfllednlpbaaaGreatM4x
import Derived.Test.YtanfllednlpbaaaGreatRows
import Derived.RangeFuncBox
import Derived.RangeFuncWrites
import Derived.RangeFuncLeaves
import Derived.Shelf.Abstract
import Derived.WalkKit
import Derived.OwnWalkIn
import Derived.TacticsInMore
import Derived.LoopNIn
import Derived.LoopIn
import Derived.Maps.AppendAt
import Derived.Test.YtanfllednlpbaaaGreatM2x
import Derived.Deep.Slices
import Derived.Deep.Fields
import Derived.ChangeSame
import Derived.ProofKit
namespace Go.Proofs.YtanfllednlpbaaaGreat
open Go.RowKit
set_option linter.unusedSimpArgs false
set_option linter.unusedVariables false
def RowAt (w : World) (b o : Nat) (r : List Int) (a : Option Addr) (c : Nat) : Prop :=
  w.cell? ⟨b, o, none⟩ = some (.slice a r.length c) ∧ Rd w .i64 a r ∧ r.length ≤ c ∧ c ≤ maxLen
def RdR (w : World) (ao : Option Addr) (l : List (List Int)) : Prop :=
  l = [] ∨ ∃ b off, ao = some ⟨b, off, none⟩ ∧ ∀ i r, l[i]? = some r → ∃ a c, RowAt w b (off + i) r a c
structure PartR (w : World) (base g c m : Nat) (l : List (List Int)) (j : Nat) (xs : List Value) (A : Nat → Option Addr) (C : Nat → Nat) : Prop where
  own : w.ownsRow base 34 1 (.slice (some ⟨g, 0, none⟩) m c) m xs
  cells : ∀ (i : Nat) (r : List Int), i < j → l[i]? = some r → xs[i]? = some (.slice (A i) r.length (C i))
  cols : ∀ (i : Nat) (r : List Int), i < j → l[i]? = some r → Own w base 3 .i64 (A i) (C i) r
  row : ∀ (i : Nat) (x : Addr), i < j → i < l.length → A i = some x → x.block ≠ g
  apart : ∀ (i k : Nat) (x y : Addr), i < j → k < j → i < l.length → k < l.length → i ≠ k → A i = some x → A k = some y → x.block ≠ y.block
def OwnR (w : World) (base : Nat) (ao : Option Addr) (c : Nat) (l : List (List Int)) : Prop :=
  l = [] ∨ ∃ g xs A C, ao = some ⟨g, 0, none⟩ ∧ PartR w base g c l.length l l.length xs A C
def MadeR (w : World) (l : List (List Int)) (en : Ending) (w' : World) : Prop :=
  ∃ ao c, en = .returned (.slice ao l.length c) ∧ OwnR w' w.heap.size ao c l ∧ l.length ≤ c ∧ c ≤ maxLen ∧ Below w.heap.size w w'
theorem lt_of_get {α : Type} {l : List α} {i : Nat} {x : α} (h : l[i]? = some x) : i < l.length := by
  rcases Nat.lt_or_ge i l.length with h1 | h1
  · exact h1
  · rw [List.getElem?_eq_none h1] at h; cases h
section
variable {w w' : World} {base b o : Nat} {ao : Option Addr} {c : Nat} {l : List (List Int)} {r : List Int} {a : Option Addr}
theorem RowAt.lt (h : RowAt w b o r a c) : b < w.heap.size := World.block_lt_of_cell? w ⟨b, o, none⟩ h.1
theorem RowAt.below (h : RowAt w b o r a c) (hb : Below w.heap.size w w') : RowAt w' b o r a c :=
  ⟨(hb.cell (p := ⟨b, o, none⟩) h.lt).trans h.1, h.2.1.below hb, h.2.2⟩
theorem RdR.nil : RdR w ao [] := .inl rfl
theorem RdR.below (h : RdR w ao l) (hb : Below w.heap.size w w') : RdR w' ao l := by
  rcases h with h | ⟨b, off, rfl, hc⟩
  · exact .inl h
  · refine .inr ⟨b, off, rfl, fun i n hi => ?_⟩
    obtain ⟨a, c, h⟩ := hc i n hi
    exact ⟨a, c, h.below hb⟩
theorem RdR.at_ (h : RdR w ao l) {i : Nat} (hi : i < l.length) : ∃ b off r a c, ao = some ⟨b, off, none⟩ ∧ l[i]? = some r ∧ RowAt w b (off + i) r a c := by
  rcases h with rfl | ⟨b, off, rfl, hc⟩
  · simp at hi
  · obtain ⟨a, c, h⟩ := hc i _ (List.getElem?_eq_getElem hi)
    exact ⟨b, off, _, a, c, rfl, List.getElem?_eq_getElem hi, h⟩
end
section
variable {w w' : World} {base g c m : Nat} {l : List (List Int)} {j : Nat} {xs : List Value} {A : Nat → Option Addr} {C : Nat → Nat}
theorem PartR.below (h : PartR w base g c m l j xs A C) (hb : Below w.heap.size w w') : PartR w' base g c m l j xs A C :=
  ⟨owns_keep h.own (hb.block _ (owns_block h.own).2), h.cells, fun i n hi hn => (h.cols i n hi hn).below hb, h.row, h.apart⟩
theorem PartR.base_le {base' : Nat} (h : PartR w base g c m l j xs A C) (hb : base' ≤ base) : PartR w base' g c m l j xs A C :=
  ⟨owns_base h.own hb, h.cells, fun i n hi hn => (h.cols i n hi hn).base_le hb, h.row, h.apart⟩
theorem PartR.cellAt (h : PartR w base g c m l j xs A C) {o : Nat} (ho : o < m) : w.cell? ⟨g, o, none⟩ = xs[o]? := World.ownsRow.cellAt h.own o (by omega)
theorem PartR.some_ (h : PartR w base g c m l j xs A C) {o : Nat} (ho : o < m) : ∃ y, w.cell? ⟨g, o, none⟩ = some y := by
  have hl : o < xs.length := by have := h.own.1; omega
  exact ⟨xs[o], by rw [h.cellAt ho, List.getElem?_eq_getElem hl]⟩
theorem PartR.frozen (h : PartR w base g c m l j xs A C) (o : Nat) : w.frozen? ⟨g, o, none⟩ = false := World.ownsRow.frozenAt h.own o
theorem PartR.at_ (h : PartR w base g c m l j xs A C) {i : Nat} {r : List Int} (hi : i < j) (hm : i < m) (hn : l[i]? = some r) : RowAt w g (0 + i) r (A i) (C i) := by
  have ho := h.cols i r hi hn
  rw [Nat.zero_add]
  exact ⟨(h.cellAt hm).trans (h.cells i r hi hn), ho.rd, ho.cap_ge, ho.cap_le⟩
theorem PartR.put (h : PartR w base g c m l j xs A C) {w1 : World} {r : List Int} {a1 : Option Addr} {c1 : Nat} (hj : j < m) (hn : l[j]? = some r) (hb : Below w.heap.size w w1)
    (ho : Own w1 w.heap.size 3 .i64 a1 c1 r) (hbase : base ≤ w.heap.size) :
    PartR (w1.setCell ⟨g, j, none⟩ (.slice a1 r.length c1)) base g c m l (j + 1) (xs.set j (.slice a1 r.length c1)) (fun i => if i = j then a1 else A i) (fun i => if i = j then c1 else C i) := by
  have hg := (owns_block h.own).2
  have h1 := h.below hb
  have s0 := (h1.own.stored j (.slice a1 r.length c1)).1
  have hlen : xs.length = m := by have := h.own.1; omega
  have hblk : ∀ i, i ≠ g → (w1.setCell ⟨g, j, none⟩ (.slice a1 r.length c1)).heap[i]? = w1.heap[i]? := fun i hi => Below.heap_setCell _ _ _ i hi
  refine ⟨s0, ?_, ?_, ?_, ?_⟩
  · intro i n' hi hn'
    by_cases hij : i = j
    · subst hij
      rw [hn] at hn'; cases hn'
      simp only [if_true]
      rw [List.getElem?_set_self (by omega)]
    · simp only [if_neg hij]
      rw [List.getElem?_set_ne (by omega)]
      exact h.cells i n' (by omega) hn'
  · intro i n' hi hn'
    by_cases hij : i = j
    · subst hij
      rw [hn] at hn'; cases hn'
      simp only [if_true]
      exact (ho.keep fun x hx _ => hblk _ (by have := (ho.lt x hx).1; omega)).base_le hbase
    · simp only [if_neg hij]
      exact (h1.cols i n' (by omega) hn').keep fun x hx _ => hblk _ (h.row i x (by omega) (lt_of_get hn') hx)
  · intro i x hi hil hx
    by_cases hij : i = j
    · subst hij
      simp only [if_true] at hx
      have := (ho.lt x hx).1; omega
    · simp only [if_neg hij] at hx
      exact h.row i x (by omega) hil hx
  · intro i k x y hi hk hil hkl hik hx hy
    have key : ∀ i x, i < j → i < l.length → A i = some x → x.block < w.heap.size := fun i x hi hil hx => ((h.cols i _ hi (List.getElem?_eq_getElem hil)).lt x hx).2
    by_cases hij : i = j
    · subst hij
      simp only [if_true] at hx
      simp only [if_neg (Ne.symm hik)] at hy
      have := (ho.lt x hx).1
      have := key k y (by omega) hkl hy
      omega
    · simp only [if_neg hij] at hx
      by_cases hkj : k = j
      · subst hkj
        simp only [if_true] at hy
        have := (ho.lt y hy).1
        have := key i x (by omega) hil hx
        omega
      · simp only [if_neg hkj] at hy
        exact h.apart i k x y (by omega) (by omega) hil hkl hik hx hy
end
section
variable {w w' : World} {base : Nat} {ao : Option Addr} {c : Nat} {l : List (List Int)}
theorem OwnR.below (h : OwnR w base ao c l) (hb : Below w.heap.size w w') : OwnR w' base ao c l := by
  rcases h with h | ⟨g, xs, A, C, he, hp⟩
  · exact .inl h
  · exact .inr ⟨g, xs, A, C, he, hp.below hb⟩
theorem OwnR.base_le {base' : Nat} (h : OwnR w base ao c l) (hb : base' ≤ base) : OwnR w base' ao c l := by
  rcases h with h | ⟨g, xs, A, C, he, hp⟩
  · exact .inl h
  · exact .inr ⟨g, xs, A, C, he, hp.base_le hb⟩
theorem OwnR.rd (h : OwnR w base ao c l) : RdR w ao l := by
  rcases h with h | ⟨g, xs, A, C, rfl, hp⟩
  · exact .inl h
  · exact .inr ⟨g, 0, rfl, fun i r hr => ⟨_, _, hp.at_ (lt_of_get hr) (lt_of_get hr) hr⟩⟩
end
end Go.Proofs.YtanfllednlpbaaaGreat
namespace Go.Proofs.YtanfllednlpbaaaGreat
open Go.RowKit Go.Shelf
set_option linter.unusedSimpArgs false
set_option linter.unusedVariables false
attribute [local go_sem] Oper.semAt_some
structure El where
  a : Option Addr
  r : List Int
  c : Nat
def El.val (e : El) : Value := .slice e.a e.r.length e.c
def Good (w : World) (e : El) : Prop := Rd w .i64 e.a e.r ∧ e.r.length ≤ e.c ∧ e.c ≤ maxLen
def Els (w : World) : Type := { e : El // Good w e }
instance (w : World) : Inhabited (Els w) := ⟨⟨⟨none, [], 0⟩, Rd.nil, Nat.zero_le _, Nat.zero_le _⟩⟩
def encE {w : World} (x : Els w) : Value := .slice x.1.a x.1.r.length x.1.c
theorem Good.below {w w' : World} {e : El} (h : Good w e) (hb : Below w.heap.size w w') : Good w' e := ⟨h.1.below hb, h.2⟩
def Lies (n₀ : Nat) (W : World) (sv : Value) {wb : World} (zs : List (Els wb)) : Prop :=
  (∃ a c, sv = .slice a 0 c ∧ zs = []) ∨ ∃ b off cap, sv = .slice (some ⟨b, off, none⟩) zs.length cap ∧ b < n₀ ∧ ∀ j x, zs[j]? = some x → W.cell? ⟨b, off + j, none⟩ = some (encE x)
theorem Lies.below {n₀ : Nat} {A B : World} (h : Below n₀ A B) {sv : Value} {wb : World} {zs : List (Els wb)} : Lies n₀ A sv zs → Lies n₀ B sv zs
  | .inl e => .inl e
  | .inr ⟨b, off, cap, e, hb, hc⟩ => .inr ⟨b, off, cap, e, hb, fun j x hj => (h.cell (p := ⟨b, off + j, none⟩) hb).trans (hc j x hj)⟩
set_option maxRecDepth 100000 in
set_option maxHeartbeats 2000000 in
theorem valuesR1_in (F : Fence) (n : Nat) (h7 : F.fn 106) (hro : F.round = none) (hn : 1 ≤ n) (l Bs n₀ b off cap : Nat) {wb : World} (zs : List (Els wb)) (hreach : zs.length ≤ 1048576) (hb : b < n₀) (J Jx : List (Els wb) → World → Prop)
    (hY : ∀ pre x W, J pre W → pre.length < zs.length → YieldAt F (n - 1) Tryz.prog l #[encE x] W fun e W' =>
      (e = .returned (.bool true) ∧ J (pre ++ [x]) W' ∧ Below n₀ W W') ∨ (e = .returned (.bool false) ∧ Jx (pre ++ [x]) W'))
    (W : World) (hBs : W.cell? ⟨Bs, 0, none⟩ = some (.slice (some ⟨b, off, none⟩) zs.length cap)) (hc : ∀ j x, zs[j]? = some x → W.cell? ⟨b, off + j, none⟩ = some (encE x)) (h0 : J [] W) :
    CallsIn F n Tryz.prog 106 #[.func (.yield l) #[] #[], .pointer (some ⟨Bs, 0, none⟩)] W fun e W' => (∃ v, e = .returned v) ∧
      ((∃ ys, ys = zs ∧ J ys W') ∨ (∃ pre, pre <+: zs ∧ Jx pre W')) := by
  refine callsIn_of_wp Tryz.func106 rfl h7 ?_ hro
  simp only [Tryz.ntmps106, List.size_toArray, List.length_cons, List.length_nil, Nat.reduceAdd, Nat.reduceSub, Array.replicate_succ, Array.replicate_zero, List.push_toArray, List.append_toArray, List.nil_append, List.cons_append]
  have HC : Hid _ := hc
  have HY : Hid _ := hY
  clear hc hY
  gi_wp2
  gi_loopw [7] (fun i wr => ∃ k : Nat, k ≤ zs.length ∧ i = .int .i64 k ∧ J (zs.take k) wr ∧ Below n₀ W wr)
    (fun i _ => zs.length - (intOf i).toNat)
  case atStart => exact ⟨0, Nat.zero_le _, rfl, h0, Below.refl _ _⟩
  case round =>
    obtain ⟨k, hk, rfl, hJs, hnx⟩ := hrel
    by_cases hlt : k < zs.length
    · obtain ⟨x, hx⟩ : ∃ x, zs[k]? = some x := ⟨_, List.getElem?_eq_getElem hlt⟩
      have HX : Hid (zs.take (k + 1) = zs.take k ++ [x] ∧ zs.take k ++ [x] <+: zs) := by
        have e : zs.take (k + 1) = zs.take k ++ [x] := by rw [List.take_add_one, hx]; rfl
        exact ⟨e, by rw [← e]; exact List.take_prefix _ _⟩
      obtain ⟨fn, tmps, assign, body, hy, hR⟩ := HY.out (zs.take k) x wr hJs (by rw [List.length_take]; omega)
      have hcx' : wr.cell? ⟨b, off + k, none⟩ = some (encE x) := (hnx.cell (p := ⟨b, off + k, none⟩) hb).trans (HC.out k x hx)
      clear hx
      unfold encE at hy hcx'
      gi_wp2
      refine hR.mono ?_
      rintro e W3 (⟨rfl, hJ3, hk3⟩ | ⟨rfl, hJx3⟩)
      · gi_wp2
        go_roundw
        case rel => exact ⟨k + 1, by omega, by simp, by rw [HX.out.1]; exact hJ3, hnx.trans hk3⟩
        case measure => simp [intOf]; omega
      · gi_wp2
        refine bodyPost_ret (results_none rfl _ _ _) rfl ?_
        exact ⟨⟨_, rfl⟩, .inr ⟨_, HX.out.2, hJx3⟩⟩
    · obtain rfl : k = zs.length := by omega
      gi_wp2
      go_end0
      exact ⟨⟨_, rfl⟩, .inl ⟨_, rfl, by rw [List.take_length] at hJs; exact hJs⟩⟩
set_option maxRecDepth 100000 in
set_option maxHeartbeats 1000000 in
theorem valuesR1_nil_in (F : Fence) (n : Nat) (h7 : F.fn 106) (hro : F.round = none) (l Bs : Nat) {wb : World} (J : List (Els wb) → World → Prop) (W : World) (a : Option Addr) (c : Nat) (hBs : W.cell? ⟨Bs, 0, none⟩ = some (.slice a 0 c)) (h0 : J [] W) :
    CallsIn F n Tryz.prog 106 #[.func (.yield l) #[] #[], .pointer (some ⟨Bs, 0, none⟩)] W fun e W' => (∃ v, e = .returned v) ∧ J [] W' := by
  refine callsIn_of_wp Tryz.func106 rfl h7 ?_ hro
  simp only [Tryz.ntmps106, List.size_toArray, List.length_cons, List.length_nil, Nat.reduceAdd, Nat.reduceSub, Array.replicate_succ, Array.replicate_zero, List.push_toArray, List.append_toArray, List.nil_append, List.cons_append]
  gi_wp2
  gi_loopw [7] (fun i wr => i = .int .i64 0 ∧ J [] wr) (fun _ _ => 0)
  case atStart => exact ⟨rfl, h0⟩
  case round =>
    obtain ⟨rfl, hJs⟩ := hrel
    gi_wp2
    go_end0
    exact ⟨⟨_, rfl⟩, hJs⟩
set_option maxHeartbeats 1000000 in
theorem valuesR_in (F : Fence) (n : Nat) (h5 : F.fn 57) (hro : F.round = none) (a : Option Addr) (len cap : Nat) (w : World) :
    CallsIn F n Tryz.prog 57 #[.slice a len cap] w fun e w' => e = .returned (.func (.func 106) #[] #[.pointer (some ⟨w.heap.size, 0, none⟩)]) ∧ w' = w.alloc (.cells #[.slice a len cap] 29) := by
  refine callsIn_of_wp Tryz.func57 rfl h5 ?_ hro
  simp only [Tryz.ntmps57, List.size_toArray, List.length_cons, List.length_nil, Nat.reduceAdd, Nat.reduceSub, Array.replicate_succ, Array.replicate_zero, List.push_toArray, List.append_toArray, List.nil_append, List.cons_append]
  gi_wp2
  go_ret
  exact ⟨rfl, rfl⟩
theorem valuesR_stops (F : Fence) (n : Nat) (h7 : F.fn 106) (hro : F.round = none) (hn : 1 ≤ n) (Bs n₀ : Nat) (sv : Value) {wb : World} (zs : List (Els wb)) (hreach : zs.length ≤ 1048576) (w : World) (hBs : Bs < w.heap.size) (hn₀ : n₀ ≤ w.heap.size)
    (hc : w.cell? ⟨Bs, 0, none⟩ = some sv) (hI : Lies n₀ w sv zs) :
    SeqStopsK F n Tryz.prog 106 #[.pointer (some ⟨Bs, 0, none⟩)] (fun x : Els wb => #[encE x]) (Below n₀) (fun ys => ys = zs) (fun pre => pre <+: zs) zs.length w := fun l J Jx W hW _ _ hY h0 => by
  have hc' := (hW.cell (p := ⟨Bs, 0, none⟩) hBs).trans hc
  rcases hI.below (hW.mono hn₀) with ⟨a, c, rfl, rfl⟩ | ⟨b, off, cap, rfl, hb, hcs⟩
  · exact (valuesR1_nil_in F n h7 hro l Bs J W a c hc' h0).mono fun e W' ⟨he, hj⟩ => ⟨he, .inl ⟨_, rfl, hj⟩⟩
  · exact valuesR1_in F n h7 hro hn l Bs n₀ b off cap zs hreach hb J Jx hY W hc' hcs h0
theorem infoRw : (Tryz.prog.info? 34).map (fun i => (i.zero, i.size, i.bytes)) = some (some (.slice none 0 0), 1, 24) := by kernel_rfl
set_option maxRecDepth 100000 in
set_option maxHeartbeats 4000000 in
theorem appendSeqR_in (F : Fence) (n : Nat) (h3 : F.fn 155) (hro : F.round = none) (hn : 3 ≤ n) (g n₀ : Nat) (lb : Array Value) (hg : F.fn g) (eg : ∀ args w, (callFunc g args).run Tryz.prog w = .ok (.enter g args) w) {wb : World} (zs : List (Els wb)) (Sp : List (Els wb) → Prop) (hlen : zs.length ≤ 1048576) (w : World) (hn₀ : n₀ ≤ w.heap.size)
    (hseq : ∀ W, Below w.heap.size w W → SeqStopsK F (n - 1) Tryz.prog g lb (fun x : Els wb => #[encE x]) (Below n₀) (fun ys => ys = zs) Sp zs.length W) :
    CallsIn F n Tryz.prog 155 #[.slice none 0 0, .func (.func g) #[] lb] w fun e W' => ∃ v, e = .returned v ∧ W'.ownsRow w.heap.size 34 1 v zs.length (zs.map encE) ∧ (v = .slice none 0 0 ↔ zs = []) ∧ Below w.heap.size w W' := by
  have h1 : 1 ≤ n := by omega
  obtain ⟨i0, hi, hz0, hz1, hz2⟩ := info_parts infoRw
  refine callsIn_of_wp_marks Tryz.func155 rfl h3 ?_ hro
  simp only [Tryz.ntmps155, List.size_toArray, List.length_cons, List.length_nil, Nat.reduceAdd, Nat.reduceSub, Array.replicate_succ, Array.replicate_zero, List.push_toArray, List.append_toArray, List.nil_append, List.cons_append]
  gi_wp2
  have bO := Boxed.new w 29 (.slice none 0 0)
  have hB0 : Below w.heap.size w (w.alloc (.cells #[.slice none 0 0] 29)) := (Below.refl _ w).alloc (Nat.le_refl _) _
  refine wpIn_rangeFunc_ownG hro h1 (gf := g) (lb := lb) rfl hg eg
    (hseq _ hB0) belowK_t (belowK_b (by simp; omega)) (Below.refl _ _) (fun _ => rfl)
    (fun pre W => (∃ v, Boxed W w.heap.size 29 v ∧ W.ownsRow w.heap.size 34 1 v pre.length (pre.map encE) ∧ (v = .slice none 0 0 ↔ pre = [])) ∧ Below w.heap.size w W)
    (fun _ _ _ => False)
    (OwnFrom.and (Go.Own.from (holdsRow_own w.heap.size w.heap.size 29 34 1 (fun pre => pre.length) (fun pre => pre.map encE) (fun pre v => v = .slice none 0 0 ↔ pre = [])) _) (ownFrom_below (Nat.le_refl _) (by simp)))
    (fun _ _ _ _ _ hs _ _ => hs)
    ⟨⟨_, bO, World.ownsRow_nil _ _ _ _, by simp⟩, hB0⟩
    (fun x => { tmps := #[.slice none 0 0, .func (.func g) #[] lb, .pointer (some ⟨w.heap.size, 0, none⟩), undef, .slice none 0 0, encE x, .func (.func g) #[] lb, encE x, undef, undef, undef, undef, undef], defers := [] }) ?assign ?body ?done ?stop
  case assign =>
    intro l x W K hK
    gi_wp2
    exact hK
  case body =>
    rintro l pre x W ⟨⟨v, hv, hrow, hnil⟩, hB⟩ hlt
    have hc := hv.cell
    unfold encE
    gi_wp2_with (gi_at_builtin; refine wpListIn_append_own _ rfl _ _ 29 rfl w.heap.size 34 i0 (.slice none 0 0) 1 24 Tryz.underlying29 hi hz0 hz1 hz2 rfl (by decide) _ _ _ rfl (hrow.alloc _) ⟨W.heap.size, 0, none⟩ 1 1 [encE x] rfl rfl (cell_one_new _ _ _) (by simp [Value.oneCell', encE]) (by unfold maxLen; omega) (by omega) (by have := hB.size; simp; omega) ?_; intro v' w1 hown' hgrow _; obtain ⟨g', cap', rfl⟩ := ownsRow_succ hown'; obtain ⟨hv1, hv2, hr2, hk2, hb2⟩ := hv.appended (by decide) hrow hB.size (Nat.le_refl _) hown' hgrow; have hc1 := hv1.cell; have hf1 := hv1.frozen)
    exact ⟨hk2.from _, hb2.mono hn₀, ⟨_, hv2, by show World.ownsRow _ _ _ _ _ (pre ++ [x]).length ((pre ++ [x]).map encE); simpa using hr2, by simp⟩, hB.trans hb2⟩
  case done =>
    rintro D ys W hD rfl ⟨⟨v, hv, hrow, hnil⟩, hB⟩ hK
    have hc := hv.cell
    gi_wp2
    refine ⟨by simp, .inl ⟨_, _, rfl, run_takeDeferred hK, ?_⟩⟩
    exact ⟨_, results_tmp rfl _ _ _, v, rfl, ownsRow_putObj hrow _ hK rfl, hnil, hB.trans (belowK_b (w := w) (Nat.le_refl _) W D _ _ (by simp at hD; omega) hK rfl rfl)⟩
  case stop =>
    rintro D c pre W _ _ h _
    exact h.elim
end Go.Proofs.YtanfllednlpbaaaGreat
namespace Go.Proofs.YtanfllednlpbaaaGreat
open Go.RowKit Go.ChangeShapes Go.WideShapes Go.Deep
set_option linter.unusedSimpArgs false
set_option linter.unusedVariables false
section
variable {H : Type} {enc : TypeId × Value → H} {w : World} {base : Nat} {held : Bool}
end
theorem rows_of {α : Type} (P : Nat → α → Prop) : ∀ len : Nat, (∀ i, i < len → ∃ r, P i r) → ∃ l : List α, l.length = len ∧ ∀ i r, l[i]? = some r → P i r := by
  intro len
  induction len with
  | zero => intro _; exact ⟨[], rfl, fun i n h => by simp at h⟩
  | succ k ih =>
    intro h
    obtain ⟨l, hl, hh⟩ := ih fun i hi => h i (by omega)
    obtain ⟨n, hn⟩ := h k (by omega)
    refine ⟨l ++ [n], by simp [hl], fun i m hm => ?_⟩
    rcases Nat.lt_or_ge i l.length with h1 | h1
    · rw [List.getElem?_append_left h1] at hm; exact hh i m hm
    · rw [List.getElem?_append_right h1] at hm
      have : i = k := by
        rcases Nat.lt_or_ge (i - l.length) 1 with h2 | h2
        · omega
        · rw [List.getElem?_eq_none (by simpa using h2)] at hm; cases hm
      subst this
      rw [hl, Nat.sub_self] at hm
      simp at hm; subst hm; exact hn
section
variable {H : Type} {enc : TypeId × Value → H} {w : World} {base : Nat} {held : Bool}
end
end Go.Proofs.YtanfllednlpbaaaGreat
namespace Go.Proofs.YtanfllednlpbaaaGreat
open Go.RowKit
set_option linter.unusedSimpArgs false
set_option linter.unusedVariables false
def rowsE {w : World} (zs : List (Els w)) : List (List Int) := zs.map fun x => x.1.r
theorem RdR.els {w : World} {ao : Option Addr} {l : List (List Int)} (h : RdR w ao l) (c : Nat) : ∃ zs : List (Els w), rowsE zs = l ∧ Lies w.heap.size w (.slice ao l.length c) zs := by
  rcases h with rfl | ⟨b, off, rfl, hc⟩
  · exact ⟨[], rfl, .inl ⟨_, _, rfl, rfl⟩⟩
  · obtain ⟨zs, hl, hz⟩ := rows_of (fun (i : Nat) (x : Els w) => l[i]? = some x.1.r ∧ w.cell? ⟨b, off + i, none⟩ = some (encE x)) l.length (fun i hi => by
      obtain ⟨a, c, h1, h2, h3, h4⟩ := hc i _ (List.getElem?_eq_getElem hi)
      exact ⟨⟨⟨a, l[i], c⟩, h2, h3, h4⟩, List.getElem?_eq_getElem hi, h1⟩)
    have he : rowsE zs = l := by
      apply List.ext_getElem?
      intro i
      unfold rowsE
      rw [List.getElem?_map]
      rcases Nat.lt_or_ge i zs.length with h1 | h1
      · rw [List.getElem?_eq_getElem h1]
        exact ((hz i _ (List.getElem?_eq_getElem h1)).1).symm
      · rw [List.getElem?_eq_none h1, List.getElem?_eq_none (by omega)]; rfl
    refine ⟨zs, he, ?_⟩
    by_cases h0 : l = []
    · subst h0
      exact .inl ⟨_, _, rfl, List.eq_nil_of_length_eq_zero hl⟩
    · have hpos : 0 < l.length := List.length_pos_iff.2 h0
      obtain ⟨a, c', h1, _⟩ := hc 0 _ (List.getElem?_eq_getElem hpos)
      exact .inr ⟨b, off, c, by rw [hl], World.block_lt_of_cell? w ⟨b, off + 0, none⟩ h1, fun j x hj => (hz j x hj).2⟩
theorem rowsE_len {w : World} (zs : List (Els w)) : (rowsE zs).length = zs.length := by simp [rowsE]
theorem rowsE_at {w : World} {zs : List (Els w)} {i : Nat} {x : Els w} (h : zs[i]? = some x) : (rowsE zs)[i]? = some x.1.r := by unfold rowsE; rw [List.getElem?_map, h]; rfl
theorem owns_rdR {wb W : World} {base : Nat} {v : Value} {zs : List (Els wb)} {ao : Option Addr} {n c : Nat} (h : W.ownsRow base 34 1 (.slice ao n c) n (zs.map encE)) (hb : Below wb.heap.size wb W) : RdR W ao (rowsE zs) := by
  rcases h.2 with ⟨_, h0⟩ | ⟨g, cap, cur, e, _⟩
  · left
    have : zs.length = 0 := by have := h.1; simp at this; omega
    rw [List.eq_nil_of_length_eq_zero this]; rfl
  · right
    simp only [Value.slice.injEq] at e
    obtain ⟨rfl, -, rfl⟩ := e
    refine ⟨g, 0, rfl, fun i r hr => ?_⟩
    have hlen : zs.length = n := by have := h.1; simp at this; omega
    have hi : i < zs.length := by have := lt_of_get hr; rw [rowsE_len] at this; exact this
    have hx := rowsE_at (List.getElem?_eq_getElem hi)
    rw [hr, Option.some.injEq] at hx
    subst hx
    refine ⟨zs[i].1.a, zs[i].1.c, ?_, zs[i].2.1.below hb, zs[i].2.2⟩
    rw [Nat.zero_add, World.ownsRow.cellAt h i (by omega), List.getElem?_map, List.getElem?_eq_getElem hi]
    rfl
theorem PartR.push {w w1 w4 : World} {base g c j : Nat} {l : List (List Int)} {xs : List Value} {A : Nat → Option Addr} {C : Nat → Nat} (h : PartR w base g c j l j xs A C) {r : List Int} {a1 : Option Addr} {c1 c' : Nat} {ao' : Option Addr} (hn : l[j]? = some r) (hb : Below w.heap.size w w1)
    (ho : Own w1 w.heap.size 3 .i64 a1 c1 r) (hbase : base ≤ w.heap.size) (ho4 : OwnV w4 base 34 ao' c' (xs ++ [.slice a1 r.length c1])) (hg4 : w1.grownBy w4 (some g)) (hao : ao' = some ⟨g, 0, none⟩ ∨ ao' = some ⟨w1.heap.size, 0, none⟩) :
    ∃ g', ao' = some ⟨g', 0, none⟩ ∧ PartR w4 base g' c' (j + 1) l (j + 1) (xs ++ [.slice a1 r.length c1]) (fun i => if i = j then a1 else A i) (fun i => if i = j then c1 else C i) := by
  have hg := (owns_block h.own).2
  have h1 := h.below hb
  have hlen : xs.length = j := by have := h.own.1; omega
  have hblk : ∀ i, i < w1.heap.size → i ≠ g → w4.heap[i]? = w1.heap[i]? := fun i hi hne => hg4.block i hi (by simpa using hne)
  have key : ∀ i x, i < j → i < l.length → A i = some x → x.block < w.heap.size ∧ x.block ≠ g := fun i x hi hil hx => ⟨((h.cols i _ hi (List.getElem?_eq_getElem hil)).lt x hx).2, h.row i x hi hil hx⟩
  have kn : ∀ x, a1 = some x → w.heap.size ≤ x.block ∧ x.block < w1.heap.size ∧ x.block ≠ g := fun x hx => ⟨(ho.lt x hx).1, (ho.lt x hx).2, by have := (ho.lt x hx).1; omega⟩
  have hs := hb.size
  obtain ⟨g', rfl, hg'⟩ : ∃ g', ao' = some ⟨g', 0, none⟩ ∧ (g' = g ∨ g' = w1.heap.size) := by
    rcases hao with rfl | rfl
    · exact ⟨g, rfl, .inl rfl⟩
    · exact ⟨_, rfl, .inr rfl⟩
  refine ⟨g', rfl, ?_, ?_, ?_, ?_, ?_⟩
  · have := ho4
    unfold OwnV at this
    rw [show (xs ++ [Value.slice a1 r.length c1]).length = j + 1 by simp [hlen]] at this
    exact this
  · intro i n' hi hn'
    by_cases hij : i = j
    · subst hij
      rw [hn] at hn'; cases hn'
      simp only [if_true]
      rw [List.getElem?_append_right (by omega), hlen, Nat.sub_self]; rfl
    · simp only [if_neg hij]
      rw [List.getElem?_append_left (by omega)]
      exact h.cells i n' (by omega) hn'
  · intro i n' hi hn'
    by_cases hij : i = j
    · subst hij
      rw [hn] at hn'; cases hn'
      simp only [if_true]
      exact (ho.keep fun x hx _ => hblk _ (kn x hx).2.1 (kn x hx).2.2).base_le hbase
    · simp only [if_neg hij]
      exact (h1.cols i n' (by omega) hn').keep fun x hx _ => hblk _ (by have := (key i x (by omega) (lt_of_get hn') hx).1; omega) (key i x (by omega) (lt_of_get hn') hx).2
  · intro i x hi hil hx
    by_cases hij : i = j
    · subst hij
      simp only [if_true] at hx
      have := kn x hx; omega
    · simp only [if_neg hij] at hx
      have := key i x (by omega) hil hx; omega
  · intro i k x y hi hk hil hkl hik hx hy
    by_cases hij : i = j
    · subst hij
      simp only [if_true] at hx
      simp only [if_neg (Ne.symm hik)] at hy
      have := kn x hx
      have := key k y (by omega) hkl hy
      omega
    · simp only [if_neg hij] at hx
      by_cases hkj : k = j
      · subst hkj
        simp only [if_true] at hy
        have := kn y hy
        have := key i x (by omega) hil hx
        omega
      · simp only [if_neg hkj] at hy
        exact h.apart i k x y (by omega) (by omega) hil hkl hik hx hy
theorem PartR.start (w : World) (l : List (List Int)) : PartR (w.alloc (.cells #[] 34)) w.heap.size w.heap.size 0 0 l 0 [] (fun _ => none) (fun _ => 0) :=
  ⟨⟨rfl, .inr ⟨w.heap.size, 0, #[], rfl, Nat.le_refl _, heap_alloc_new w _, Nat.le_refl _, Nat.zero_le _, rfl, rfl⟩⟩, fun i n hi => absurd hi (Nat.not_lt_zero _), fun i n hi => absurd hi (Nat.not_lt_zero _), fun i x hi => absurd hi (Nat.not_lt_zero _), fun i k x y hi => absurd hi (Nat.not_lt_zero _)⟩
end Go.Proofs.YtanfllednlpbaaaGreat
