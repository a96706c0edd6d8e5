/-
  slices.Values at rows: its contract where the caller's blocks and the iterator's are kept apart. Slices of numbers that an iterator hands on one by one: what is held of them from world to world. No walk. What an iterator holds in its hands while its own range goes: the yield it was given in a box of its own, and all that lay when it was called. No walk. Contract of the iterator of impl.keptOf: of each row that comes the columns that are asked for, in a row of its own.
-/
import Derived.Test.YtanfllednlpbaaaGreatM17x
import Derived.Test.YtanfllednlpbaaaGreatSep
import Derived.Test.YtanfllednlpbaaaGreatM25x
import Derived.Deep.OwnRows
namespace Go.Proofs.YtanfllednlpbaaaGreat
open Go.RowKit Go.Shelf
set_option linter.unusedSimpArgs false
set_option linter.unusedVariables false
attribute [local go_sem] Oper.semAt_some
theorem Turn.cell {fo f' : Nat → Prop} {A B : World} (h : Turn fo f' A B) {p : Addr} {v : Value} (hc : A.cell? p = some v) (hn : ¬ fo p.block) : B.cell? p = some v :=
  (World.cell?_of_block (h.block _ (World.block_lt_of_cell? A p hc) hn)).trans hc
theorem Turn.below {fo f' : Nat → Prop} {A B : World} {n₀ : Nat} (h : Turn fo f' A B) (hf : ∀ k, fo k → n₀ ≤ k) (hn : n₀ ≤ A.heap.size) : Below n₀ A B :=
  ⟨h.os, h.tape, h.output, h.size, fun k hk => h.block k (by omega) (fun hfk => by have := hf k hfk; omega)⟩
set_option maxRecDepth 100000 in
set_option maxHeartbeats 2000000 in
theorem valuesS1_in (F : Fence) (n : Nat) (h7 : F.fn 106) (hro : F.round = none) (hn : 1 ≤ n) (l Bs n₀ b off cap : Nat) {wb : World} (zs : List (Els wb)) (hreach : zs.length ≤ 1048576) (hb : b < n₀) (J Jx : List (Els wb) → (Nat → Prop) → World → Prop)
    (hY : ∀ pre x f W1, J pre f W1 → pre ++ [x] <+: zs → YieldAt F (n - 1) Tryz.prog l #[encE x] W1 fun e W' => ∃ f', Turn f f' W1 W' ∧ ((e = .returned (.bool true) ∧ J (pre ++ [x]) f' W') ∨ (e = .returned (.bool false) ∧ Jx (pre ++ [x]) f' W')))
    (W : World) (fo : Nat → Prop) (hfo : ∀ k, fo k → n₀ ≤ k ∧ k < W.heap.size) (hBs : W.cell? ⟨Bs, 0, none⟩ = some (.slice (some ⟨b, off, none⟩) zs.length cap)) (hc : ∀ j x, zs[j]? = some x → W.cell? ⟨b, off + j, none⟩ = some (encE x)) (h0 : J [] fo W) :
    CallsIn F n Tryz.prog 106 #[.func (.yield l) #[] #[], .pointer (some ⟨Bs, 0, none⟩)] W fun e W' => (∃ v, e = .returned v) ∧
      ∃ f', Turn fo f' W W' ∧ ((∃ ys, ys = zs ∧ J ys f' W') ∨ (∃ pre, pre <+: zs ∧ Jx pre f' W')) := by
  refine callsIn_of_wp Tryz.func106 rfl h7 ?_ hro
  simp only [Tryz.ntmps106, List.size_toArray, List.length_cons, List.length_nil, Nat.reduceAdd, Nat.reduceSub, Array.replicate_succ, Array.replicate_zero, List.push_toArray, List.append_toArray, List.nil_append, List.cons_append]
  have HC : Hid _ := hc
  have HY : Hid _ := hY
  have HF : Hid _ := hfo
  have T0 : Hid (Turn fo fo W W) := Turn.refl fo W fun k hk => (hfo k hk).2
  clear hc hY hfo
  gi_wp2
  gi_loopw [7] (fun i wr => ∃ (k : Nat) (f : Nat → Prop), k ≤ zs.length ∧ i = .int .i64 k ∧ J (zs.take k) f wr ∧ Turn fo f W wr)
    (fun i _ => zs.length - (intOf i).toNat)
  case atStart => exact ⟨0, fo, Nat.zero_le _, rfl, h0, T0.out⟩
  case round =>
    obtain ⟨k, f, hk, rfl, hJs, hnx⟩ := hrel
    have NX : Hid _ := hnx
    by_cases hlt : k < zs.length
    · obtain ⟨x, hx⟩ : ∃ x, zs[k]? = some x := ⟨_, List.getElem?_eq_getElem hlt⟩
      have HX : Hid (zs.take (k + 1) = zs.take k ++ [x] ∧ zs.take k ++ [x] <+: zs) := by
        have e : zs.take (k + 1) = zs.take k ++ [x] := by rw [List.take_add_one, hx]; rfl
        exact ⟨e, by rw [← e]; exact List.take_prefix _ _⟩
      obtain ⟨fn, tmps, assign, body, hy, hR⟩ := HY.out (zs.take k) x f wr hJs HX.out.2
      have hcx' : wr.cell? ⟨b, off + k, none⟩ = some (encE x) := hnx.cell (HC.out k x hx) (fun hf => by have := (HF.out _ hf).1; simp at this; omega)
      clear hx hnx
      unfold encE at hy hcx'
      gi_wp2
      refine hR.mono ?_
      rintro e W3 ⟨f', t3, (⟨rfl, hJ3⟩ | ⟨rfl, hJx3⟩)⟩
      · have T3 : Hid _ := NX.out.trans t3
        clear t3
        gi_wp2
        go_roundw
        case rel => exact ⟨k + 1, f', by omega, by simp, by rw [HX.out.1]; exact hJ3, T3.out⟩
        case measure => simp [intOf]; omega
      · have T3 : Hid _ := NX.out.trans t3
        clear t3
        gi_wp2
        refine bodyPost_ret (results_none rfl _ _ _) rfl ?_
        exact ⟨⟨_, rfl⟩, f', T3.out, .inr ⟨_, HX.out.2, hJx3⟩⟩
    · obtain rfl : k = zs.length := by omega
      clear hnx
      gi_wp2
      go_end0
      exact ⟨⟨_, rfl⟩, f, NX.out, .inl ⟨_, rfl, by rw [List.take_length] at hJs; exact hJs⟩⟩
set_option maxRecDepth 100000 in
set_option maxHeartbeats 1000000 in
theorem valuesS1_nil_in (F : Fence) (n : Nat) (h7 : F.fn 106) (hro : F.round = none) (l Bs : Nat) {wb : World} (J : List (Els wb) → (Nat → Prop) → World → Prop) (W : World) (fo : Nat → Prop) (hfo : ∀ k, fo k → k < W.heap.size) (a : Option Addr) (c : Nat) (hBs : W.cell? ⟨Bs, 0, none⟩ = some (.slice a 0 c)) (h0 : J [] fo W) :
    CallsIn F n Tryz.prog 106 #[.func (.yield l) #[] #[], .pointer (some ⟨Bs, 0, none⟩)] W fun e W' => (∃ v, e = .returned v) ∧ J [] fo W' ∧ Turn fo fo W W' := by
  refine callsIn_of_wp Tryz.func106 rfl h7 ?_ hro
  simp only [Tryz.ntmps106, List.size_toArray, List.length_cons, List.length_nil, Nat.reduceAdd, Nat.reduceSub, Array.replicate_succ, Array.replicate_zero, List.push_toArray, List.append_toArray, List.nil_append, List.cons_append]
  have T0 : Hid (Turn fo fo W W) := Turn.refl fo W hfo
  clear hfo
  gi_wp2
  gi_loopw [7] (fun i wr => i = .int .i64 0 ∧ J [] fo wr ∧ Turn fo fo W wr) (fun _ _ => 0)
  case atStart => exact ⟨rfl, h0, T0.out⟩
  case round =>
    obtain ⟨rfl, hJs, ht⟩ := hrel
    have T1 : Hid _ := ht
    clear ht
    gi_wp2
    go_end0
    exact ⟨⟨_, rfl⟩, hJs, T1.out⟩
theorem valuesS_sep (F : Fence) (n : Nat) (h7 : F.fn 106) (hro : F.round = none) (hn : 1 ≤ n) (Bs n₀ : Nat) (sv : Value) {wb : World} (zs : List (Els wb)) (hreach : zs.length ≤ 1048576) (w : World) (hBs : Bs < w.heap.size) (hn₀ : n₀ ≤ w.heap.size)
    (hc : w.cell? ⟨Bs, 0, none⟩ = some sv) (hI : Lies n₀ w sv zs) :
    SeqSep F n Tryz.prog 106 #[.pointer (some ⟨Bs, 0, none⟩)] (fun x : Els wb => #[encE x]) (fun ys _ => ys = zs) (fun pre => pre <+: zs) w := fun l J Jx W fo hW hfo _ _ hY h0 => by
  have hc' := (hW.cell (p := ⟨Bs, 0, none⟩) hBs).trans hc
  rcases hI.below (hW.mono hn₀) with ⟨a, c, rfl, rfl⟩ | ⟨b, off, cap, rfl, hb, hcs⟩
  · exact (valuesS1_nil_in F n h7 hro l Bs J W fo (fun k hk => (hfo k hk).2) a c hc' h0).mono fun e W' ⟨he, hj, ht⟩ => ⟨he, fo, ht, .inl ⟨_, rfl, hj⟩⟩
  · exact valuesS1_in F n h7 hro hn l Bs n₀ b off cap zs hreach hb J Jx hY W fo (fun k hk => ⟨Nat.le_trans hn₀ (hfo k hk).1, (hfo k hk).2⟩) hc' hcs h0
end Go.Proofs.YtanfllednlpbaaaGreat
namespace Go.Proofs.YtanfllednlpbaaaGreat
open Go.RowKit
set_option linter.unusedSimpArgs false
set_option linter.unusedVariables false
def rowsV (xs : List El) : List (List Int) := xs.map fun e => e.r
def AllG (W : World) (xs : List El) : Prop := ∀ e ∈ xs, Good W e
theorem Good.turn {A B : World} {fo f' : Nat → Prop} {e : El} (h : Good A e) (t : Turn fo f' A B) (hb : ∀ x, e.a = some x → ¬ fo x.block) : Good B e :=
  ⟨h.1.keep fun a p ha hp hlt => World.cell?_of_block (t.block p.block hlt (by rw [hp]; exact hb a ha)), h.2⟩
theorem Good.abide {A B : World} {fo : Nat → Prop} {e : El} (h : Good A e) (t : Abide fo A B) (hb : ∀ x, e.a = some x → fo x.block) : Good B e :=
  ⟨h.1.keep fun a p ha hp hlt => World.cell?_of_block (t.block p.block hlt (by rw [hp]; exact hb a ha)), h.2⟩
theorem Good.putObj {W : World} {e : El} {l : Nat} {o : Loop} (o' : Obj) (h : Good W e) (hl : W.heap[l]? = some (.loop o)) : Good (W.putObj l o') e := by
  refine ⟨?_, h.2⟩
  rcases h.1 with h0 | ⟨b, off, ha, hc⟩
  · exact .inl h0
  · right
    refine ⟨b, off, ha, fun i hi => ?_⟩
    have h1 := hc i hi
    obtain ⟨q, hq, hqc⟩ := cells_of_cell h1
    have hne : b ≠ l := fun e' => by
      subst e'
      simp only at hq
      rw [hl] at hq; cases hq; cases hqc
    exact (World.cell?_of_block (World.putObj_heap_other hne)).trans h1
theorem AllG.putObj {W : World} {xs : List El} {l : Nat} {o : Loop} (o' : Obj) (h : AllG W xs) (hl : W.heap[l]? = some (.loop o)) : AllG (W.putObj l o') xs := fun e he => (h e he).putObj o' hl
theorem AllG.turn {A B : World} {fo f' : Nat → Prop} {xs : List El} (h : AllG A xs) (t : Turn fo f' A B) (hb : ∀ e ∈ xs, ∀ x, e.a = some x → ¬ fo x.block) : AllG B xs := fun e he => (h e he).turn t (hb e he)
theorem AllG.below {A B : World} {xs : List El} (h : AllG A xs) (hb : Below A.heap.size A B) : AllG B xs := fun e he => (h e he).below hb
theorem AllG.snoc {W : World} {xs : List El} {e : El} (h : AllG W xs) (he : Good W e) : AllG W (xs ++ [e]) := by
  intro x hx
  rcases List.mem_append.1 hx with hx | hx
  · exact h x hx
  · rw [List.mem_singleton] at hx; subst hx; exact he
theorem AllG.nil (W : World) : AllG W [] := fun _ h => by cases h
def oneFo (f : Nat → Prop) (s : Nat) : Nat → Prop := fun k => f k ∨ k = s
structure YSt (W : World) (fo fJ : Nat → Prop) (s l : Nat) (X : World) : Prop where
  t : Turn fo fJ W X
  y : Boxed X s 134 (.func (.yield l) #[] #[])
  n : ¬ fJ s
theorem boxed_ab {n : Nat} {f : Nat → Prop} {W W' : World} {B : Nat} {t : TypeId} {v : Value} (h : Boxed W B t v) (hf : f B) (ab : Abide (lowF n f) W W') : Boxed W' B t v := (ab.block B h.lt (.inl hf)).trans h
theorem low_one {n m s : Nat} {f : Nat → Prop} {A B : World} (ab : Abide (lowF n (oneFo f s)) A B) (h : m ≤ n) : Abide (lowF m f) A B :=
  ab.mono fun k hk => Or.elim hk (fun hk => .inl (.inl hk)) (fun hk => .inr (Nat.lt_of_lt_of_le hk h))
theorem YSt.abide {n : Nat} {W X Y : World} {fo fJ : Nat → Prop} {s l : Nat} (h : YSt W fo fJ s l X) (ab : Abide (lowF n (oneFo fJ s)) X Y) (hn : W.heap.size ≤ n) : YSt W fo fJ s l Y :=
  ⟨h.t.abide (low_one ab (Nat.le_refl _)) hn, boxed_ab h.y (.inr rfl) ab, h.n⟩
theorem YSt.lt {W X : World} {fo fJ : Nat → Prop} {s l : Nat} (h : YSt W fo fJ s l X) : ∀ j, oneFo fJ s j → j < X.heap.size := by
  rintro j (hj | rfl)
  · exact (h.t.own j hj).2
  · exact h.y.lt
theorem Turn.out {fJ f' : Nat → Prop} {X Y : World} {j : Nat} (t : Turn fJ f' X Y) (hj : j < X.heap.size) (hn : ¬ fJ j) : ¬ f' j := fun h' => by
  rcases (t.own j h').1 with h1 | h1
  · exact hn h1
  · omega
theorem YSt.turn {W X Y : World} {fo fJ f' : Nat → Prop} {s l : Nat} (h : YSt W fo fJ s l X) (t : Turn fJ f' X Y) : YSt W fo f' s l Y :=
  ⟨h.t.trans t, (t.block _ h.y.lt h.n).trans h.y, t.out h.y.lt h.n⟩
theorem turn_one {fJ f' : Nat → Prop} {s : Nat} {X Y : World} (t : Turn fJ f' X Y) (hs : s < X.heap.size) : Turn (oneFo fJ s) (oneFo f' s) X Y :=
  ⟨t.os, t.tape, t.output, t.size, fun k hk hn => t.block k hk (fun h => hn (.inl h)), fun k hk => by
    rcases hk with hk | rfl
    · obtain ⟨h1, h2⟩ := t.own k hk
      exact ⟨h1.elim (fun h => .inl (.inl h)) .inr, h2⟩
    · exact ⟨.inl (.inr rfl), Nat.lt_of_lt_of_le hs t.size⟩⟩
theorem put_ab {n : Nat} {f : Nat → Prop} {X : World} {D : Nat} (o : Obj) (hn : ¬ f D) (hD : n ≤ D) : Abide (lowF n f) X (X.putObj D o) := Abide.putObj o fun h => Or.elim h hn (fun h => by omega)
theorem yst_start {W W0 : World} {fo : Nat → Prop} (l : Nat) (hfo : ∀ k, fo k → k < W.heap.size) (e : W.alloc (.cells #[.func (.yield l) #[] #[]] 134) = W0) : YSt W fo fo W.heap.size l W0 := by
  subst e
  refine ⟨⟨rfl, rfl, rfl, by simp, fun k hk _ => Below.heap_alloc _ _ _ hk, fun k hk => ⟨.inl hk, by simp; exact Nat.lt_succ_of_lt (hfo k hk)⟩⟩, Boxed.new W _ _, fun h => Nat.lt_irrefl _ (hfo _ h)⟩
theorem yield_any {F : Fence} (hd : F.depth = none) {m : Nat} (m' l' : Nat) {P : Program} {l : Nat} {args : Array Value} {W : World} {R : Ending → World → Prop} (h : YieldAt F m P l args W R) : YieldAt (F.inRound l') m' P l args W R := by
  obtain ⟨fn, tmps, assign, body, hy, hR⟩ := h
  exact ⟨fn, tmps, assign, body, hy, hR.1, fun c cs _ => hR.2 c cs (fun d h => by rw [hd] at h; cases h)⟩
theorem els_turn {wb w W X : World} {fo fJ : Nat → Prop} (x : Els wb) (hwb : Below wb.heap.size wb w) (hW : Below w.heap.size w W) (hfo : ∀ k, fo k → w.heap.size ≤ k) (t : Turn fo fJ W X) : Good X x.1 := by
  refine ⟨?_, x.2.2⟩
  rcases x.2.1 with h0 | ⟨b, off, ha, hc⟩
  · exact .inl h0
  · refine .inr ⟨b, off, ha, fun i hi => ?_⟩
    have hlt := World.block_lt_of_cell? wb _ (hc i hi)
    simp only at hlt
    have hs := hwb.size
    have hs2 := hW.size
    have h1 := (hwb.cell (p := ⟨b, off + i, none⟩) hlt).trans (hc i hi)
    have h2 := (hW.cell (p := ⟨b, off + i, none⟩) (by show b < _; omega)).trans h1
    exact t.cell h2 (fun hf => by have := hfo _ hf; simp at this; omega)
theorem turn_below {f : Nat → Prop} {X Y : World} (hb : Below X.heap.size X Y) (hf : ∀ k, f k → k < X.heap.size) : Turn f f X Y :=
  ⟨hb.os, hb.tape, hb.output, hb.size, fun k hk _ => hb.block k hk, fun k hk => ⟨.inl hk, Nat.lt_of_lt_of_le (hf k hk) hb.size⟩⟩
theorem abide_below {f : Nat → Prop} {X Y : World} (hb : Below X.heap.size X Y) : Abide f X Y := ⟨hb.os, hb.tape, hb.output, hb.size, fun k hk _ => hb.block k hk⟩
theorem low_below {w W X : World} {fo fJ : Nat → Prop} (hW : Below w.heap.size w W) (hfo : ∀ k, fo k → w.heap.size ≤ k) (t : Turn fo fJ W X) : Below w.heap.size w X := hW.trans (t.below hfo hW.size)
end Go.Proofs.YtanfllednlpbaaaGreat
namespace Go.Proofs.YtanfllednlpbaaaGreat
open Go.RowKit Go.Shelf
set_option linter.unusedSimpArgs false
set_option linter.unusedVariables false
attribute [local go_sem] Oper.semAt_some
def blkE (es : List El) : Nat → Prop := fun k => ∃ e ∈ es, ∃ a, e.a = some a ∧ a.block = k
def rwFo (f : Nat → Prop) (s : Nat) (es : List El) : Nat → Prop := fun k => oneFo f s k ∨ blkE es k
structure RwSt (W : World) (fo fJ : Nat → Prop) (l : Nat) (es : List El) (X : World) : Prop where
  y : YSt W fo fJ W.heap.size l X
  good : AllG X es
  new : ∀ k, blkE es k → W.heap.size < k ∧ k < X.heap.size ∧ ¬ fJ k
theorem low_rw {n m s : Nat} {f : Nat → Prop} {es : List El} {A B : World} (ab : Abide (lowF n (rwFo f s es)) A B) (h : m ≤ n) : Abide (lowF m (oneFo f s)) A B :=
  ab.mono fun k hk => Or.elim hk (fun hk => .inl (.inl hk)) (fun hk => .inr (Nat.lt_of_lt_of_le hk h))
theorem RwSt.abide {n : Nat} {W X Y : World} {fo fJ : Nat → Prop} {l : Nat} {es : List El} (h : RwSt W fo fJ l es X) (ab : Abide (lowF n (rwFo fJ W.heap.size es)) X Y) (hn : W.heap.size ≤ n) : RwSt W fo fJ l es Y :=
  ⟨h.y.abide (low_rw ab (Nat.le_refl _)) hn, fun e he => (h.good e he).abide ab fun a ha => .inl (.inr ⟨e, he, a, ha, rfl⟩), fun k hk => ⟨(h.new k hk).1, Nat.lt_of_lt_of_le (h.new k hk).2.1 ab.size, (h.new k hk).2.2⟩⟩
theorem RwSt.lt {W X : World} {fo fJ : Nat → Prop} {l : Nat} {es : List El} (h : RwSt W fo fJ l es X) : ∀ j, rwFo fJ W.heap.size es j → j < X.heap.size := by
  rintro j (hj | hj)
  · exact h.y.lt j hj
  · exact (h.new j hj).2.1
theorem RwSt.turn {W X Y : World} {fo fJ f' : Nat → Prop} {l : Nat} {es : List El} (h : RwSt W fo fJ l es X) (t : Turn fJ f' X Y) : RwSt W fo f' l es Y :=
  ⟨h.y.turn t, fun e he => (h.good e he).turn t fun a ha => (h.new _ ⟨e, he, a, ha, rfl⟩).2.2, fun k hk => ⟨(h.new k hk).1, Nat.lt_of_lt_of_le (h.new k hk).2.1 t.size, t.out (h.new k hk).2.1 (h.new k hk).2.2⟩⟩
theorem RwSt.snoc {W X : World} {fo fJ : Nat → Prop} {l : Nat} {es : List El} {e : El} (h : RwSt W fo fJ l es X) (hg : Good X e) (hn : ∀ a, e.a = some a → W.heap.size < a.block ∧ a.block < X.heap.size ∧ ¬ fJ a.block) : RwSt W fo fJ l (es ++ [e]) X :=
  ⟨h.y, h.good.snoc hg, by
    rintro k ⟨x, hx, a, ha, rfl⟩
    rcases List.mem_append.1 hx with hx | hx
    · exact h.new _ ⟨x, hx, a, ha, rfl⟩
    · rw [List.mem_singleton] at hx; subst hx; exact hn a ha⟩
theorem turn_rw {W X Y : World} {fo fJ f' : Nat → Prop} {l : Nat} {es es' : List El} (h : RwSt W fo fJ l es X) (t : Turn fJ f' X Y) (he : ∀ k, blkE es' k → (blkE es k ∨ X.heap.size ≤ k) ∧ k < Y.heap.size) : Turn (rwFo fJ W.heap.size es) (rwFo f' W.heap.size es') X Y := by
  have t1 := turn_one t h.y.y.lt
  refine ⟨t.os, t.tape, t.output, t.size, fun k hk hn => t1.block k hk (fun h => hn (.inl h)), fun k hk => ?_⟩
  rcases hk with hk | hk
  · obtain ⟨h1, h2⟩ := t1.own k hk
    exact ⟨h1.elim (fun h => .inl (.inl h)) .inr, h2⟩
  · obtain ⟨h1, h2⟩ := he k hk
    exact ⟨h1.elim (fun h => .inl (.inr h)) .inr, h2⟩
theorem AllG.put {W : World} {es : List El} {D : Nat} {ds : Option (List Deferred)} (o' : Obj) (h : AllG W es) (hl : W.heap[D]? = some (.deferred ds)) : AllG (W.putObj D o') es := fun e he => by
  refine ⟨?_, (h e he).2⟩
  rcases (h e he).1 with h0 | ⟨b, off, ha, hc⟩
  · exact .inl h0
  · refine .inr ⟨b, off, ha, fun i hi => ?_⟩
    have h1 := hc i hi
    obtain ⟨q, hq, hqc⟩ := cells_of_cell h1
    have hne : b ≠ D := fun e' => by subst e'; simp only at hq; rw [hl] at hq; cases hq; cases hqc
    exact (World.cell?_of_block (World.putObj_heap_other hne)).trans h1
theorem infoIw : (Tryz.prog.info? 3).map (fun i => (i.zero, i.size, i.bytes)) = some (some (.int .i64 0), 1, 8) := by kernel_rfl
def keepR (cols : List Int) (r : List Int) : List Int := cols.map (cellV r)
theorem keepR_at {cols r : List Int} {k cn : Nat} (hk : k < cols.length) (hc : cols.getD k 0 = (cn : Int)) : (keepR cols r).getD k 0 = r.getD cn 0 := by
  unfold keepR
  rw [List.getD_eq_getElem?_getD, List.getElem?_map, List.getElem?_eq_getElem hk]
  rw [List.getD_eq_getElem?_getD, List.getElem?_eq_getElem hk] at hc
  simp only [Option.map_some, Option.getD_some] at hc ⊢
  rw [hc]
  unfold cellV
  rw [Int.toNat_natCast, List.getD_eq_getElem?_getD]
def keptV (cols r : List Int) (k j : Nat) : Value := .int .i64 (if j < k then (keepR cols r).getD j 0 else 0)
theorem keptV_step {cols r : List Int} {k cn : Nat} {wr : World} {g : Nat} (h : wr.rowIs g 3 cols.length (keptV cols r k)) (hk : k < cols.length) (hc : cols.getD k 0 = (cn : Int)) : (wr.setCell ⟨g, k, none⟩ (.int .i64 (r.getD cn 0))).rowIs g 3 cols.length (keptV cols r (k + 1)) := by
  refine (h.set k _).congr fun j hj => ?_
  unfold keptV
  by_cases e : j = k
  · subst e; rw [if_pos rfl, if_pos (by omega), keepR_at hk hc]
  · rw [if_neg e]
    by_cases e2 : j < k
    · rw [if_pos e2, if_pos (by omega)]
    · rw [if_neg e2, if_neg (by omega)]
theorem keptV_good {cols r : List Int} {wr : World} {g : Nat} (h : wr.rowIs g 3 cols.length (keptV cols r cols.length)) (hl : cols.length ≤ maxLen) : Good wr ⟨some ⟨g, 0, none⟩, keepR cols r, cols.length⟩ := by
  have e : (keepR cols r).length = cols.length := by simp [keepR]
  refine ⟨.inr ⟨g, 0, rfl, fun i hi => ?_⟩, by simp [e], hl⟩
  replace hi : i < (keepR cols r).length := hi
  rw [Nat.zero_add, h.cell (by omega)]
  unfold keptV
  rw [if_pos (by omega)]
set_option maxRecDepth 100000 in
set_option maxHeartbeats 4000000 in
theorem keptOf_sep (F : Fence) (n : Nat) (h3 : F.fn 161) (hro : F.round = none) (hd : F.depth = none) (hn : 3 ≤ n) (g : Nat) (lb : Array Value) (hg : F.fn g) (eg : ∀ args w, (callFunc g args).run Tryz.prog w = .ok (.enter g args) w)
    {wb : World} (zs : List (Els wb)) (B1 B2 : Nat) (ac : Option Addr) (cc : Nat) (cols : List Int) (w : World) (hwb : Below wb.heap.size wb w) (hseq : SeqSep F (n - 1) Tryz.prog g lb (fun x : Els wb => #[encE x]) (fun ys _ => ys = zs) (fun pre => pre <+: zs) w)
    (hB1 : w.cell? ⟨B1, 0, none⟩ = some (.func (.func g) #[] lb)) (hB2 : w.cell? ⟨B2, 0, none⟩ = some (.slice ac cols.length cc)) (hcols : Rd w .i64 ac cols) (hlen : cols.length ≤ 1048576)
    (hfit : ∀ x ∈ zs, ∀ c ∈ cols, 0 ≤ c ∧ c < (x.1.r.length : Int)) :
    SeqSep F n Tryz.prog 161 #[.pointer (some ⟨B1, 0, none⟩), .pointer (some ⟨B2, 0, none⟩)] (fun e : El => #[e.val]) (fun xs W => rowsV xs = (rowsE zs).map (keepR cols) ∧ AllG W xs ∧ ∀ e ∈ xs, ∀ a, e.a = some a → w.heap.size ≤ a.block) (fun pre => rowsV pre <+: (rowsE zs).map (keepR cols)) w := by
  intro l J Jx W fo hW hfo hJ hJx hY h0
  have h1 : 1 ≤ n := by omega
  have hl1 : B1 < w.heap.size := World.block_lt_of_cell? w _ hB1
  have hl2 : B2 < w.heap.size := World.block_lt_of_cell? w _ hB2
  have hs := hW.size
  have hb1 := (hW.cell (p := ⟨B1, 0, none⟩) hl1).trans hB1
  have hb2 := (hW.cell (p := ⟨B2, 0, none⟩) hl2).trans hB2
  have hl1' : B1 < W.heap.size := by omega
  have hl2' : B2 < W.heap.size := by omega
  have nf : ∀ k, k < w.heap.size → ¬ fo k := fun k hk hf => by have := (hfo k hf).1; omega
  suffices H : CallsIn F n Tryz.prog 161 #[.func (.yield l) #[] #[], .pointer (some ⟨B1, 0, none⟩), .pointer (some ⟨B2, 0, none⟩)] W fun e W' => (∃ v, e = .returned v) ∧ ∃ f', Turn fo f' W W' ∧ ((∃ xs, (rowsV xs = (rowsE zs).map (keepR cols) ∧ AllG W' xs ∧ ∀ e ∈ xs, ∀ a, e.a = some a → w.heap.size ≤ a.block) ∧ J xs f' W') ∨ (∃ pre, rowsV pre <+: (rowsE zs).map (keepR cols) ∧ Jx pre f' W')) from H
  refine callsIn_of_wp_marks Tryz.func161 rfl h3 ?_ hro
  simp only [Tryz.ntmps161, List.size_toArray, List.length_cons, List.length_nil, Nat.reduceAdd, Nat.reduceSub, Array.replicate_succ, Array.replicate_zero, List.push_toArray, List.append_toArray, List.nil_append, List.cons_append]
  gi_wp2
  obtain ⟨W0, hW0⟩ : ∃ W0, W.alloc (.cells #[.func (.yield l) #[] #[]] 134) = W0 := ⟨_, rfl⟩
  have hs0 : W0.heap.size = W.heap.size + 1 := by rw [← hW0]; simp
  have hBW : Below W.heap.size W W0 := by rw [← hW0]; exact (Below.refl _ W).alloc (Nat.le_refl _) _
  have y0 := yst_start l (fun k hk => (hfo k hk).2) hW0
  rw [hW0]
  refine wpIn_range_sep hro h1 (gf := g) (lb := lb) rfl hg eg hseq (hW.trans (hBW.mono hW.size)) (fun _ => rfl)
    (fun xs X l o o' h hl => h)
    (fun pre f X => ∃ fJ es, f = rwFo fJ W.heap.size es ∧ rowsV es = (rowsE pre).map (keepR cols) ∧ RwSt W fo fJ l es X ∧ J es fJ X)
    (fun cd pre f X => cd = .ret ∧ ∃ fJ es, f = rwFo fJ W.heap.size es ∧ rowsV es = (rowsE pre).map (keepR cols) ∧ Turn fo fJ W X ∧ Jx es fJ X)
    ?hI ?hIx (rwFo fo W.heap.size []) ?hfo ⟨fo, [], rfl, rfl, ⟨y0, AllG.nil _, fun k ⟨e, he, _⟩ => by cases he⟩, hJ _ _ _ _ h0 (abide_below hBW)⟩
    (fun pre x a' f X => a' = { tmps := #[.func (.yield l) #[] #[], .pointer (some ⟨B1, 0, none⟩), .pointer (some ⟨B2, 0, none⟩), .pointer (some ⟨W.heap.size, 0, none⟩), encE x, undef, undef, undef, .func (.func g) #[] lb, encE x, undef, undef, undef, undef, undef, undef, undef, undef, undef, undef, undef, undef, undef, undef, undef, undef, undef, undef, undef, undef, undef, undef], defers := [] } ∧ ∃ fJ es, f = rwFo fJ W.heap.size es ∧ rowsV es = (rowsE pre).map (keepR cols) ∧ RwSt W fo fJ l es X ∧ J es fJ X)
    ?hA ?assign ?body ?done ?stop
  case hI =>
    rintro xs f A B ⟨fJ, es, rfl, he, G, hj⟩ ab
    exact ⟨fJ, es, rfl, he, G.abide ab (by omega), hJ _ _ _ _ hj (low_one (low_rw ab (Nat.le_refl _)) (by omega))⟩
  case hIx =>
    rintro cd xs f A B ⟨rfl, fJ, es, rfl, he, t, hj⟩ ab
    have ab' := low_one (m := W.heap.size) (low_rw ab (Nat.le_refl _)) (by omega)
    exact ⟨rfl, fJ, es, rfl, he, t.abide ab' (Nat.le_refl _), hJx _ _ _ _ hj ab'⟩
  case hfo =>
    rintro k ((h | rfl) | ⟨e, he, _⟩)
    · have := hfo k h; omega
    · omega
    · cases he
  case hA =>
    rintro pre x a' f X Y ⟨rfl, fJ, es, rfl, he, G, hj⟩ ab
    exact ⟨rfl, fJ, es, rfl, he, G.abide ab (by omega), hJ _ _ _ _ hj (low_one (low_rw ab (Nat.le_refl _)) (by omega))⟩
  case assign =>
    rintro l' pre x f X K ⟨fJ, es, rfl, he, G, hj⟩ hK
    gi_wp2
    exact hK _ _ _ (Turn.refl _ _ G.lt) ⟨rfl, fJ, es, rfl, he, G, hj⟩
  case body =>
    rintro l' pre x a' f X hl' hr' hfl' hN ⟨rfl, fJ, es, rfl, he, G, hj⟩
    have k0 := G.y.y.cell
    have k2 := G.y.t.cell hb2 (nf _ hl2)
    have hbX : Below w.heap.size w X := low_below hW (fun k hk => (hfo k hk).1) G.y.t
    have hcX : Rd X .i64 ac cols := hcols.below hbX
    have hx := els_turn x hwb hW (fun k hk => (hfo k hk).1) G.y.t
    have hxm : x ∈ zs := hN.subset (by simp)
    have hpre : (rowsE (pre ++ [x])).map (keepR cols) <+: (rowsE zs).map (keepR cols) := (hN.map _).map _
    have hmk := run_make_row' (P := Tryz.prog) 34 3 (.int .i64 0) 8 Tryz.underlying34 infoIw rfl .i64 .i64 cols.length (by omega) (by omega) X
    have HS : Hid (G.y.t.size = G.y.t.size) := rfl
    have hsX := G.y.t.size
    have hltY := G.y.y.lt
    obtain ⟨X0, hX0⟩ : ∃ X0, X.alloc (.cells (madeCells #[.int .i64 0] cols.length) 3) = X0 := ⟨_, rfl⟩
    have r0 : X0.rowIs X.heap.size 3 cols.length (fun _ => .int .i64 0) := by rw [← hX0]; exact World.rowIs_made _ _ _ _
    have b0 : Below X.heap.size X X0 := by rw [← hX0]; exact (Below.refl _ _).alloc (Nat.le_refl _) _
    have s0 : X0.heap.size = X.heap.size + 1 := by rw [← hX0]; simp
    rw [hX0] at hmk
    have hl2X : B2 < X.heap.size := by omega
    have k20 := (b0.cell (p := ⟨B2, 0, none⟩) hl2X).trans k2
    obtain ⟨gX, hgX⟩ : ∃ gX, X.heap.size = gX := ⟨_, rfl⟩
    rw [hgX] at hmk r0 b0 s0
    have R0 := Lib.hid r0
    have S0 : Hid _ := s0
    have GX : Hid _ := hgX
    have B0 := Lib.hid b0
    clear r0 s0 hgX b0 hX0
    have hf := hfit x hxm
    have hrows : (rowsE (pre ++ [x])).map (keepR cols) = (rowsE pre).map (keepR cols) ++ [keepR cols x.1.r] := by simp [rowsE]
    have hx1 := hx.1
    unfold encE
    clear hx
    generalize x.1.a = xa at hx1 ⊢
    generalize x.1.r = xr at hx1 hf hrows ⊢
    generalize x.1.c = xc
    have HF : Hid _ := hf
    have HX := Lib.hid hx1
    have HCX := Lib.hid hcX
    clear hf hx1 hcX
    gi_wp2_with fail
    gi_loopw [15] (fun i wr => ∃ k : Nat, k ≤ cols.length ∧ i = .int .i64 k ∧ wr.rowIs gX 3 cols.length (keptV cols xr k) ∧ Below gX X wr ∧ wr.heap.size = gX + 1) (fun i _ => cols.length - (intOf i).toNat)
    case atStart => exact ⟨0, Nat.zero_le _, rfl, R0.out.congr (fun i _ => by simp [keptV]), B0.out, S0.out⟩
    case round =>
      obtain ⟨k, hk, rfl, hrow, hbw, hsz⟩ := hrel
      have RW := Lib.hid hrow
      have BW := Lib.hid hbw
      have SZ : Hid _ := hsz
      have gx := GX.out
      clear hsz
      by_cases hlt : k < cols.length
      · rcases HCX.out with h0 | ⟨bc, oc, rfl, hcc⟩
        · rw [h0] at hlt; cases hlt
        · have hmem : cols.getD k 0 ∈ cols := by rw [List.getD_eq_getElem?_getD, List.getElem?_eq_getElem hlt]; exact List.getElem_mem hlt
          obtain ⟨f1, f2⟩ := HF.out _ hmem
          obtain ⟨cn, hcn⟩ : ∃ cn : Nat, cols.getD k 0 = (cn : Int) := ⟨_, (Int.toNat_of_nonneg f1).symm⟩
          have hcx : cn < xr.length := by omega
          rcases HX.out with h0 | ⟨bx, ox, rfl, hxc⟩
          · rw [h0] at hcx; cases hcx
          · have l1 := World.block_lt_of_cell? X _ (hcc k hlt)
            have l2 := World.block_lt_of_cell? X _ (hxc cn hcx)
            simp only at l1 l2
            have u1 : wr.cell? ⟨bc, oc + k, none⟩ = some (.int .i64 (cn : Int)) := (hbw.cell (p := ⟨bc, oc + k, none⟩) (by show bc < gX; omega)).trans (by rw [hcc k hlt, hcn])
            have u2 : wr.cell? ⟨bx, ox + cn, none⟩ = some (.int .i64 (xr.getD cn 0)) := (hbw.cell (p := ⟨bx, ox + cn, none⟩) (by show bx < gX; omega)).trans (hxc cn hcx)
            have u3 := hrow.cell hlt
            have u4 := hrow.frozen k
            have CN : Hid _ := hcn
            clear hcc hxc hcn hmem hrow hbw f1 f2
            have ST := Lib.hid (keptV_step RW.out hlt CN.out)
            generalize xr.getD cn 0 = xv at u2 ST
            gi_wp2
            go_roundw
            case rel => exact ⟨k + 1, by omega, by simp, ST.out, BW.out.setCell (p := ⟨gX, k, none⟩) (Nat.le_refl _) _, by simp; exact SZ.out⟩
            case measure => simp [intOf]; omega
      · obtain rfl : k = cols.length := by omega
        have bX : Below X.heap.size X wr := by rw [gx]; exact hbw
        have t1 := turn_below bX (fun k hk => (G.y.t.own k hk).2)
        have G1 := G.turn t1
        have e := keptV_good hrow (by unfold maxLen; omega)
        have hlw : gX < wr.heap.size := by rw [SZ.out]; omega
        have G2 := G1.snoc e (fun a ha => by
          cases ha
          exact ⟨by show W.heap.size < gX; omega, hlw, fun hf => by have := (G.y.t.own _ hf).2; simp at this; omega⟩)
        have hes : rowsV (es ++ [⟨some ⟨gX, 0, none⟩, keepR cols xr, cols.length⟩]) = (rowsE (pre ++ [x])).map (keepR cols) := by
          rw [hrows, ← he]; simp [rowsV]
        have j1 := hJ _ _ _ _ hj (abide_below (f := lowF W.heap.size fJ) bX)
        have k3 := G1.y.y.cell
        have TE : Turn (rwFo fJ W.heap.size es) (rwFo fJ W.heap.size (es ++ [⟨some ⟨gX, 0, none⟩, keepR cols xr, cols.length⟩])) X wr := turn_rw G t1 (by
          rintro k ⟨y, hy, a, ha, rfl⟩
          rcases List.mem_append.1 hy with hy | hy
          · exact ⟨.inl ⟨y, hy, a, ha, rfl⟩, Nat.lt_of_lt_of_le (G.new _ ⟨y, hy, a, ha, rfl⟩).2.1 bX.size⟩
          · rw [List.mem_singleton] at hy; subst hy; cases ha; exact ⟨.inr (by simp; omega), hlw⟩)
        obtain ⟨fn, tmps, assign, body, hy, hR⟩ := yield_any hd (n - 1 - 1 - 1) l' (hY es ⟨some ⟨gX, 0, none⟩, keepR cols xr, cols.length⟩ fJ wr j1 (by rw [hes]; exact hpre))
        unfold El.val keepR at hy
        simp only [List.length_map] at hy
        gi_wp2
        refine hR.mono ?_
        rintro e X3 ⟨f', t3, (⟨rfl, hj3⟩ | ⟨rfl, hx3⟩)⟩
        · gi_wp2
          exact ⟨_, TE.trans (turn_rw G2 t3 (fun k hk => ⟨.inl hk, Nat.lt_of_lt_of_le (G2.new k hk).2.1 t3.size⟩)), f', _, rfl, hes, G2.turn t3, hj3⟩
        · gi_wp2
          exact ⟨_, TE.trans (turn_rw G2 t3 (fun k hk => ⟨.inl hk, Nat.lt_of_lt_of_le (G2.new k hk).2.1 t3.size⟩)), rfl, f', _, rfl, hes, G2.y.t.trans t3, hx3⟩
  case done =>
    rintro D xs f X hD rfl ⟨fJ, es, rfl, he, G, hj⟩ t hK hnD
    gi_wp2
    refine ⟨by simp, .inl ⟨_, _, rfl, run_takeDeferred hK, ?_⟩⟩
    exact ⟨_, results_none rfl _ _ _, ⟨_, rfl⟩, fJ, G.y.t.put (by omega) _, .inl ⟨_, ⟨he, G.good.put _ hK, fun e he a ha => by have := (G.new _ ⟨e, he, a, ha, rfl⟩).1; omega⟩, hJ _ _ _ _ hj (put_ab _ (fun h => hnD (.inl (.inl h))) (by omega))⟩⟩
  case stop =>
    rintro D cd pre f X hD hp ⟨rfl, fJ, es, rfl, he, t, hj⟩ _ hK hnD
    gi_wp2
    refine ⟨by simp, .inl ⟨_, _, rfl, run_takeDeferred hK, ?_⟩⟩
    exact ⟨_, results_none rfl _ _ _, ⟨_, rfl⟩, fJ, t.put (by omega) _, .inr ⟨_, by rw [he]; exact (hp.map _).map _, hJx _ _ _ _ hj (put_ab _ (fun h => hnD (.inl (.inl h))) (by omega))⟩⟩
end Go.Proofs.YtanfllednlpbaaaGreat
