/-
  Contract of the iterator of impl.oneBehindOther over two: what the one gives, and behind it what the other gives. Iterators as rows that come: from elements that lie already to values; a slice's values as a node's child. What rowsOver ends in. No walk.
-/
import Derived.Test.YtanfllednlpbaaaGreatM32x
import Derived.Test.YtanfllednlpbaaaGreatIJon
import Derived.Test.YtanfllednlpbaaaGreatM31x
namespace Go.Proofs.YtanfllednlpbaaaGreat
open Go.RowKit Go.Shelf
set_option linter.unusedSimpArgs false
set_option linter.unusedVariables false
attribute [local go_sem] Oper.semAt_some
set_option maxRecDepth 100000 in
set_option maxHeartbeats 4000000 in
theorem both_sep (F : Fence) (n : Nat) (h3 : F.fn 164) (hro : F.round = none) (hd : F.depth = none) (hn : 3 ≤ n) (g g2 : Nat) (lb lb2 : Array Value) (hg : F.fn g) (eg : ∀ args w, (callFunc g args).run Tryz.prog w = .ok (.enter g args) w) (hg2 : F.fn g2) (eg2 : ∀ args w, (callFunc g2 args).run Tryz.prog w = .ok (.enter g2 args) w)
    {wb : World} (zs ys : List (Els wb)) (B1 bf of cc : Nat) (w : World) (hseq : SeqSep F (n - 1) Tryz.prog g lb (fun x : Els wb => #[encE x]) (fun xs _ => xs = zs) (fun pre => pre <+: zs) w) (hseq2 : SeqSep F (n - 1) Tryz.prog g2 lb2 (fun x : Els wb => #[encE x]) (fun xs _ => xs = ys) (fun pre => pre <+: ys) w)
    (hB1 : w.cell? ⟨B1, 0, none⟩ = some (.slice (some ⟨bf, of, none⟩) 2 cc)) (hf1 : w.cell? ⟨bf, of, none⟩ = some (.func (.func g) #[] lb)) (hf2 : w.cell? ⟨bf, of + 1, none⟩ = some (.func (.func g2) #[] lb2)) :
    SeqSep F n Tryz.prog 164 #[.pointer (some ⟨B1, 0, none⟩)] (fun x : Els wb => #[encE x]) (fun xs _ => xs = zs ++ ys) (fun pre => pre <+: zs ++ ys) w := by
  intro l J Jx W fo hW hfo hJ hJx hY h0
  have h1 : 1 ≤ n := by omega
  have hl1 : B1 < w.heap.size := World.block_lt_of_cell? w _ hB1
  have hl2 : bf < w.heap.size := World.block_lt_of_cell? w _ hf1
  have hs := hW.size
  have hb1 := (hW.cell (p := ⟨B1, 0, none⟩) hl1).trans hB1
  have hb2 := (hW.cell (p := ⟨bf, of, none⟩) hl2).trans hf1
  have hb3 := (hW.cell (p := ⟨bf, of + 1, none⟩) hl2).trans hf2
  have hl1' : B1 < W.heap.size := by omega
  have hl2' : bf < W.heap.size := by omega
  have nf : ∀ k, k < w.heap.size → ¬ fo k := fun k hk hf => by have := (hfo k hf).1; omega
  suffices H : CallsIn F n Tryz.prog 164 #[.func (.yield l) #[] #[], .pointer (some ⟨B1, 0, none⟩)] W fun e W' => (∃ v, e = .returned v) ∧ ∃ f', Turn fo f' W W' ∧ ((∃ xs, xs = zs ++ ys ∧ J xs f' W') ∨ (∃ pre, pre <+: zs ++ ys ∧ Jx pre f' W')) from H
  refine callsIn_of_wp_marks Tryz.func164 rfl h3 ?_ hro
  simp only [Tryz.ntmps164, List.size_toArray, List.length_cons, List.length_nil, Nat.reduceAdd, Nat.reduceSub, Array.replicate_succ, Array.replicate_zero, List.push_toArray, List.append_toArray, List.nil_append, List.cons_append]
  gi_wp2_with fail
  obtain ⟨W0, hW0⟩ : ∃ W0, W.alloc (.cells #[.func (.yield l) #[] #[]] 134) = W0 := ⟨_, rfl⟩
  have hs0 : W0.heap.size = W.heap.size + 1 := by rw [← hW0]; simp
  have hBW : Below W.heap.size W W0 := by rw [← hW0]; exact (Below.refl _ W).alloc (Nat.le_refl _) _
  have y0 := yst_start l (fun k hk => (hfo k hk).2) hW0
  have u1 := (hBW.cell (p := ⟨B1, 0, none⟩) hl1').trans hb1
  have u2 := (hBW.cell (p := ⟨bf, of, none⟩) hl2').trans hb2
  have u3 := (hBW.cell (p := ⟨bf, of + 1, none⟩) hl2').trans hb3
  rw [hW0]
  refine wpIn_loop_rounds 3 ?_; rw [roundsIn_succ]
  gi_wp2_with fail
  refine wpIn_range_sep hro h1 (gf := g) (lb := lb) rfl hg eg hseq (hW.trans (hBW.mono hW.size)) (fun _ => rfl)
    (fun xs X l o o' h hl => h)
    (fun pre f X => ∃ fJ, f = oneFo fJ W.heap.size ∧ YSt W fo fJ W.heap.size l X ∧ J pre fJ X)
    (fun cd pre f X => cd = .ret ∧ ∃ fJ, f = oneFo fJ W.heap.size ∧ Turn fo fJ W X ∧ Jx pre fJ X)
    ?hI1 ?hIx1 (oneFo fo W.heap.size) ?hfo1 ⟨fo, rfl, y0, hJ _ _ _ _ h0 (abide_below hBW)⟩
    (fun pre x a' f X => a' = { tmps := #[.func (.yield l) #[] #[], .pointer (some ⟨B1, 0, none⟩), .pointer (some ⟨W.heap.size, 0, none⟩), undef, .func (.func g) #[] lb, encE x, .slice (some ⟨bf, of, none⟩) 2 cc, .int .i64 2, .int .i64 0, .bool true, .pointer (some ⟨bf, of, none⟩), .func (.func g) #[] lb, .func (.func g) #[] lb, encE x, undef, undef, undef, undef, undef], defers := [] } ∧ ∃ fJ, f = oneFo fJ W.heap.size ∧ YSt W fo fJ W.heap.size l X ∧ J pre fJ X)
    ?hA1 ?assign1 ?body1 ?done1 ?stop1
  case hI1 =>
    rintro xs f A B ⟨fJ, rfl, G, hj⟩ ab
    exact ⟨fJ, rfl, G.abide ab (by omega), hJ _ _ _ _ hj (low_one ab (by omega))⟩
  case hIx1 =>
    rintro cd xs f A B ⟨rfl, fJ, rfl, t, hj⟩ ab
    have ab' : Abide (lowF W.heap.size fJ) A B := low_one ab (by omega)
    exact ⟨rfl, fJ, rfl, t.abide ab' (Nat.le_refl _), hJx _ _ _ _ hj ab'⟩
  case hfo1 =>
    rintro k (h | rfl)
    · have := hfo k h; omega
    · omega
  case hA1 =>
    rintro pre x a' f X Y ⟨rfl, fJ, rfl, G, hj⟩ ab
    exact ⟨rfl, fJ, rfl, G.abide ab (by omega), hJ _ _ _ _ hj (low_one ab (by omega))⟩
  case assign1 =>
    rintro l' pre x f X K ⟨fJ, rfl, G, hj⟩ hK
    gi_wp2
    exact hK _ _ _ (Turn.refl _ _ G.lt) ⟨rfl, fJ, rfl, G, hj⟩
  case body1 =>
    rintro l' pre x a' f X hl' hr' hfl' hN ⟨rfl, fJ, rfl, G, hj⟩
    have k0 := G.y.cell
    obtain ⟨fn, tmps, assign, body, hy, hR⟩ := yield_any hd (n - 1 - 1 - 1) l' (hY pre x fJ X hj (hN.trans (List.prefix_append _ _)))
    unfold encE at hy ⊢
    gi_wp2
    refine hR.mono ?_
    rintro e X3 ⟨f', t3, (⟨rfl, hj3⟩ | ⟨rfl, hx3⟩)⟩
    · gi_wp2
      exact ⟨_, (turn_one t3 G.y.lt), f', rfl, G.turn t3, hj3⟩
    · gi_wp2
      exact ⟨_, (turn_one t3 G.y.lt), rfl, f', rfl, G.t.trans t3, hx3⟩
  case stop1 =>
    rintro D cd pre f X hD hp ⟨rfl, fJ, rfl, t, hj⟩ _ hK hnD
    gi_wp2
    refine ⟨by simp, .inl ⟨_, _, rfl, run_takeDeferred hK, ?_⟩⟩
    exact ⟨_, results_none rfl _ _ _, ⟨_, rfl⟩, fJ, t.put (by omega) _, .inr ⟨_, hp.trans (List.prefix_append _ _), hJx _ _ _ _ hj (put_ab _ (fun h => hnD (.inl h)) (by omega))⟩⟩
  case done1 =>
    rintro D1 xs f X1 hD1 hxs ⟨fJ1, rfl, G1, hj1⟩ t1 hK1 hnD1
    obtain rfl := hxs.symm
    have v1 := G1.t.cell hb1 (nf _ hl1)
    have v3 := G1.t.cell hb3 (nf _ hl2)
    have hsX := G1.t.size
    gi_wp2_with fail
    rw [roundsIn_succ]
    gi_wp2_with fail
    refine wpIn_range_sep hro h1 (gf := g2) (lb := lb2) rfl hg2 eg2 hseq2 (low_below hW (fun k hk => (hfo k hk).1) G1.t) (fun _ => rfl)
      (fun xs X l o o' h hl => h)
      (fun pre f X => ∃ fJ, f = oneFo (oneFo fJ W.heap.size) D1 ∧ YSt W fo fJ W.heap.size l X ∧ J (zs ++ pre) fJ X ∧ X.heap[D1]? = some (.deferred (some [])) ∧ ¬ fJ D1)
      (fun cd pre f X => cd = .ret ∧ ∃ fJ, f = oneFo (oneFo fJ W.heap.size) D1 ∧ Turn fo fJ W X ∧ Jx (zs ++ pre) fJ X ∧ X.heap[D1]? = some (.deferred (some [])) ∧ ¬ fJ D1)
      ?hI2 ?hIx2 (oneFo (oneFo fJ1 W.heap.size) D1) ?hfo2 ⟨fJ1, rfl, G1, by rw [List.append_nil]; exact hj1, hK1, fun h => hnD1 (.inl h)⟩
      (fun pre x a' f X => a' = { tmps := #[.func (.yield l) #[] #[], .pointer (some ⟨B1, 0, none⟩), .pointer (some ⟨W.heap.size, 0, none⟩), undef, .func (.func g2) #[] lb2, encE x, .slice (some ⟨bf, of, none⟩) 2 cc, .int .i64 2, .int .i64 1, .bool true, .pointer (some ⟨bf, of + 1, none⟩), .func (.func g2) #[] lb2, .func (.func g2) #[] lb2, encE x, undef, undef, undef, undef, .int .i64 1], defers := [] } ∧ ∃ fJ, f = oneFo (oneFo fJ W.heap.size) D1 ∧ YSt W fo fJ W.heap.size l X ∧ J (zs ++ pre) fJ X ∧ X.heap[D1]? = some (.deferred (some [])) ∧ ¬ fJ D1)
      ?hA2 ?assign2 ?body2 ?done2 ?stop2
    case hI2 =>
      rintro xs f A B ⟨fJ, rfl, G, hj, hk, nk⟩ ab
      exact ⟨fJ, rfl, G.abide (low_one ab (Nat.le_refl _)) (by omega), hJ _ _ _ _ hj (low_one (low_one ab (Nat.le_refl _)) (by omega)), (ab.block _ (Array.getElem?_eq_some_iff.1 hk).1 (.inl (.inr rfl))).trans hk, nk⟩
    case hIx2 =>
      rintro cd xs f A B ⟨rfl, fJ, rfl, t, hj, hk, nk⟩ ab
      have ab' : Abide (lowF W.heap.size fJ) A B := low_one (low_one ab (Nat.le_refl _)) (by omega)
      exact ⟨rfl, fJ, rfl, t.abide ab' (Nat.le_refl _), hJx _ _ _ _ hj ab', (ab.block _ (Array.getElem?_eq_some_iff.1 hk).1 (.inl (.inr rfl))).trans hk, nk⟩
    case hfo2 =>
      rintro k ((h | rfl) | rfl)
      · refine ⟨?_, (G1.t.own k h).2⟩
        rcases (G1.t.own k h).1 with h5 | h5
        · exact (hfo k h5).1
        · omega
      · exact ⟨by omega, G1.y.lt⟩
      · exact ⟨by omega, (Array.getElem?_eq_some_iff.1 hK1).1⟩
    case hA2 =>
      rintro pre x a' f X Y ⟨rfl, fJ, rfl, G, hj, hk, nk⟩ ab
      exact ⟨rfl, fJ, rfl, G.abide (low_one ab (Nat.le_refl _)) (by omega), hJ _ _ _ _ hj (low_one (low_one ab (Nat.le_refl _)) (by omega)), (ab.block _ (Array.getElem?_eq_some_iff.1 hk).1 (.inl (.inr rfl))).trans hk, nk⟩
    case assign2 =>
      rintro l' pre x f X K ⟨fJ, rfl, G, hj, hk, nk⟩ hK
      gi_wp2
      exact hK _ _ _ (Turn.refl _ _ (by rintro j (hj | rfl); exact G.lt j hj; exact (Array.getElem?_eq_some_iff.1 hk).1)) ⟨rfl, fJ, rfl, G, hj, hk, nk⟩
    case body2 =>
      rintro l' pre x a' f X hl' hr' hfl' hN ⟨rfl, fJ, rfl, G, hj, hk, nk⟩
      have k0 := G.y.cell
      obtain ⟨fn, tmps, assign, body, hy, hR⟩ := yield_any hd (n - 1 - 1 - 1) l' (hY (zs ++ pre) x fJ X hj (by rw [List.append_assoc]; exact (List.prefix_append_right_inj _).2 hN))
      unfold encE at hy ⊢
      gi_wp2
      refine hR.mono ?_
      rintro e X3 ⟨f', t3, (⟨rfl, hj3⟩ | ⟨rfl, hx3⟩)⟩
      · gi_wp2
        exact ⟨_, (turn_one (turn_one t3 G.y.lt) (Array.getElem?_eq_some_iff.1 hk).1), f', rfl, G.turn t3, by rw [← List.append_assoc]; exact hj3, (t3.block _ (Array.getElem?_eq_some_iff.1 hk).1 nk).trans hk, t3.out (Array.getElem?_eq_some_iff.1 hk).1 nk⟩
      · gi_wp2
        exact ⟨_, (turn_one (turn_one t3 G.y.lt) (Array.getElem?_eq_some_iff.1 hk).1), rfl, f', rfl, G.t.trans t3, by rw [← List.append_assoc]; exact hx3, (t3.block _ (Array.getElem?_eq_some_iff.1 hk).1 nk).trans hk, t3.out (Array.getElem?_eq_some_iff.1 hk).1 nk⟩
    case stop2 =>
      rintro D cd pre f X hD hp ⟨rfl, fJ, rfl, t, hj, hk, nk⟩ _ hK hnD
      have hne : D1 ≠ D := fun e => hnD (.inr e.symm)
      gi_wp2
      refine ⟨by simp, .inl ⟨_, _, rfl, run_takeDeferred hK, ?_⟩⟩
      refine ⟨by simp, .inl ⟨_, _, rfl, run_takeDeferred ((World.putObj_heap_other hne).trans hk), ?_⟩⟩
      exact ⟨_, results_none rfl _ _ _, ⟨_, rfl⟩, fJ, (t.put (by omega) _).put (by omega) _, .inr ⟨_, (List.prefix_append_right_inj _).2 hp, hJx _ _ _ _ (hJx _ _ _ _ hj (put_ab _ (fun h => hnD (.inl (.inl h))) (by omega))) (put_ab _ nk (by omega))⟩⟩
    case done2 =>
      rintro D xs f X hD hxs ⟨fJ, rfl, G, hj, hk, nk⟩ _ hK hnD
      obtain rfl := hxs.symm
      have hne : D1 ≠ D := fun e => hnD (.inr e.symm)
      gi_wp2_with fail
      rw [roundsIn_succ]
      gi_wp2
      refine ⟨by simp, .inl ⟨_, _, rfl, run_takeDeferred hK, ?_⟩⟩
      refine ⟨by simp, .inl ⟨_, _, rfl, run_takeDeferred ((World.putObj_heap_other hne).trans hk), ?_⟩⟩
      exact ⟨_, results_none rfl _ _ _, ⟨_, rfl⟩, fJ, (G.t.put (by omega) _).put (by omega) _, .inl ⟨_, rfl, hJ _ _ _ _ (hJ _ _ _ _ hj (put_ab _ (fun h => hnD (.inl (.inl h))) (by omega))) (put_ab _ nk (by omega))⟩⟩
end Go.Proofs.YtanfllednlpbaaaGreat
namespace Go.Proofs.YtanfllednlpbaaaGreat
open Go.RowKit
set_option linter.unusedSimpArgs false
set_option linter.unusedVariables false
structure SG (z : Nat → Prop) (w w' : World) : Prop where
  os : w'.os = w.os
  tape : w'.tape = w.tape
  output : w'.output = w.output
  size : w.heap.size ≤ w'.heap.size
  block : ∀ k, k < w.heap.size → ¬ z k → w'.heap[k]? = w.heap[k]?
theorem SG.of {z : Nat → Prop} {A B : World} (h : Below A.heap.size A B) : SG z A B := ⟨h.os, h.tape, h.output, h.size, fun k hk _ => h.block k hk⟩
def PX (z : Nat → Prop) (e : El) : Prop := e.r ≠ [] → ∀ a, e.a = some a → ¬ z a.block
def ElSeq (F : Fence) (n : Nat) (g : Nat) (lb : Array Value) (z : Nat → Prop) (L : RowsL) (w : World) : Prop :=
  SeqSep F n Tryz.prog g lb (fun e : El => #[e.val]) (fun xs W => rowsV xs = L ∧ AllG W xs ∧ ∀ e ∈ xs, PX z e) (fun pre => rowsV pre <+: L) w
theorem rowsV_els {wb : World} (zs : List (Els wb)) : rowsV (zs.map fun x => x.1) = rowsE zs := by simp [rowsV, rowsE]
theorem toEl {F : Fence} {n g : Nat} {lb : Array Value} {wb w : World} {zs : List (Els wb)} (h : SeqSep F n Tryz.prog g lb (fun x : Els wb => #[encE x]) (fun ys _ => ys = zs) (fun pre => pre <+: zs) w) (hwb : Below wb.heap.size wb w) {z : Nat → Prop} (hP : ∀ x ∈ zs, PX z x.1) : ElSeq F n g lb z (rowsE zs) w := by
  intro l J Jx W fo hW hfo hJ hJx hY h0
  refine (h l (fun ys f X => J (ys.map fun x => x.1) f X) (fun ys f X => Jx (ys.map fun x => x.1) f X) W fo hW hfo (fun xs f A B => hJ _ f A B) (fun xs f A B => hJx _ f A B) ?_ h0).mono ?_
  · intro pre x f W1 hj hp
    have h1 := hY (pre.map fun x => x.1) x.1 f W1 hj (by
      have := hp.map fun x : Els wb => x.1.r
      rw [List.map_append] at this
      show rowsV _ <+: _
      unfold rowsV
      rw [List.map_append, List.map_map]
      exact this)
    refine YieldAt.mono' h1 ?_
    rintro e W' ⟨f', t, hh⟩
    refine ⟨f', t, ?_⟩
    simpa using hh
  · rintro e W' ⟨he, f', t, hh⟩
    refine ⟨he, f', t, ?_⟩
    rcases hh with ⟨xs, rfl, hj⟩ | ⟨pre, hp, hj⟩
    · refine .inl ⟨_, ⟨rowsV_els _, fun e he => ?_, fun e he => ?_⟩, hj⟩
      · obtain ⟨x, _, rfl⟩ := List.mem_map.1 he
        exact els_turn x hwb hW (fun k hk => (hfo k hk).1) t
      · obtain ⟨x, hx, rfl⟩ := List.mem_map.1 he
        exact hP x hx
    · exact .inr ⟨_, by show rowsV _ <+: _; rw [rowsV_els]; exact hp.map _, hj⟩
theorem newEl {F : Fence} {n g : Nat} {lb : Array Value} {w : World} {L : RowsL} (h : SeqSep F n Tryz.prog g lb (fun e : El => #[e.val]) (fun xs W => rowsV xs = L ∧ AllG W xs ∧ ∀ e ∈ xs, ∀ a, e.a = some a → w.heap.size ≤ a.block) (fun pre => rowsV pre <+: L) w) {z : Nat → Prop} (hz : ∀ k, z k → k < w.heap.size) : ElSeq F n g lb z L w := by
  intro l J Jx W fo hW hfo hJ hJx hY h0
  refine (h l J Jx W fo hW hfo hJ hJx hY h0).mono ?_
  rintro e W' ⟨he, f', t, hh⟩
  refine ⟨he, f', t, ?_⟩
  rcases hh with ⟨xs, ⟨h1, h2, h3⟩, hj⟩ | hh
  · exact .inl ⟨xs, ⟨h1, h2, fun e he _ a ha hza => by have := h3 e he a ha; have := hz _ hza; omega⟩, hj⟩
  · exact .inr hh
def RdX (z : Nat → Prop) (w : World) (ao : Option Addr) (l : RowsL) : Prop :=
  l = [] ∨ ∃ b off, ao = some ⟨b, off, none⟩ ∧ ¬ z b ∧ ∀ i r, l[i]? = some r → ∃ a c, w.cell? ⟨b, off + i, none⟩ = some (.slice a r.length c) ∧ Rd w .i64 a r ∧ r.length ≤ c ∧ c ≤ maxLen ∧ PX z ⟨a, r, c⟩
theorem RdX.rd {z : Nat → Prop} {w : World} {ao : Option Addr} {l : RowsL} (h : RdX z w ao l) : RdR w ao l := by
  rcases h with h | ⟨b, off, rfl, hb, hc⟩
  · exact .inl h
  · refine .inr ⟨b, off, rfl, fun i r hr => ?_⟩
    obtain ⟨a, c, h1, h2, h3, h4, _⟩ := hc i r hr
    exact ⟨a, c, h1, h2, h3, h4⟩
theorem RdX.grown {z : Nat → Prop} {w w' : World} {ao : Option Addr} {l : RowsL} (h : RdX z w ao l) (hg : SG z w w') : RdX z w' ao l := by
  have key : ∀ {p : Addr} {v : Value}, ¬ z p.block → w.cell? p = some v → w'.cell? p = some v := fun {p v} hp hc =>
    (World.cell?_of_block (hg.block _ (World.block_lt_of_cell? w p hc) hp)).trans hc
  rcases h with h | ⟨b, off, rfl, hb, hc⟩
  · exact .inl h
  · refine .inr ⟨b, off, rfl, hb, fun i r hr => ?_⟩
    obtain ⟨a, c, h1, h2, h3, h4, h5⟩ := hc i r hr
    refine ⟨a, c, key hb h1, ?_, h3, h4, h5⟩
    rcases h2 with h2 | ⟨b', off', rfl, hcc⟩
    · exact .inl h2
    · refine .inr ⟨b', off', rfl, fun j hj => key (p := ⟨b', off' + j, none⟩) (h5 (fun e => by rw [show r = [] from e] at hj; cases hj) ⟨b', off', none⟩ rfl) (hcc j hj)⟩
theorem RdX.below {z : Nat → Prop} {w w' : World} {ao : Option Addr} {l : RowsL} (h : RdX z w ao l) (hb : Below w.heap.size w w') : RdX z w' ao l :=
  h.grown (SG.of hb)
theorem RdR.toX {z : Nat → Prop} {w w' : World} {ao : Option Addr} {l : RowsL} (h : RdR w ao l) (hb : Below w.heap.size w w') (hz : ∀ k, z k → w.heap.size ≤ k) : RdX z w' ao l := by
  rcases h with h | ⟨b, off, rfl, hc⟩
  · exact .inl h
  · by_cases h0 : l = []
    · exact .inl h0
    · have hpos : 0 < l.length := List.length_pos_iff.2 h0
      obtain ⟨_, _, q1, _⟩ := hc 0 _ (List.getElem?_eq_getElem hpos)
      have hlt := World.block_lt_of_cell? w _ q1
      refine .inr ⟨b, off, rfl, fun hzb => by have := hz _ hzb; simp at hlt; omega, fun i r hr => ?_⟩
      obtain ⟨a, c, h1, h2, h3, h4⟩ := hc i r hr
      refine ⟨a, c, (hb.cell (p := ⟨b, off + i, none⟩) hlt).trans h1, h2.below hb, h3, h4, fun hne x hx hzx => ?_⟩
      rcases h2 with h2 | ⟨b', off', rfl, hcc⟩
      · exact absurd h2 hne
      · have hp : 0 < r.length := List.length_pos_iff.2 hne
        have := World.block_lt_of_cell? w _ (hcc 0 hp)
        cases hx
        have h9 := hz _ hzx
        simp at this h9; omega
theorem RdX.els {z : Nat → Prop} {w : World} {ao : Option Addr} {l : RowsL} (h : RdX z w ao l) (c : Nat) : ∃ zs : List (Els w), rowsE zs = l ∧ Lies w.heap.size w (.slice ao l.length c) zs ∧ ∀ x ∈ zs, PX z x.1 := by
  rcases h with rfl | ⟨b, off, rfl, hb, hc⟩
  · exact ⟨[], rfl, .inl ⟨_, _, rfl, rfl⟩, fun x hx => by cases hx⟩
  · obtain ⟨zs, hl, hz⟩ := rows_of (fun (i : Nat) (x : Els w) => l[i]? = some x.1.r ∧ w.cell? ⟨b, off + i, none⟩ = some (encE x) ∧ PX z x.1) l.length (fun i hi => by
      obtain ⟨a, c, h1, h2, h3, h4, h5⟩ := hc i _ (List.getElem?_eq_getElem hi)
      exact ⟨⟨⟨a, l[i], c⟩, h2, h3, h4⟩, List.getElem?_eq_getElem hi, h1, h5⟩)
    have he : rowsE zs = l := by
      apply List.ext_getElem?
      intro i
      unfold rowsE
      rw [List.getElem?_map]
      rcases Nat.lt_or_ge i zs.length with h1 | h1
      · rw [List.getElem?_eq_getElem h1]
        exact ((hz i _ (List.getElem?_eq_getElem h1)).1).symm
      · rw [List.getElem?_eq_none h1, List.getElem?_eq_none (by omega)]; rfl
    have hP : ∀ x ∈ zs, PX z x.1 := fun x hx => by
      obtain ⟨i, hi, e⟩ := List.getElem_of_mem hx
      have := (hz i _ (List.getElem?_eq_getElem hi)).2.2
      rw [e] at this; exact this
    refine ⟨zs, he, ?_, hP⟩
    by_cases h0 : l = []
    · subst h0
      exact .inl ⟨_, _, rfl, List.eq_nil_of_length_eq_zero hl⟩
    · have hpos : 0 < l.length := List.length_pos_iff.2 h0
      obtain ⟨a, c', h1, _⟩ := hc 0 _ (List.getElem?_eq_getElem hpos)
      exact .inr ⟨b, off, c, by rw [hl], World.block_lt_of_cell? w ⟨b, off + 0, none⟩ h1, fun j x hj => (hz j x hj).2.1⟩
theorem owns_rdX {z : Nat → Prop} {w : World} {base : Nat} {xs : List El} {ao : Option Addr} {n c : Nat} (h : w.ownsRow base 34 1 (.slice ao n c) n (xs.map El.val)) (hg : AllG w xs) (hz : ∀ k, z k → k < base) (hP : ∀ e ∈ xs, PX z e) : RdX z w ao (rowsV xs) := by
  rcases h.2 with ⟨_, h0⟩ | ⟨g, cap, cur, e, hb, _⟩
  · left
    have : xs.length = 0 := by have := h.1; simp at this; omega
    rw [List.eq_nil_of_length_eq_zero this]; rfl
  · right
    simp only [Value.slice.injEq] at e
    obtain ⟨rfl, -, rfl⟩ := e
    refine ⟨g, 0, rfl, fun hzg => by have := hz _ hzg; omega, fun i r hr => ?_⟩
    have hlen : xs.length = n := by have := h.1; simp at this; omega
    unfold rowsV at hr
    rw [List.getElem?_map] at hr
    have hi : i < xs.length := by
      rcases Nat.lt_or_ge i xs.length with h1 | h1
      · exact h1
      · rw [List.getElem?_eq_none h1] at hr; cases hr
    rw [List.getElem?_eq_getElem hi, Option.map_some, Option.some.injEq] at hr
    subst hr
    have hG := hg _ (List.getElem_mem hi)
    refine ⟨xs[i].a, xs[i].c, ?_, hG.1, hG.2.1, hG.2.2, hP _ (List.getElem_mem hi)⟩
    rw [Nat.zero_add, World.ownsRow.cellAt h i (by omega), List.getElem?_map, List.getElem?_eq_getElem hi]
    rfl
theorem RdX.mono {z y : Nat → Prop} {w : World} {ao : Option Addr} {l : RowsL} (h : RdX z w ao l) (hy : ∀ k, y k → z k) : RdX y w ao l := by
  rcases h with h | ⟨b, off, rfl, hb, hc⟩
  · exact .inl h
  · refine .inr ⟨b, off, rfl, fun h => hb (hy _ h), fun i r hr => ?_⟩
    obtain ⟨a, c, h1, h2, h3, h4, h5⟩ := hc i r hr
    exact ⟨a, c, h1, h2, h3, h4, fun hne x hx h => h5 hne x hx (hy _ h)⟩
def KidAt (z : Nat → Prop) (w : World) (v : Value) (l : RowsL) : Prop :=
  ∃ Bs a c, v = .func (.func 106) #[] #[.pointer (some ⟨Bs, 0, none⟩)] ∧ ¬ z Bs ∧ w.cell? ⟨Bs, 0, none⟩ = some (.slice a l.length c) ∧ RdX z w a l
theorem KidAt.grown {z : Nat → Prop} {w w' : World} {v : Value} {l : RowsL} (h : KidAt z w v l) (hg : SG z w w') : KidAt z w' v l := by
  obtain ⟨Bs, a, c, rfl, h0, h1, h2⟩ := h
  exact ⟨Bs, a, c, rfl, h0, (World.cell?_of_block (hg.block _ (World.block_lt_of_cell? w _ h1) h0)).trans h1, h2.grown hg⟩
theorem KidAt.below {z : Nat → Prop} {w w' : World} {v : Value} {l : RowsL} (h : KidAt z w v l) (hb : Below w.heap.size w w') : KidAt z w' v l :=
  h.grown (SG.of hb)
theorem KidAt.seq {z : Nat → Prop} {w : World} {v : Value} {l : RowsL} (h : KidAt z w v l) (hl : l.length ≤ 1048576) : ∃ (lb : Array Value) (zs : List (Els w)), v = .func (.func 106) #[] lb ∧ rowsE zs = l ∧ (∀ x ∈ zs, PX z x.1) ∧
    ∀ m, 1 ≤ m → SeqSep Fence.wide m Tryz.prog 106 lb (fun x : Els w => #[encE x]) (fun ys _ => ys = zs) (fun pre => pre <+: zs) w := by
  obtain ⟨Bs, a, c, rfl, h0, h1, h2⟩ := h
  obtain ⟨zs, hz, hL, hP⟩ := h2.els c
  exact ⟨_, zs, rfl, hz, hP, fun m hm => valuesS_sep Fence.wide m trivial rfl hm Bs w.heap.size _ zs (by rw [← rowsE_len, hz]; exact hl) w (World.block_lt_of_cell? w _ h1) (Nat.le_refl _) h1 hL⟩
theorem enters_values : ∀ args w, (callFunc 106 args).run Tryz.prog w = .ok (.enter 106 args) w := enters_of Tryz.func106 (by kernel_rfl) rfl
def OverPost (z : Nat → Prop) (w : World) (L : RowsL) (e : Ending) (w' : World) : Prop :=
  ∃ g lb, e = .returned (.func (.func g) #[] lb) ∧ Below w.heap.size w w' ∧ (∀ args W, (callFunc g args).run Tryz.prog W = .ok (.enter g args) W) ∧ ElSeq Fence.wide 5 g lb z L w'
end Go.Proofs.YtanfllednlpbaaaGreat
