/-
  Contract of the iterator of impl.chosen: of what comes one by one those that are taken. Contract of impl.gather: for whatever comes one by one; false where more than 200 come.
-/
import Derived.Test.YtanfllednlpbaaaGreatM27x
import Derived.Maps.OwnIn
namespace Go.Proofs.YtanfllednlpbaaaGreat
open Go.RowKit Go.Shelf
set_option linter.unusedSimpArgs false
set_option linter.unusedVariables false
attribute [local go_sem] Oper.semAt_some
set_option maxRecDepth 100000 in
set_option maxHeartbeats 4000000 in
theorem chosen_sep (F : Fence) (n : Nat) (h3 : F.fn 160) (h4 : F.fn 140) (hro : F.round = none) (hd : F.depth = none) (hn : 3 ≤ n) (g : Nat) (lb : Array Value) (hg : F.fn g) (eg : ∀ args w, (callFunc g args).run Tryz.prog w = .ok (.enter g args) w)
    {wb : World} (zs : List (Els wb)) (B1 B2 Bk : Nat) (w : World) (hwb : Below wb.heap.size wb w) (hseq : SeqSep F (n - 1) Tryz.prog g lb (fun x : Els wb => #[encE x]) (fun ys _ => ys = zs) (fun pre => pre <+: zs) w)
    (hB1 : w.cell? ⟨B1, 0, none⟩ = some (.func (.func g) #[] lb)) (hB2 : w.cell? ⟨B2, 0, none⟩ = some (.func (.func 140) #[] #[.pointer (some ⟨Bk, 0, none⟩)]))
    (T : Els wb → Bool) (hT : ∀ (m : Nat) (X : World) (x : Els wb), x ∈ zs → Below w.heap.size w X → Good X x.1 → CallsIn F m Tryz.prog 140 #[encE x, .pointer (some ⟨Bk, 0, none⟩)] X fun e X' => e = .returned (.bool (T x)) ∧ Below X.heap.size X X') :
    SeqSep F n Tryz.prog 160 #[.pointer (some ⟨B1, 0, none⟩), .pointer (some ⟨B2, 0, none⟩)] (fun x : Els wb => #[encE x]) (fun ys _ => ys = zs.filter T) (fun pre => pre <+: zs.filter T) w := by
  intro l J Jx W fo hW hfo hJ hJx hY h0
  have h1 : 1 ≤ n := by omega
  have hl1 : B1 < w.heap.size := World.block_lt_of_cell? w _ hB1
  have hl2 : B2 < w.heap.size := World.block_lt_of_cell? w _ hB2
  have hs := hW.size
  have hb1 := (hW.cell (p := ⟨B1, 0, none⟩) hl1).trans hB1
  have hb2 := (hW.cell (p := ⟨B2, 0, none⟩) hl2).trans hB2
  have hl1' : B1 < W.heap.size := by omega
  have hl2' : B2 < W.heap.size := by omega
  have nf : ∀ k, k < w.heap.size → ¬ fo k := fun k hk hf => by have := (hfo k hf).1; omega
  suffices H : CallsIn F n Tryz.prog 160 #[.func (.yield l) #[] #[], .pointer (some ⟨B1, 0, none⟩), .pointer (some ⟨B2, 0, none⟩)] W fun e W' => (∃ v, e = .returned v) ∧ ∃ f', Turn fo f' W W' ∧ ((∃ xs, xs = zs.filter T ∧ J xs f' W') ∨ (∃ pre, pre <+: zs.filter T ∧ Jx pre f' W')) from H
  refine callsIn_of_wp_marks Tryz.func160 rfl h3 ?_ hro
  simp only [Tryz.ntmps160, List.size_toArray, List.length_cons, List.length_nil, Nat.reduceAdd, Nat.reduceSub, Array.replicate_succ, Array.replicate_zero, List.push_toArray, List.append_toArray, List.nil_append, List.cons_append]
  gi_wp2
  obtain ⟨W0, hW0⟩ : ∃ W0, W.alloc (.cells #[.func (.yield l) #[] #[]] 134) = W0 := ⟨_, rfl⟩
  have hs0 : W0.heap.size = W.heap.size + 1 := by rw [← hW0]; simp
  have hBW : Below W.heap.size W W0 := by rw [← hW0]; exact (Below.refl _ W).alloc (Nat.le_refl _) _
  have y0 := yst_start l (fun k hk => (hfo k hk).2) hW0
  rw [hW0]
  refine wpIn_range_sep hro h1 (gf := g) (lb := lb) rfl hg eg hseq (hW.trans (hBW.mono hW.size)) (fun _ => rfl)
    (fun xs X l o o' h hl => h)
    (fun pre f X => ∃ fJ, f = oneFo fJ W.heap.size ∧ YSt W fo fJ W.heap.size l X ∧ J (pre.filter T) fJ X)
    (fun cd pre f X => cd = .ret ∧ ∃ fJ, f = oneFo fJ W.heap.size ∧ Turn fo fJ W X ∧ Jx (pre.filter T) fJ X)
    ?hI ?hIx (oneFo fo W.heap.size) ?hfo ⟨fo, rfl, y0, hJ _ _ _ _ h0 (abide_below hBW)⟩
    (fun pre x a' f X => a' = { tmps := #[.func (.yield l) #[] #[], .pointer (some ⟨B1, 0, none⟩), .pointer (some ⟨B2, 0, none⟩), .pointer (some ⟨W.heap.size, 0, none⟩), encE x, .func (.func g) #[] lb, encE x, undef, undef, undef, undef, undef, undef, undef, undef, undef], defers := [] } ∧ ∃ fJ, f = oneFo fJ W.heap.size ∧ YSt W fo fJ W.heap.size l X ∧ J (pre.filter T) fJ X)
    ?hA ?assign ?body ?done ?stop
  case hI =>
    rintro xs f A B ⟨fJ, rfl, G, hj⟩ ab
    exact ⟨fJ, rfl, G.abide ab (by omega), hJ _ _ _ _ hj (low_one ab (by omega))⟩
  case hIx =>
    rintro cd xs f A B ⟨rfl, fJ, rfl, t, hj⟩ ab
    have ab' := low_one (m := W.heap.size) ab (by omega)
    exact ⟨rfl, fJ, rfl, t.abide ab' (Nat.le_refl _), hJx _ _ _ _ hj ab'⟩
  case hfo =>
    rintro k (h | rfl)
    · have := hfo k h; omega
    · omega
  case hA =>
    rintro pre x a' f X Y ⟨rfl, fJ, rfl, G, hj⟩ ab
    exact ⟨rfl, fJ, rfl, G.abide ab (by omega), hJ _ _ _ _ hj (low_one ab (by omega))⟩
  case assign =>
    rintro l' pre x f X K ⟨fJ, rfl, G, hj⟩ hK
    gi_wp2
    exact hK _ _ _ (Turn.refl _ _ G.lt) ⟨rfl, fJ, rfl, G, hj⟩
  case body =>
    rintro l' pre x a' f X hl' hr' hfl' hN ⟨rfl, fJ, rfl, G, hj⟩
    have k0 := G.y.cell
    have k2 := G.t.cell hb2 (nf _ hl2)
    have hx : x ∈ zs := hN.subset (by simp)
    have HT := hT (n - 1 - 1 - 1) X x hx (low_below hW (fun k hk => (hfo k hk).1) G.t) (els_turn x hwb hW (fun k hk => (hfo k hk).1) G.t)
    have hpre := hN.filter T
    rw [List.filter_append] at hpre
    cases hb : T x with
    | false =>
      have e1 : (pre ++ [x]).filter T = pre.filter T := by simp [hb]
      rw [hb] at HT
      unfold encE at HT ⊢
      gi_wp2_with fail
      refine HT.mono ?_
      rintro e X1 ⟨rfl, hbX⟩
      gi_wp2
      refine ⟨fun _ h => (by cases h), ?_⟩
      gi_wp2
      have t1 := turn_below hbX (fun k hk => (G.t.own k hk).2)
      exact ⟨_, turn_one t1 G.y.lt, fJ, rfl, G.turn t1, by rw [e1]; exact hJ _ _ _ _ hj (abide_below hbX)⟩
    | true =>
      have e1 : (pre ++ [x]).filter T = pre.filter T ++ [x] := by simp [hb]
      have e2 : pre.filter T ++ [x] <+: zs.filter T := by rw [← e1]; exact hN.filter T
      rw [hb] at HT
      unfold encE at HT ⊢
      gi_wp2_with fail
      refine HT.mono ?_
      rintro e X1 ⟨rfl, hbX⟩
      have t1 := turn_below hbX (fun k hk => (G.t.own k hk).2)
      have G1 := G.turn t1
      have k3 := G1.y.cell
      obtain ⟨fn, tmps, assign, body, hy, hR⟩ := yield_any hd (n - 1 - 1 - 1) l' (hY (pre.filter T) x fJ X1 (hJ _ _ _ _ hj (abide_below hbX)) e2)
      unfold encE at hy
      gi_wp2
      refine hR.mono ?_
      rintro e X3 ⟨f', t3, (⟨rfl, hj3⟩ | ⟨rfl, hx3⟩)⟩
      · gi_wp2
        exact ⟨_, (turn_one t1 G.y.lt).trans (turn_one t3 G1.y.lt), f', rfl, G1.turn t3, by rw [e1]; exact hj3⟩
      · gi_wp2
        exact ⟨_, (turn_one t1 G.y.lt).trans (turn_one t3 G1.y.lt), rfl, f', rfl, G1.t.trans t3, by rw [e1]; exact hx3⟩
  case done =>
    rintro D xs f X hD rfl ⟨fJ, rfl, G, hj⟩ t hK hnD
    gi_wp2
    refine ⟨by simp, .inl ⟨_, _, rfl, run_takeDeferred hK, ?_⟩⟩
    exact ⟨_, results_none rfl _ _ _, ⟨_, rfl⟩, fJ, G.t.put (by omega) _, .inl ⟨_, rfl, hJ _ _ _ _ hj (put_ab _ (fun h => hnD (.inl h)) (by omega))⟩⟩
  case stop =>
    rintro D cd pre f X hD hp ⟨rfl, fJ, rfl, t, hj⟩ _ hK hnD
    gi_wp2
    refine ⟨by simp, .inl ⟨_, _, rfl, run_takeDeferred hK, ?_⟩⟩
    exact ⟨_, results_none rfl _ _ _, ⟨_, rfl⟩, fJ, t.put (by omega) _, .inr ⟨_, hp.filter T, hJx _ _ _ _ hj (put_ab _ (fun h => hnD (.inl h)) (by omega))⟩⟩
attribute [local go_sem] Oper.semAt_some
def gFo (s : Nat) (v : Value) : Nat → Prop := fun k => (s ≤ k ∧ k < s + 3) ∨ v.ownBlock = some k
structure GSt (s : Nat) (a : Value) (b : Bool) (v : Value) (pre : List El) (W : World) : Prop where
  r0 : Boxed W s 29 a
  r1 : Boxed W (s + 1) 4 (.bool b)
  row : Boxed W (s + 2) 29 v
  own : W.ownsRow s 34 1 v pre.length (pre.map El.val)
theorem boxed_abide {W W' : World} {B : Nat} {t : TypeId} {v : Value} {f : Nat → Prop} (h : Boxed W B t v) (hf : f B) (ab : Abide f W W') : Boxed W' B t v := (ab.block B h.lt hf).trans h
theorem ownsRow_abide {W W' : World} {base : Nat} {e : TypeId} {v : Value} {k : Nat} {xs : List Value} {f : Nat → Prop} (h : W.ownsRow base e 1 v k xs) (hf : ∀ j, v.ownBlock = some j → f j) (ab : Abide f W W') : W'.ownsRow base e 1 v k xs := by
  refine ⟨h.1, ?_⟩
  rcases h.2 with h0 | ⟨g, cap, cur, rfl, h1, h2, h3⟩
  · exact .inl h0
  · exact .inr ⟨g, cap, cur, rfl, h1, (ab.block g (Array.getElem?_eq_some_iff.1 h2).1 (hf g rfl)).trans h2, h3⟩
theorem GSt.abide {s : Nat} {a : Value} {b : Bool} {v : Value} {pre : List El} {W W' : World} (h : GSt s a b v pre W) (ab : Abide (gFo s v) W W') : GSt s a b v pre W' :=
  ⟨boxed_abide h.r0 (.inl ⟨by omega, by omega⟩) ab, boxed_abide h.r1 (.inl ⟨by omega, by omega⟩) ab, boxed_abide h.row (.inl ⟨by omega, by omega⟩) ab, ownsRow_abide h.own (fun j hj => .inr hj) ab⟩
theorem turn_set {f : Nat → Prop} {W : World} {b : Nat} (u : Value) (hb : f b) (hf : ∀ k, f k → k < W.heap.size) : Turn f f W (W.setCell ⟨b, 0, none⟩ u) :=
  ⟨rfl, rfl, rfl, by simp, fun k hk hn => (grownBy_setCell' W b u).block k hk (fun e => hn (by cases e; exact hb)), fun k hk => ⟨.inl hk, by simp; exact hf k hk⟩⟩
theorem GSt.lt {s : Nat} {a : Value} {b : Bool} {v : Value} {pre : List El} {W : World} (h : GSt s a b v pre W) : ∀ k, gFo s v k → k < W.heap.size := by
  rintro k (hk | hk)
  · have := h.row.lt; omega
  · rcases h.own.2 with ⟨rfl, _⟩ | ⟨g', cap, cur, rfl, _, h2, _⟩
    · cases hk
    · obtain rfl : g' = k := by simpa [Value.ownBlock] using hk
      exact (Array.getElem?_eq_some_iff.1 h2).1
theorem set_other {W : World} {b D : Nat} {o : Obj} (u : Value) (h : W.heap[D]? = some o) (hne : D ≠ b) : (W.setCell ⟨b, 0, none⟩ u).heap[D]? = some o :=
  ((grownBy_setCell' W b u).block D (Array.getElem?_eq_some_iff.1 h).1 (fun e => hne (by cases e; rfl))).trans h
theorem boxed_put {W : World} {B D : Nat} {t : TypeId} {v : Value} (h : Boxed W B t v) (hne : B ≠ D) (o : Obj) : Boxed (W.putObj D o) B t v := (World.putObj_heap_other hne).trans h
theorem leaves_twoM {F : Fence} {n : Nat} {tmps : Array Value} {R : Ending → World → Prop} {w : World} {s : Nat} {x y : Value} (h1 : w.cell? ⟨s, 0, none⟩ = some x) (h2 : w.cell? ⟨s + 1, 0, none⟩ = some y) (t2 : tmps[2]? = some (.pointer (some ⟨s, 0, none⟩))) (t3 : tmps[3]? = some (.pointer (some ⟨s + 1, 0, none⟩))) (hR : R (.returned (.tuple #[x, y])) w) :
    LeavesInM F n Tryz.prog Tryz.f121 tmps R [] .returning w := by
  simp [LeavesInM, LeavesIn, results, Tryz.results121, go_sem, h1, h2, t2, t3, hR]
theorem good_set {W : World} {e : El} {B : Nat} {t : TypeId} {v : Value} (u : Value) (h : Good W e) (hB : Boxed W B t v) (hv : ∀ z, v ≠ .int .i64 z) : Good (W.setCell ⟨B, 0, none⟩ u) e := by
  refine ⟨?_, h.2⟩
  rcases h.1 with h0 | ⟨b, off, ha, hc⟩
  · exact .inl h0
  · by_cases hb : b = B
    · subst hb
      rcases Nat.eq_zero_or_pos e.r.length with h0 | h0
      · exact .inl (List.eq_nil_of_length_eq_zero h0)
      · have h1 := hc 0 h0
        have h2 : W.heap[b]? = some (.cells #[v] t (0, 0)) := hB
        simp only [World.cell?, h2] at h1
        exfalso
        rcases Nat.eq_zero_or_pos off with h3 | h3
        · subst h3; simp at h1; exact hv _ h1
        · simp [show off ≠ 0 by omega] at h1
    · exact .inr ⟨b, off, ha, fun i hi => (World.cell?_of_block ((grownBy_setCell' W B u).block b (World.block_lt_of_cell? W _ (hc i hi)) (fun e => hb (by cases e; rfl)))).trans (hc i hi)⟩
theorem good_put {W : World} {e : El} {D : Nat} {ds : Option (List Deferred)} (o' : Obj) (h : Good W e) (hl : W.heap[D]? = some (.deferred ds)) : Good (W.putObj D o') e := by
  refine ⟨?_, h.2⟩
  rcases h.1 with h0 | ⟨b, off, ha, hc⟩
  · exact .inl h0
  · refine .inr ⟨b, off, ha, fun i hi => ?_⟩
    have h1 := hc i hi
    obtain ⟨q, hq, hqc⟩ := cells_of_cell h1
    have hne : b ≠ D := fun e' => by subst e'; simp only at hq; rw [hl] at hq; cases hq; cases hqc
    exact (World.cell?_of_block (World.putObj_heap_other hne)).trans h1
theorem below_put {W : World} {B D : Nat} (o : Obj) (h : B ≤ D) : Below B W (W.putObj D o) := ⟨rfl, rfl, rfl, by simp, fun k hk => World.putObj_heap_other (by omega)⟩
theorem turn_append {s m : Nat} {v v' : Value} {W w1 : World} {tmp : Obj} {ys : List Value} {e : TypeId} (hs : s + 2 < W.heap.size) (hown' : w1.ownsRow s e 1 v' m ys) (hgrow : (W.alloc tmp).grownBy w1 v.ownBlock) (hnew : v'.ownBlock = v.ownBlock ∨ v'.ownBlock = some (W.alloc tmp).heap.size) (u : Value) :
    Turn (gFo s v) (gFo s v') W (w1.setCell ⟨s + 2, 0, none⟩ u) := by
  have hsz : W.heap.size + 1 ≤ w1.heap.size := by have := hgrow.size; simpa using this
  refine ⟨hgrow.os, hgrow.tape, hgrow.output, by simp; omega, fun k hk hf => ?_, fun k hk => ?_⟩
  · have hne : k ≠ s + 2 := fun e => hf (.inl (by omega))
    have h2 := (grownBy_setCell' w1 (s + 2) u).block k (by omega) (by simpa using hne)
    exact h2.trans ((hgrow.block k (by simp; omega) (fun e => hf (.inr e.symm))).trans (Below.heap_alloc W tmp k hk))
  · have hlt : ∀ j, v'.ownBlock = some j → j < w1.heap.size := fun j hj => by
      rcases hown'.2 with ⟨rfl, _⟩ | ⟨g, cap, cur, rfl, _, h2, _⟩
      · cases hj
      · obtain rfl : g = j := by simpa [Value.ownBlock] using hj
        exact (Array.getElem?_eq_some_iff.1 h2).1
    rcases hk with hk | hk
    · exact ⟨.inl (.inl hk), by simp; omega⟩
    · refine ⟨?_, by simp; exact hlt k hk⟩
      rcases hnew with h | h
      · exact .inl (.inr (by rw [← h]; exact hk))
      · rw [hk] at h; simp at h; exact .inr (by omega)
theorem gst_append {s : Nat} {a : Value} {b : Bool} {v v' : Value} {pre : List El} {W w1 : World} {x : El} {tmp : Obj} (h : GSt s a b v pre W) (hs : s ≤ W.heap.size) (hown' : w1.ownsRow s 34 1 v' (pre.length + 1) (pre.map El.val ++ [x.val])) (hgrow : (W.alloc tmp).grownBy w1 v.ownBlock) :
    Boxed w1 (s + 2) 29 v ∧ GSt s a b v' (pre ++ [x]) (w1.setCell ⟨s + 2, 0, none⟩ v') := by
  obtain ⟨hv1, hv2, hr2, _, _⟩ := h.row.appended (by decide) h.own hs (by omega) hown' hgrow
  refine ⟨hv1, ?_, ?_, hv2, by simpa using hr2⟩
  · exact ((h.r0.alloc tmp).kept hgrow (h.r0.not_row (by decide) h.own)).other (by omega) _
  · exact ((h.r1.alloc tmp).kept hgrow (h.r1.not_row (by decide) h.own)).other (by omega) _
set_option maxRecDepth 100000 in
set_option maxHeartbeats 4000000 in
theorem gather_in (F : Fence) (n : Nat) (h3 : F.fn 121) (hro : F.round = none) (hn : 3 ≤ n) (g : Nat) (lb : Array Value) (hg : F.fn g) (eg : ∀ args w, (callFunc g args).run Tryz.prog w = .ok (.enter g args) w) (P : El → Prop) (L : List (List Int)) (w0 w : World) (hb0 : Below w0.heap.size w0 w)
    (hseq : SeqSep F (n - 1) Tryz.prog g lb (fun e : El => #[e.val]) (fun xs W => rowsV xs = L ∧ AllG W xs ∧ ∀ e ∈ xs, P e) (fun pre => rowsV pre <+: L) w0) :
    CallsIn F n Tryz.prog 121 #[.func (.func g) #[] lb] w fun e W' => Below w.heap.size w W' ∧
      ((L.length ≤ 200 ∧ ∃ (v : Value) (xs : List El), e = .returned (.tuple #[v, .bool true]) ∧ rowsV xs = L ∧ AllG W' xs ∧ (∀ e ∈ xs, P e) ∧ W'.ownsRow w.heap.size 34 1 v xs.length (xs.map El.val)) ∨ (200 < L.length ∧ e = .returned (.tuple #[.slice none 0 0, .bool false]))) := by
  have h1 : 1 ≤ n := by omega
  obtain ⟨i0, hi, hz0, hz1, hz2⟩ := info_parts infoRw
  refine callsIn_of_wp_marks Tryz.func121 rfl h3 ?_ hro
  simp only [Tryz.ntmps121, List.size_toArray, List.length_cons, List.length_nil, Nat.reduceAdd, Nat.reduceSub, Array.replicate_succ, Array.replicate_zero, List.push_toArray, List.append_toArray, List.nil_append, List.cons_append]
  gi_wp2
  obtain ⟨W0, hW0⟩ : ∃ W0, ((w.alloc (.cells #[.slice none 0 0] 29)).alloc (.cells #[.bool false] 4)).alloc (.cells #[.slice none 0 0] 29) = W0 := ⟨_, rfl⟩
  have hs0 : W0.heap.size = w.heap.size + 3 := by rw [← hW0]; simp
  have hB0 : Below w.heap.size w W0 := by rw [← hW0]; exact (((Below.refl _ w).alloc (Nat.le_refl _) _).alloc (by simp) _).alloc (by simp; omega) _
  have G0 : GSt w.heap.size (.slice none 0 0) false (.slice none 0 0) [] W0 := by
    rw [← hW0]
    refine ⟨((Boxed.new w _ _).alloc _).alloc _, ?_, ?_, World.ownsRow_nil _ _ _ _⟩
    · have := (Boxed.new (w.alloc (.cells #[.slice none 0 0] 29)) 4 (.bool false)).alloc (.cells #[.slice none 0 0] 29)
      simpa using this
    · have := Boxed.new ((w.alloc (.cells #[.slice none 0 0] 29)).alloc (.cells #[.bool false] 4)) 29 (.slice none 0 0)
      simpa using this
  rw [hW0]
  refine wpIn_range_sep hro h1 (gf := g) (lb := lb) rfl hg eg hseq (hb0.trans (hB0.mono hb0.size)) (fun _ => rfl)
    (fun xs X l o o' h hl => ⟨h.1, h.2.1.putObj o' hl, h.2.2⟩)
    (fun pre f W => ∃ v, f = gFo w.heap.size v ∧ GSt w.heap.size (.slice none 0 0) false v pre W ∧ pre.length ≤ 200)
    (fun c pre f W => c = .ret ∧ 200 < pre.length ∧ ∃ v, f = gFo w.heap.size v ∧ Boxed W w.heap.size 29 (.slice none 0 0) ∧ Boxed W (w.heap.size + 1) 4 (.bool false))
    ?hI ?hIx (gFo w.heap.size (.slice none 0 0)) ?hfo ⟨_, rfl, G0, Nat.zero_le _⟩
    (fun pre x a' f W => a' = { tmps := #[.func (.func g) #[] lb, undef, .pointer (some ⟨w.heap.size, 0, none⟩), .pointer (some ⟨w.heap.size + 1, 0, none⟩), .pointer (some ⟨w.heap.size + 1 + 1, 0, none⟩), x.val, .func (.func g) #[] lb, x.val, undef, undef, undef, undef, undef, undef, undef, undef], defers := [] } ∧ ∃ v, f = gFo w.heap.size v ∧ GSt w.heap.size (.slice none 0 0) false v pre W ∧ pre.length ≤ 200)
    ?hA ?assign ?body ?done ?stop
  case hI =>
    rintro xs f A B ⟨v, rfl, G, h⟩ ab
    exact ⟨v, rfl, G.abide ab.own, h⟩
  case hIx =>
    rintro c xs f A B ⟨rfl, h, v, rfl, b0, b1⟩ ab
    exact ⟨rfl, h, v, rfl, boxed_abide b0 (.inl ⟨by omega, by omega⟩) ab.own, boxed_abide b1 (.inl ⟨by omega, by omega⟩) ab.own⟩
  case hfo =>
    rintro k (h | h)
    · have := hb0.size; omega
    · cases h
  case hA =>
    rintro pre x a' f X Y ⟨rfl, v, rfl, G, h⟩ ab
    exact ⟨rfl, v, rfl, G.abide ab.own, h⟩
  case assign =>
    rintro l pre x f W K ⟨v, rfl, G, h⟩ hK
    gi_wp2
    refine hK _ _ _ (Turn.refl _ _ ?_) ⟨rfl, v, rfl, G, h⟩
    rintro k (hk | hk)
    · have := G.row.lt; omega
    · rcases G.own.2 with ⟨rfl, _⟩ | ⟨g', cap, cur, rfl, _, h2, _⟩
      · cases hk
      · obtain rfl : g' = k := by simpa [Value.ownBlock] using hk
        exact (Array.getElem?_eq_some_iff.1 h2).1
  case body =>
    rintro l pre x a' f W hl hr hfl hN ⟨rfl, v, rfl, G, h200⟩
    have hc := G.row.cell
    have hc0 := G.r0.cell
    have hc1 := G.r1.cell
    have hf0 := G.r0.frozen
    have hf1 := G.r1.frozen
    have hlt := G.row.lt
    have hv : ∃ ao cc, v = .slice ao pre.length cc := by
      rcases G.own.2 with ⟨rfl, h0⟩ | ⟨g', cap, cur, rfl, _⟩
      · exact ⟨none, 0, by rw [h0]⟩
      · exact ⟨_, _, rfl⟩
    obtain ⟨ao, cc, rfl⟩ := hv
    obtain ⟨xa, xr, xc⟩ := x
    simp only [El.val]
    by_cases h : pre.length = 200
    · have h' : (pre.length : Int) = 200 := by omega
      gi_wp2
      refine ⟨_, (turn_set _ (.inl ⟨by omega, by omega⟩) G.lt).trans (turn_set _ (.inl ⟨by omega, by omega⟩) (fun k hk => by simp; exact G.lt k hk)), rfl, by simp; omega, _, rfl, ?_, ?_⟩
      · exact (G.r0.set _).other (by omega) _
      · exact (G.r1.other (by omega) _).set _
    · have h' : ¬ (pre.length : Int) = 200 := by omega
      have GO := G.own
      gi_wp2_with (gi_at_builtin; refine wpListIn_append_own_at _ rfl (.tmp 11) (.tmp 13) 29 rfl w.heap.size 34 i0 (.slice none 0 0) 1 24 Tryz.underlying29 hi hz0 hz1 hz2 rfl (by decide) _ _ _ rfl (GO.alloc _) ⟨W.heap.size, 0, none⟩ 1 1 [.slice xa xr.length xc] rfl rfl (cell_one_new _ _ _) (by simp [Value.oneCell']) (by unfold maxLen; omega) (by omega) (by simp; omega) ?_; intro v' w1 hown' hgrow _ hnew; obtain ⟨hv1, G'⟩ := gst_append (x := ⟨xa, xr, xc⟩) G (by omega) hown' hgrow; have T' := turn_append (by omega) hown' hgrow hnew v'; have hcc1 := hv1.cell; have hff1 := hv1.frozen; obtain ⟨g', cap', rfl⟩ := ownsRow_succ hown')
      exact ⟨_, T', _, rfl, G', by simp; omega⟩
  case done =>
    rintro D xs f W hD ⟨hrows, hgood, hP⟩ ⟨v, rfl, G, h200⟩ t hK hnD
    have hc := G.row.cell
    have hc0 := G.r0.cell
    have hc1 := G.r1.cell
    have hf0 := G.r0.frozen
    have hf1 := G.r1.frozen
    have hv : ∃ ao cc, v = .slice ao xs.length cc := by
      rcases G.own.2 with ⟨rfl, h0⟩ | ⟨g', cap, cur, rfl, _⟩
      · exact ⟨none, 0, by rw [h0]⟩
      · exact ⟨_, _, rfl⟩
    obtain ⟨ao, cc, rfl⟩ := hv
    gi_wp2
    refine ⟨by simp, .inl ⟨_, _, rfl, run_takeDeferred (set_other _ (set_other _ hK (by omega)) (by omega)), ?_⟩⟩
    have k2 := set_other (b := w.heap.size + 1) (.bool true) (set_other (b := w.heap.size) (.slice ao xs.length cc) hK (by omega)) (by omega)
    have e0 := boxed_put ((G.r0.set (.slice ao xs.length cc)).other (B' := w.heap.size + 1) (by omega) (.bool true)) (D := D) (by omega) (.deferred none)
    have e1 := boxed_put ((G.r1.other (B' := w.heap.size) (by omega) (.slice ao xs.length cc)).set (.bool true)) (D := D) (by omega) (.deferred none)
    refine leaves_twoM e0.cell e1.cell rfl rfl ⟨?_, .inl ⟨?_, _, xs, rfl, hrows, ?_, hP, ?_⟩⟩
    · exact (((hB0.trans (t.below (fun k hk => by rcases hk with hk | hk; exact hk.1; cases hk) (by omega))).setCell (p := ⟨w.heap.size, 0, none⟩) (Nat.le_refl _) _).setCell (p := ⟨w.heap.size + 1, 0, none⟩) (by simp) _).trans (below_put _ (by omega))
    · have : xs.length = L.length := by rw [← hrows]; simp [rowsV]
      omega
    · exact fun e he => good_put _ (good_set _ (good_set _ (hgood e he) G.r0 (fun z h => by cases h)) (G.r1.other (by omega) _) (fun z h => by cases h)) k2
    · have o1 := G.own.kept (grownBy_setCell' W w.heap.size (.slice ao xs.length cc)) (.inr (G.r0.not_row (by decide) G.own).symm)
      have o2 := o1.kept (grownBy_setCell' _ (w.heap.size + 1) (.bool true)) (.inr ((G.r1.other (B' := w.heap.size) (by omega) (.slice ao xs.length cc)).not_row (by decide) o1).symm)
      exact ownsRow_putObj o2 _ k2 rfl
  case stop =>
    rintro D c pre f W hD hp ⟨rfl, hlen, v, rfl, b0, b1⟩ t hK hnD
    have hc0 := b0.cell
    have hc1 := b1.cell
    gi_wp2
    refine ⟨by simp, .inl ⟨_, _, rfl, run_takeDeferred hK, ?_⟩⟩
    have e0 := boxed_put b0 (D := D) (by omega) (.deferred none)
    have e1 := boxed_put b1 (D := D) (by omega) (.deferred none)
    refine leaves_twoM e0.cell e1.cell rfl rfl ⟨?_, .inr ⟨?_, rfl⟩⟩
    · exact (hB0.trans (t.below (fun k hk => by rcases hk with hk | hk; exact hk.1; cases hk) (by omega))).trans (below_put _ (by omega))
    · have := hp.length_le
      simp [rowsV] at this
      omega
end Go.Proofs.YtanfllednlpbaaaGreat
