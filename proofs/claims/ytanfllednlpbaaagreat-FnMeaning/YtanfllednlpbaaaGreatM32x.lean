/-
  Contract of the iterator of impl.eachOnce: of what comes one by one those that did not come before. Contract of the iterator of impl.firstOf: the first ones, as many as asked, of what comes one by one.
-/
import Derived.Test.YtanfllednlpbaaaGreatM27x
import Derived.Test.YtanfllednlpbaaaGreatM31x
import Derived.Test.YtanfllednlpbaaaGreatM22x
namespace Go.Proofs.YtanfllednlpbaaaGreat
open Go.RowKit Go.Shelf
set_option linter.unusedSimpArgs false
set_option linter.unusedVariables false
attribute [local go_sem] Oper.semAt_some
def onceE {wb : World} (l : List (Els wb)) : List (Els wb) := l.foldl (fun out x => if countL (rowsE out) x.1.r = 0 then out ++ [x] else out) []
theorem onceE_y {wb : World} {pre : List (Els wb)} {x : Els wb} (h : countL (rowsE (onceE pre)) x.1.r = 0) : onceE (pre ++ [x]) = onceE pre ++ [x] := by
  unfold onceE at h ⊢; rw [List.foldl_append, List.foldl_cons, List.foldl_nil, if_pos h]
theorem onceE_n {wb : World} {pre : List (Els wb)} {x : Els wb} (h : ¬ countL (rowsE (onceE pre)) x.1.r = 0) : onceE (pre ++ [x]) = onceE pre := by
  unfold onceE at h ⊢; rw [List.foldl_append, List.foldl_cons, List.foldl_nil, if_neg h]
theorem onceE_grow {wb : World} (l : List (Els wb)) : ∀ acc : List (Els wb), acc <+: l.foldl (fun out x => if countL (rowsE out) x.1.r = 0 then out ++ [x] else out) acc := by
  induction l with
  | nil => intro acc; exact List.prefix_refl _
  | cons x l ih =>
    intro acc
    rw [List.foldl_cons]
    refine List.IsPrefix.trans ?_ (ih _)
    split
    · exact List.prefix_append _ _
    · exact List.prefix_refl _
theorem onceE_pre {wb : World} {pre zs : List (Els wb)} (h : pre <+: zs) : onceE pre <+: onceE zs := by
  obtain ⟨t, rfl⟩ := h
  unfold onceE
  rw [List.foldl_append]
  exact onceE_grow t _
theorem onceE_len {wb : World} (l : List (Els wb)) : (onceE l).length ≤ l.length := by
  have key : ∀ (l acc : List (Els wb)), (l.foldl (fun out x => if countL (rowsE out) x.1.r = 0 then out ++ [x] else out) acc).length ≤ acc.length + l.length := by
    intro l
    induction l with
    | nil => intro acc; simp
    | cons x l ih =>
      intro acc
      rw [List.foldl_cons]
      have := ih (if countL (rowsE acc) x.1.r = 0 then acc ++ [x] else acc)
      split at this
      · rename_i e; rw [if_pos e]; simp at this ⊢; omega
      · rename_i e; rw [if_neg e]; simp at this ⊢; omega
  simpa [onceE] using key l []
def onFo (f : Nat → Prop) (s : Nat) (v : Value) : Nat → Prop := fun k => oneFo f s k ∨ k = s + 1 ∨ v.ownBlock = some k
structure OnSt {wb : World} (W : World) (fo fJ : Nat → Prop) (l : Nat) (v : Value) (pre : List (Els wb)) (X : World) : Prop where
  y : YSt W fo fJ W.heap.size l X
  b : Boxed X (W.heap.size + 1) 29 v
  own : X.ownsRow W.heap.size 34 1 v pre.length (pre.map encE)
  n : ¬ fJ (W.heap.size + 1)
  nv : ∀ j, v.ownBlock = some j → ¬ fJ j
theorem row_at {X : World} {base k : Nat} {e : TypeId} {v : Value} {xs : List Value} (h : X.ownsRow base e 1 v k xs) : ∀ j, v.ownBlock = some j → base ≤ j ∧ j < X.heap.size := fun j hj => by
  rcases h.2 with ⟨rfl, _⟩ | ⟨g, cap, cur, rfl, h1, h2, _⟩
  · cases hj
  · obtain rfl : g = j := by simpa [Value.ownBlock] using hj
    exact ⟨h1, (Array.getElem?_eq_some_iff.1 h2).1⟩
theorem low_on {n m s : Nat} {f : Nat → Prop} {v : Value} {A B : World} (ab : Abide (lowF n (onFo f s v)) A B) (h : m ≤ n) : Abide (lowF m (oneFo f s)) A B :=
  ab.mono fun k hk => Or.elim hk (fun hk => .inl (.inl hk)) (fun hk => .inr (Nat.lt_of_lt_of_le hk h))
theorem OnSt.abide {wb : World} {n : Nat} {W X Y : World} {fo fJ : Nat → Prop} {l : Nat} {v : Value} {pre : List (Els wb)} (h : OnSt W fo fJ l v pre X) (ab : Abide (lowF n (onFo fJ W.heap.size v)) X Y) (hn : W.heap.size ≤ n) : OnSt W fo fJ l v pre Y :=
  ⟨h.y.abide (low_on ab (Nat.le_refl _)) hn, boxed_ab h.b (.inr (.inl rfl)) ab, ownsRow_abide h.own (fun j hj => .inl (.inr (.inr hj))) ab, h.n, h.nv⟩
theorem OnSt.lt {wb W X : World} {fo fJ : Nat → Prop} {l : Nat} {v : Value} {pre : List (Els wb)} (h : OnSt W fo fJ l v pre X) : ∀ j, onFo fJ W.heap.size v j → j < X.heap.size := by
  rintro j (hj | rfl | hj)
  · exact h.y.lt j hj
  · exact h.b.lt
  · exact (row_at h.own j hj).2
theorem OnSt.turn {wb W X Y : World} {fo fJ f' : Nat → Prop} {l : Nat} {v : Value} {pre : List (Els wb)} (h : OnSt W fo fJ l v pre X) (t : Turn fJ f' X Y) : OnSt W fo f' l v pre Y :=
  ⟨h.y.turn t, (t.block _ h.b.lt h.n).trans h.b, by
    refine ⟨h.own.1, ?_⟩
    rcases h.own.2 with h0 | ⟨g, cap, cur, rfl, h1, h2, h3⟩
    · exact .inl h0
    · exact .inr ⟨g, cap, cur, rfl, h1, (t.block g (Array.getElem?_eq_some_iff.1 h2).1 (h.nv g rfl)).trans h2, h3⟩, t.out h.b.lt h.n, fun j hj => t.out (row_at h.own j hj).2 (h.nv j hj)⟩
theorem turn_on {wb W X Y : World} {fo fJ f' : Nat → Prop} {l : Nat} {v : Value} {pre : List (Els wb)} (h : OnSt W fo fJ l v pre X) (t : Turn fJ f' X Y) : Turn (onFo fJ W.heap.size v) (onFo f' W.heap.size v) X Y := by
  have t1 := turn_one t h.y.y.lt
  refine ⟨t.os, t.tape, t.output, t.size, fun k hk hn => t1.block k hk (fun h => hn (.inl h)), fun k hk => ?_⟩
  rcases hk with hk | rfl | hk
  · obtain ⟨h1, h2⟩ := t1.own k hk
    exact ⟨h1.elim (fun h => .inl (.inl h)) .inr, h2⟩
  · exact ⟨.inl (.inr (.inl rfl)), Nat.lt_of_lt_of_le h.b.lt t.size⟩
  · exact ⟨.inl (.inr (.inr hk)), Nat.lt_of_lt_of_le (row_at h.own k hk).2 t.size⟩
theorem Turn.only {fo fJ o : Nat → Prop} {W X Y : World} (h : Turn fo fJ W X) (t : Turn o (fun _ => False) X Y) (ho : ∀ k, o k → W.heap.size ≤ k) : Turn fo fJ W Y :=
  ⟨t.os.trans h.os, t.tape.trans h.tape, t.output.trans h.output, Nat.le_trans h.size t.size, fun k hk hn => (t.block k (Nat.lt_of_lt_of_le hk h.size) (fun hk' => by have := ho k hk'; omega)).trans (h.block k hk hn),
    fun k hk => ⟨(h.own k hk).1, Nat.lt_of_lt_of_le (h.own k hk).2 t.size⟩⟩
theorem abide_only {g o : Nat → Prop} {X Y : World} (t : Turn o (fun _ => False) X Y) (ho : ∀ k, o k → ¬ g k) : Abide g X Y :=
  ⟨t.os, t.tape, t.output, t.size, fun k hk hg => t.block k hk (fun h => ho k h hg)⟩
theorem on_append {wb W X w1 : World} {fo fJ : Nat → Prop} {l : Nat} {v v' : Value} {pre : List (Els wb)} {x : Els wb} {tmp : Obj} (h : OnSt W fo fJ l v pre X) (hs : W.heap.size ≤ X.heap.size)
    (hown' : w1.ownsRow W.heap.size 34 1 v' (pre.length + 1) (pre.map encE ++ [encE x])) (hgrow : (X.alloc tmp).grownBy w1 v.ownBlock) (hnew : v'.ownBlock = v.ownBlock ∨ v'.ownBlock = some (X.alloc tmp).heap.size) :
    Boxed w1 (W.heap.size + 1) 29 v ∧ OnSt W fo fJ l v' (pre ++ [x]) (w1.setCell ⟨W.heap.size + 1, 0, none⟩ v') ∧ Abide (lowF W.heap.size fJ) X (w1.setCell ⟨W.heap.size + 1, 0, none⟩ v') ∧ Turn (onFo fJ W.heap.size v) (onFo fJ W.heap.size v') X (w1.setCell ⟨W.heap.size + 1, 0, none⟩ v') := by
  obtain ⟨hv1, hv2, hr2, _, _⟩ := h.b.appended (by decide) h.own hs (by omega) hown' hgrow
  have hsz : X.heap.size + 1 ≤ w1.heap.size := by have := hgrow.size; simpa using this
  have hT : Turn (fun k => k = W.heap.size + 1 ∨ v.ownBlock = some k) (fun _ => False) X (w1.setCell ⟨W.heap.size + 1, 0, none⟩ v') := by
    refine ⟨hgrow.os, hgrow.tape, hgrow.output, by simp; omega, fun k hk hf => ?_, fun k hk => hk.elim⟩
    have h2 := (grownBy_setCell' w1 (W.heap.size + 1) v').block k (by omega) (fun e => hf (.inl (by cases e; rfl)))
    exact h2.trans ((hgrow.block k (by simp; omega) (fun e => hf (.inr e.symm))).trans (Below.heap_alloc X tmp k hk))
  have hlo : ∀ k, (k = W.heap.size + 1 ∨ v.ownBlock = some k) → W.heap.size ≤ k := by
    rintro k (rfl | hk)
    · omega
    · exact (row_at h.own k hk).1
  have hnJ : ∀ k, (k = W.heap.size + 1 ∨ v.ownBlock = some k) → ¬ fJ k := by
    rintro k (rfl | hk)
    · exact h.n
    · exact h.nv k hk
  have hnv' : ∀ j, v'.ownBlock = some j → ¬ fJ j := fun j hj hf => by
    rcases hnew with e | e
    · exact h.nv j (e ▸ hj) hf
    · rw [hj] at e; simp at e; have := (h.y.t.own j hf).2; omega
  refine ⟨hv1, ⟨⟨h.y.t.only hT hlo, ?_, h.y.n⟩, hv2, by simpa using hr2, h.n, hnv'⟩, abide_only hT (fun k hk hf => Or.elim hf (hnJ k hk) (fun h => by have := hlo k hk; omega)), ?_⟩
  · refine (hT.block _ h.y.y.lt ?_).trans h.y.y
    rintro (e | e)
    · omega
    · exact (h.y.y.not_row (by decide) h.own).symm e
  · refine ⟨hT.os, hT.tape, hT.output, hT.size, fun k hk hn => hT.block k hk (fun h => hn (.inr h)), fun k hk => ?_⟩
    rcases hk with hk | rfl | hk
    · exact ⟨.inl (.inl hk), Nat.lt_of_lt_of_le (h.y.lt k hk) hT.size⟩
    · exact ⟨.inl (.inr (.inl rfl)), Nat.lt_of_lt_of_le h.b.lt hT.size⟩
    · refine ⟨?_, by simp; exact (row_at hown' k hk).2⟩
      rcases hnew with e | e
      · exact .inl (.inr (.inr (e ▸ hk)))
      · rw [hk] at e; simp at e; exact .inr (by omega)
set_option maxRecDepth 100000 in
set_option maxHeartbeats 4000000 in
theorem eachOnce_sep (F : Fence) (n : Nat) (h3 : F.fn 166) (h4 : F.fn 167) (hro : F.round = none) (hd : F.depth = none) (hn : 3 ≤ n) (g : Nat) (lb : Array Value) (hg : F.fn g) (eg : ∀ args w, (callFunc g args).run Tryz.prog w = .ok (.enter g args) w)
    {wb : World} (zs : List (Els wb)) (hz : zs.length ≤ 1048576) (B1 : Nat) (w : World) (hwb : Below wb.heap.size wb w) (hseq : SeqSep F (n - 1) Tryz.prog g lb (fun x : Els wb => #[encE x]) (fun ys _ => ys = zs) (fun pre => pre <+: zs) w)
    (hB1 : w.cell? ⟨B1, 0, none⟩ = some (.func (.func g) #[] lb))
    (hC : ∀ (m : Nat) (X : World) (a b : Option Addr) (c d : Nat) (q : List (List Int)) (r : List Int) (k : Nat), k = q.length → RdR X a q → Rd X .i64 b r → q.length ≤ 1048576 → r.length ≤ maxLen → CallsIn F m Tryz.prog 167 #[.slice a k c, .slice b r.length d] X fun e X' => e = .returned (.int .i64 (countL q r)) ∧ Below X.heap.size X X') :
    SeqSep F n Tryz.prog 166 #[.pointer (some ⟨B1, 0, none⟩)] (fun x : Els wb => #[encE x]) (fun ys _ => ys = onceE zs) (fun pre => pre <+: onceE zs) w := by
  intro l J Jx W fo hW hfo hJ hJx hY h0
  have h1 : 1 ≤ n := by omega
  obtain ⟨i0, hi, hz0, hz1, hz2⟩ := info_parts infoRw
  have hl1 : B1 < w.heap.size := World.block_lt_of_cell? w _ hB1
  have hs := hW.size
  have hb1 := (hW.cell (p := ⟨B1, 0, none⟩) hl1).trans hB1
  have hl1' : B1 < W.heap.size := by omega
  suffices H : CallsIn F n Tryz.prog 166 #[.func (.yield l) #[] #[], .pointer (some ⟨B1, 0, none⟩)] W fun e W' => (∃ v, e = .returned v) ∧ ∃ f', Turn fo f' W W' ∧ ((∃ xs, xs = onceE zs ∧ J xs f' W') ∨ (∃ pre, pre <+: onceE zs ∧ Jx pre f' W')) from H
  refine callsIn_of_wp_marks Tryz.func166 rfl h3 ?_ hro
  simp only [Tryz.ntmps166, List.size_toArray, List.length_cons, List.length_nil, Nat.reduceAdd, Nat.reduceSub, Array.replicate_succ, Array.replicate_zero, List.push_toArray, List.append_toArray, List.nil_append, List.cons_append]
  gi_wp2
  obtain ⟨W0, hW0⟩ : ∃ W0, (W.alloc (.cells #[.func (.yield l) #[] #[]] 134)).alloc (.cells #[.slice none 0 0] 29) = W0 := ⟨_, rfl⟩
  have hs0 : W0.heap.size = W.heap.size + 2 := by rw [← hW0]; simp
  have hBW : Below W.heap.size W W0 := by rw [← hW0]; exact ((Below.refl _ W).alloc (Nat.le_refl _) _).alloc (by simp) _
  have y0 : OnSt W fo fo l (.slice none 0 0) ([] : List (Els wb)) W0 := by
    rw [← hW0]
    refine ⟨⟨⟨rfl, rfl, rfl, by simp; omega, fun k hk _ => (Below.heap_alloc _ _ _ (by simp; omega)).trans (Below.heap_alloc _ _ _ hk), fun k hk => ⟨.inl hk, by simp; have := (hfo k hk).2; omega⟩⟩, (Boxed.new W _ _).alloc _, fun h => by have := (hfo _ h).2; omega⟩, ?_, World.ownsRow_nil _ _ _ _, fun h => by have := (hfo _ h).2; omega, fun j hj => by cases hj⟩
    have := Boxed.new (W.alloc (.cells #[.func (.yield l) #[] #[]] 134)) 29 (.slice none 0 0)
    simpa using this
  rw [hW0]
  refine wpIn_range_sep hro h1 (gf := g) (lb := lb) rfl hg eg hseq (hW.trans (hBW.mono hW.size)) (fun _ => rfl)
    (fun xs X l o o' h hl => h)
    (fun pre f X => ∃ fJ v, f = onFo fJ W.heap.size v ∧ OnSt W fo fJ l v (onceE pre) X ∧ J (onceE pre) fJ X)
    (fun cd pre f X => cd = .ret ∧ ∃ fJ v, f = onFo fJ W.heap.size v ∧ Turn fo fJ W X ∧ Jx (onceE pre) fJ X)
    ?hI ?hIx (onFo fo W.heap.size (.slice none 0 0)) ?hfo ⟨fo, _, rfl, y0, hJ _ _ _ _ h0 (abide_below hBW)⟩
    (fun pre x a' f X => a' = { tmps := #[.func (.yield l) #[] #[], .pointer (some ⟨B1, 0, none⟩), .pointer (some ⟨W.heap.size, 0, none⟩), .pointer (some ⟨W.heap.size + 1, 0, none⟩), encE x, .func (.func g) #[] lb, encE x, undef, undef, undef, undef, undef, undef, undef, undef, undef, undef, undef, undef], defers := [] } ∧ ∃ fJ v, f = onFo fJ W.heap.size v ∧ OnSt W fo fJ l v (onceE pre) X ∧ J (onceE pre) fJ X)
    ?hA ?assign ?body ?done ?stop
  case hI =>
    rintro xs f A B ⟨fJ, v, rfl, G, hj⟩ ab
    exact ⟨fJ, v, rfl, G.abide ab (by omega), hJ _ _ _ _ hj (low_one (low_on ab (Nat.le_refl _)) (by omega))⟩
  case hIx =>
    rintro cd xs f A B ⟨rfl, fJ, v, rfl, t, hj⟩ ab
    have ab' := low_one (m := W.heap.size) (low_on ab (Nat.le_refl _)) (by omega)
    exact ⟨rfl, fJ, v, rfl, t.abide ab' (Nat.le_refl _), hJx _ _ _ _ hj ab'⟩
  case hfo =>
    rintro k ((h | rfl) | rfl | h)
    · have := hfo k h; omega
    · omega
    · omega
    · cases h
  case hA =>
    rintro pre x a' f X Y ⟨rfl, fJ, v, rfl, G, hj⟩ ab
    exact ⟨rfl, fJ, v, rfl, G.abide ab (by omega), hJ _ _ _ _ hj (low_one (low_on ab (Nat.le_refl _)) (by omega))⟩
  case assign =>
    rintro l' pre x f X K ⟨fJ, v, rfl, G, hj⟩ hK
    gi_wp2
    exact hK _ _ _ (Turn.refl _ _ G.lt) ⟨rfl, fJ, v, rfl, G, hj⟩
  case body =>
    rintro l' pre x a' f X hl' hr' hfl' hN ⟨rfl, fJ, v, rfl, G, hj⟩
    have hbX : Below w.heap.size w X := low_below hW (fun k hk => (hfo k hk).1) G.y.t
    have hwX : Below wb.heap.size wb X := hwb.trans (hbX.mono hwb.size)
    have hx := els_turn x hwb hW (fun k hk => (hfo k hk).1) G.y.t
    have hlen := hN.length_le
    have hol := onceE_len pre
    simp at hlen
    have hv : ∃ ao cc, v = .slice ao (onceE pre).length cc := by
      rcases G.own.2 with ⟨rfl, h0⟩ | ⟨g', cap, cur, rfl, _⟩
      · exact ⟨none, 0, by rw [h0]⟩
      · exact ⟨_, _, rfl⟩
    obtain ⟨ao, cc, rfl⟩ := hv
    have RD : RdR X ao (rowsE (onceE pre)) := owns_rdR (v := .slice ao (onceE pre).length cc) G.own hwX
    have HC := hC (n - 1 - 1 - 1) X ao x.1.a cc x.1.c (rowsE (onceE pre)) x.1.r (onceE pre).length (by rw [rowsE_len]) RD hx.1 (by rw [rowsE_len]; omega) (Nat.le_trans hx.2.1 hx.2.2)
    have k0 := G.y.y.cell
    have k1 := G.b.cell
    have hltb := G.b.lt
    have e1y : countL (rowsE (onceE pre)) x.1.r = 0 → onceE (pre ++ [x]) = onceE pre ++ [x] := onceE_y
    have e1n : ¬ countL (rowsE (onceE pre)) x.1.r = 0 → onceE (pre ++ [x]) = onceE pre := onceE_n
    have epre : onceE (pre ++ [x]) <+: onceE zs := onceE_pre hN
    generalize hcn : countL (rowsE (onceE pre)) x.1.r = cn at HC e1y e1n
    by_cases h : cn = 0
    · have e1 := e1y h
      rw [e1] at epre
      subst h
      unfold encE
      gi_wp2_with fail
      refine HC.mono ?_
      rintro e X1 ⟨rfl, hb1'⟩
      have t1 := turn_below hb1' (fun k hk => (G.y.t.own k hk).2)
      have G1 := G.turn t1
      have j1 := hJ _ _ _ _ hj (abide_below (f := lowF W.heap.size fJ) hb1')
      have k2 := G1.b.cell
      have k2f := G1.b.frozen
      have hlt1 := G1.b.lt
      have GO := G1.own
      have TT := turn_on G t1
      have hsX := G1.y.t.size
      gi_wp2_with (gi_at_builtin; refine wpListIn_append_own_at _ rfl (.tmp 11) (.tmp 13) 29 rfl W.heap.size 34 i0 (.slice none 0 0) 1 24 Tryz.underlying29 hi hz0 hz1 hz2 rfl (by decide) _ _ _ rfl (GO.alloc _) ⟨X1.heap.size, 0, none⟩ 1 1 [.slice x.1.a x.1.r.length x.1.c] rfl rfl (cell_one_new _ _ _) (by simp [Value.oneCell']) (by unfold maxLen; omega) (by omega) (by simp; omega) ?_; intro v' w1 hown' hgrow _ hnew; obtain ⟨g', cap', rfl⟩ := ownsRow_succ hown'; obtain ⟨hv1, G', A', T'⟩ := on_append (x := x) G1 (by omega) hown' hgrow hnew; have hcc1 := hv1.cell; have hff1 := hv1.frozen; have k3 := G'.y.y.cell; obtain ⟨fn, tmps, assign, body, hy, hR⟩ := yield_any hd (n - 1 - 1 - 1) l' (hY (onceE pre) x fJ _ (hJ _ _ _ _ j1 A') epre); unfold encE at hy)
      refine hR.mono ?_
      rintro e X3 ⟨f', t3, (⟨rfl, hj3⟩ | ⟨rfl, hx3⟩)⟩
      · gi_wp2
        exact ⟨_, (TT.trans T').trans (turn_on G' t3), f', _, rfl, by rw [e1]; exact G'.turn t3, by rw [e1]; exact hj3⟩
      · gi_wp2
        exact ⟨_, (TT.trans T').trans (turn_on G' t3), rfl, f', _, rfl, G'.y.t.trans t3, by rw [e1]; exact hx3⟩
    · have e1 := e1n h
      have h' : (0 : Int) < (cn : Int) := by omega
      unfold encE
      gi_wp2_with fail
      refine HC.mono ?_
      rintro e X1 ⟨rfl, hb1'⟩
      have t1 := turn_below hb1' (fun k hk => (G.y.t.own k hk).2)
      gi_wp2
      exact ⟨_, turn_on G t1, fJ, _, rfl, by rw [e1]; exact G.turn t1, by rw [e1]; exact hJ _ _ _ _ hj (abide_below hb1')⟩
  case done =>
    rintro D xs f X hD rfl ⟨fJ, v, rfl, G, hj⟩ t hK hnD
    gi_wp2
    refine ⟨by simp, .inl ⟨_, _, rfl, run_takeDeferred hK, ?_⟩⟩
    exact ⟨_, results_none rfl _ _ _, ⟨_, rfl⟩, fJ, G.y.t.put (by omega) _, .inl ⟨_, rfl, hJ _ _ _ _ hj (put_ab _ (fun h => hnD (.inl (.inl h))) (by omega))⟩⟩
  case stop =>
    rintro D cd pre f X hD hp ⟨rfl, fJ, v, rfl, t, hj⟩ _ hK hnD
    gi_wp2
    refine ⟨by simp, .inl ⟨_, _, rfl, run_takeDeferred hK, ?_⟩⟩
    exact ⟨_, results_none rfl _ _ _, ⟨_, rfl⟩, fJ, t.put (by omega) _, .inr ⟨_, onceE_pre hp, hJx _ _ _ _ hj (put_ab _ (fun h => hnD (.inl (.inl h))) (by omega))⟩⟩
attribute [local go_sem] Oper.semAt_some
structure FstSt (W : World) (fo fJ : Nat → Prop) (l k : Nat) (X : World) : Prop where
  y : YSt W fo fJ W.heap.size l X
  given : Boxed X (W.heap.size + 1) 3 (.int .i64 k)
  n : ¬ fJ (W.heap.size + 1)
theorem FstSt.abide {n : Nat} {W X Y : World} {fo fJ : Nat → Prop} {l k : Nat} (h : FstSt W fo fJ l k X) (ab : Abide (lowF n (oneFo (oneFo fJ W.heap.size) (W.heap.size + 1))) X Y) (hn : W.heap.size ≤ n) : FstSt W fo fJ l k Y :=
  ⟨h.y.abide (low_one ab (Nat.le_refl _)) hn, boxed_ab h.given (.inr rfl) ab, h.n⟩
theorem FstSt.lt {W X : World} {fo fJ : Nat → Prop} {l k : Nat} (h : FstSt W fo fJ l k X) : ∀ j, oneFo (oneFo fJ W.heap.size) (W.heap.size + 1) j → j < X.heap.size := by
  rintro j (hj | rfl)
  · exact h.y.lt j hj
  · exact h.given.lt
theorem FstSt.turn {W X Y : World} {fo fJ f' : Nat → Prop} {l k : Nat} (h : FstSt W fo fJ l k X) (t : Turn fJ f' X Y) : FstSt W fo f' l k Y :=
  ⟨h.y.turn t, (t.block _ h.given.lt h.n).trans h.given, t.out h.given.lt h.n⟩
theorem turn_setO {f : Nat → Prop} {W : World} {b : Nat} (u : Value) (hb : f b) (hf : ∀ k, f k → k < W.heap.size) : Turn f f W (W.setCell ⟨b, 0, none⟩ u) :=
  ⟨rfl, rfl, rfl, by simp, fun k hk hn => (grownBy_setCell' W b u).block k hk (fun e => hn (by cases e; exact hb)), fun k hk => ⟨.inl hk, by simp; exact hf k hk⟩⟩
theorem YSt.set {W X : World} {fo fJ : Nat → Prop} {s l b : Nat} (h : YSt W fo fJ s l X) (hb : W.heap.size ≤ b) (hs : s ≠ b) (u : Value) : YSt W fo fJ s l (X.setCell ⟨b, 0, none⟩ u) :=
  ⟨⟨h.t.os, h.t.tape, h.t.output, by simp; exact h.t.size, fun k hk hn => ((grownBy_setCell' X b u).block k (Nat.lt_of_lt_of_le hk h.t.size) (fun e => by cases e; omega)).trans (h.t.block k hk hn), fun k hk => by simp; exact h.t.own k hk⟩, h.y.other hs _, h.n⟩
set_option maxRecDepth 100000 in
set_option maxHeartbeats 4000000 in
theorem firstOf_sep (F : Fence) (n : Nat) (h3 : F.fn 165) (hro : F.round = none) (hd : F.depth = none) (hn : 3 ≤ n) (g : Nat) (lb : Array Value) (hg : F.fn g) (eg : ∀ args w, (callFunc g args).run Tryz.prog w = .ok (.enter g args) w)
    {wb : World} (zs : List (Els wb)) (B1 B2 c : Nat) (w : World) (hseq : SeqSep F (n - 1) Tryz.prog g lb (fun x : Els wb => #[encE x]) (fun ys _ => ys = zs) (fun pre => pre <+: zs) w)
    (hB1 : w.cell? ⟨B1, 0, none⟩ = some (.func (.func g) #[] lb)) (hB2 : w.cell? ⟨B2, 0, none⟩ = some (.int .i64 c)) (hz : zs.length ≤ 1048576) :
    SeqSep F n Tryz.prog 165 #[.pointer (some ⟨B1, 0, none⟩), .pointer (some ⟨B2, 0, none⟩)] (fun x : Els wb => #[encE x]) (fun ys _ => ys = zs.take c) (fun pre => pre <+: zs.take c) w := by
  intro l J Jx W fo hW hfo hJ hJx hY h0
  have h1 : 1 ≤ n := by omega
  have hl1 : B1 < w.heap.size := World.block_lt_of_cell? w _ hB1
  have hl2 : B2 < w.heap.size := World.block_lt_of_cell? w _ hB2
  have hs := hW.size
  have hb1 := (hW.cell (p := ⟨B1, 0, none⟩) hl1).trans hB1
  have hb2 := (hW.cell (p := ⟨B2, 0, none⟩) hl2).trans hB2
  have hl1' : B1 < W.heap.size := by omega
  have hl2' : B2 < W.heap.size := by omega
  have nf : ∀ k, k < w.heap.size → ¬ fo k := fun k hk hf => by have := (hfo k hf).1; omega
  suffices H : CallsIn F n Tryz.prog 165 #[.func (.yield l) #[] #[], .pointer (some ⟨B1, 0, none⟩), .pointer (some ⟨B2, 0, none⟩)] W fun e W' => (∃ v, e = .returned v) ∧ ∃ f', Turn fo f' W W' ∧ ((∃ xs, xs = zs.take c ∧ J xs f' W') ∨ (∃ pre, pre <+: zs.take c ∧ Jx pre f' W')) from H
  refine callsIn_of_wp_marks Tryz.func165 rfl h3 ?_ hro
  simp only [Tryz.ntmps165, List.size_toArray, List.length_cons, List.length_nil, Nat.reduceAdd, Nat.reduceSub, Array.replicate_succ, Array.replicate_zero, List.push_toArray, List.append_toArray, List.nil_append, List.cons_append]
  gi_wp2
  obtain ⟨W0, hW0⟩ : ∃ W0, (W.alloc (.cells #[.func (.yield l) #[] #[]] 134)).alloc (.cells #[.int .i64 0] 3) = W0 := ⟨_, rfl⟩
  have hs0 : W0.heap.size = W.heap.size + 2 := by rw [← hW0]; simp
  have hA0 : Abide (lowF W.heap.size fo) W W0 := by rw [← hW0]; exact (Abide.alloc _ _ _).trans (Abide.alloc _ _ _)
  have hBW : Below W.heap.size W W0 := by rw [← hW0]; exact ((Below.refl _ W).alloc (Nat.le_refl _) _).alloc (by simp) _
  have y0 : FstSt W fo fo l 0 W0 := by
    rw [← hW0]
    refine ⟨⟨⟨rfl, rfl, rfl, by simp; omega, fun k hk _ => (Below.heap_alloc _ _ _ (by simp; omega)).trans (Below.heap_alloc _ _ _ hk), fun k hk => ⟨.inl hk, by simp; have := (hfo k hk).2; omega⟩⟩, (Boxed.new W _ _).alloc _, fun h => by have := (hfo _ h).2; omega⟩, ?_, fun h => by have := (hfo _ h).2; omega⟩
    have := Boxed.new (W.alloc (.cells #[.func (.yield l) #[] #[]] 134)) 3 (.int .i64 0)
    simpa using this
  rw [hW0]
  refine wpIn_range_sep hro h1 (gf := g) (lb := lb) rfl hg eg hseq (hW.trans (hBW.mono hW.size)) (fun _ => rfl)
    (fun xs X l o o' h hl => h)
    (fun pre f X => ∃ fJ, f = oneFo (oneFo fJ W.heap.size) (W.heap.size + 1) ∧ FstSt W fo fJ l pre.length X ∧ J pre fJ X ∧ pre.length ≤ c)
    (fun cd pre f X => cd = .ret ∧ ∃ fJ, f = oneFo (oneFo fJ W.heap.size) (W.heap.size + 1) ∧ Turn fo fJ W X ∧ ((∃ q x, pre = q ++ [x] ∧ q.length = c ∧ J q fJ X) ∨ (pre.length ≤ c ∧ Jx pre fJ X)))
    ?hI ?hIx (oneFo (oneFo fo W.heap.size) (W.heap.size + 1)) ?hfo ⟨fo, rfl, y0, hJ _ _ _ _ h0 hA0, Nat.zero_le _⟩
    (fun pre x a' f X => a' = { tmps := #[.func (.yield l) #[] #[], .pointer (some ⟨B1, 0, none⟩), .pointer (some ⟨B2, 0, none⟩), .pointer (some ⟨W.heap.size, 0, none⟩), .pointer (some ⟨W.heap.size + 1, 0, none⟩), encE x, .func (.func g) #[] lb, encE x, undef, undef, undef, undef, undef, undef, undef, undef, undef, undef, undef], defers := [] } ∧ ∃ fJ, f = oneFo (oneFo fJ W.heap.size) (W.heap.size + 1) ∧ FstSt W fo fJ l pre.length X ∧ J pre fJ X ∧ pre.length ≤ c)
    ?hA ?assign ?body ?done ?stop
  case hI =>
    rintro xs f A B ⟨fJ, rfl, G, hj, h⟩ ab
    exact ⟨fJ, rfl, G.abide ab (by omega), hJ _ _ _ _ hj (low_one (low_one ab (Nat.le_refl _)) (by omega)), h⟩
  case hIx =>
    rintro cd xs f A B ⟨rfl, fJ, rfl, t, h⟩ ab
    have ab' := low_one (m := W.heap.size) (low_one ab (Nat.le_refl _)) (by omega)
    refine ⟨rfl, fJ, rfl, t.abide ab' (Nat.le_refl _), ?_⟩
    rcases h with ⟨q, x, e, hq, hj⟩ | ⟨hq, hj⟩
    · exact .inl ⟨q, x, e, hq, hJ _ _ _ _ hj ab'⟩
    · exact .inr ⟨hq, hJx _ _ _ _ hj ab'⟩
  case hfo =>
    rintro k ((h | rfl) | rfl)
    · have := hfo k h; omega
    · omega
    · omega
  case hA =>
    rintro pre x a' f X Y ⟨rfl, fJ, rfl, G, hj, h⟩ ab
    exact ⟨rfl, fJ, rfl, G.abide ab (by omega), hJ _ _ _ _ hj (low_one (low_one ab (Nat.le_refl _)) (by omega)), h⟩
  case assign =>
    rintro l' pre x f X K ⟨fJ, rfl, G, hj, h⟩ hK
    gi_wp2
    exact hK _ _ _ (Turn.refl _ _ G.lt) ⟨rfl, fJ, rfl, G, hj, h⟩
  case body =>
    rintro l' pre x a' f X hl' hr' hfl' hN ⟨rfl, fJ, rfl, G, hj, hc⟩
    have k0 := G.y.y.cell
    have k1 := G.given.cell
    have k2 := G.y.t.cell hb2 (nf _ hl2)
    have hlx := G.given.lt
    have hlen := hN.length_le
    simp at hlen
    by_cases h : pre.length = c
    · have h' : (pre.length : Int) = (c : Int) := by omega
      gi_wp2
      refine ⟨fun _ h => (by cases h), ?_⟩
      gi_wp2
      exact ⟨_, Turn.refl _ _ G.lt, rfl, fJ, rfl, G.y.t, .inl ⟨pre, x, rfl, h, hj⟩⟩
    · have h' : ¬ (pre.length : Int) = (c : Int) := by omega
      obtain ⟨fn, tmps, assign, body, hy, hR⟩ := yield_any hd (n - 1 - 1 - 1) l' (hY pre x fJ X hj (List.prefix_take_iff.2 ⟨hN, by simp; omega⟩))
      unfold encE at hy ⊢
      gi_wp2
      refine hR.mono ?_
      rintro e X3 ⟨f', t3, (⟨rfl, hj3⟩ | ⟨rfl, hx3⟩)⟩
      · have G3 := G.turn t3
        have k3 := G3.given.cell
        have k4 := G3.given.frozen
        gi_wp2
        refine ⟨_, (turn_one (turn_one t3 G.y.y.lt) G.given.lt).trans (turn_setO _ (.inr rfl) G3.lt), f', rfl, ⟨G3.y.set (by omega) (by omega) _, ?_, G3.n⟩, hJ _ _ _ _ hj3 (Abide.setCell _ (fun h => Or.elim h G3.n (fun h => by have h' : W.heap.size + 1 < W.heap.size := h; omega))), by simp; omega⟩
        have hset := G3.given.set (.int .i64 ((pre ++ [x]).length : Nat))
        simpa using hset
      · gi_wp2
        exact ⟨_, turn_one (turn_one t3 G.y.y.lt) G.given.lt, rfl, f', rfl, G.y.t.trans t3, .inr ⟨by simp; omega, hx3⟩⟩
  case done =>
    rintro D xs f X hD rfl ⟨fJ, rfl, G, hj, h⟩ t hK hnD
    gi_wp2
    refine ⟨by simp, .inl ⟨_, _, rfl, run_takeDeferred hK, ?_⟩⟩
    exact ⟨_, results_none rfl _ _ _, ⟨_, rfl⟩, fJ, G.y.t.put (by omega) _, .inl ⟨_, (List.take_of_length_le h).symm, hJ _ _ _ _ hj (put_ab _ (fun h => hnD (.inl (.inl h))) (by omega))⟩⟩
  case stop =>
    rintro D cd pre f X hD hp ⟨rfl, fJ, rfl, t, h⟩ _ hK hnD
    gi_wp2
    refine ⟨by simp, .inl ⟨_, _, rfl, run_takeDeferred hK, ?_⟩⟩
    have nJ : ¬ fJ D := fun h => hnD (.inl (.inl h))
    refine ⟨_, results_none rfl _ _ _, ⟨_, rfl⟩, fJ, t.put (by omega) _, ?_⟩
    rcases h with ⟨q, x, rfl, hq, hj⟩ | ⟨hq, hj⟩
    · refine .inl ⟨q, ?_, hJ _ _ _ _ hj (put_ab _ nJ (by omega))⟩
      have := List.prefix_iff_eq_take.1 ((List.prefix_append q [x]).trans hp)
      rw [hq] at this
      exact this
    · refine .inr ⟨pre, ?_, hJx _ _ _ _ hj (put_ab _ nJ (by omega))⟩
      rw [List.prefix_take_iff]
      exact ⟨hp, hq⟩
end Go.Proofs.YtanfllednlpbaaaGreat
