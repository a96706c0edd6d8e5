/-
  Contracts of slices.Clone at slices of rows, impl.copyRows and impl.SortRows. Plain facts on stable sorting: lists that are sorted and hold each class of equals in the same order are the same list. No program, no walk. Plain facts on exchanging places of an array that is given as a list, and on merging by turning the middle. No program, no walk.
-/
import Derived.Test.YtanfllednlpbaaaGreatM17x
import Derived.Test.YtanfllednlpbaaaGreatM9x
import Derived.Maps.AppendAt
import Derived.Test.YtanfllednlpbaaaGreatM1x
import Derived.Sort.WalkA
namespace Go.Proofs.YtanfllednlpbaaaGreat
open Go.RowKit
set_option linter.unusedSimpArgs false
set_option linter.unusedVariables false
theorem cellsAt_of {w : World} {b off : Nat} {wb : World} {zs : List (Els wb)} (hc : ∀ j x, zs[j]? = some x → w.cell? ⟨b, off + j, none⟩ = some (encE x)) (o : Obj) : ∀ j u, (zs.map encE)[j]? = some u → (w.alloc o).cell? ((⟨b, off, none⟩ : Addr).add j) = some u := by
  intro j u hj
  rw [List.getElem?_map] at hj
  cases hx : zs[j]? with
  | none => rw [hx] at hj; cases hj
  | some x =>
    rw [hx] at hj; simp at hj; subst hj
    have h1 := hc j x hx
    have h2 := ((Below.refl w.heap.size w).alloc (Nat.le_refl _) o).cell (p := ⟨b, off + j, none⟩) (World.block_lt_of_cell? w ⟨b, off + j, none⟩ h1)
    by_cases h0 : j = 0
    · subst h0; simpa [Addr.add] using h2.trans h1
    · simpa [Addr.add, h0] using h2.trans h1
set_option maxRecDepth 100000 in
set_option maxHeartbeats 1600000 in
theorem cloneR_any {wb : World} (a : Option Addr) (n c : Nat) (zs : List (Els wb)) (w : World) (hL : Lies w.heap.size w (.slice a n c) zs) (hlen : zs.length ≤ 1048576) :
    Calls Tryz.prog 91 #[.slice a n c] w fun e W' => ∃ v, e = .returned v ∧ W'.ownsRow w.heap.size 34 1 v zs.length (zs.map encE) ∧ Below w.heap.size w W' := by
  have hn : n = zs.length := by
    rcases hL with ⟨a', c', e, rfl⟩ | ⟨b, off, cap, e, _⟩
    · simp only [Value.slice.injEq] at e; simp [e.2.1]
    · simp only [Value.slice.injEq] at e; exact e.2.1
  cases a with
  | none =>
    have h0 : zs = [] := by
      rcases hL with ⟨a', c', e, rfl⟩ | ⟨b, off, cap, e, _⟩
      · rfl
      · simp at e
    subst h0
    subst hn
    have he : ∀ w : World, (binOp .eql 29 (.slice none 0 c) (.slice none 0 0)).run Tryz.prog w = .ok (.bool true) w := fun _ => rfl
    go_enter Tryz.func91, Tryz.ntmps91
    go_wp2_with fail
    go_ret
    exact ⟨_, rfl, World.ownsRow_nil _ _ _ _, Below.refl _ _⟩
  | some ad =>
    obtain ⟨i0, hi, hz0, hz1, hz2⟩ := info_parts infoRw
    have hcells : ∀ j u, (zs.map encE)[j]? = some u → (w.alloc (.cells #[] 34)).cell? (ad.add j) = some u := by
      rcases hL with ⟨a', c', e, rfl⟩ | ⟨b, off, cap, e, hb, hc⟩
      · intro j u hj; simp at hj
      · simp only [Value.slice.injEq, Option.some.injEq] at e
        obtain ⟨rfl, -, -⟩ := e
        exact cellsAt_of hc _
    subst hn
    have HC : Hid _ := hcells
    have O0 : Hid ((w.alloc (.cells #[] 34)).ownsRow w.heap.size 34 1 (.slice (some ⟨w.heap.size, 0, none⟩) 0 0) 0 []) := World.ownsRow_lit w #[] 0 (Nat.le_refl _) (Nat.zero_le _) rfl
    have B0 : Hid _ := (Below.refl w.heap.size w).alloc (Nat.le_refl _) (.cells #[] 34)
    have ML : Hid (0 + zs.length ≤ maxLen) := by show _ ≤ _; unfold maxLen; omega
    clear hcells hL
    have he : ∀ w : World, (binOp .eql 29 (.slice (some ad) zs.length c) (.slice none 0 0)).run Tryz.prog w = .ok (.bool false) w := fun _ => rfl
    go_enter Tryz.func91, Tryz.ntmps91
    go_wp2_with (at_builtin; refine wpList_append_own_at _ rfl (.tmp 5) (.tmp 6) 29 rfl w.heap.size 34 i0 (.slice none 0 0) 1 24 Tryz.underlying29 hi hz0 hz1 hz2 rfl (by omega) _ 0 [] rfl O0.out ad zs.length c (zs.map encE) rfl (by simp) HC.out (by intro u hu; obtain ⟨x, _, rfl⟩ := List.mem_map.1 hu; rfl) ML.out (by omega) (by simp) ?_; intro v' w1 ho hg _ _; have F1 := Lib.hid ho; have F2 := Lib.hid (below_grow B0.out (by simp) (ao := some ⟨w.heap.size, 0, none⟩) hg (by intro x hx; cases hx; exact Nat.le_refl _)); clear ho hg)
    go_ret
    exact ⟨v', rfl, by have := F1.out; simpa using this, F2.out⟩
set_option maxRecDepth 100000 in
set_option maxHeartbeats 1600000 in
theorem copyRows_any (ao : Option Addr) (c : Nat) (l : List (List Int)) (w : World) (h : RdR w ao l) (hl : l.length ≤ 1048576) (hr : ∀ r ∈ l, r.length ≤ 17592186044416) :
    Calls Tryz.prog 48 #[.slice ao l.length c] w (MadeR w l) := by
  obtain ⟨zs, hz, hL⟩ := h.els c
  have hzl : zs.length = l.length := by rw [← hz, rowsE_len]
  have CL : Aside _ := cloneR_any ao l.length c zs w hL (by omega)
  have HZ : Hid _ := hz
  have HR : Hid _ := hr
  clear h hL hz hr
  go_enter Tryz.func48, Tryz.ntmps48
  go_wp2_with fail
  refine Calls.mono CL.out ?_
  rintro e w1 ⟨v, rfl, ho, hb⟩
  have HB : Hid _ := hb
  clear CL
  rcases ho.2 with ⟨rfl, h0⟩ | ⟨g, cap, cur, rfl, hg, _, hcl, hcm, _⟩
  · have l0 : l = [] := List.eq_nil_of_length_eq_zero (by omega)
    have L0 : Hid _ := l0
    clear ho hb l0
    go_wp2_with fail
    go_loopw [9] (fun i wr => i = .int .i64 0 ∧ w1 = wr) (fun _ _ => 0)
    case atStart => exact ⟨rfl, rfl⟩
    case round =>
      obtain ⟨rfl, rfl⟩ := hrel
      go_wp2
      go_ret
      rw [L0.out]
      exact ⟨none, 0, rfl, .inl rfl, Nat.zero_le _, Nat.zero_le _, HB.out⟩
  · have P0 : Hid (∃ xs A C, PartR w1 w.heap.size g cap zs.length l 0 xs A C ∧ ∀ i x, 0 ≤ i → zs[i]? = some x → xs[i]? = some (encE x)) :=
      ⟨_, fun _ => none, fun _ => 0, ⟨ho, fun i n hi => absurd hi (Nat.not_lt_zero _), fun i n hi => absurd hi (Nat.not_lt_zero _), fun i x hi => absurd hi (Nat.not_lt_zero _), fun i k x y hi => absurd hi (Nat.not_lt_zero _)⟩, fun i x _ hx => by rw [List.getElem?_map, hx]; rfl⟩
    have CC : Hid (zs.length ≤ cap ∧ cap ≤ maxLen) := ⟨hcl, hcm⟩
    have hgw : w.heap.size ≤ g := hg
    have hz9 : zs.length ≤ 9223372036854775807 := by omega
    clear ho hb hcl hcm hg
    go_wp2_with fail
    go_loopw [4, 9] (fun _ i wr => ∃ j : Nat, j ≤ zs.length ∧ i = .int .i64 j ∧ (∃ xs A C, PartR wr w.heap.size g cap zs.length l j xs A C ∧ ∀ i x, j ≤ i → zs[i]? = some x → xs[i]? = some (encE x)) ∧ Below w.heap.size w wr) (fun _ i _ => zs.length - (intOf i).toNat)
    case atStart => exact ⟨0, Nat.zero_le _, rfl, P0.out, HB.out⟩
    case round =>
      clear P0 HB
      obtain ⟨j, hj, rfl, ⟨xs, A, C, hp, hrest⟩, hb⟩ := hrel
      by_cases hlt : j < zs.length
      · have hx : zs[j]? = some zs[j] := List.getElem?_eq_getElem hlt
        have hlr : l[j]? = some zs[j].1.r := by rw [← HZ.out]; exact rowsE_at hx
        generalize zs[j] = x at hx hlr
        have c0 : wr.cell? ⟨g, j, none⟩ = some (.slice x.1.a x.1.r.length x.1.c) := (hp.cellAt hlt).trans (hrest j x (Nat.le_refl _) hx)
        have RD : Hid (Rd wr .i64 x.1.a x.1.r) := x.2.1.below hb
        have RL : Hid (x.1.r.length ≤ 17592186044416) := HR.out _ (List.mem_of_getElem? hlr)
        obtain ⟨⟨ea, er, ec⟩, egood⟩ := x
        simp only at c0 RD RL hlr
        have HX : Hid _ := hx
        have HLR : Hid _ := hlr
        have HP : Hid _ := hp
        have HBB : Hid _ := hb
        have HRE : Hid _ := hrest
        clear hx hlr hp hb hrest
        have T : Aside _ := fun w => libClone_any ea ec er w
        go_wp2_with fail
        refine (T.out _ RD.out RL.out).mono ?_
        rintro e w2 ⟨a2, c2', rfl, o2, b2⟩
        have HP2 : Hid _ := HP.out.below b2
        obtain ⟨y0, e0⟩ := HP2.out.some_ (o := j) hlt
        have hf := HP2.out.frozen j
        have R : Hid _ := HP.out.put hlt HLR.out b2 o2 HBB.out.size
        have T2 : Hid _ := (below_step HBB.out (Nat.le_refl _) b2).setCell (p := ⟨g, j, none⟩) hgw (.slice a2 er.length c2')
        clear o2 b2 c0 T
        go_wp2_with fail
        go_roundw
        case rel => exact ⟨j + 1, by omega, by go_num, ⟨_, _, _, R.out, fun i x hi hx => by rw [List.getElem?_set_ne (by omega)]; exact HRE.out i x (by omega) hx⟩, T2.out⟩
        case measure => simp [intOf]; omega
      · have e : j = zs.length := by omega
        subst e
        have HBB : Hid _ := hb; have HP : Hid _ := hp
        clear hb hp hrest
        have HZL : Hid _ := hzl
        go_wp2_with fail
        go_ret
        rw [HZL.out] at HP ⊢
        exact ⟨_, _, rfl, .inr ⟨_, _, _, _, rfl, HP.out⟩, by rw [← HZL.out]; exact CC.out.1, CC.out.2, HBB.out⟩
end Go.Proofs.YtanfllednlpbaaaGreat
namespace Go.Proofs.YtanfllednlpbaaaGreat
set_option linter.unusedSimpArgs false
set_option linter.unusedVariables false
structure Wk {α : Type} (lt : α → α → Bool) : Prop where
  asym : ∀ x y, lt x y = true → lt y x = false
  trans : ∀ x y z, lt y x = false → lt z y = false → lt z x = false
section
variable {α : Type} {lt : α → α → Bool}
def eqv (lt : α → α → Bool) (x y : α) : Bool := !lt x y && !lt y x
def SE (lt : α → α → Bool) (l m : List α) : Prop := ∀ x, l.filter (eqv lt x) = m.filter (eqv lt x)
def Asc (lt : α → α → Bool) (l : List α) : Prop := l.Pairwise fun x y => lt y x = false
theorem Wk.irr (h : Wk lt) (x : α) : lt x x = false := by
  cases hx : lt x x with
  | false => rfl
  | true => have := h.asym x x hx; rw [hx] at this; exact this
theorem Wk.eqv_refl (h : Wk lt) (x : α) : eqv lt x x = true := by simp [eqv, h.irr]
theorem SE.refl (l : List α) : SE lt l l := fun _ => rfl
theorem SE.symm {l m : List α} (h : SE lt l m) : SE lt m l := fun x => (h x).symm
theorem SE.trans {l m n : List α} (h : SE lt l m) (k : SE lt m n) : SE lt l n := fun x => (h x).trans (k x)
theorem SE.app {a b c d : List α} (h : SE lt a b) (k : SE lt c d) : SE lt (a ++ c) (b ++ d) := fun x => by rw [List.filter_append, List.filter_append, h x, k x]
theorem SE.mem (hw : Wk lt) {l m : List α} (h : SE lt l m) {x : α} (hx : x ∈ l) : x ∈ m := by
  have h1 : x ∈ l.filter (eqv lt x) := List.mem_filter.2 ⟨hx, hw.eqv_refl x⟩
  rw [h x] at h1
  exact (List.mem_filter.1 h1).1
theorem SE.swap (hw : Wk lt) {X Y : List α} (h : ∀ x ∈ X, ∀ y ∈ Y, lt y x = true) : SE lt (X ++ Y) (Y ++ X) := by
  intro z
  rw [List.filter_append, List.filter_append]
  by_cases hX : X.filter (eqv lt z) = []
  · rw [hX]; simp
  · obtain ⟨x, hx⟩ := List.exists_mem_of_ne_nil _ hX
    have hx' := List.mem_filter.1 hx
    have hY : Y.filter (eqv lt z) = [] := by
      rw [List.filter_eq_nil_iff]
      intro y hy he
      have h1 := h x hx'.1 y hy
      have ex := hx'.2
      simp only [eqv, Bool.and_eq_true, Bool.not_eq_true'] at ex he
      have : lt y x = false := hw.trans x z y ex.1 he.2
      rw [h1] at this; cases this
    rw [hY]; simp
theorem Asc.uniq (hw : Wk lt) : ∀ {l m : List α}, Asc lt l → Asc lt m → SE lt l m → l = m
  | [], [], _, _, _ => rfl
  | [], y :: m, _, _, h => by have := h.symm.mem hw (x := y) (by simp); cases this
  | x :: l, [], _, _, h => by have := h.mem hw (x := x) (by simp); cases this
  | x :: l, y :: m, hl, hm, h => by
    have hl' := List.pairwise_cons.1 hl
    have hm' := List.pairwise_cons.1 hm
    have h1 : lt x y = false := by
      rcases List.mem_cons.1 (h.mem hw (x := x) (by simp)) with rfl | hx
      · exact hw.irr _
      · exact hm'.1 x hx
    have h2 : lt y x = false := by
      rcases List.mem_cons.1 (h.symm.mem hw (x := y) (by simp)) with rfl | hy
      · exact hw.irr _
      · exact hl'.1 y hy
    have hh := h x
    have ex : eqv lt x x = true := hw.eqv_refl x
    have ey : eqv lt x y = true := by simp [eqv, h1, h2]
    rw [List.filter_cons_of_pos ex, List.filter_cons_of_pos ey, List.cons.injEq] at hh
    obtain ⟨rfl, _⟩ := hh
    have ht : SE lt l m := by
      intro z
      have hz := h z
      rw [List.filter_cons, List.filter_cons] at hz
      split at hz
      · exact (List.cons.inj hz).2
      · exact hz
    rw [Asc.uniq hw hl'.2 hm'.2 ht]
theorem Asc.nil : Asc lt ([] : List α) := List.Pairwise.nil
theorem Asc.one (x : α) : Asc lt [x] := by simp [Asc]
theorem Asc.app {l m : List α} (hl : Asc lt l) (hm : Asc lt m) (h : ∀ x ∈ l, ∀ y ∈ m, lt y x = false) : Asc lt (l ++ m) := List.pairwise_append.2 ⟨hl, hm, h⟩
theorem Asc.left {l m : List α} (h : Asc lt (l ++ m)) : Asc lt l := (List.pairwise_append.1 h).1
theorem Asc.right {l m : List α} (h : Asc lt (l ++ m)) : Asc lt m := (List.pairwise_append.1 h).2.1
theorem Asc.cross {l m : List α} (h : Asc lt (l ++ m)) {x y : α} (hx : x ∈ l) (hy : y ∈ m) : lt y x = false := (List.pairwise_append.1 h).2.2 x hx y hy
theorem Asc.ins (hw : Wk lt) {U V : List α} {x : α} (h : Asc lt (U ++ V)) (hV : ∀ v ∈ V, lt x v = true) (hU : U = [] ∨ ∃ U' u, U = U' ++ [u] ∧ lt x u = false) : Asc lt (U ++ [x] ++ V) := by
  have hUx : ∀ u ∈ U, lt x u = false := by
    rcases hU with rfl | ⟨U', u, rfl, hu⟩
    · intro u h; cases h
    · intro v hv
      rcases List.mem_append.1 hv with h1 | h1
      · have h2 : lt u v = false := (h.left).cross h1 (by simp)
        exact hw.trans v u x h2 hu
      · simp at h1; subst h1; exact hu
  refine Asc.app (Asc.app h.left (Asc.one x) fun a ha y hy => ?_) h.right fun a ha v hv => ?_
  · simp at hy; subst hy; exact hUx a ha
  · rcases List.mem_append.1 ha with h1 | h1
    · exact h.cross h1 hv
    · simp at h1; subst h1; exact hw.asym _ _ (hV v hv)
theorem SE.ins (hw : Wk lt) {U V : List α} {x : α} (hV : ∀ v ∈ V, lt x v = true) : SE lt (U ++ V ++ [x]) (U ++ [x] ++ V) := by
  rw [List.append_assoc, List.append_assoc]
  exact SE.app (SE.refl U) (SE.swap hw fun v hv y hy => by simp at hy; subst hy; exact hV v hv)
theorem merge_parts (hw : Wk lt) {X1 X2 Y1 Y2 Z1 Z2 : List α} (hX : Asc lt (X1 ++ X2)) (hY : Asc lt (Y1 ++ Y2)) (h1 : ∀ x ∈ X2, ∀ y ∈ Y1, lt y x = true) (h2 : ∀ x ∈ X1, ∀ y ∈ Y2, lt y x = false)
    (a1 : Asc lt Z1) (a2 : Asc lt Z2) (e1 : SE lt Z1 (X1 ++ Y1)) (e2 : SE lt Z2 (X2 ++ Y2)) : Asc lt (Z1 ++ Z2) ∧ SE lt (Z1 ++ Z2) (X1 ++ X2 ++ (Y1 ++ Y2)) := by
  constructor
  · refine Asc.app a1 a2 fun x hx y hy => ?_
    rcases List.mem_append.1 (e1.mem hw hx) with k1 | k1 <;> rcases List.mem_append.1 (e2.mem hw hy) with k2 | k2
    · exact hX.cross k1 k2
    · exact h2 x k1 y k2
    · exact hw.asym _ _ (h1 y k2 x k1)
    · exact hY.cross k1 k2
  · refine (e1.app e2).trans ?_
    have := (SE.refl (lt := lt) X1).app ((SE.swap hw h1).symm.app (SE.refl Y2))
    simpa [List.append_assoc] using this
end
def insL {α : Type} (lt : α → α → Bool) (x : α) : List α → List α
  | [] => [x]
  | y :: l => if lt x y then x :: y :: l else y :: insL lt x l
theorem insL_parts {α : Type} {lt : α → α → Bool} (x : α) : ∀ l : List α, ∃ U V, l = U ++ V ∧ insL lt x l = U ++ [x] ++ V ∧ (∀ u ∈ U, lt x u = false) ∧ (V = [] ∨ ∃ v V', V = v :: V' ∧ lt x v = true)
  | [] => ⟨[], [], rfl, rfl, (fun u h => by cases h), .inl rfl⟩
  | y :: l => by
    unfold insL
    split
    · exact ⟨[], y :: l, rfl, rfl, fun u h => (by cases h), .inr ⟨y, l, rfl, by assumption⟩⟩
    · obtain ⟨U, V, h1, h2, h3, h4⟩ := insL_parts (lt := lt) x l
      refine ⟨y :: U, V, by simp [h1], by simp [h2], fun u hu => ?_, h4⟩
      rcases List.mem_cons.1 hu with rfl | hu
      · simpa using ‹¬ lt x u = true›
      · exact h3 u hu
def sortL {α : Type} (lt : α → α → Bool) (l : List α) : List α := l.foldl (fun out x => insL lt x out) []
theorem insL_asc {α : Type} {lt : α → α → Bool} (hw : Wk lt) (x : α) (l : List α) (h : Asc lt l) : Asc lt (insL lt x l) ∧ SE lt (insL lt x l) (l ++ [x]) := by
  obtain ⟨U, V, rfl, h2, h3, h4⟩ := insL_parts (lt := lt) x l
  rw [h2]
  have hV : ∀ v ∈ V, lt x v = true := by
    rcases h4 with rfl | ⟨v, V', rfl, hv⟩
    · intro v h; cases h
    · intro u hu
      rcases List.mem_cons.1 hu with rfl | hu
      · exact hv
      · cases hx : lt x u with
        | true => rfl
        | false =>
          have h5 : lt u v = false := (List.pairwise_cons.1 h.right).1 u hu
          have := hw.trans v u x h5 hx
          rw [hv] at this; cases this
  refine ⟨h.ins hw hV ?_, (SE.ins hw hV).symm⟩
  rcases List.eq_nil_or_concat U with rfl | ⟨U', u, rfl⟩
  · exact .inl rfl
  · exact .inr ⟨U', u, by simp, h3 u (by simp)⟩
theorem sortL_asc {α : Type} {lt : α → α → Bool} (hw : Wk lt) (l : List α) : Asc lt (sortL lt l) ∧ SE lt (sortL lt l) l := by
  unfold sortL
  have key : ∀ (l acc : List α), Asc lt acc → Asc lt (l.foldl (fun out x => insL lt x out) acc) ∧ SE lt (l.foldl (fun out x => insL lt x out) acc) (acc ++ l) := by
    intro l
    induction l with
    | nil => intro acc h; exact ⟨h, by simp [SE]⟩
    | cons x l ih =>
      intro acc h
      have h1 := insL_asc hw x acc h
      have h2 := ih _ h1.1
      refine ⟨h2.1, h2.2.trans ?_⟩
      have := h1.2.app (SE.refl (lt := lt) l)
      simpa using this
  simpa using key l [] Asc.nil
theorem sortL_uniq {α : Type} {lt : α → α → Bool} (hw : Wk lt) {l m : List α} (h : Asc lt m) (k : SE lt m l) : m = sortL lt l :=
  Asc.uniq hw h (sortL_asc hw l).1 (k.trans (sortL_asc hw l).2.symm)
theorem sortL_len {α : Type} (lt : α → α → Bool) (l : List α) : (sortL lt l).length = l.length := by
  have hi : ∀ (x : α) (l : List α), (insL lt x l).length = l.length + 1 := by
    intro x l
    induction l with
    | nil => rfl
    | cons y l ih => unfold insL; split <;> simp [ih]
  have key : ∀ (l acc : List α), (l.foldl (fun out x => insL lt x out) acc).length = acc.length + l.length := by
    intro l
    induction l with
    | nil => intro acc; simp
    | cons x l ih => intro acc; rw [List.foldl_cons, ih, hi]; simp; omega
  have := key l []
  unfold sortL
  simpa using this
end Go.Proofs.YtanfllednlpbaaaGreat
namespace Go.Proofs.YtanfllednlpbaaaGreat
open Go.Sort
set_option linter.unusedSimpArgs false
set_option linter.unusedVariables false
theorem set_at {α : Type} (A : List α) (x y : α) (C : List α) {i : Nat} (h : i = A.length) : (A ++ x :: C).set i y = A ++ y :: C := by
  subst h; simp
theorem take_snoc {α : Type} {l : List α} {i : Nat} (h : i < l.length) : ∃ x, l.drop i = x :: l.drop (i + 1) ∧ l.take (i + 1) = l.take i ++ [x] ∧ l[i]? = some x :=
  ⟨l[i], List.drop_eq_getElem_cons h, List.take_succ_eq_append_getElem h, List.getElem?_eq_getElem h⟩
theorem set_in {α : Type} (A : List α) (x : α) (B : List α) (y z : α) (C : List α) {j : Nat} (hj : j = A.length + 1 + B.length) : (A ++ x :: (B ++ y :: C)).set j z = A ++ x :: (B ++ z :: C) := by
  have := set_at (A ++ x :: B) y z C (i := j) (by simp; omega)
  simpa using this
def swR {α : Type} (P U Q V R : List α) (i : Nat) : List α := P ++ V.take i ++ (U.drop i ++ (Q ++ U.take i) ++ (V.drop i ++ R))
theorem swR_zero {α : Type} (P U Q V R : List α) : swR P U Q V R 0 = P ++ U ++ Q ++ V ++ R := by simp [swR]
theorem swR_all {α : Type} (P U Q V R : List α) {n : Nat} (hu : U.length = n) (hv : V.length = n) : swR P U Q V R n = P ++ V ++ Q ++ U ++ R := by
  unfold swR
  rw [List.take_of_length_le (by omega), List.take_of_length_le (by omega), List.drop_of_length_le (by omega), List.drop_of_length_le (by omega)]; simp
theorem swR_len {α : Type} (P U Q V R : List α) (i : Nat) (h : U.length = V.length) : (swR P U Q V R i).length = (P ++ U ++ Q ++ V ++ R).length := by
  simp [swR]; omega
def RotAt {α : Type} (P U V R : List α) (i j : Nat) (d : List α) : Prop :=
  ∃ D1 U' V' D2 : List α, d = P ++ D1 ++ U' ++ V' ++ D2 ++ R ∧ P.length + D1.length + i = P.length + U.length ∧ U'.length = i ∧ V'.length = j ∧ D1 ++ V' ++ U' ++ D2 = V ++ U
theorem RotAt.start {α : Type} (P U V R : List α) : RotAt P U V R U.length V.length (P ++ U ++ V ++ R) := ⟨[], U, V, [], by simp, by simp, rfl, rfl, by simp⟩
def St {α : Type} (lt : α → α → Bool) (Z L : List α) : Prop := Asc lt Z ∧ SE lt Z L ∧ Z.Perm L
theorem St.len {α : Type} {lt : α → α → Bool} {Z L : List α} (h : St lt Z L) : Z.length = L.length := h.2.2.length_eq
section
variable {α : Type} [Inhabited α] {lt : α → α → Bool}
theorem get_at (A : List α) (x : α) (C : List α) {i : Nat} (h : i = A.length) : (A ++ x :: C).toArray[i]! = x := by
  subst h; simp
theorem get_in (A : List α) (x : α) (B : List α) (y : α) (C : List α) {j : Nat} (hj : j = A.length + 1 + B.length) : (A ++ x :: (B ++ y :: C)).toArray[j]! = y := by
  have := get_at (A ++ x :: B) y C (i := j) (by simp; omega)
  simpa using this
theorem swp_mid (A : List α) (x : α) (B : List α) (y : α) (C : List α) {i j : Nat} (hi : i = A.length) (hj : j = A.length + 1 + B.length) :
    swp (A ++ x :: (B ++ y :: C)).toArray i j = (A ++ y :: (B ++ x :: C)).toArray := by
  unfold swp
  rw [get_at A x _ hi, get_in A x B y C hj, List.setIfInBounds_toArray, List.setIfInBounds_toArray, set_at A x y _ hi, set_in A y B y x C hj]
theorem swp_dim (A : List α) (x : α) (B : List α) (y : α) (C : List α) {i j : Nat} (hi : i = A.length) (hj : j = A.length + 1 + B.length) :
    swp (A ++ x :: (B ++ y :: C)).toArray j i = (A ++ y :: (B ++ x :: C)).toArray := by
  unfold swp
  rw [get_at A x _ hi, get_in A x B y C hj, List.setIfInBounds_toArray, List.setIfInBounds_toArray, set_in A x B y x C hj, set_at A x y _ hi]
theorem swR_step (P U Q V R : List α) {n i a b : Nat} (hu : U.length = n) (hv : V.length = n) (ha : a = P.length) (hb : b = P.length + n + Q.length) (hi : i < n) :
    swp (swR P U Q V R i).toArray (a + i) (b + i) = (swR P U Q V R (i + 1)).toArray := by
  obtain ⟨u, u1, u2, _⟩ := take_snoc (l := U) (i := i) (by omega)
  obtain ⟨v, v1, v2, _⟩ := take_snoc (l := V) (i := i) (by omega)
  unfold swR
  rw [u1, v1, u2, v2]
  have := swp_mid (P ++ V.take i) u (U.drop (i + 1) ++ (Q ++ U.take i)) v (V.drop (i + 1) ++ R) (i := a + i) (j := b + i) (by simp; omega) (by simp; omega)
  simpa using this
theorem insInner_at (P : List α) (x : α) (W : List α) : ∀ (k : Nat) (U : List α), U.length = k → Asc lt U → ∃ U1 U2, U = U1 ++ U2 ∧ insInner lt P.length (P.length + k) (P ++ U ++ x :: W).toArray = (P ++ U1 ++ x :: (U2 ++ W)).toArray ∧ (∀ u ∈ U2, lt x u = true) ∧ (U1 = [] ∨ ∃ U' u, U1 = U' ++ [u] ∧ lt x u = false) := by
  intro k
  induction k generalizing W with
  | zero =>
    intro U hU _
    obtain rfl := List.eq_nil_of_length_eq_zero hU
    exact ⟨[], [], rfl, by rw [insInner_stop _ _ _ _ (.inl (by omega))]; simp, by simp, .inl rfl⟩
  | succ k ih =>
    intro U hU hA
    obtain ⟨U', u, rfl⟩ : ∃ U' u, U = U' ++ [u] := by
      rcases List.eq_nil_or_concat U with rfl | ⟨U', u, rfl⟩
      · cases hU
      · exact ⟨U', u, by simp⟩
    have hk : U'.length = k := by simp at hU; omega
    have g1 : (P ++ (U' ++ [u]) ++ x :: W).toArray[P.length + (k + 1)]! = x := get_at _ _ _ (by simp; omega)
    have g2 : (P ++ (U' ++ [u]) ++ x :: W).toArray[P.length + (k + 1) - 1]! = u := by
      have := get_at (P ++ U') u (x :: W) (i := P.length + (k + 1) - 1) (by simp; omega)
      simpa using this
    cases hl : lt x u with
    | true =>
      have sw : swp (P ++ (U' ++ [u]) ++ x :: W).toArray (P.length + (k + 1)) (P.length + (k + 1) - 1) = (P ++ U' ++ x :: (u :: W)).toArray := by
        have := swp_dim (P ++ U') u [] x W (i := P.length + (k + 1) - 1) (j := P.length + (k + 1)) (by simp; omega) (by simp; omega)
        simpa using this
      obtain ⟨U1, U2, e1, e2, e3, e4⟩ := ih (u :: W) U' hk hA.left
      refine ⟨U1, U2 ++ [u], by simp [e1], ?_, ?_, e4⟩
      · rw [insInner_go _ _ _ _ (by omega) (by rw [g1, g2]; exact hl), sw, show P.length + (k + 1) - 1 = P.length + k by omega, e2]; simp
      · intro z hz
        rcases List.mem_append.1 hz with h | h
        · exact e3 z h
        · simp at h; subst h; exact hl
    | false =>
      refine ⟨U' ++ [u], [], by simp, ?_, by simp, .inr ⟨U', u, rfl, hl⟩⟩
      rw [insInner_stop _ _ _ _ (.inr (by rw [g1, g2]; exact hl))]; simp
theorem insOuter_at (hw : Wk lt) (P R : List α) : ∀ (k : Nat) (D T : List α), T.length = k → Asc lt D → D.length ≠ 0 → ∃ Z, insOuter lt P.length (P.length + (D.length + T.length)) (P.length + D.length) (P ++ D ++ (T ++ R)).toArray = (P ++ Z ++ R).toArray ∧ St lt Z (D ++ T) := by
  intro k
  induction k with
  | zero =>
    intro D T hT hD _
    obtain rfl := List.eq_nil_of_length_eq_zero hT
    refine ⟨D, ?_, hD, by simpa using SE.refl D, by simp⟩
    rw [insOuter_stop _ _ _ _ _ (by simp)]; simp
  | succ k ih =>
    intro D T hT hD h0
    match T, hT with
    | t :: T, hT =>
      obtain ⟨U1, U2, e1, e2, e3, e4⟩ := insInner_at P t (T ++ R) D.length D rfl hD
      have hA : Asc lt (U1 ++ [t] ++ U2) := Asc.ins hw (by rw [← e1]; exact hD) e3 e4
      have hS : SE lt (D ++ [t]) (U1 ++ [t] ++ U2) := by rw [e1]; exact SE.ins hw e3
      obtain ⟨Z, z1, z2, z3, z4⟩ := ih (U1 ++ [t] ++ U2) T (by simpa using hT) hA (by simp)
      have hlen : (U1 ++ [t] ++ U2).length = D.length + 1 := by rw [e1]; simp; omega
      refine ⟨Z, ?_, z2, ?_, ?_⟩
      · rw [insOuter_go _ _ _ _ _ (by simp)]
        have : P ++ D ++ (t :: T ++ R) = P ++ D ++ t :: (T ++ R) := by simp
        rw [this, e2]
        rw [hlen] at z1
        have e5 : P ++ U1 ++ t :: (U2 ++ (T ++ R)) = P ++ (U1 ++ [t] ++ U2) ++ (T ++ R) := by simp
        rw [e5, List.length_cons, show P.length + (D.length + (T.length + 1)) = P.length + (D.length + 1 + T.length) by omega]
        exact z1
      · have := hS.app (SE.refl (lt := lt) T)
        refine z3.trans ?_
        have t2 := this.symm
        simpa using t2
      · refine z4.trans ?_
        rw [e1]
        have : (U1 ++ [t] ++ U2 ++ T).Perm (U1 ++ U2 ++ [t] ++ T) := by
          refine List.Perm.append_right T ?_
          rw [List.append_assoc, List.append_assoc]
          exact List.Perm.append_left U1 List.perm_append_comm
        simpa using this
theorem insertion_at (hw : Wk lt) (P L R : List α) {a b : Nat} (ha : a = P.length) (hb : b = P.length + L.length) : ∃ Z, insertionSort lt (P ++ L ++ R).toArray a b = (P ++ Z ++ R).toArray ∧ St lt Z L := by
  subst ha hb
  match L with
  | [] => exact ⟨[], by unfold insertionSort; rw [insOuter_stop _ _ _ _ _ (by simp)], Asc.nil, SE.refl _, List.Perm.refl _⟩
  | x :: L =>
    obtain ⟨Z, h1, h2⟩ := insOuter_at hw P R L.length [x] L rfl (Asc.one x) (by simp)
    refine ⟨Z, ?_, by simpa using h2⟩
    unfold insertionSort
    simpa [Nat.add_comm, Nat.add_left_comm] using h1
end
end Go.Proofs.YtanfllednlpbaaaGreat
