/-
  The library's slices.Equal, slices.Clone and slices.ContainsFunc at slices of int, in the words of this seat. For every slice of int. Contracts of slices.Clone at slices of rows, impl.copyRows and impl.SortRows. Plain facts on stable sorting: lists that are sorted and hold each class of equals in the same order are the same list. No program, no walk.
-/
import Derived.Test.YtfpbhedophlnkaaGreatDoorShelf
import Derived.Test.YtfpbhedophlnkaaGreatDoorJR5x
import Derived.Test.YtfpbhedophlnkaaGreatDoorJR4x
import Derived.Lib.SliceRun
import Derived.Test.YtfpbhedophlnkaaGreatDoorElR
import Derived.Maps.AppendAt
import Derived.Test.YtfpbhedophlnkaaGreatDoorJR3x
namespace Go.Proofs.YtfpbhedophlnkaaGreatDoor
open Go.RowKit Go.Shelf Go.Lib
set_option linter.unusedSimpArgs false
set_option linter.unusedVariables false

theorem libEqual_any (a b : Option Addr) (c d : Nat) (l m : List Int) (w : World) (h : Rd w .i64 a l) (k : Rd w .i64 b m) (hn : l.length ≤ maxLen) (hm : m.length ≤ maxLen) :
    Calls Tryz.prog 185 #[.slice a l.length c, .slice b m.length d] w fun e w' => e = .returned (.bool (eqL l m)) ∧ Below w.heap.size w w' := by
  have hn' : l.length ≤ 9223372036854775807 := by unfold maxLen at hn; omega
  have hm' : m.length ≤ 9223372036854775807 := by unfold maxLen at hm; omega
  by_cases hlen : l.length = m.length
  · rcases h with rfl | ⟨b1, o1, rfl, hc⟩
    · have hm0 : m = [] := List.eq_nil_of_length_eq_zero hlen.symm
      subst hm0
      exact (Any.slices_Equal_int_empty Tryz.lays111 a b c 0 d w (by omega)).mono fun e w' ⟨he, hw⟩ => ⟨by rw [he]; rfl, by rw [hw]; exact Below.refl _ _⟩
    · rcases k with rfl | ⟨b2, o2, rfl, kc⟩
      · have hl0 : l = [] := List.eq_nil_of_length_eq_zero hlen
        subst hl0
        exact (Any.slices_Equal_int_empty Tryz.lays111 _ b c 0 d w (by omega)).mono fun e w' ⟨he, hw⟩ => ⟨by rw [he]; rfl, by rw [hw]; exact Below.refl _ _⟩
      · refine (Any.slices_Equal_int Tryz.lays111 b1 o1 l.length c b2 o2 m.length d l m w (Nat.le_refl _) (Nat.le_refl _) hn' hm' hc kc).mono fun e w' ⟨he, q, hw⟩ => ⟨?_, ?_⟩
        · rw [he, List.take_length, List.take_length]; exact ret_bool (by unfold eqL; rw [Bool.eq_iff_iff]; simp)
        · rw [hw]; exact below_drewN (Below.refl _ _) q
  · refine (Any.slices_Equal_int_lens Tryz.lays111 a b l.length c m.length d w hlen).mono fun e w' ⟨he, hw⟩ => ⟨?_, by rw [hw]; exact Below.refl _ _⟩
    rw [he]; exact ret_bool (by symm; unfold eqL; simp; rintro rfl; exact hlen rfl)

theorem made_of_owns {w w' : World} {v : Value} {l : List Int} {e : TypeId} (h : w'.ownsRow w.heap.size e 1 v l.length (l.map (Value.int .i64))) (hb : Below w.heap.size w w') :
    Made w e .i64 l (.returned v) w' := by
  rcases h.2 with ⟨rfl, hn⟩ | ⟨g, cap, cur, rfl, r⟩
  · obtain rfl : l = [] := List.eq_nil_of_length_eq_zero hn
    exact ⟨none, 0, rfl, Own.none_, hb⟩
  · exact ⟨_, cap, rfl, h, hb⟩

theorem libClone_any (a : Option Addr) (c : Nat) (l : List Int) (w : World) (h : Rd w .i64 a l) (hn : l.length ≤ 17592186044416) :
    Calls Tryz.prog 162 #[.slice a l.length c] w (Made w 3 .i64 l) := by
  rcases h with rfl | ⟨b1, o1, rfl, hc⟩
  · cases a with
    | none =>
      refine (Any.slices_Clone_int_nil Tryz.laysNm215 0 c w).mono ?_
      rintro e w' ⟨he, hw⟩
      rw [he, hw]; exact ⟨none, 0, rfl, Own.none_, Below.refl _ _⟩
    | some x =>
      refine (Any.slices_Clone_int_zero Tryz.laysNm215 x c w).mono ?_
      rintro e w' ⟨v, he, ho, _, hb⟩
      rw [he]; exact made_of_owns (l := []) ho hb
  · refine (Any.slices_Clone_int Tryz.laysNm215 b1 o1 l.length c l w (Nat.le_refl _) (by omega) hc).mono ?_
    rintro e w' ⟨v, he, ho, _, hb⟩
    rw [he]; rw [List.take_length] at ho; exact made_of_owns ho hb

theorem isCol_any (x : Int) (w : World) : Calls Tryz.prog 356 #[.int .i64 x] w fun e w' => e = .returned (.bool (colB x)) ∧ w = w' := by
  by_cases h1 : 0 ≤ x
  · by_cases h2 : x ≤ 63
    · have HF := Lib.hid (colB_t h1 h2)
      go_enter Tryz.func356, Tryz.ntmps356
      go_wp2
      go_ret
      exact ⟨ret_bool HF.out.symm, rfl⟩
    · have HF := Lib.hid (colB_f (x := x) (by omega))
      have h3 : 63 < x := by omega
      go_enter Tryz.func356, Tryz.ntmps356
      go_wp2
      go_ret
      exact ⟨ret_bool HF.out.symm, rfl⟩
  · have HF := Lib.hid (colB_f (x := x) (by omega))
    have h3 : x < 0 := by omega
    go_enter Tryz.func356, Tryz.ntmps356
    go_wp2
    go_ret
    exact ⟨ret_bool HF.out.symm, rfl⟩
theorem isNoCol_any (x : Int) (w : World) : Calls Tryz.prog 361 #[.int .i64 x] w fun e w' => e = .returned (.bool (!colB x)) ∧ w = w' := by
  go_enter Tryz.func361, Tryz.ntmps361
  go_wp2_with fail
  refine (isCol_any _ _).mono ?_
  rintro e w' ⟨rfl, rfl⟩
  go_wp2
  go_ret
  exact ⟨rfl, rfl⟩

theorem libContains_any (a : Option Addr) (c : Nat) (l : List Int) (w : World) (h : Rd w .i64 a l) (hn : l.length ≤ maxLen) :
    Calls Tryz.prog 360 #[.slice a l.length c, .func (.func 361) #[] #[]] w fun e w' => e = .returned (.bool (!l.all colB)) ∧ Below w.heap.size w w' := by
  have hn' : l.length ≤ 9223372036854775807 := by unfold maxLen at hn; omega
  rcases h with rfl | ⟨b1, o1, rfl, hc⟩
  · exact (AnyE.slices_ContainsFunc_empty Tryz.laysContains a c _ w).mono fun e w' ⟨he, hw⟩ => ⟨by rw [he]; rfl, by rw [hw]; exact Below.refl _ _⟩
  · refine (AnyE.slices_ContainsFunc Tryz.laysContains (Value.int .i64) (fun x => !colB x) 361 #[] (enters_of Tryz.func361 (by kernel_rfl) rfl) b1 o1 l.length c l w
      (fun W x _ => (isNoCol_any x W).mono fun e w' ⟨he, hw⟩ => ⟨he, 0, by rw [← hw]; rfl⟩) (Nat.le_refl _) hn' (fun j hj => ?_)).mono fun e w' ⟨he, q, hw⟩ => ⟨?_, ?_⟩
    · rw [hc j hj, List.getD_eq_getElem?_getD, getElem!_def, List.getElem?_eq_getElem hj]; rfl
    · rw [he, List.take_length]; exact ret_bool (by rw [List.not_all_eq_any_not])
    · rw [hw]; exact below_drewN (Below.refl _ _) q
end Go.Proofs.YtfpbhedophlnkaaGreatDoor
namespace Go.Proofs.YtfpbhedophlnkaaGreatDoor
open Go.RowKit
set_option linter.unusedSimpArgs false
set_option linter.unusedVariables false

theorem cellsAt_of {w : World} {b off : Nat} {wb : World} {zs : List (Els wb)} (hc : ∀ j x, zs[j]? = some x → w.cell? ⟨b, off + j, none⟩ = some (encE x)) (o : Obj) : ∀ j u, (zs.map encE)[j]? = some u → (w.alloc o).cell? ((⟨b, off, none⟩ : Addr).add j) = some u := by
  intro j u hj
  rw [List.getElem?_map] at hj
  cases hx : zs[j]? with
  | none => rw [hx] at hj; cases hj
  | some x =>
    rw [hx] at hj; simp at hj; subst hj
    have h1 := hc j x hx
    have h2 := ((Below.refl w.heap.size w).alloc (Nat.le_refl _) o).cell (p := ⟨b, off + j, none⟩) (World.block_lt_of_cell? w ⟨b, off + j, none⟩ h1)
    by_cases h0 : j = 0
    · subst h0; simpa [Addr.add] using h2.trans h1
    · simpa [Addr.add, h0] using h2.trans h1

set_option maxRecDepth 100000 in
set_option maxHeartbeats 1600000 in
theorem cloneR_any {wb : World} (a : Option Addr) (n c : Nat) (zs : List (Els wb)) (w : World) (hL : Lies w.heap.size w (.slice a n c) zs) (hlen : zs.length ≤ 1048576) :
    Calls Tryz.prog 181 #[.slice a n c] w fun e W' => ∃ v, e = .returned v ∧ W'.ownsRow w.heap.size 47 1 v zs.length (zs.map encE) ∧ Below w.heap.size w W' := by
  have hn : n = zs.length := by
    rcases hL with ⟨a', c', e, rfl⟩ | ⟨b, off, cap, e, _⟩
    · simp only [Value.slice.injEq] at e; simp [e.2.1]
    · simp only [Value.slice.injEq] at e; exact e.2.1
  cases a with
  | none =>
    have h0 : zs = [] := by
      rcases hL with ⟨a', c', e, rfl⟩ | ⟨b, off, cap, e, _⟩
      · rfl
      · simp at e
    subst h0
    subst hn
    have he : ∀ w : World, (binOp .eql 43 (.slice none 0 c) (.slice none 0 0)).run Tryz.prog w = .ok (.bool true) w := fun _ => rfl
    go_enter Tryz.func181, Tryz.ntmps181
    go_wp2_with fail
    go_ret
    exact ⟨_, rfl, World.ownsRow_nil _ _ _ _, Below.refl _ _⟩
  | some ad =>
    obtain ⟨i0, hi, hz0, hz1, hz2⟩ := info_parts infoRw
    have hcells : ∀ j u, (zs.map encE)[j]? = some u → (w.alloc (.cells #[] 47)).cell? (ad.add j) = some u := by
      rcases hL with ⟨a', c', e, rfl⟩ | ⟨b, off, cap, e, hb, hc⟩
      · intro j u hj; simp at hj
      · simp only [Value.slice.injEq, Option.some.injEq] at e
        obtain ⟨rfl, -, -⟩ := e
        exact cellsAt_of hc _
    subst hn
    have HC : Hid _ := hcells
    have O0 : Hid ((w.alloc (.cells #[] 47)).ownsRow w.heap.size 47 1 (.slice (some ⟨w.heap.size, 0, none⟩) 0 0) 0 []) := World.ownsRow_lit w #[] 0 (Nat.le_refl _) (Nat.zero_le _) rfl
    have B0 : Hid _ := (Below.refl w.heap.size w).alloc (Nat.le_refl _) (.cells #[] 47)
    have ML : Hid (0 + zs.length ≤ maxLen) := by show _ ≤ _; unfold maxLen; omega
    clear hcells hL
    have he : ∀ w : World, (binOp .eql 43 (.slice (some ad) zs.length c) (.slice none 0 0)).run Tryz.prog w = .ok (.bool false) w := fun _ => rfl
    go_enter Tryz.func181, Tryz.ntmps181
    go_wp2_with (at_builtin; refine wpList_append_own_at _ rfl (.tmp 5) (.tmp 6) 43 rfl w.heap.size 47 i0 (.slice none 0 0) 1 24 Tryz.underlying43 hi hz0 hz1 hz2 rfl (by omega) _ 0 [] rfl O0.out ad zs.length c (zs.map encE) rfl (by simp) HC.out (by intro u hu; obtain ⟨x, _, rfl⟩ := List.mem_map.1 hu; rfl) ML.out (by omega) (by simp) ?_; intro v' w1 ho hg _ _; have F1 := Lib.hid ho; have F2 := Lib.hid (below_grow B0.out (by simp) (ao := some ⟨w.heap.size, 0, none⟩) hg (by intro x hx; cases hx; exact Nat.le_refl _)); clear ho hg)
    go_ret
    exact ⟨v', rfl, by have := F1.out; simpa using this, F2.out⟩

set_option maxRecDepth 100000 in
set_option maxHeartbeats 1600000 in
theorem copyRows_any (ao : Option Addr) (c : Nat) (l : List (List Int)) (w : World) (h : RdR w ao l) (hl : l.length ≤ 1048576) (hr : ∀ r ∈ l, r.length ≤ 17592186044416) :
    Calls Tryz.prog 102 #[.slice ao l.length c] w (MadeR w l) := by
  obtain ⟨zs, hz, hL⟩ := h.els c
  have hzl : zs.length = l.length := by rw [← hz, rowsE_len]
  have CL : Aside _ := cloneR_any ao l.length c zs w hL (by omega)
  have HZ : Hid _ := hz
  have HR : Hid _ := hr
  clear h hL hz hr
  go_enter Tryz.func102, Tryz.ntmps102
  go_wp2_with fail
  refine Calls.mono CL.out ?_
  rintro e w1 ⟨v, rfl, ho, hb⟩
  have HB : Hid _ := hb
  clear CL
  rcases ho.2 with ⟨rfl, h0⟩ | ⟨g, cap, cur, rfl, hg, _, hcl, hcm, _⟩
  · have l0 : l = [] := List.eq_nil_of_length_eq_zero (by omega)
    have L0 : Hid _ := l0
    clear ho hb l0
    go_wp2_with fail
    go_loopw [9] (fun i wr => i = .int .i64 0 ∧ w1 = wr) (fun _ _ => 0)
    case atStart => exact ⟨rfl, rfl⟩
    case round =>
      obtain ⟨rfl, rfl⟩ := hrel
      go_wp2
      go_ret
      rw [L0.out]
      exact ⟨none, 0, rfl, .inl rfl, Nat.zero_le _, Nat.zero_le _, HB.out⟩
  · have P0 : Hid (∃ xs A C, PartR w1 w.heap.size g cap zs.length l 0 xs A C ∧ ∀ i x, 0 ≤ i → zs[i]? = some x → xs[i]? = some (encE x)) :=
      ⟨_, fun _ => none, fun _ => 0, ⟨ho, fun i n hi => absurd hi (Nat.not_lt_zero _), fun i n hi => absurd hi (Nat.not_lt_zero _), fun i x hi => absurd hi (Nat.not_lt_zero _), fun i k x y hi => absurd hi (Nat.not_lt_zero _)⟩, fun i x _ hx => by rw [List.getElem?_map, hx]; rfl⟩
    have CC : Hid (zs.length ≤ cap ∧ cap ≤ maxLen) := ⟨hcl, hcm⟩
    have hgw : w.heap.size ≤ g := hg
    have hz9 : zs.length ≤ 9223372036854775807 := by omega
    clear ho hb hcl hcm hg
    go_wp2_with fail
    go_loopw [4, 9] (fun _ i wr => ∃ j : Nat, j ≤ zs.length ∧ i = .int .i64 j ∧ (∃ xs A C, PartR wr w.heap.size g cap zs.length l j xs A C ∧ ∀ i x, j ≤ i → zs[i]? = some x → xs[i]? = some (encE x)) ∧ Below w.heap.size w wr) (fun _ i _ => zs.length - (intOf i).toNat)
    case atStart => exact ⟨0, Nat.zero_le _, rfl, P0.out, HB.out⟩
    case round =>
      clear P0 HB
      obtain ⟨j, hj, rfl, ⟨xs, A, C, hp, hrest⟩, hb⟩ := hrel
      by_cases hlt : j < zs.length
      · have hx : zs[j]? = some zs[j] := List.getElem?_eq_getElem hlt
        have hlr : l[j]? = some zs[j].1.r := by rw [← HZ.out]; exact rowsE_at hx
        generalize zs[j] = x at hx hlr
        have c0 : wr.cell? ⟨g, j, none⟩ = some (.slice x.1.a x.1.r.length x.1.c) := (hp.cellAt hlt).trans (hrest j x (Nat.le_refl _) hx)
        have RD : Hid (Rd wr .i64 x.1.a x.1.r) := x.2.1.below hb
        have RL : Hid (x.1.r.length ≤ 17592186044416) := HR.out _ (List.mem_of_getElem? hlr)
        obtain ⟨⟨ea, er, ec⟩, egood⟩ := x
        simp only at c0 RD RL hlr
        have HX : Hid _ := hx
        have HLR : Hid _ := hlr
        have HP : Hid _ := hp
        have HBB : Hid _ := hb
        have HRE : Hid _ := hrest
        clear hx hlr hp hb hrest
        have T : Aside _ := fun w => libClone_any ea ec er w
        go_wp2_with fail
        refine (T.out _ RD.out RL.out).mono ?_
        rintro e w2 ⟨a2, c2', rfl, o2, b2⟩
        have HP2 : Hid _ := HP.out.below b2
        obtain ⟨y0, e0⟩ := HP2.out.some_ (o := j) hlt
        have hf := HP2.out.frozen j
        have R : Hid _ := HP.out.put hlt HLR.out b2 o2 HBB.out.size
        have T2 : Hid _ := (below_step HBB.out (Nat.le_refl _) b2).setCell (p := ⟨g, j, none⟩) hgw (.slice a2 er.length c2')
        clear o2 b2 c0 T
        go_wp2_with fail
        go_roundw
        case rel => exact ⟨j + 1, by omega, by go_num, ⟨_, _, _, R.out, fun i x hi hx => by rw [List.getElem?_set_ne (by omega)]; exact HRE.out i x (by omega) hx⟩, T2.out⟩
        case measure => simp [intOf]; omega
      · have e : j = zs.length := by omega
        subst e
        have HBB : Hid _ := hb; have HP : Hid _ := hp
        clear hb hp hrest
        have HZL : Hid _ := hzl
        go_wp2_with fail
        go_ret
        rw [HZL.out] at HP ⊢
        exact ⟨_, _, rfl, .inr ⟨_, _, _, _, rfl, HP.out⟩, by rw [← HZL.out]; exact CC.out.1, CC.out.2, HBB.out⟩
end Go.Proofs.YtfpbhedophlnkaaGreatDoor
namespace Go.Proofs.YtfpbhedophlnkaaGreatDoor
set_option linter.unusedSimpArgs false
set_option linter.unusedVariables false

/-- A strict weak order, by its test. -/
structure Wk {α : Type} (lt : α → α → Bool) : Prop where
  asym : ∀ x y, lt x y = true → lt y x = false
  trans : ∀ x y z, lt y x = false → lt z y = false → lt z x = false

section
variable {α : Type} {lt : α → α → Bool}
def eqv (lt : α → α → Bool) (x y : α) : Bool := !lt x y && !lt y x
/-- Each class of equals in the same order. -/
def SE (lt : α → α → Bool) (l m : List α) : Prop := ∀ x, l.filter (eqv lt x) = m.filter (eqv lt x)
/-- None stands before one that is less. -/
def Asc (lt : α → α → Bool) (l : List α) : Prop := l.Pairwise fun x y => lt y x = false

theorem Wk.irr (h : Wk lt) (x : α) : lt x x = false := by
  cases hx : lt x x with
  | false => rfl
  | true => have := h.asym x x hx; rw [hx] at this; exact this
theorem Wk.eqv_refl (h : Wk lt) (x : α) : eqv lt x x = true := by simp [eqv, h.irr]
theorem SE.refl (l : List α) : SE lt l l := fun _ => rfl
theorem SE.symm {l m : List α} (h : SE lt l m) : SE lt m l := fun x => (h x).symm
theorem SE.trans {l m n : List α} (h : SE lt l m) (k : SE lt m n) : SE lt l n := fun x => (h x).trans (k x)
theorem SE.app {a b c d : List α} (h : SE lt a b) (k : SE lt c d) : SE lt (a ++ c) (b ++ d) := fun x => by rw [List.filter_append, List.filter_append, h x, k x]
theorem SE.mem (hw : Wk lt) {l m : List α} (h : SE lt l m) {x : α} (hx : x ∈ l) : x ∈ m := by
  have h1 : x ∈ l.filter (eqv lt x) := List.mem_filter.2 ⟨hx, hw.eqv_refl x⟩
  rw [h x] at h1
  exact (List.mem_filter.1 h1).1
theorem SE.swap (hw : Wk lt) {X Y : List α} (h : ∀ x ∈ X, ∀ y ∈ Y, lt y x = true) : SE lt (X ++ Y) (Y ++ X) := by
  intro z
  rw [List.filter_append, List.filter_append]
  by_cases hX : X.filter (eqv lt z) = []
  · rw [hX]; simp
  · obtain ⟨x, hx⟩ := List.exists_mem_of_ne_nil _ hX
    have hx' := List.mem_filter.1 hx
    have hY : Y.filter (eqv lt z) = [] := by
      rw [List.filter_eq_nil_iff]
      intro y hy he
      have h1 := h x hx'.1 y hy
      have ex := hx'.2
      simp only [eqv, Bool.and_eq_true, Bool.not_eq_true'] at ex he
      have : lt y x = false := hw.trans x z y ex.1 he.2
      rw [h1] at this; cases this
    rw [hY]; simp
/-- Two that are sorted, with each class in the same order, are the same. -/
theorem Asc.uniq (hw : Wk lt) : ∀ {l m : List α}, Asc lt l → Asc lt m → SE lt l m → l = m
  | [], [], _, _, _ => rfl
  | [], y :: m, _, _, h => by have := h.symm.mem hw (x := y) (by simp); cases this
  | x :: l, [], _, _, h => by have := h.mem hw (x := x) (by simp); cases this
  | x :: l, y :: m, hl, hm, h => by
    have hl' := List.pairwise_cons.1 hl
    have hm' := List.pairwise_cons.1 hm
    have h1 : lt x y = false := by
      rcases List.mem_cons.1 (h.mem hw (x := x) (by simp)) with rfl | hx
      · exact hw.irr _
      · exact hm'.1 x hx
    have h2 : lt y x = false := by
      rcases List.mem_cons.1 (h.symm.mem hw (x := y) (by simp)) with rfl | hy
      · exact hw.irr _
      · exact hl'.1 y hy
    have hh := h x
    have ex : eqv lt x x = true := hw.eqv_refl x
    have ey : eqv lt x y = true := by simp [eqv, h1, h2]
    rw [List.filter_cons_of_pos ex, List.filter_cons_of_pos ey, List.cons.injEq] at hh
    obtain ⟨rfl, _⟩ := hh
    have ht : SE lt l m := by
      intro z
      have hz := h z
      rw [List.filter_cons, List.filter_cons] at hz
      split at hz
      · exact (List.cons.inj hz).2
      · exact hz
    rw [Asc.uniq hw hl'.2 hm'.2 ht]

theorem Asc.nil : Asc lt ([] : List α) := List.Pairwise.nil
theorem Asc.one (x : α) : Asc lt [x] := by simp [Asc]
/-- Two sorted ones, all of the first not above all of the second. -/
theorem Asc.app {l m : List α} (hl : Asc lt l) (hm : Asc lt m) (h : ∀ x ∈ l, ∀ y ∈ m, lt y x = false) : Asc lt (l ++ m) := List.pairwise_append.2 ⟨hl, hm, h⟩
theorem Asc.left {l m : List α} (h : Asc lt (l ++ m)) : Asc lt l := (List.pairwise_append.1 h).1
theorem Asc.right {l m : List α} (h : Asc lt (l ++ m)) : Asc lt m := (List.pairwise_append.1 h).2.1
theorem Asc.cross {l m : List α} (h : Asc lt (l ++ m)) {x y : α} (hx : x ∈ l) (hy : y ∈ m) : lt y x = false := (List.pairwise_append.1 h).2.2 x hx y hy
/-- One that is put behind all that are not above it. -/
theorem Asc.ins (hw : Wk lt) {U V : List α} {x : α} (h : Asc lt (U ++ V)) (hV : ∀ v ∈ V, lt x v = true) (hU : U = [] ∨ ∃ U' u, U = U' ++ [u] ∧ lt x u = false) : Asc lt (U ++ [x] ++ V) := by
  have hUx : ∀ u ∈ U, lt x u = false := by
    rcases hU with rfl | ⟨U', u, rfl, hu⟩
    · intro u h; cases h
    · intro v hv
      rcases List.mem_append.1 hv with h1 | h1
      · have h2 : lt u v = false := (h.left).cross h1 (by simp)
        exact hw.trans v u x h2 hu
      · simp at h1; subst h1; exact hu
  refine Asc.app (Asc.app h.left (Asc.one x) fun a ha y hy => ?_) h.right fun a ha v hv => ?_
  · simp at hy; subst hy; exact hUx a ha
  · rcases List.mem_append.1 ha with h1 | h1
    · exact h.cross h1 hv
    · simp at h1; subst h1; exact hw.asym _ _ (hV v hv)
theorem SE.ins (hw : Wk lt) {U V : List α} {x : α} (hV : ∀ v ∈ V, lt x v = true) : SE lt (U ++ V ++ [x]) (U ++ [x] ++ V) := by
  rw [List.append_assoc, List.append_assoc]
  exact SE.app (SE.refl U) (SE.swap hw fun v hv y hy => by simp at hy; subst hy; exact hV v hv)
/-- The two halves of a merge that goes by turning the middle. -/
theorem merge_parts (hw : Wk lt) {X1 X2 Y1 Y2 Z1 Z2 : List α} (hX : Asc lt (X1 ++ X2)) (hY : Asc lt (Y1 ++ Y2)) (h1 : ∀ x ∈ X2, ∀ y ∈ Y1, lt y x = true) (h2 : ∀ x ∈ X1, ∀ y ∈ Y2, lt y x = false)
    (a1 : Asc lt Z1) (a2 : Asc lt Z2) (e1 : SE lt Z1 (X1 ++ Y1)) (e2 : SE lt Z2 (X2 ++ Y2)) : Asc lt (Z1 ++ Z2) ∧ SE lt (Z1 ++ Z2) (X1 ++ X2 ++ (Y1 ++ Y2)) := by
  constructor
  · refine Asc.app a1 a2 fun x hx y hy => ?_
    rcases List.mem_append.1 (e1.mem hw hx) with k1 | k1 <;> rcases List.mem_append.1 (e2.mem hw hy) with k2 | k2
    · exact hX.cross k1 k2
    · exact h2 x k1 y k2
    · exact hw.asym _ _ (h1 y k2 x k1)
    · exact hY.cross k1 k2
  · refine (e1.app e2).trans ?_
    have := (SE.refl (lt := lt) X1).app ((SE.swap hw h1).symm.app (SE.refl Y2))
    simpa [List.append_assoc] using this
end

/-- Rows by their order. -/
def insL {α : Type} (lt : α → α → Bool) (x : α) : List α → List α
  | [] => [x]
  | y :: l => if lt x y then x :: y :: l else y :: insL lt x l
theorem insL_parts {α : Type} {lt : α → α → Bool} (x : α) : ∀ l : List α, ∃ U V, l = U ++ V ∧ insL lt x l = U ++ [x] ++ V ∧ (∀ u ∈ U, lt x u = false) ∧ (V = [] ∨ ∃ v V', V = v :: V' ∧ lt x v = true)
  | [] => ⟨[], [], rfl, rfl, (fun u h => by cases h), .inl rfl⟩
  | y :: l => by
    unfold insL
    split
    · exact ⟨[], y :: l, rfl, rfl, fun u h => (by cases h), .inr ⟨y, l, rfl, by assumption⟩⟩
    · obtain ⟨U, V, h1, h2, h3, h4⟩ := insL_parts (lt := lt) x l
      refine ⟨y :: U, V, by simp [h1], by simp [h2], fun u hu => ?_, h4⟩
      rcases List.mem_cons.1 hu with rfl | hu
      · simpa using ‹¬ lt x u = true›
      · exact h3 u hu
def sortL {α : Type} (lt : α → α → Bool) (l : List α) : List α := l.foldl (fun out x => insL lt x out) []
theorem insL_asc {α : Type} {lt : α → α → Bool} (hw : Wk lt) (x : α) (l : List α) (h : Asc lt l) : Asc lt (insL lt x l) ∧ SE lt (insL lt x l) (l ++ [x]) := by
  obtain ⟨U, V, rfl, h2, h3, h4⟩ := insL_parts (lt := lt) x l
  rw [h2]
  have hV : ∀ v ∈ V, lt x v = true := by
    rcases h4 with rfl | ⟨v, V', rfl, hv⟩
    · intro v h; cases h
    · intro u hu
      rcases List.mem_cons.1 hu with rfl | hu
      · exact hv
      · cases hx : lt x u with
        | true => rfl
        | false =>
          have h5 : lt u v = false := (List.pairwise_cons.1 h.right).1 u hu
          have := hw.trans v u x h5 hx
          rw [hv] at this; cases this
  refine ⟨h.ins hw hV ?_, (SE.ins hw hV).symm⟩
  rcases List.eq_nil_or_concat U with rfl | ⟨U', u, rfl⟩
  · exact .inl rfl
  · exact .inr ⟨U', u, by simp, h3 u (by simp)⟩
theorem sortL_asc {α : Type} {lt : α → α → Bool} (hw : Wk lt) (l : List α) : Asc lt (sortL lt l) ∧ SE lt (sortL lt l) l := by
  unfold sortL
  have key : ∀ (l acc : List α), Asc lt acc → Asc lt (l.foldl (fun out x => insL lt x out) acc) ∧ SE lt (l.foldl (fun out x => insL lt x out) acc) (acc ++ l) := by
    intro l
    induction l with
    | nil => intro acc h; exact ⟨h, by simp [SE]⟩
    | cons x l ih =>
      intro acc h
      have h1 := insL_asc hw x acc h
      have h2 := ih _ h1.1
      refine ⟨h2.1, h2.2.trans ?_⟩
      have := h1.2.app (SE.refl (lt := lt) l)
      simpa using this
  simpa using key l [] Asc.nil
theorem sortL_uniq {α : Type} {lt : α → α → Bool} (hw : Wk lt) {l m : List α} (h : Asc lt m) (k : SE lt m l) : m = sortL lt l :=
  Asc.uniq hw h (sortL_asc hw l).1 (k.trans (sortL_asc hw l).2.symm)
theorem sortL_len {α : Type} (lt : α → α → Bool) (l : List α) : (sortL lt l).length = l.length := by
  have hi : ∀ (x : α) (l : List α), (insL lt x l).length = l.length + 1 := by
    intro x l
    induction l with
    | nil => rfl
    | cons y l ih => unfold insL; split <;> simp [ih]
  have key : ∀ (l acc : List α), (l.foldl (fun out x => insL lt x out) acc).length = acc.length + l.length := by
    intro l
    induction l with
    | nil => intro acc; simp
    | cons x l ih => intro acc; rw [List.foldl_cons, ih, hi]; simp; omega
  have := key l []
  unfold sortL
  simpa using this
end Go.Proofs.YtfpbhedophlnkaaGreatDoor
