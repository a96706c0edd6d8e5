/-
  What drawing a plan gives: words, and plain facts. No walk. Contract of spec.l02DrawPlan: some nodes, in a row of the draw's own, and a width. For every cursor. Rows of nodes joined by the draw, and what the draw leaves as it was. No walk of its own.
-/
import Derived.Test.YtanfllednlpbaaaGreatM3x
import Derived.Test.YtanfllednlpbaaaGreatM12x
import Derived.Deep.RegionWith
import Derived.BigRegion
namespace Go.Proofs.YtanfllednlpbaaaGreat
open Go.RowKit
set_option linter.unusedSimpArgs false
set_option linter.unusedVariables false
def Bn : Nat → Nat
  | 0 => 1
  | 1 => 1
  | n + 2 => 3 + Bn (n + 1) + Bn n
def Vn : Nat → Nat
  | 0 => 3
  | 1 => 3
  | n + 2 => Vn (n + 1) + Vn n
theorem Bn_pos : ∀ n, 1 ≤ Bn n
  | 0 => by simp [Bn]
  | 1 => by simp [Bn]
  | n + 2 => by simp [Bn]; omega
theorem Vn_ge : ∀ n, 3 ≤ Vn n
  | 0 => by simp [Vn]
  | 1 => by simp [Vn]
  | n + 2 => by have := Vn_ge (n + 1); simp [Vn]; omega
theorem BV7 (n : Nat) (h : n ≤ 7) : Bn n ≤ 81 ∧ Vn n ≤ 63 := by
  have : n = 0 ∨ n = 1 ∨ n = 2 ∨ n = 3 ∨ n = 4 ∨ n = 5 ∨ n = 6 ∨ n = 7 := by omega
  rcases this with rfl | rfl | rfl | rfl | rfl | rfl | rfl | rfl <;> decide
def PlanP (w : World) (g : Nat) (xo : Option Addr) (d : Nat) (code : List Int) (n : Nat) (e : Ending) (w' : World) : Prop :=
  ∃ (l : List Nd) (v : Int) (b c : Nat) (xs : List Value) (A : Nat → Option Addr) (C : Nat → Nat), e = .returned (.tuple #[.slice (some ⟨b, 0, none⟩) l.length c, .int .i64 v]) ∧ 1 ≤ l.length ∧ l.length ≤ Bn n ∧ (∀ m ∈ l, m.cols.length ≤ 3) ∧ 1 ≤ v ∧ v ≤ Vn n ∧ PartN w' w.heap.size b c l.length l l.length xs A C ∧ Drew w g xo d code w'
theorem PartN.draw {w w' : World} {base b c m : Nat} {l : List Nd} {j : Nat} {xs : List Value} {A : Nat → Option Addr} {C : Nat → Nat} {g : Nat} (h : PartN w base b c m l j xs A C) (hg : w.grownBy w' (some g)) (hlt : g < base) : PartN w' base b c m l j xs A C :=
  ⟨owns_keep h.own (hg.block b (owns_block h.own).2 (by have := (owns_block h.own).1; simp; omega)), h.cells, fun i n hi hn => (h.cols i n hi hn).grown hg (fun a ha => by have := ((h.cols i n hi hn).lt a ha).1; simp; omega), h.name, h.row, h.apart⟩
theorem Drew.below {w w1 w2 : World} {g : Nat} {xo : Option Addr} {d : Nat} {code : List Int} (h : Drew w g xo d code w1) (hb : Below w1.heap.size w1 w2) : Drew w g xo d code w2 := ⟨h.1.keepB hb, grownBy_below h.2 hb⟩
theorem Drew.next {w w1 w2 : World} {g : Nat} {xo : Option Addr} {d : Nat} {code : List Int} (h : Drew w g xo d code w1) (k : Drew w1 g xo d code w2) : Drew w g xo d code w2 := ⟨k.1, grownBy_trans h.2 k.2⟩
theorem part_one (W : World) (base : Nat) (hb : base ≤ W.heap.size) (n : Nd) (a : Option Addr) (c : Nat) (ho : Own W base 3 .i64 a c n.cols) (hs : n.name.size ≤ maxLen) :
    ∃ xs A C, PartN (W.alloc (.cells (ndCells n a c).toArray 39)) base W.heap.size 1 [n].length [n] [n].length xs A C := by
  have hal : ∀ x, a = some x → x.block < W.heap.size := fun x hx => (ho.lt x hx).2
  refine ⟨ndCells n a c, fun _ => a, fun _ => c, ?_, ?_, ?_, ?_, ?_, ?_⟩
  · exact ⟨rfl, .inr ⟨W.heap.size, 1, (ndCells n a c).toArray, rfl, hb, heap_alloc_new W _, Nat.le_refl _, by unfold maxLen; omega, rfl, rfl⟩⟩
  · intro i m hi hm
    obtain rfl : i = 0 := by simp at hi; omega
    simp at hm; subst hm
    exact ⟨rfl, rfl, rfl, rfl, rfl, rfl, rfl⟩
  · intro i m hi hm
    obtain rfl : i = 0 := by simp at hi; omega
    simp at hm; subst hm
    exact ho.below ((Below.refl _ W).alloc (Nat.le_refl _) _)
  · intro i m hi hm
    obtain rfl : i = 0 := by simp at hi; omega
    simp at hm; subst hm
    exact hs
  · intro i x _ _ hx
    have := hal x hx
    omega
  · intro i k x y hi hk _ _ hik
    simp at hi hk
    omega
theorem rd_one (W : World) (n : Nd) (a : Option Addr) (c : Nat) (hr : Rd W .i64 a n.cols) (hc : n.cols.length ≤ c) (hm : c ≤ maxLen) (hs : n.name.size ≤ maxLen) : RdN (W.alloc (.cells (ndCells n a c).toArray 39)) (some ⟨W.heap.size, 0, none⟩) [n] := by
  refine .inr ⟨W.heap.size, 0, rfl, fun i m hi => ?_⟩
  have h0 : i = 0 := by have := (List.getElem?_eq_some_iff.1 hi).1; simp at this; omega
  subst h0
  simp at hi; subst hi
  have key := cells_new W n a c
  exact ⟨a, c, key 0 _ rfl, key 1 _ rfl, key 2 _ rfl, key 3 _ rfl, key 4 _ rfl, key 5 _ rfl, key 6 _ rfl, hr.below ((Below.refl _ W).alloc (Nat.le_refl _) _), hc, hm, hs⟩
theorem joined2_any (W : World) (t : TypeId) (a0 a1 : Option Addr) (n0 c0 n1 c1 : Nat) (l0 l1 : List Nd) (e0 : n0 = l0.length) (e1 : n1 = l1.length) (h0 : RdN W a0 l0) (h1 : RdN W a1 l1) (s0 : Small l0) (s1 : Small l1) (J : List Nd) (hJ : l0 ++ l1 = J) :
    Calls Tryz.prog 111 #[.slice (some ⟨W.heap.size, 0, none⟩) 2 2] (W.alloc (.cells #[.slice a0 n0 c0, .slice a1 n1 c1] t))
      (MadeP (W.alloc (.cells #[.slice a0 n0 c0, .slice a1 n1 c1] t)) J) := by
  subst e0 e1 hJ
  have hb : Below W.heap.size W (W.alloc (.cells #[.slice a0 l0.length c0, .slice a1 l1.length c1] t)) := (Below.refl _ _).alloc (Nat.le_refl _) _
  have e : srcs [(a0, c0, l0), (a1, c1, l1)] = l0 ++ l1 := by simp [srcs]
  have := joined_any W.heap.size 2 [(a0, c0, l0), (a1, c1, l1)] (W.alloc (.cells #[.slice a0 l0.length c0, .slice a1 l1.length c1] t)) (by simp) ?_ ?_ ?_
  · rw [e] at this; exact this
  · intro i q hq
    match i, hq with
    | 0, hq => cases hq; exact ⟨by rw [World.cell?_alloc_new]; rfl, h0.below hb⟩
    | 1, hq => cases hq; exact ⟨by rw [World.cell?_alloc_new]; rfl, h1.below hb⟩
  · intro q hq
    simp at hq
    rcases hq with rfl | rfl
    · exact s0
    · exact s1
  · rw [e]; have := s0.1; have := s1.1; simp; omega
theorem below_grown {w w' : World} {row : Option Nat} (h : Below w.heap.size w w') : w.grownBy w' row := ⟨h.os, h.tape, h.output, h.size, fun i hi _ => h.block i hi⟩
theorem scan_end {w w2 W : World} {g : Nat} {xo : Option Addr} {d : Nat} {code : List Int} {n : Nat} (D2 : Drew w g xo d code w2) (hW : Below w2.heap.size w2 W) (nd : Nd) (hcols : nd.cols = []) (hname : nd.name.size ≤ 100) (v : Int) (h1 : 1 ≤ v) (h3 : v ≤ 3) (e : Ending) (b : Nat) (hb : b = W.heap.size) (he : e = .returned (.tuple #[.slice (some ⟨b, 0, none⟩) 1 1, .int .i64 v])) :
    PlanP w g xo d code n e (W.alloc (.cells (ndCells nd none 0).toArray 39)) := by
  subst hb
  obtain ⟨xs, A, C, hp⟩ := part_one W w.heap.size (Nat.le_trans D2.2.size hW.size) nd none 0 (by rw [hcols]; exact Own.none_) (by unfold maxLen; omega)
  have := Bn_pos n
  have := Vn_ge n
  exact ⟨[nd], v, W.heap.size, 1, xs, A, C, he, by simp, by simpa using Bn_pos n, by intro m hm; simp at hm; subst hm; rw [hcols]; simp, h1, by omega, hp, D2.below (hW.alloc hW.size _)⟩
theorem pick_kind (g : Nat) (xo : Option Addr) (d : Nat) (code : List Int) (w : World) (hc : Cur w g xo d code) (hl : code.length ≤ 1048577) :
    Calls Tryz.prog 69 #[.pointer (some ⟨g, 0, none⟩), .slice (some ⟨w.heap.size, 0, none⟩) 10 10] (w.alloc (.cells #[.int .i64 0, .int .i64 1, .int .i64 1, .int .i64 1, .int .i64 2, .int .i64 3, .int .i64 4, .int .i64 5, .int .i64 6, .int .i64 7] 3))
      fun e w' => ∃ z : Int, 0 ≤ z ∧ z ≤ 7 ∧ e = .returned (.int .i64 z) ∧ Drew w g xo d code w' := by
  refine (l01PickInt_n g xo d code w.heap.size 10 10 [0, 1, 1, 1, 2, 3, 4, 5, 6, 7] _ (hc.keepB ((Below.refl _ _).alloc (Nat.le_refl _) _)) hl (row_cells w 3 [0, 1, 1, 1, 2, 3, 4, 5, 6, 7]) (by have := hc.lt; omega) (by simp) (by simp) rfl).mono ?_
  rintro e w' ⟨z, hz, rfl, hc2, hg2⟩
  simp at hz
  exact ⟨z, by omega, by omega, rfl, hc2, grownBy_trans (below_grown ((Below.refl w.heap.size w).alloc (Nat.le_refl _) _)) hg2⟩
theorem below_d (g : Nat) (xo : Option Addr) (d : Nat) (code : List Int) (n : Int) (w : World) (hc : Cur w g xo d code) (hl : code.length ≤ 1048577) (h0 : 1 ≤ n) (h1 : n ≤ 256) :
    Calls Tryz.prog 68 #[.pointer (some ⟨g, 0, none⟩), .int .i64 n] w fun e w' => ∃ z : Int, 0 ≤ z ∧ z ≤ n - 1 ∧ e = .returned (.int .i64 z) ∧ Drew w g xo d code w' := by
  refine (l01Below_any g xo d code n w hc hl h0 h1).mono ?_
  rintro e w' ⟨z, rfl, h2, h3, hc2, hg2⟩
  exact ⟨z, h2, h3, rfl, hc2, hg2⟩
set_option maxRecDepth 100000 in
set_option maxHeartbeats 2000000 in
theorem plan0 (n : Nat) (deep : Int) (g : Nat) (xo : Option Addr) (d : Nat) (code : List Int) (hl : code.length ≤ 1048577) (w : World) (hc : Cur w g xo d code) (hd : deep ≤ 1) :
    Calls Tryz.prog 74 #[.pointer (some ⟨g, 0, none⟩), .int .i64 deep] w (PlanP w g xo d code n) := by
  have PK := Lib.hid (pick_kind g xo d code w hc hl)
  have hglt := hc.lt
  have HL := Lib.hid hl; clear hc hl
  go_enter Tryz.func74, Tryz.ntmps74
  go_wp2_with fail
  refine PK.out.mono ?_
  rintro e w1 ⟨z, hz0, hz7, rfl, d1⟩
  have D1 := Lib.hid d1; clear d1
  go_wp2_with fail
  refine (below_d g xo d code 3 _ D1.out.1 HL.out (by omega) (by omega)).mono ?_
  rintro e w2 ⟨y, hy0, hy2, rfl, d2⟩
  have D2 := Lib.hid (D1.out.next d2); clear d2
  have hy : y = 0 ∨ y = 1 ∨ y = 2 := by omega
  rcases hy with rfl | rfl | rfl
  · go_wp2_with fail
    go_region
    go_wp2_with fail
    go_ret2
    exact scan_end (W := ((w2.alloc (.cells #[.string ⟨#[116, 49]⟩, .string ⟨#[116, 50]⟩, .string ⟨#[116, 51]⟩] 9)).alloc (.cells #[.int .i64 2, .int .i64 3, .int .i64 1] 3)).drew) D2.out ((((Below.refl _ w2).alloc (Nat.le_refl _) _).alloc (by simp) _).drew) ⟨0, ⟨#[116, 49]⟩, 0, 0, 0, false, []⟩ rfl (show (2 : Nat) ≤ 100 by omega) 2 (by omega) (by omega) _ (w2.heap.size + 1 + 1) (by simp) rfl
  · go_wp2_with fail
    go_region
    go_wp2_with fail
    go_ret2
    exact scan_end (W := ((w2.alloc (.cells #[.string ⟨#[116, 49]⟩, .string ⟨#[116, 50]⟩, .string ⟨#[116, 51]⟩] 9)).alloc (.cells #[.int .i64 2, .int .i64 3, .int .i64 1] 3)).drew) D2.out ((((Below.refl _ w2).alloc (Nat.le_refl _) _).alloc (by simp) _).drew) ⟨0, ⟨#[116, 50]⟩, 0, 0, 0, false, []⟩ rfl (show (2 : Nat) ≤ 100 by omega) 3 (by omega) (by omega) _ (w2.heap.size + 1 + 1) (by simp) rfl
  · go_wp2_with fail
    go_region
    go_wp2_with fail
    go_ret2
    exact scan_end (W := ((w2.alloc (.cells #[.string ⟨#[116, 49]⟩, .string ⟨#[116, 50]⟩, .string ⟨#[116, 51]⟩] 9)).alloc (.cells #[.int .i64 2, .int .i64 3, .int .i64 1] 3)).drew) D2.out ((((Below.refl _ w2).alloc (Nat.le_refl _) _).alloc (by simp) _).drew) ⟨0, ⟨#[116, 51]⟩, 0, 0, 0, false, []⟩ rfl (show (2 : Nat) ≤ 100 by omega) 1 (by omega) (by omega) _ (w2.heap.size + 1 + 1) (by simp) rfl
theorem joined3_at (bl : Nat) (W : World) (hbl : bl = W.heap.size) (t : TypeId) (a0 a1 a2 : Option Addr) (n0 c0 n1 c1 n2 c2 : Nat) (l0 l1 l2 : List Nd) (e0 : n0 = l0.length) (e1 : n1 = l1.length) (e2 : n2 = l2.length) (h0 : RdN W a0 l0) (h1 : RdN W a1 l1) (h2 : RdN W a2 l2) (s0 : Small l0) (s1 : Small l1) (s2 : Small l2) (J : List Nd) (hJ : l0 ++ l1 ++ l2 = J) :
    Calls Tryz.prog 111 #[.slice (some ⟨bl, 0, none⟩) 3 3] (W.alloc (.cells #[.slice a0 n0 c0, .slice a1 n1 c1, .slice a2 n2 c2] t))
      fun e w' => ∃ b c xs A C, e = .returned (.slice (some ⟨b, 0, none⟩) J.length c) ∧ PartN w' W.heap.size b c J.length J J.length xs A C ∧ Below W.heap.size W w' := by
  subst hbl
  refine (joined3_any W t a0 a1 a2 n0 c0 n1 c1 n2 c2 l0 l1 l2 e0 e1 e2 h0 h1 h2 s0 s1 s2 J hJ).mono ?_
  rintro e w' ⟨b, c, xs, A, C, he, hp, hb⟩
  exact ⟨b, c, xs, A, C, he, hp.base_le (by simp), ((Below.refl _ W).alloc (Nat.le_refl _) _).trans (hb.mono (by simp))⟩
theorem joined2_at (bl : Nat) (W : World) (hbl : bl = W.heap.size) (t : TypeId) (a0 a1 : Option Addr) (n0 c0 n1 c1 : Nat) (l0 l1 : List Nd) (e0 : n0 = l0.length) (e1 : n1 = l1.length) (h0 : RdN W a0 l0) (h1 : RdN W a1 l1) (s0 : Small l0) (s1 : Small l1) (J : List Nd) (hJ : l0 ++ l1 = J) :
    Calls Tryz.prog 111 #[.slice (some ⟨bl, 0, none⟩) 2 2] (W.alloc (.cells #[.slice a0 n0 c0, .slice a1 n1 c1] t))
      fun e w' => ∃ b c xs A C, e = .returned (.slice (some ⟨b, 0, none⟩) J.length c) ∧ PartN w' W.heap.size b c J.length J J.length xs A C ∧ Below W.heap.size W w' := by
  subst hbl
  refine (joined2_any W t a0 a1 n0 c0 n1 c1 l0 l1 e0 e1 h0 h1 s0 s1 J hJ).mono ?_
  rintro e w' ⟨b, c, xs, A, C, he, hp, hb⟩
  exact ⟨b, c, xs, A, C, he, hp.base_le (by simp), ((Below.refl _ W).alloc (Nat.le_refl _) _).trans (hb.mono (by simp))⟩
theorem rd_one_at (b : Nat) (W : World) (hb : b = W.heap.size) (n : Nd) (hc : n.cols = []) (hs : n.name.size ≤ 100) : RdN (W.alloc (.cells (ndCells n none 0).toArray 39)) (some ⟨b, 0, none⟩) [n] := by
  subst hb
  exact rd_one W n none 0 (by rw [hc]; exact .inl rfl) (by rw [hc]; simp) (by unfold maxLen; omega) (by unfold maxLen; omega)
theorem rd_keep (b bi : Nat) (W : World) (hb : b = W.heap.size + 1) (hbi : bi = W.heap.size) : RdN ((W.alloc (.cells #[.int .i64 0] 3)).alloc (.cells (ndCells ⟨2, ⟨#[]⟩, 0, 0, 0, false, [0]⟩ (some ⟨bi, 0, none⟩) 1).toArray 39)) (some ⟨b, 0, none⟩) [⟨2, ⟨#[]⟩, 0, 0, 0, false, [0]⟩] := by
  subst hb hbi
  have := rd_one (W.alloc (.cells #[.int .i64 0] 3)) ⟨2, ⟨#[]⟩, 0, 0, 0, false, [0]⟩ (some ⟨W.heap.size, 0, none⟩) 1 (.inr ⟨W.heap.size, 0, rfl, fun i hi => by
    obtain rfl : i = 0 := by simp at hi; omega
    rw [World.cell?_alloc_new]; rfl⟩) (by simp) (by unfold maxLen; omega) (by unfold maxLen; exact Nat.zero_le _)
  simpa using this
theorem small_keep : Small [⟨2, ⟨#[]⟩, 0, 0, 0, false, [0]⟩] := ⟨by simp, fun m hm => by simp at hm; subst hm; simp⟩
theorem small_cons {n : Nd} {l : List Nd} (hn : n.cols.length ≤ 3) (h : Small l) (hl : l.length ≤ 1000) : Small ([n] ++ l) := ⟨by simp; omega, fun m hm => by
  rcases List.mem_append.1 hm with hm | hm
  · simp at hm; subst hm; omega
  · exact h.2 m hm⟩
theorem small_one {n : Nd} (hc : n.cols = []) : Small [n] := ⟨by simp, fun m hm => by simp at hm; subst hm; rw [hc]; simp⟩
theorem small_plan {l : List Nd} {n : Nat} (h7 : n ≤ 7) (h1 : l.length ≤ Bn n) (h2 : ∀ m ∈ l, m.cols.length ≤ 3) : Small l := ⟨by have := (BV7 n h7).1; omega, fun m hm => by have := h2 m hm; omega⟩
theorem PartN.keep2 {w w' : World} {base b c m : Nat} {l : List Nd} {j : Nat} {xs : List Value} {A : Nat → Option Addr} {C : Nat → Nat} (h : PartN w base b c m l j xs A C) (hk : ∀ i, base ≤ i → i < w.heap.size → w'.heap[i]? = w.heap[i]?) : PartN w' base b c m l j xs A C :=
  ⟨owns_keep h.own (hk b (owns_block h.own).1 (owns_block h.own).2), h.cells, fun i n hi hn => (h.cols i n hi hn).keep (fun a ha hlt => hk a.block ((h.cols i n hi hn).lt a ha).1 hlt), h.name, h.row, h.apart⟩
def AG (B1 B2 : Nat) (w w' : World) : Prop := ∀ i, B1 ≤ i → i < B2 → w'.heap[i]? = w.heap[i]?
theorem AG.below {B1 B2 : Nat} {w w1 w2 : World} (h : AG B1 B2 w w1) (hb : Below w1.heap.size w1 w2) (hB : B2 ≤ w1.heap.size) : AG B1 B2 w w2 := fun i h1 h2 => (hb.block i (by omega)).trans (h i h1 h2)
theorem AG.grown {B1 B2 g : Nat} {w w1 w2 : World} (h : AG B1 B2 w w1) (hg : w1.grownBy w2 (some g)) (hgB : g < B1) (hB : B2 ≤ w1.heap.size) : AG B1 B2 w w2 := fun i h1 h2 => (hg.block i (by omega) (by simp; omega)).trans (h i h1 h2)
theorem AG.set {B1 B2 nb o : Nat} {v : Value} {w w1 : World} (h : AG B1 B2 w w1) (hB : B2 ≤ nb) : AG B1 B2 w (w1.setCell ⟨nb, o, none⟩ v) := fun i h1 h2 => (Below.heap_setCell w1 ⟨nb, o, none⟩ v i (by simp; omega)).trans (h i h1 h2)
theorem drew_set {w w3 : World} {g : Nat} {xo : Option Addr} {d : Nat} {code : List Int} {nb o : Nat} {v : Value} (h0 : Cur w g xo d code) (h : Drew w g xo d code w3) (hnb : w.heap.size ≤ nb) : Drew w g xo d code (w3.setCell ⟨nb, o, none⟩ v) := by
  have hk : ∀ i, i < w.heap.size → (w3.setCell ⟨nb, o, none⟩ v).heap[i]? = w3.heap[i]? := fun i hi => Below.heap_setCell w3 ⟨nb, o, none⟩ v i (by simp; omega)
  refine ⟨h.1.keepI h0.lt h0.code_lt hk, ⟨h.2.os, h.2.tape, h.2.output, by simpa [World.setCell] using h.2.size, fun i hi hne => (hk i hi).trans (h.2.block i hi hne)⟩⟩
end Go.Proofs.YtanfllednlpbaaaGreat
