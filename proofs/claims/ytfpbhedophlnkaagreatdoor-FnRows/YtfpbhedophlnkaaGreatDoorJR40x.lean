/-
  Contract of spec.l02Joined: some lists of nodes, one behind the other, in memory of the call's own. For every slice of slices of nodes. Contract of spec.PutPart. For all slices of nodes and every number. What drawing a plan gives: words, and plain facts. No walk. Contract of spec.l02DrawPlan: some nodes, in a row of the draw's own, and a width. For every cursor.
-/
import Derived.Test.YtfpbhedophlnkaaGreatDoorJR39x
import Derived.Test.YtfpbhedophlnkaaGreatDoorJR29x
import Derived.Deep.RegionWith
import Derived.BigRegion
namespace Go.Proofs.YtfpbhedophlnkaaGreatDoor
open Go.RowKit
set_option linter.unusedSimpArgs false
set_option linter.unusedVariables false

/-- The nodes of some lists, one list behind the other. -/
def srcs (L : List (Option Addr × Nat × List Nd)) : List Nd := L.flatMap (·.2.2)
theorem srcs_take {L : List (Option Addr × Nat × List Nd)} {j : Nat} {q : Option Addr × Nat × List Nd} (h : L[j]? = some q) : srcs (L.take (j + 1)) = srcs (L.take j) ++ q.2.2 := by
  have hj := some_lt h
  rw [List.take_succ_eq_append_getElem hj]
  have : L[j] = q := by rw [List.getElem?_eq_getElem hj] at h; injection h
  rw [this]
  simp [srcs]
theorem srcs_le (L : List (Option Addr × Nat × List Nd)) (j : Nat) : (srcs (L.take j)).length ≤ (srcs L).length := by
  have : srcs L = srcs (L.take j) ++ srcs (L.drop j) := by
    have h := congrArg srcs (List.take_append_drop j L)
    unfold srcs at h ⊢
    rw [List.flatMap_append] at h
    exact h.symm
  rw [this, List.length_append]; omega

def JnRel (w : World) (L : List (Option Addr × Nat × List Nd)) (wr : World) (s i : Value) : Prop :=
  ∃ (j g cc : Nat), j ≤ L.length ∧ i = .int .i64 j ∧ s = .slice (some ⟨g, 0, none⟩) (srcs (L.take j)).length cc ∧ (∃ xs A C, PartN wr w.heap.size g cc (srcs (L.take j)).length (srcs (L.take j)) (srcs (L.take j)).length xs A C) ∧ Below w.heap.size w wr

theorem join_next {w wr W3 w4 : World} {L : List (Option Addr × Nat × List Nd)} {j g cc : Nat} {q : Option Addr × Nat × List Nd} {xs : List Value} {A : Nat → Option Addr} {C : Nat → Nat} {g2 c2 : Nat} {xs2 : List Value} {A2 : Nat → Option Addr} {C2 : Nat → Nat} {v' : Value}
    (hq : L[j]? = some q) (hp : PartN wr w.heap.size g cc (srcs (L.take j)).length (srcs (L.take j)) (srcs (L.take j)).length xs A C) (hw : Below w.heap.size w wr) (hb : Below wr.heap.size wr W3) (hp2 : PartN W3 wr.heap.size g2 c2 q.2.2.length q.2.2 q.2.2.length xs2 A2 C2)
    (ho : w4.ownsRow w.heap.size 92 7 v' ((srcs (L.take j)).length + q.2.2.length) (xs ++ allCells q.2.2 A2 C2)) (hg : W3.grownBy w4 (some g)) (hblk : v'.ownBlock = some g ∨ v'.ownBlock = some W3.heap.size) :
    JnRel w L w4 v' (.int .i64 ((j : Int) + 1)) := by
  rw [← hp2.xs_eq] at ho
  obtain ⟨g', c4, A', C', rfl, hP⟩ := join_step hp hb hp2 hw.size ho hg hblk
  have hj := some_lt hq
  refine ⟨j + 1, g', c4, hj, by simp, ?_, ⟨xs ++ xs2, A', C', ?_⟩, ?_⟩
  · rw [srcs_take hq, List.length_append]
  · rw [srcs_take hq]; exact hP
  · exact (below_step hw (Nat.le_refl _) hb).grown hg (Nat.le_trans hw.size hb.size) (by intro g' hg'; cases hg'; exact (owns_block hp.own).1)

set_option maxRecDepth 100000 in
set_option maxHeartbeats 1600000 in
theorem joined_any (bl cL : Nat) (L : List (Option Addr × Nat × List Nd)) (w : World) (hL : L.length ≤ 1000)
    (hcell : ∀ i q, L[i]? = some q → w.cell? ⟨bl, i, none⟩ = some (.slice q.1 q.2.2.length q.2.1) ∧ RdN w q.1 q.2.2)
    (hsm : ∀ q ∈ L, q.2.2.length ≤ 1048576 ∧ ∀ n ∈ q.2.2, n.cols.length ≤ 1048576) (htot : (srcs L).length ≤ 8388608) :
    Calls Tryz.prog 160 #[.slice (some ⟨bl, 0, none⟩) L.length cL] w (MadeP w (srcs L)) := by
  have HC := Lib.hid hcell; have HS := Lib.hid hsm; clear hcell hsm
  have P0 := Lib.hid (show JnRel w L (w.alloc (.cells #[] 92)) (.slice (some ⟨w.heap.size, 0, none⟩) 0 0) (.int .i64 0) from
    ⟨0, w.heap.size, 0, Nat.zero_le _, rfl, rfl, ⟨[], fun _ => none, fun _ => 0, ⟨⟨rfl, .inr ⟨w.heap.size, 0, #[], rfl, Nat.le_refl _, heap_alloc_new w _, Nat.le_refl _, Nat.zero_le _, rfl, rfl⟩⟩, fun i n hi => absurd hi (Nat.not_lt_zero _), fun i n hi => absurd hi (Nat.not_lt_zero _), fun i n hi => absurd hi (Nat.not_lt_zero _), fun i x hi => absurd hi (Nat.not_lt_zero _), fun i k x y hi => absurd hi (Nat.not_lt_zero _)⟩⟩, (Below.refl w.heap.size w).alloc (Nat.le_refl _) (.cells #[] 92)⟩)
  go_enter Tryz.func160, Tryz.ntmps160
  go_wp2_with fail
  go_loopw [3, 4] (fun s i wr => JnRel w L wr s i) (fun _ i _ => L.length - (intOf i).toNat)
  case atStart => exact P0.out
  case round =>
    clear P0
    obtain ⟨j, g, cc, hj, rfl, rfl, ⟨xs, A, C, hp⟩, hb⟩ := hrel
    have HP := Lib.hid hp; have HB := Lib.hid hb
    have hle := srcs_le L j
    clear hp hb
    by_cases hlt : j < L.length
    · have hq0 : L[j]? = some L[j] := List.getElem?_eq_getElem hlt
      generalize L[j] = q at hq0
      have HQ := Lib.hid hq0
      obtain ⟨hc, hrd⟩ := HC.out j q hq0
      obtain ⟨hq1, hq2⟩ := HS.out q (List.mem_of_getElem? hq0)
      have hcw := (HB.out.cell (p := ⟨bl, j, none⟩) (World.block_lt_of_cell? w ⟨bl, j, none⟩ hc)).trans hc
      have RD := Lib.hid (hrd.below HB.out); have Q2 := Lib.hid hq2
      obtain ⟨qa, qc, ql⟩ := q
      simp only at hcw hq1 RD Q2
      clear hq0 hc hrd hq2
      generalize hl0 : (srcs (L.take j)).length = n0 at hle
      have HL0 := Lib.hid hl0; clear hl0
      go_wp2_with fail
      refine (l02CopyP_any qa qc ql _ RD.out hq1 Q2.out).mono ?_
      rintro e w2 ⟨g2, c2, xs2, A2, C2, rfl, p2, b2⟩
      have P2 := Lib.hid p2; have B2 := Lib.hid b2
      have OW := Lib.hid (show w2.ownsRow w.heap.size 92 7 (.slice (some ⟨g, 0, none⟩) n0 cc) n0 xs by have := (HP.out.below b2).own; rw [HL0.out] at this; exact this)
      have SZ : w.heap.size ≤ w2.heap.size := Nat.le_trans HB.out.size b2.size
      clear p2 b2
      go_wp2_with (at_builtin; go_must (refine wpList_appendNs _ rfl (.tmp 12) (.tmp 17) 25 rfl w.heap.size Tryz.underlying25 Tryz.infoNode rfl _ n0 xs rfl OW.out g2 0 _ c2 ql A2 C2 rfl rfl (fun i n hi => P2.out.at_ (some_lt hi) (some_lt hi) hi) (by omega) SZ ?_; intro v' w4 o4 g4 k4; have J := Lib.hid (join_next HQ.out HP.out HB.out B2.out P2.out (by rw [HL0.out]; exact o4) g4 k4); clear o4 g4 k4))
      go_roundw
      case rel => exact J.out
      case measure => simp [intOf]; omega
    · obtain rfl : j = L.length := by omega
      have E := Lib.hid (show srcs (L.take L.length) = srcs L by rw [List.take_length])
      go_wp2_with fail
      go_ret
      have hp := HP.out
      rw [E.out] at hp
      exact ⟨_, _, _, _, _, by rw [E.out]; rfl, hp, HB.out⟩
end Go.Proofs.YtfpbhedophlnkaaGreatDoor
namespace Go.Proofs.YtfpbhedophlnkaaGreatDoor
open Go.RowKit
set_option linter.unusedSimpArgs false
set_option linter.unusedVariables false

/-- The call returned a slice of nodes of its own beside a bool, and nothing that was there has turned. -/
def MadePN (w : World) (l : List Nd) (ok : Bool) (en : Ending) (w' : World) : Prop :=
  ∃ ao c, en = .returned (.tuple #[.slice ao l.length c, .bool ok]) ∧ OwnN w' w.heap.size ao c l ∧ Below w.heap.size w w'
/-- A plan with another part in the place of one of its own. -/
def joinN (p : List Nd) (k : Int) (q : List Nd) : List Nd := p.take k.toNat ++ q ++ p.drop (endOfN p k).toNat
def putPB (p : List Nd) (k : Int) (q : List Nd) : Bool := goodB p k && planB q && planB (joinN p k q)
def putPN (p : List Nd) (k : Int) (q : List Nd) : List Nd := if putPB p k q = true then joinN p k q else p
theorem put_no1 {p : List Nd} {k : Int} {q : List Nd} (h : goodB p k = false) : putPB p k q = false ∧ putPN p k q = p := by
  have : putPB p k q = false := by simp [putPB, h]
  exact ⟨this, by unfold putPN; rw [if_neg (by simp [this])]⟩
theorem put_no2 {p : List Nd} {k : Int} {q : List Nd} (h : planB q = false) : putPB p k q = false ∧ putPN p k q = p := by
  have : putPB p k q = false := by simp [putPB, h]
  exact ⟨this, by unfold putPN; rw [if_neg (by simp [this])]⟩
theorem put_no3 {p : List Nd} {k : Int} {q : List Nd} (h : planB (joinN p k q) = false) : putPB p k q = false ∧ putPN p k q = p := by
  have : putPB p k q = false := by simp [putPB, h]
  exact ⟨this, by unfold putPN; rw [if_neg (by simp [this])]⟩
theorem put_yes {p : List Nd} {k : Int} {q : List Nd} (h1 : goodB p k = true) (h2 : planB q = true) (h3 : planB (joinN p k q) = true) : putPB p k q = true ∧ putPN p k q = joinN p k q := by
  have : putPB p k q = true := by simp [putPB, h1, h2, h3]
  exact ⟨this, by unfold putPN; rw [if_pos this]⟩
theorem RdN.take {w : World} {ao : Option Addr} {l : List Nd} (h : RdN w ao l) (m : Nat) : RdN w ao (l.take m) := by
  rcases h with rfl | ⟨b, off, rfl, hc⟩
  · left; simp
  · refine .inr ⟨b, off, rfl, fun i n hi => hc i n ?_⟩
    rw [List.getElem?_take] at hi
    split at hi
    · exact hi
    · cases hi
theorem RdN.drop {w : World} {b off : Nat} {l : List Nd} (h : RdN w (some ⟨b, off, none⟩) l) (k : Nat) : RdN w (some ⟨b, off + k * 7, none⟩) (l.drop k) := by
  have := h.part k (l.drop k).length
  rwa [List.take_length] at this
theorem Small.take {l : List Nd} (h : Small l) (m : Nat) : Small (l.take m) := ⟨by have := h.1; simp; omega, fun n hn => h.2 n (List.mem_of_mem_take hn)⟩
theorem Small.drop {l : List Nd} (h : Small l) (m : Nat) : Small (l.drop m) := ⟨by have := h.1; simp; omega, fun n hn => h.2 n (List.mem_of_mem_drop hn)⟩
theorem Small.put {p q : List Nd} (h : Small p) (hq : Small q) (k : Int) (hp40 : p.length ≤ 40) (hq40 : q.length ≤ 40) : Small (joinN p k q) := by
  refine ⟨by unfold joinN; simp; omega, fun n hn => ?_⟩
  unfold joinN at hn
  rw [List.mem_append, List.mem_append] at hn
  rcases hn with (hn | hn) | hn
  · exact h.2 n (List.mem_of_mem_take hn)
  · exact hq.2 n hn
  · exact h.2 n (List.mem_of_mem_drop hn)
theorem planB_le40 {p : List Nd} (h : planB p = true) : p.length ≤ 40 ∧ 1 ≤ p.length := by
  cases ht : treeN p with
  | none => simp [planB, ht] at h
  | some T => exact ⟨(treeN_some ht).1, treeN_pos ht⟩
theorem good_plan {p : List Nd} {k : Int} (h : goodB p k = true) : planB p = true := by
  simp only [goodB, Bool.and_eq_true] at h; exact h.1

theorem joined3_any (W : World) (t : TypeId) (a0 a1 a2 : Option Addr) (n0 c0 n1 c1 n2 c2 : Nat) (l0 l1 l2 : List Nd) (e0 : n0 = l0.length) (e1 : n1 = l1.length) (e2 : n2 = l2.length) (h0 : RdN W a0 l0) (h1 : RdN W a1 l1) (h2 : RdN W a2 l2) (s0 : Small l0) (s1 : Small l1) (s2 : Small l2) (J : List Nd) (hJ : l0 ++ l1 ++ l2 = J) :
    Calls Tryz.prog 160 #[.slice (some ⟨W.heap.size, 0, none⟩) 3 3] (W.alloc (.cells #[.slice a0 n0 c0, .slice a1 n1 c1, .slice a2 n2 c2] t))
      (MadeP (W.alloc (.cells #[.slice a0 n0 c0, .slice a1 n1 c1, .slice a2 n2 c2] t)) J) := by
  subst e0 e1 e2 hJ
  have hb : Below W.heap.size W (W.alloc (.cells #[.slice a0 l0.length c0, .slice a1 l1.length c1, .slice a2 l2.length c2] t)) := (Below.refl _ _).alloc (Nat.le_refl _) _
  have e : srcs [(a0, c0, l0), (a1, c1, l1), (a2, c2, l2)] = l0 ++ l1 ++ l2 := by simp [srcs]
  have := joined_any W.heap.size 3 [(a0, c0, l0), (a1, c1, l1), (a2, c2, l2)] (W.alloc (.cells #[.slice a0 l0.length c0, .slice a1 l1.length c1, .slice a2 l2.length c2] t)) (by simp) ?_ ?_ ?_
  · rw [e] at this; exact this
  · intro i q hq
    match i, hq with
    | 0, hq => cases hq; exact ⟨by rw [World.cell?_alloc_new]; rfl, h0.below hb⟩
    | 1, hq => cases hq; exact ⟨by rw [World.cell?_alloc_new]; rfl, h1.below hb⟩
    | 2, hq => cases hq; exact ⟨by rw [World.cell?_alloc_new]; rfl, h2.below hb⟩
  · intro q hq
    simp at hq
    rcases hq with rfl | rfl | rfl
    · exact s0
    · exact s1
    · exact s2
  · rw [e]; have := s0.1; have := s1.1; have := s2.1; simp; omega

/-- The place behind a part, in memory. -/
theorem drop_none {w : World} {ao : Option Addr} {en : Nat} {p : List Nd} (hc : p.length ≤ en) : RdN w ao (p.drop en) := by
  left; rw [List.drop_eq_nil_iff]; exact hc

end Go.Proofs.YtfpbhedophlnkaaGreatDoor
namespace Go.Proofs.YtfpbhedophlnkaaGreatDoor
open Go.RowKit
set_option linter.unusedSimpArgs false
set_option linter.unusedVariables false

def Bn : Nat → Nat
  | 0 => 1
  | 1 => 1
  | n + 2 => 3 + Bn (n + 1) + Bn n
def Vn : Nat → Nat
  | 0 => 3
  | 1 => 3
  | n + 2 => Vn (n + 1) + Vn n
theorem Bn_pos : ∀ n, 1 ≤ Bn n
  | 0 => by simp [Bn]
  | 1 => by simp [Bn]
  | n + 2 => by simp [Bn]; omega
theorem Vn_ge : ∀ n, 3 ≤ Vn n
  | 0 => by simp [Vn]
  | 1 => by simp [Vn]
  | n + 2 => by have := Vn_ge (n + 1); simp [Vn]; omega
theorem BV7 (n : Nat) (h : n ≤ 7) : Bn n ≤ 81 ∧ Vn n ≤ 63 := by
  have : n = 0 ∨ n = 1 ∨ n = 2 ∨ n = 3 ∨ n = 4 ∨ n = 5 ∨ n = 6 ∨ n = 7 := by omega
  rcases this with rfl | rfl | rfl | rfl | rfl | rfl | rfl | rfl <;> decide
/-- What a drawn plan is known to be. -/
def PlanP (w : World) (g : Nat) (xo : Option Addr) (d : Nat) (code : List Int) (n : Nat) (e : Ending) (w' : World) : Prop :=
  ∃ (l : List Nd) (v : Int) (b c : Nat) (xs : List Value) (A : Nat → Option Addr) (C : Nat → Nat), e = .returned (.tuple #[.slice (some ⟨b, 0, none⟩) l.length c, .int .i64 v]) ∧ 1 ≤ l.length ∧ l.length ≤ Bn n ∧ (∀ m ∈ l, m.cols.length ≤ 3) ∧ 1 ≤ v ∧ v ≤ Vn n ∧ PartN w' w.heap.size b c l.length l l.length xs A C ∧ Drew w g xo d code w'
theorem PartN.draw {w w' : World} {base b c m : Nat} {l : List Nd} {j : Nat} {xs : List Value} {A : Nat → Option Addr} {C : Nat → Nat} {g : Nat} (h : PartN w base b c m l j xs A C) (hg : w.grownBy w' (some g)) (hlt : g < base) : PartN w' base b c m l j xs A C :=
  ⟨owns_keep h.own (hg.block b (owns_block h.own).2 (by have := (owns_block h.own).1; simp; omega)), h.cells, fun i n hi hn => (h.cols i n hi hn).grown hg (fun a ha => by have := ((h.cols i n hi hn).lt a ha).1; simp; omega), h.name, h.row, h.apart⟩
theorem Drew.below {w w1 w2 : World} {g : Nat} {xo : Option Addr} {d : Nat} {code : List Int} (h : Drew w g xo d code w1) (hb : Below w1.heap.size w1 w2) : Drew w g xo d code w2 := ⟨h.1.keepB hb, grownBy_below h.2 hb⟩
theorem Drew.next {w w1 w2 : World} {g : Nat} {xo : Option Addr} {d : Nat} {code : List Int} (h : Drew w g xo d code w1) (k : Drew w1 g xo d code w2) : Drew w g xo d code w2 := ⟨k.1, grownBy_trans h.2 k.2⟩
/-- One node in a row that was just made. -/
theorem part_one (W : World) (base : Nat) (hb : base ≤ W.heap.size) (n : Nd) (a : Option Addr) (c : Nat) (ho : Own W base 3 .i64 a c n.cols) (hs : n.name.size ≤ maxLen) :
    ∃ xs A C, PartN (W.alloc (.cells (ndCells n a c).toArray 92)) base W.heap.size 1 [n].length [n] [n].length xs A C := by
  have hal : ∀ x, a = some x → x.block < W.heap.size := fun x hx => (ho.lt x hx).2
  refine ⟨ndCells n a c, fun _ => a, fun _ => c, ?_, ?_, ?_, ?_, ?_, ?_⟩
  · exact ⟨rfl, .inr ⟨W.heap.size, 1, (ndCells n a c).toArray, rfl, hb, heap_alloc_new W _, Nat.le_refl _, by unfold maxLen; omega, rfl, rfl⟩⟩
  · intro i m hi hm
    obtain rfl : i = 0 := by simp at hi; omega
    simp at hm; subst hm
    exact ⟨rfl, rfl, rfl, rfl, rfl, rfl, rfl⟩
  · intro i m hi hm
    obtain rfl : i = 0 := by simp at hi; omega
    simp at hm; subst hm
    exact ho.below ((Below.refl _ W).alloc (Nat.le_refl _) _)
  · intro i m hi hm
    obtain rfl : i = 0 := by simp at hi; omega
    simp at hm; subst hm
    exact hs
  · intro i x _ _ hx
    have := hal x hx
    omega
  · intro i k x y hi hk _ _ hik
    simp at hi hk
    omega
theorem rd_one (W : World) (n : Nd) (a : Option Addr) (c : Nat) (hr : Rd W .i64 a n.cols) (hc : n.cols.length ≤ c) (hm : c ≤ maxLen) (hs : n.name.size ≤ maxLen) : RdN (W.alloc (.cells (ndCells n a c).toArray 92)) (some ⟨W.heap.size, 0, none⟩) [n] := by
  refine .inr ⟨W.heap.size, 0, rfl, fun i m hi => ?_⟩
  have h0 : i = 0 := by have := (List.getElem?_eq_some_iff.1 hi).1; simp at this; omega
  subst h0
  simp at hi; subst hi
  have key := cells_new W n a c
  exact ⟨a, c, key 0 _ rfl, key 1 _ rfl, key 2 _ rfl, key 3 _ rfl, key 4 _ rfl, key 5 _ rfl, key 6 _ rfl, hr.below ((Below.refl _ W).alloc (Nat.le_refl _) _), hc, hm, hs⟩
theorem joined2_any (W : World) (t : TypeId) (a0 a1 : Option Addr) (n0 c0 n1 c1 : Nat) (l0 l1 : List Nd) (e0 : n0 = l0.length) (e1 : n1 = l1.length) (h0 : RdN W a0 l0) (h1 : RdN W a1 l1) (s0 : Small l0) (s1 : Small l1) (J : List Nd) (hJ : l0 ++ l1 = J) :
    Calls Tryz.prog 160 #[.slice (some ⟨W.heap.size, 0, none⟩) 2 2] (W.alloc (.cells #[.slice a0 n0 c0, .slice a1 n1 c1] t))
      (MadeP (W.alloc (.cells #[.slice a0 n0 c0, .slice a1 n1 c1] t)) J) := by
  subst e0 e1 hJ
  have hb : Below W.heap.size W (W.alloc (.cells #[.slice a0 l0.length c0, .slice a1 l1.length c1] t)) := (Below.refl _ _).alloc (Nat.le_refl _) _
  have e : srcs [(a0, c0, l0), (a1, c1, l1)] = l0 ++ l1 := by simp [srcs]
  have := joined_any W.heap.size 2 [(a0, c0, l0), (a1, c1, l1)] (W.alloc (.cells #[.slice a0 l0.length c0, .slice a1 l1.length c1] t)) (by simp) ?_ ?_ ?_
  · rw [e] at this; exact this
  · intro i q hq
    match i, hq with
    | 0, hq => cases hq; exact ⟨by rw [World.cell?_alloc_new]; rfl, h0.below hb⟩
    | 1, hq => cases hq; exact ⟨by rw [World.cell?_alloc_new]; rfl, h1.below hb⟩
  · intro q hq
    simp at hq
    rcases hq with rfl | rfl
    · exact s0
    · exact s1
  · rw [e]; have := s0.1; have := s1.1; simp; omega
end Go.Proofs.YtfpbhedophlnkaaGreatDoor
namespace Go.Proofs.YtfpbhedophlnkaaGreatDoor
open Go.RowKit
set_option linter.unusedSimpArgs false
set_option linter.unusedVariables false

theorem below_grown {w w' : World} {row : Option Nat} (h : Below w.heap.size w w') : w.grownBy w' row := ⟨h.os, h.tape, h.output, h.size, fun i hi _ => h.block i hi⟩
theorem scan_end {w w2 W : World} {g : Nat} {xo : Option Addr} {d : Nat} {code : List Int} {n : Nat} (D2 : Drew w g xo d code w2) (hW : Below w2.heap.size w2 W) (nd : Nd) (hcols : nd.cols = []) (hname : nd.name.size ≤ 100) (v : Int) (h1 : 1 ≤ v) (h3 : v ≤ 3) (e : Ending) (b : Nat) (hb : b = W.heap.size) (he : e = .returned (.tuple #[.slice (some ⟨b, 0, none⟩) 1 1, .int .i64 v])) :
    PlanP w g xo d code n e (W.alloc (.cells (ndCells nd none 0).toArray 92)) := by
  subst hb
  obtain ⟨xs, A, C, hp⟩ := part_one W w.heap.size (Nat.le_trans D2.2.size hW.size) nd none 0 (by rw [hcols]; exact Own.none_) (by unfold maxLen; omega)
  have := Bn_pos n
  have := Vn_ge n
  exact ⟨[nd], v, W.heap.size, 1, xs, A, C, he, by simp, by simpa using Bn_pos n, by intro m hm; simp at hm; subst hm; rw [hcols]; simp, h1, by omega, hp, D2.below (hW.alloc hW.size _)⟩
/-- The kind that is drawn. -/
theorem pick_kind (g : Nat) (xo : Option Addr) (d : Nat) (code : List Int) (w : World) (hc : Cur w g xo d code) (hl : code.length ≤ 1048577) :
    Calls Tryz.prog 146 #[.pointer (some ⟨g, 0, none⟩), .slice (some ⟨w.heap.size, 0, none⟩) 10 10] (w.alloc (.cells #[.int .i64 0, .int .i64 1, .int .i64 1, .int .i64 1, .int .i64 2, .int .i64 3, .int .i64 4, .int .i64 5, .int .i64 6, .int .i64 7] 3))
      fun e w' => ∃ z : Int, 0 ≤ z ∧ z ≤ 7 ∧ e = .returned (.int .i64 z) ∧ Drew w g xo d code w' := by
  refine (l01PickInt_n g xo d code w.heap.size 10 10 [0, 1, 1, 1, 2, 3, 4, 5, 6, 7] _ (hc.keepB ((Below.refl _ _).alloc (Nat.le_refl _) _)) hl (row_cells w 3 [0, 1, 1, 1, 2, 3, 4, 5, 6, 7]) (by have := hc.lt; omega) (by simp) (by simp) rfl).mono ?_
  rintro e w' ⟨z, hz, rfl, hc2, hg2⟩
  simp at hz
  exact ⟨z, by omega, by omega, rfl, hc2, grownBy_trans (below_grown ((Below.refl w.heap.size w).alloc (Nat.le_refl _) _)) hg2⟩
theorem below_d (g : Nat) (xo : Option Addr) (d : Nat) (code : List Int) (n : Int) (w : World) (hc : Cur w g xo d code) (hl : code.length ≤ 1048577) (h0 : 1 ≤ n) (h1 : n ≤ 256) :
    Calls Tryz.prog 74 #[.pointer (some ⟨g, 0, none⟩), .int .i64 n] w fun e w' => ∃ z : Int, 0 ≤ z ∧ z ≤ n - 1 ∧ e = .returned (.int .i64 z) ∧ Drew w g xo d code w' := by
  refine (l01Below_any g xo d code n w hc hl h0 h1).mono ?_
  rintro e w' ⟨z, rfl, h2, h3, hc2, hg2⟩
  exact ⟨z, h2, h3, rfl, hc2, hg2⟩

set_option maxRecDepth 100000 in
set_option maxHeartbeats 2000000 in
theorem plan0 (n : Nat) (deep : Int) (g : Nat) (xo : Option Addr) (d : Nat) (code : List Int) (hl : code.length ≤ 1048577) (w : World) (hc : Cur w g xo d code) (hd : deep ≤ 1) :
    Calls Tryz.prog 75 #[.pointer (some ⟨g, 0, none⟩), .int .i64 deep] w (PlanP w g xo d code n) := by
  have PK := Lib.hid (pick_kind g xo d code w hc hl)
  have hglt := hc.lt
  have HL := Lib.hid hl; clear hc hl
  go_enter Tryz.func75, Tryz.ntmps75
  go_wp2_with fail
  refine PK.out.mono ?_
  rintro e w1 ⟨z, hz0, hz7, rfl, d1⟩
  have D1 := Lib.hid d1; clear d1
  go_wp2_with fail
  refine (below_d g xo d code 3 _ D1.out.1 HL.out (by omega) (by omega)).mono ?_
  rintro e w2 ⟨y, hy0, hy2, rfl, d2⟩
  have D2 := Lib.hid (D1.out.next d2); clear d2
  have hy : y = 0 ∨ y = 1 ∨ y = 2 := by omega
  rcases hy with rfl | rfl | rfl
  · go_wp2_with fail
    go_region
    go_wp2_with fail
    go_ret2
    exact scan_end (W := ((w2.alloc (.cells #[.string ⟨#[116, 49]⟩, .string ⟨#[116, 50]⟩, .string ⟨#[116, 51]⟩] 9)).alloc (.cells #[.int .i64 2, .int .i64 3, .int .i64 1] 3)).drew) D2.out ((((Below.refl _ w2).alloc (Nat.le_refl _) _).alloc (by simp) _).drew) ⟨0, ⟨#[116, 49]⟩, 0, 0, 0, false, []⟩ rfl (show (2 : Nat) ≤ 100 by omega) 2 (by omega) (by omega) _ (w2.heap.size + 1 + 1) (by simp) rfl
  · go_wp2_with fail
    go_region
    go_wp2_with fail
    go_ret2
    exact scan_end (W := ((w2.alloc (.cells #[.string ⟨#[116, 49]⟩, .string ⟨#[116, 50]⟩, .string ⟨#[116, 51]⟩] 9)).alloc (.cells #[.int .i64 2, .int .i64 3, .int .i64 1] 3)).drew) D2.out ((((Below.refl _ w2).alloc (Nat.le_refl _) _).alloc (by simp) _).drew) ⟨0, ⟨#[116, 50]⟩, 0, 0, 0, false, []⟩ rfl (show (2 : Nat) ≤ 100 by omega) 3 (by omega) (by omega) _ (w2.heap.size + 1 + 1) (by simp) rfl
  · go_wp2_with fail
    go_region
    go_wp2_with fail
    go_ret2
    exact scan_end (W := ((w2.alloc (.cells #[.string ⟨#[116, 49]⟩, .string ⟨#[116, 50]⟩, .string ⟨#[116, 51]⟩] 9)).alloc (.cells #[.int .i64 2, .int .i64 3, .int .i64 1] 3)).drew) D2.out ((((Below.refl _ w2).alloc (Nat.le_refl _) _).alloc (by simp) _).drew) ⟨0, ⟨#[116, 51]⟩, 0, 0, 0, false, []⟩ rfl (show (2 : Nat) ≤ 100 by omega) 1 (by omega) (by omega) _ (w2.heap.size + 1 + 1) (by simp) rfl
end Go.Proofs.YtfpbhedophlnkaaGreatDoor
