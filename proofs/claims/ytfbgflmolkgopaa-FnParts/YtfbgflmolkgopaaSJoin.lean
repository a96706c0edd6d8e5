/-
  Contract of spec.l02Joined: some lists of nodes, one behind the other, in memory of the call's own. For every slice of slices of nodes.
-/
import Derived.Test.YtfbgflmolkgopaaJoinN
namespace Go.Proofs.Ytfbgflmolkgopaa
open Go.RowKit
set_option linter.unusedSimpArgs false
set_option linter.unusedVariables false

/-- The nodes of some lists, one list behind the other. -/
def srcs (L : List (Option Addr × Nat × List Nd)) : List Nd := L.flatMap (·.2.2)
theorem srcs_take {L : List (Option Addr × Nat × List Nd)} {j : Nat} {q : Option Addr × Nat × List Nd} (h : L[j]? = some q) : srcs (L.take (j + 1)) = srcs (L.take j) ++ q.2.2 := by
  have hj := some_lt h
  rw [List.take_succ_eq_append_getElem hj]
  have : L[j] = q := by rw [List.getElem?_eq_getElem hj] at h; injection h
  rw [this]
  simp [srcs]
theorem srcs_le (L : List (Option Addr × Nat × List Nd)) (j : Nat) : (srcs (L.take j)).length ≤ (srcs L).length := by
  have : srcs L = srcs (L.take j) ++ srcs (L.drop j) := by
    have h := congrArg srcs (List.take_append_drop j L)
    unfold srcs at h ⊢
    rw [List.flatMap_append] at h
    exact h.symm
  rw [this, List.length_append]; omega

def JRel (w : World) (L : List (Option Addr × Nat × List Nd)) (wr : World) (s i : Value) : Prop :=
  ∃ (j g cc : Nat), j ≤ L.length ∧ i = .int .i64 j ∧ s = .slice (some ⟨g, 0, none⟩) (srcs (L.take j)).length cc ∧ (∃ xs A C, PartN wr w.heap.size g cc (srcs (L.take j)).length (srcs (L.take j)) (srcs (L.take j)).length xs A C) ∧ Below w.heap.size w wr

theorem join_next {w wr W3 w4 : World} {L : List (Option Addr × Nat × List Nd)} {j g cc : Nat} {q : Option Addr × Nat × List Nd} {xs : List Value} {A : Nat → Option Addr} {C : Nat → Nat} {g2 c2 : Nat} {xs2 : List Value} {A2 : Nat → Option Addr} {C2 : Nat → Nat} {v' : Value}
    (hq : L[j]? = some q) (hp : PartN wr w.heap.size g cc (srcs (L.take j)).length (srcs (L.take j)) (srcs (L.take j)).length xs A C) (hw : Below w.heap.size w wr) (hb : Below wr.heap.size wr W3) (hp2 : PartN W3 wr.heap.size g2 c2 q.2.2.length q.2.2 q.2.2.length xs2 A2 C2)
    (ho : w4.ownsRow w.heap.size 37 7 v' ((srcs (L.take j)).length + q.2.2.length) (xs ++ allCells q.2.2 A2 C2)) (hg : W3.grownBy w4 (some g)) (hblk : v'.ownBlock = some g ∨ v'.ownBlock = some W3.heap.size) :
    JRel w L w4 v' (.int .i64 ((j : Int) + 1)) := by
  rw [← hp2.xs_eq] at ho
  obtain ⟨g', c4, A', C', rfl, hP⟩ := join_step hp hb hp2 hw.size ho hg hblk
  have hj := some_lt hq
  refine ⟨j + 1, g', c4, hj, by simp, ?_, ⟨xs ++ xs2, A', C', ?_⟩, ?_⟩
  · rw [srcs_take hq, List.length_append]
  · rw [srcs_take hq]; exact hP
  · exact (below_step hw (Nat.le_refl _) hb).grown hg (Nat.le_trans hw.size hb.size) (by intro g' hg'; cases hg'; exact (owns_block hp.own).1)

set_option maxRecDepth 100000 in
set_option maxHeartbeats 1600000 in
theorem joined_any (bl cL : Nat) (L : List (Option Addr × Nat × List Nd)) (w : World) (hL : L.length ≤ 1000)
    (hcell : ∀ i q, L[i]? = some q → w.cell? ⟨bl, i, none⟩ = some (.slice q.1 q.2.2.length q.2.1) ∧ RdN w q.1 q.2.2)
    (hsm : ∀ q ∈ L, q.2.2.length ≤ 1048576 ∧ ∀ n ∈ q.2.2, n.cols.length ≤ 1048576) (htot : (srcs L).length ≤ 8388608) :
    Calls Try.prog 102 #[.slice (some ⟨bl, 0, none⟩) L.length cL] w (MadeP w (srcs L)) := by
  have HC := Lib.hid hcell; have HS := Lib.hid hsm; clear hcell hsm
  have P0 := Lib.hid (show JRel w L (w.alloc (.cells #[] 37)) (.slice (some ⟨w.heap.size, 0, none⟩) 0 0) (.int .i64 0) from
    ⟨0, w.heap.size, 0, Nat.zero_le _, rfl, rfl, ⟨[], fun _ => none, fun _ => 0, ⟨⟨rfl, .inr ⟨w.heap.size, 0, #[], rfl, Nat.le_refl _, heap_alloc_new w _, Nat.le_refl _, Nat.zero_le _, rfl, rfl⟩⟩, fun i n hi => absurd hi (Nat.not_lt_zero _), fun i n hi => absurd hi (Nat.not_lt_zero _), fun i n hi => absurd hi (Nat.not_lt_zero _), fun i x hi => absurd hi (Nat.not_lt_zero _), fun i k x y hi => absurd hi (Nat.not_lt_zero _)⟩⟩, (Below.refl w.heap.size w).alloc (Nat.le_refl _) (.cells #[] 37)⟩)
  go_enter Try.func102, Try.ntmps102
  go_wp2_with fail
  go_loopw [3, 4] (fun s i wr => JRel w L wr s i) (fun _ i _ => L.length - (intOf i).toNat)
  case atStart => exact P0.out
  case round =>
    clear P0
    obtain ⟨j, g, cc, hj, rfl, rfl, ⟨xs, A, C, hp⟩, hb⟩ := hrel
    have HP := Lib.hid hp; have HB := Lib.hid hb
    have hle := srcs_le L j
    clear hp hb
    by_cases hlt : j < L.length
    · have hq0 : L[j]? = some L[j] := List.getElem?_eq_getElem hlt
      generalize L[j] = q at hq0
      have HQ := Lib.hid hq0
      obtain ⟨hc, hrd⟩ := HC.out j q hq0
      obtain ⟨hq1, hq2⟩ := HS.out q (List.mem_of_getElem? hq0)
      have hcw := (HB.out.cell (p := ⟨bl, j, none⟩) (World.block_lt_of_cell? w ⟨bl, j, none⟩ hc)).trans hc
      have RD := Lib.hid (hrd.below HB.out); have Q2 := Lib.hid hq2
      obtain ⟨qa, qc, ql⟩ := q
      simp only at hcw hq1 RD Q2
      clear hq0 hc hrd hq2
      generalize hl0 : (srcs (L.take j)).length = n0 at hle
      have HL0 := Lib.hid hl0; clear hl0
      go_wp2_with fail
      refine (l02CopyP_any qa qc ql _ RD.out hq1 Q2.out).mono ?_
      rintro e w2 ⟨g2, c2, xs2, A2, C2, rfl, p2, b2⟩
      have P2 := Lib.hid p2; have B2 := Lib.hid b2
      have OW := Lib.hid (show w2.ownsRow w.heap.size 37 7 (.slice (some ⟨g, 0, none⟩) n0 cc) n0 xs by have := (HP.out.below b2).own; rw [HL0.out] at this; exact this)
      have SZ : w.heap.size ≤ w2.heap.size := Nat.le_trans HB.out.size b2.size
      clear p2 b2
      go_wp2_with (at_builtin; go_must (refine wpList_appendNs _ rfl (.tmp 12) (.tmp 17) 24 rfl w.heap.size Try.underlying24 Try.infoNode rfl _ n0 xs rfl OW.out g2 0 _ c2 ql A2 C2 rfl rfl (fun i n hi => P2.out.at_ (some_lt hi) (some_lt hi) hi) (by omega) SZ ?_; intro v' w4 o4 g4 k4; have J := Lib.hid (join_next HQ.out HP.out HB.out B2.out P2.out (by rw [HL0.out]; exact o4) g4 k4); clear o4 g4 k4))
      go_roundw
      case rel => exact J.out
      case measure => simp [intOf]; omega
    · obtain rfl : j = L.length := by omega
      have E := Lib.hid (show srcs (L.take L.length) = srcs L by rw [List.take_length])
      go_wp2_with fail
      go_ret
      have hp := HP.out
      rw [E.out] at hp
      exact ⟨_, _, _, _, _, by rw [E.out]; rfl, hp, HB.out⟩
end Go.Proofs.Ytfbgflmolkgopaa
