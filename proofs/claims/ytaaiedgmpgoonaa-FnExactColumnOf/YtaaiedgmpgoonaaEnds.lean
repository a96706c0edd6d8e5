/-
  Contracts of EndOf, DepthOf and CountKind, of the model and of the program. For every slice of nodes.
-/
import Derived.Test.YtaaiedgmpgoonaaPlain2
namespace Go.Proofs.Ytaaiedgmpgoonaa
open Go.RowKit
set_option linter.unusedSimpArgs false
set_option linter.unusedVariables false

theorem specDepthOf_any (ao : Option Addr) (c : Nat) (p : List Nd) (w : World) (h : RdN w ao p) (hp : p.length ≤ 1048576) :
    Calls Try.prog 16 #[.slice ao p.length c] w fun e w' => e = .returned (.int .i64 (depthN p)) ∧ Below w.heap.size w w' := by
  have H := Lib.hid h; clear h
  cases ht : treeN p with
  | none =>
    have HB := Lib.hid (show planB p = false by simp [planB, ht])
    have E := Lib.hid (show depthN p = 0 by unfold depthN; rw [ht])
    clear ht
    go_enter Try.func16, Try.ntmps16
    go_wp2_with fail
    refine (specPlanOk_any ao c p _ H.out hp).mono ?_
    rintro e w1 ⟨rfl, b1⟩
    rw [HB.out]
    go_wp2_with fail
    go_ret
    exact ⟨ret_int E.out.symm, b1⟩
  | some T =>
    have HB := Lib.hid (show planB p = true by simp [planB, ht])
    have E := Lib.hid (show depthN p = T.depth by unfold depthN; rw [ht])
    obtain ⟨_, hg, he, hd⟩ := treeN_some ht
    have HE := Lib.hid (show endN p 10 (0 : Int).toNat = some (T.en, T.depth) by
      show endN p 10 0 = _
      rw [endN_grow p (treeN_all ht) p.length 10 0 (by omega), hg]; simp only; rw [if_pos hd])
    clear ht hg he hd
    go_enter Try.func16, Try.ntmps16
    go_wp2_with fail
    refine (specPlanOk_any ao c p _ H.out hp).mono ?_
    rintro e w1 ⟨rfl, b1⟩
    rw [HB.out]
    have R1 := Lib.hid (H.out.below b1)
    have B1 := Lib.hid b1; clear b1
    go_wp2_with fail
    refine (specEnd_any ao c p hp 10 0 10 _ R1.out (by omega) (by omega) (by omega) (by omega) (by omega)).mono ?_
    rintro e w' ⟨rfl, rfl⟩
    rw [HE.out]
    simp only [endV]
    go_wp2_with fail
    go_ret
    exact ⟨ret_int E.out.symm, B1.out⟩

theorem implEndOf_any (ao : Option Addr) (c : Nat) (p : List Nd) (hp : Small p) (k : Int) (w : World) (h : RdN w ao p) :
    Calls Try.prog 17 #[.slice ao p.length c, .int .i64 k] w fun e w' => e = .returned (.int .i64 (endOfN p k)) ∧ Below w.heap.size w w' := by
  have H := Lib.hid h; clear h
  go_enter Try.func17, Try.ntmps17
  go_wp2_with fail
  refine (treeOf_any ao c p hp _ H.out).mono ?_
  intro e w1 hpost
  cases ht : treeN p with
  | none =>
    rw [ht] at hpost
    obtain ⟨rfl, b1⟩ := hpost
    have E := Lib.hid (show endOfN p k = -1 by unfold endOfN; rw [ht])
    clear ht
    go_wp2_with fail
    refine (findNil_any _ _).mono ?_
    rintro e w' ⟨rfl, rfl⟩
    go_wp2_with fail
    go_ret
    exact ⟨ret_int E.out.symm, b1⟩
  | some T =>
    rw [ht] at hpost
    obtain ⟨b, rfl, tr, b1⟩ := hpost
    have TR := Lib.hid tr; have B1 := Lib.hid b1; have HT := Lib.hid ht
    clear tr b1 ht
    go_wp2_with fail
    refine (find_any k T _ _ _ b TR.out).mono ?_
    intro e w' hpost
    cases hf : fnd k T with
    | none =>
      rw [hf] at hpost
      obtain ⟨rfl, rfl⟩ := hpost
      have E := Lib.hid (show endOfN p k = -1 by unfold endOfN; rw [HT.out]; simp only; rw [hf])
      clear hf
      go_wp2_with fail
      go_ret
      exact ⟨ret_int E.out.symm, B1.out⟩
    | some S =>
      rw [hf] at hpost
      obtain ⟨bs, rfl, ts, rfl⟩ := hpost
      have E := Lib.hid (show endOfN p k = S.en by unfold endOfN; rw [HT.out]; simp only; rw [hf])
      clear hf
      obtain ⟨v, _, _, a, c', c0, c1, c2, c3⟩ := ts.head
      clear ts
      go_wp2_with fail
      go_ret
      exact ⟨ret_int E.out.symm, B1.out⟩

theorem implDepthOf_any (ao : Option Addr) (c : Nat) (p : List Nd) (hp : Small p) (w : World) (h : RdN w ao p) :
    Calls Try.prog 15 #[.slice ao p.length c] w fun e w' => e = .returned (.int .i64 (depthN p)) ∧ Below w.heap.size w w' := by
  have H := Lib.hid h; clear h
  go_enter Try.func15, Try.ntmps15
  go_wp2_with fail
  refine (treeOf_any ao c p hp _ H.out).mono ?_
  intro e w1 hpost
  cases ht : treeN p with
  | none =>
    rw [ht] at hpost
    obtain ⟨rfl, b1⟩ := hpost
    have E := Lib.hid (show depthN p = 0 by unfold depthN; rw [ht])
    clear ht
    go_wp2_with fail
    refine (depthNil_any _).mono ?_
    rintro e w' ⟨rfl, rfl⟩
    go_wp2_with fail
    go_ret
    exact ⟨ret_int E.out.symm, b1⟩
  | some T =>
    rw [ht] at hpost
    obtain ⟨b, rfl, tr, b1⟩ := hpost
    have E := Lib.hid (show depthN p = T.depth by unfold depthN; rw [ht])
    have hd := (treeN_some ht).2.2.2
    have TR := Lib.hid tr; have B1 := Lib.hid b1
    clear tr b1 ht
    go_wp2_with fail
    refine (depth_any T _ _ _ b TR.out (by omega)).mono ?_
    rintro e w' ⟨rfl, rfl⟩
    go_wp2_with fail
    go_ret
    exact ⟨ret_int E.out.symm, B1.out⟩

set_option maxHeartbeats 1600000 in
theorem implCountKind_any (ao : Option Addr) (c : Nat) (p : List Nd) (hp : Small p) (kind : Int) (w : World) (h : RdN w ao p) :
    Calls Try.prog 23 #[.slice ao p.length c, .int .i64 kind] w fun e w' => e = .returned (.int .i64 (countN p kind)) ∧ Below w.heap.size w w' := by
  have H := Lib.hid h; clear h
  have hpl := hp.1
  have SM := Lib.hid hp; clear hp
  cases hb : planB p with
  | false =>
    have HB := Lib.hid hb
    have E := Lib.hid (show countN p kind = -1 by simp [countN, hb])
    clear hb
    go_enter Try.func23, Try.ntmps23
    go_wp2_with fail
    refine (implPlanOk_any ao c p SM.out _ H.out).mono ?_
    rintro e w1 ⟨rfl, b1⟩
    rw [HB.out]
    go_wp2_with fail
    go_ret
    exact ⟨ret_int E.out.symm, b1⟩
  | true =>
    have HB := Lib.hid hb
    have E := Lib.hid (show countN p kind = cnt kind p by simp [countN, hb])
    clear hb
    go_enter Try.func23, Try.ntmps23
    go_wp2_with fail
    refine (implPlanOk_any ao c p SM.out _ H.out).mono ?_
    rintro e w1 ⟨rfl, b1⟩
    rw [HB.out]
    have B1 := Lib.hid b1; clear b1
    go_wp2_with fail
    go_loopw [5, 13] (fun q i wr => ∃ j : Nat, j ≤ p.length ∧ i = .int .i64 j ∧ q = .int .i64 (cnt kind (p.take j)) ∧ Below w.heap.size w wr) (fun _ i _ => p.length - (intOf i).toNat)
    case atStart => exact ⟨0, Nat.zero_le _, rfl, rfl, B1.out⟩
    case round =>
      obtain ⟨j, hj, rfl, rfl, hb⟩ := hrel
      have hbd := cnt_bd kind (p.take j)
      have hlen : (p.take j).length ≤ j := List.length_take_le _ _
      have HW := Lib.hid hb
      by_cases hlt : j < p.length
      · obtain ⟨b, off, n, a, c', rfl, hn, hat⟩ := (H.out.below hb).at_ hlt
        obtain ⟨c0, c1, c2, c3, c4, c5, c6, _⟩ := hat
        have S := Lib.hid (cnt_take (kind := kind) hn)
        clear hn hb
        by_cases hk : n.kind = kind
        · have hk' : (n.kind == kind) = true := beq_iff_eq.2 hk
          have S2 := Lib.hid (show cnt kind (p.take (j + 1)) = cnt kind (p.take j) + 1 by rw [S.out, if_pos hk])
          clear hk S
          go_wp2_with fail
          go_roundw
          case rel => exact ⟨j + 1, by omega, by go_num, by rw [S2.out], HW.out.alloc HW.out.size _⟩
          case measure => simp [intOf]; omega
        · have hk' : (n.kind == kind) = false := beq_eq_false_iff_ne.2 hk
          have S2 := Lib.hid (show cnt kind (p.take (j + 1)) = cnt kind (p.take j) by rw [S.out, if_neg hk]; omega)
          clear hk S
          go_wp2_with fail
          go_roundw
          case rel => exact ⟨j + 1, by omega, by go_num, by rw [S2.out], HW.out.alloc HW.out.size _⟩
          case measure => simp [intOf]; omega
      · obtain rfl : j = p.length := by omega
        clear hb
        go_wp2_with fail
        go_ret
        exact ⟨ret_int (by first | exact E.out.symm | rw [E.out, List.take_length]), HW.out⟩
end Go.Proofs.Ytaaiedgmpgoonaa
