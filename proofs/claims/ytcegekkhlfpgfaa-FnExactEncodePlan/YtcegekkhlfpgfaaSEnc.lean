/-
  Contracts of spec.EncodePlan and spec.PlanSum. For every slice of nodes.
-/
import Derived.Test.YtcegekkhlfpgfaaSPutNd
import Derived.Test.YtcegekkhlfpgfaaEncP
import Derived.Test.YtcegekkhlfpgfaaSPlan
namespace Go.Proofs.Ytcegekkhlfpgfaa
open Go.RowKit
set_option linter.unusedSimpArgs false
set_option linter.unusedVariables false

def EpRel (w wr : World) (p : List Nd) (v i : Value) : Prop :=
  ∃ (ao : Option Addr) (c n j : Nat), v = .slice ao n c ∧ i = .int .i64 j ∧ n = (preP p j).length ∧ j ≤ p.length ∧ Own wr w.heap.size 5 .u8 ao c (preP p j) ∧ Below w.heap.size w wr

set_option maxRecDepth 100000 in
set_option maxHeartbeats 1600000 in
theorem specEncodePlan_any (ao : Option Addr) (c : Nat) (p : List Nd) (w : World) (h : RdN w ao p) (hp : p.length ≤ 1048576) :
    Calls Try.prog 17 #[.slice ao p.length c] w (Made2 w 5 .u8 (encP p) (planB p)) := by
  have H := Lib.hid h; clear h
  have PO := Lib.hid (fun w h => specPlanOk_any ao c p w h hp)
  cases hg : planB p with
  | false =>
    rw [encP_no hg]
    rw [hg] at PO
    clear hg
    go_enter Try.func17, Try.ntmps17
    go_wp2_with fail
    refine (PO.out _ H.out).mono ?_
    rintro e w1 ⟨rfl, b1⟩
    go_wp2_with fail
    go_ret2
    exact ⟨none, 0, rfl, Own.none_, b1⟩
  | true =>
    rw [hg] at PO
    have hl40 := planB_l40 hg
    have E := Lib.hid (encP_yes hg)
    clear hg
    obtain ⟨q0, hq0⟩ : ∃ q, q = putN (p.length : Int) := ⟨_, rfl⟩
    have P0 : Hid (∀ w : World, Calls Try.prog 32 #[.int .i64 p.length] w (Made w 5 .u8 q0)) := by rw [hq0]; exact fun w => specPutNum_any _ w
    have HQ0 := Lib.hid hq0; clear hq0
    go_enter Try.func17, Try.ntmps17
    go_wp2_with fail
    refine (PO.out _ H.out).mono ?_
    rintro e w1 ⟨rfl, b1⟩
    have B1 := Lib.hid b1; clear b1
    go_wp2_with fail
    refine (P0.out _).mono ?_
    rintro e w2 ⟨a2, c2, rfl, o2, b2⟩
    have B2 := Lib.hid (below_step B1.out (Nat.le_refl _) b2); have O2 := Lib.hid (o2.base_le B1.out.size)
    clear o2 b2
    go_wp2_with fail
    go_loopw [4, 5] (fun v i wr => EpRel w wr p v i) (fun _ i _ => p.length - (intOf i).toNat)
    case atStart => exact ⟨a2, c2, _, 0, rfl, rfl, by rw [preP_zero, ← HQ0.out], Nat.zero_le _, by rw [preP_zero, ← HQ0.out]; exact O2.out, B2.out⟩
    case round =>
      obtain ⟨a3, c3, n3, j, rfl, rfl, hn3, hj, ho, hb⟩ := hrel
      have hpl := preP_len j hl40
      have hpby := preP_by p j
      obtain ⟨acc, hacc⟩ : ∃ acc, acc = preP p j := ⟨_, rfl⟩
      rw [← hacc] at hn3 ho hpl hpby
      subst hn3
      have HACC := Lib.hid hacc; have HO := Lib.hid ho; have HB := Lib.hid hb; have HBY := Lib.hid hpby; clear hacc ho hb hpby
      by_cases hlt : j < p.length
      · obtain ⟨b, off, n, a, c', rfl, hn, hat⟩ := (H.out.below HB.out).at_ hlt
        have HN := Lib.hid hn; clear hn
        obtain ⟨c0, c1, c2', c3', c4, c5, c6, rd, cap, mx, nm⟩ := hat
        have RD := Lib.hid rd
        have cl := Nat.le_trans cap mx
        clear rd cap mx
        have hql := putNd_len n
        have PN := Lib.hid (fun w h => specPutNode_any n a c' w h cl nm)
        obtain ⟨q, hq⟩ : ∃ q, q = putNd n := ⟨_, rfl⟩
        rw [← hq] at PN hql
        have HQ := Lib.hid hq; clear hq
        go_wp2_with fail
        refine (PN.out _ RD.out).mono ?_
        rintro e w4 ⟨a4, c4', rfl, o4, b4⟩
        have O4 := Lib.hid o4; have B4 := Lib.hid (below_step HB.out (Nat.le_refl _) b4); have A4 := Lib.hid (HO.out.below b4)
        clear o4 b4 c0 c1 c2' c3' c4 c5 c6
        go_wp2_with fail
        refine (l01Join_any _ _ _ _ _ _ _ A4.out.rd O4.out.rd (by omega)).mono ?_
        rintro e w5 ⟨a5, c5, rfl, o5, b5⟩
        have O5 := Lib.hid (o5.base_le B4.out.size); have B5 := Lib.hid (below_step B4.out (Nat.le_refl _) b5)
        clear o5 b5
        go_wp2_with fail
        go_roundw
        case rel =>
          have e1 : acc ++ q = preP p (j + 1) := by rw [preP_succ HN.out, HACC.out, HQ.out]
          refine ⟨a5, c5, _, j + 1, rfl, by go_num, by rw [← e1]; simp, by omega, ?_, B5.out⟩
          rw [← e1]
          exact O5.out
        case measure => simp [intOf]; omega
      · have e : encP p = frameL acc := by rw [E.out, HACC.out, show j = p.length by omega]
        have FR := Lib.hid (specFrame_any a3 c3 acc wr HO.out.rd HBY.out (by unfold maxLen; omega))
        rw [show decide (acc.length ≤ 4000) = true by simp; omega, ← e] at FR
        clear e
        go_wp2_with fail
        refine FR.out.mono ?_
        rintro e w4 ⟨a4, c4, rfl, o4, b4⟩
        have O4 := Lib.hid (o4.base_le HB.out.size); have B4 := Lib.hid (below_step HB.out (Nat.le_refl _) b4)
        clear o4 b4
        go_wp2_with fail
        go_ret2
        exact ⟨a4, c4, rfl, O4.out, B4.out⟩

set_option maxRecDepth 100000 in
set_option maxHeartbeats 800000 in
theorem specPlanSum_any (ao : Option Addr) (c : Nat) (p : List Nd) (w : World) (h : RdN w ao p) (hp : p.length ≤ 1048576) :
    Calls Try.prog 22 #[.slice ao p.length c] w fun e w' => e = .returned (.int .i64 (sumP p)) ∧ Below w.heap.size w w' := by
  have EP := Lib.hid (specEncodePlan_any ao c p w h hp)
  have hl := encP_len p
  have HBY := Lib.hid (encP_by p)
  cases hg : planB p with
  | false =>
    rw [sumP_no hg]
    rw [hg] at EP
    clear hg h
    go_enter Try.func22, Try.ntmps22
    go_wp2_with fail
    refine EP.out.mono ?_
    rintro e w1 ⟨a1, c1, rfl, o1, b1⟩
    clear o1
    go_wp2_with fail
    go_ret
    exact ⟨rfl, b1⟩
  | true =>
    rw [sumP_yes hg]
    rw [hg] at EP
    clear hg h
    obtain ⟨f, hf⟩ : ∃ f, f = encP p := ⟨_, rfl⟩
    rw [← hf] at EP hl HBY ⊢
    clear hf
    go_enter Try.func22, Try.ntmps22
    go_wp2_with fail
    refine EP.out.mono ?_
    rintro e w1 ⟨a1, c1, rfl, o1, b1⟩
    have R1 := Lib.hid o1.rd; have B1 := Lib.hid b1
    clear o1 b1
    go_wp2_with fail
    refine (specCheckOf_any a1 c1 f w1 R1.out HBY.out (by unfold maxLen; omega)).mono ?_
    rintro e w' ⟨rfl, rfl⟩
    go_wp2_with fail
    go_ret
    exact ⟨rfl, B1.out⟩
end Go.Proofs.Ytcegekkhlfpgfaa
