/-
  The walk of FnParts.
-/
import Derived.Test.YtfbgflmolkgopaaRows
import Derived.Test.YtfbgflmolkgopaaFPP
import Derived.Test.YtfbgflmolkgopaaK2
import Derived.Test.YtfbgflmolkgopaaK5
import Derived.Test.YtfbgflmolkgopaaIPutP
import Derived.Test.YtfbgflmolkgopaaIKids
import Derived.Test.YtfbgflmolkgopaaSame
import Derived.Deep.RegionWith
namespace Go.Proofs.Ytfbgflmolkgopaa.fnParts
open Go.RowKit
set_option linter.unusedSimpArgs false
set_option linter.unusedVariables false
set_option linter.unusedVariables false

/-- Between the rounds the drawn plan lies where it lay. -/
def PRel (w : World) (b : Nat) (l : List Nd) (wr : World) (i : Value) : Prop := ∃ k : Nat, i = .int .i64 k ∧ k ≤ l.length ∧ RdN wr (some ⟨b, 0, none⟩) l ∧ Below w.heap.size w wr
def NRel (w : World) (b : Nat) (l : List Nd) (wr : World) (s i : Value) : Prop := ∃ j : Nat, i = .int .i64 j ∧ j ≤ 8 ∧ s = .int .i64 (sumK l j) ∧ RdN wr (some ⟨b, 0, none⟩) l ∧ Below w.heap.size w wr

set_option maxRecDepth 100000 in
set_option maxHeartbeats 8000000 in
theorem walk (w : World) (a0 : Option Addr) (cap0 : Nat) (code : List Int) (hn : code.length ≤ maxLen) (rd0 : Rd w .u8 a0 code) (hby : By code) :
    Calls Try.prog 3 #[.slice a0 code.length cap0] w fun e w' => e = .returned (.bool true) ∧ Below w.heap.size w w' := by
  by_cases h : 1048576 < code.length
  · have B := Lib.hid (big_t a0 code.length cap0 w h hn)
    go_enter Try.func3, Try.ntmps3
    go_wp2_with fail
    refine B.out.mono ?_
    rintro e w' ⟨rfl, rfl⟩
    go_wp2_with fail
    go_ret
    exact ⟨rfl, Below.refl _ _⟩
  have B := Lib.hid (big_f a0 code.length cap0 w h)
  have DR := Lib.hid (drawPlanOk_any a0 cap0 code w rd0 hby (by omega))
  clear rd0 hby hn h
  generalize code.length = cn at *
  go_enter Try.func3, Try.ntmps3
  go_wp2_with fail
  refine B.out.mono ?_
  rintro e w' ⟨rfl, rfl⟩
  go_wp2_with fail
  refine DR.out.mono ?_
  rintro e w1 ⟨l, b, c, rfl, h82, sm, hlc, hcm, rd, b1⟩
  have SM := Lib.hid sm; have R1 := Lib.hid rd; have B1 := Lib.hid b1
  have hl6 : l.length ≤ 1048576 := by omega
  have hlm : l.length ≤ maxLen := by omega
  clear sm rd b1 DR B
  cases hb : planB l with
  | false =>
    have HB := Lib.hid hb; clear hb
    go_wp2_with fail
    refine (implPlanOk_any _ c l SM.out _ R1.out).mono ?_
    rintro e w2 ⟨rfl, b2⟩
    rw [HB.out]
    have R2 := Lib.hid (R1.out.below b2); have B2 := Lib.hid (below_step B1.out (Nat.le_refl _) b2); clear b2
    go_wp2_with fail
    refine (specPlanOk_any _ c l _ R2.out hl6).mono ?_
    rintro e w3 ⟨rfl, b3⟩
    rw [HB.out]
    have R3 := Lib.hid (R2.out.below b3); have B3 := Lib.hid (below_step B2.out (Nat.le_refl _) b3); clear b3
    go_wp2_with fail
    refine (implDepthOf_any _ c l SM.out _ R3.out).mono ?_
    rintro e w4 ⟨rfl, b4⟩
    have R4 := Lib.hid (R3.out.below b4); have B4 := Lib.hid (below_step B3.out (Nat.le_refl _) b4); clear b4
    go_wp2_with fail
    refine (specDepthOf_any _ c l _ R4.out hl6).mono ?_
    rintro e w5 ⟨rfl, b5⟩
    have R5 := Lib.hid (R4.out.below b5); have B5 := Lib.hid (below_step B4.out (Nat.le_refl _) b5); clear b5
    have hq : (depthN l != depthN l) = false := by simp
    go_wp2_with fail
    refine (implEndOf_any _ c l SM.out 0 _ R5.out).mono ?_
    rintro e w6 ⟨rfl, b6⟩
    rw [end_none HB.out]
    have B6 := Lib.hid (below_step B5.out (Nat.le_refl _) b6); clear b6
    go_wp2_with fail
    go_ret
    exact ⟨rfl, B6.out⟩
  | true =>
    have HB := Lib.hid hb
    have hl1 := (planB_40 hb).2
    clear hb
    go_wp2_with fail
    refine (implPlanOk_any _ c l SM.out _ R1.out).mono ?_
    rintro e w2 ⟨rfl, b2⟩
    rw [HB.out]
    have R2 := Lib.hid (R1.out.below b2); have B2 := Lib.hid (below_step B1.out (Nat.le_refl _) b2); clear b2
    go_wp2_with fail
    refine (specPlanOk_any _ c l _ R2.out hl6).mono ?_
    rintro e w3 ⟨rfl, b3⟩
    rw [HB.out]
    have R3 := Lib.hid (R2.out.below b3); have B3 := Lib.hid (below_step B2.out (Nat.le_refl _) b3); clear b3
    go_wp2_with fail
    refine (implDepthOf_any _ c l SM.out _ R3.out).mono ?_
    rintro e w4 ⟨rfl, b4⟩
    have R4 := Lib.hid (R3.out.below b4); have B4 := Lib.hid (below_step B3.out (Nat.le_refl _) b4); clear b4
    go_wp2_with fail
    refine (specDepthOf_any _ c l _ R4.out hl6).mono ?_
    rintro e w5 ⟨rfl, b5⟩
    have P0 := Lib.hid (show PRel w b l w5 (.int .i64 0) from ⟨0, rfl, Nat.zero_le _, R4.out.below b5, below_step B4.out (Nat.le_refl _) b5⟩); clear b5
    have hq : (depthN l != depthN l) = false := by simp
    clear R1 R2 R3 R4 B1 B2 B3 B4
    go_wp2_with fail
    go_loopw [5] (fun i wr => PRel w b l wr i) (fun i _ => l.length - (intOf i).toNat)
    case atStart => exact P0.out
    case round =>
      clear P0
      obtain ⟨k, rfl, hk, rk, bk⟩ := hrel
      have RK := Lib.hid rk; have BK := Lib.hid bk; clear rk bk
      by_cases hlt : k < l.length
      · have PF := placeF HB.out hlt
        obtain ⟨n, hn, KF, HA⟩ := place_kids HB.out hlt
        obtain ⟨q, hq0⟩ : ∃ q, partN l (k : Int) = q := ⟨_, rfl⟩
        obtain ⟨ks, hks⟩ : ∃ ks, kidsN l (k : Int) = ks := ⟨_, rfl⟩
        have PT := Lib.hid (implPartOf_any (some ⟨b, 0, none⟩) c l SM.out k wr RK.out (.inr ⟨hlc, hcm⟩))
        have SQ := Lib.hid (partN_small SM.out (k : Int))
        have CH := Lib.hid (fun W (h : RdN W (some ⟨b, 0, none⟩) l) => implChildren_any (some ⟨b, 0, none⟩) c l SM.out k W h)
        have PEN := Lib.hid PF.en; have PPL := Lib.hid PF.plan; have POK := Lib.hid PF.ok; have PPU := Lib.hid PF.put
        have PLN := PF.len
        have dq := depthN_bd q
        unfold KidsF at KF
        rw [hq0] at PT SQ PEN PPL POK PPU PLN KF
        rw [hks] at CH HA KF
        rw [PEN.out] at KF
        have HKF := Lib.hid KF; have HHA := Lib.hid HA; have HN := Lib.hid hn
        clear hq0 hks PF KF HA hn
        have hkl : ks.length ≤ 2 := by
          rcases HKF.out with ⟨h, _⟩ | ⟨h, _⟩ | ⟨m, h, _⟩ <;> rw [h] <;> simp
        go_wp2_with fail
        refine PT.out.mono ?_
        rintro e w6 ⟨qa, qc, rfl, oq, b6⟩
        obtain ⟨qb, rfl⟩ : ∃ qb, qa = some ⟨qb, 0, none⟩ := by
          rcases oq with h | ⟨g, xs, A, C, he, _⟩
          · subst h; simp at PLN
          · exact ⟨g, he⟩
        have OQ := Lib.hid oq.rd
        have R6 := Lib.hid (RK.out.below b6); have B6 := Lib.hid (below_step BK.out (Nat.le_refl _) b6); clear b6 oq PT
        go_wp2_with fail
        refine (implEndOf_any _ c l SM.out (k : Int) _ R6.out).mono ?_
        rintro e w7 ⟨rfl, b7⟩
        rw [PEN.out]
        have R7 := Lib.hid (R6.out.below b7); have OQ7 := Lib.hid (OQ.out.below b7); have B7 := Lib.hid (below_step B6.out (Nat.le_refl _) b7); clear b7 R6 OQ
        have PU := Lib.hid (implPut_any b 0 c l SM.out k qb 0 qc q SQ.out w7 R7.out OQ7.out (.inr ⟨hlc, hcm⟩))
        rw [POK.out, PPU.out] at PU
        go_wp2_with fail
        refine PU.out.mono ?_
        rintro e w8 ⟨sa, sc, rfl, os, b8⟩
        have OS := Lib.hid os.rd
        have R8 := Lib.hid (R7.out.below b8); have OQ8 := Lib.hid (OQ7.out.below b8); have B8 := Lib.hid (below_step B7.out (Nat.le_refl _) b8); clear b8 R7 OQ7 os PU
        go_wp2_with fail
        refine (CH.out _ R8.out).mono ?_
        rintro e w9 ⟨ka, kc, rfl, ok9, b9⟩
        have OK := Lib.hid ok9.rd
        have R9 := Lib.hid (R8.out.below b9); have OQ9 := Lib.hid (OQ8.out.below b9); have OS9 := Lib.hid (OS.out.below b9); have B9 := Lib.hid (below_step B8.out (Nat.le_refl _) b9); clear b9 R8 OQ8 OS
        have KFO := Lib.hid ok9.form
        clear ok9
        go_wp2_with fail
        refine (implSamePlan_any sa (some ⟨b, 0, none⟩) sc c l l _ OS9.out R9.out hlm hlm).mono ?_
        rintro e w10 ⟨rfl, b10⟩
        rw [eqNs_refl]
        have R10 := Lib.hid (R9.out.below b10); have OQ10 := Lib.hid (OQ9.out.below b10); have OK10 := Lib.hid (OK.out.below b10); have B10 := Lib.hid (below_step B9.out (Nat.le_refl _) b10); clear b10 R9 OQ9 OK OS9
        go_wp2_with fail
        refine (specPlanOk_any _ qc q _ OQ10.out (by omega)).mono ?_
        rintro e w11 ⟨rfl, b11⟩
        rw [PPL.out]
        have R11 := Lib.hid (R10.out.below b11); have OQ11 := Lib.hid (OQ10.out.below b11); have OK11 := Lib.hid (OK10.out.below b11); have B11 := Lib.hid (below_step B10.out (Nat.le_refl _) b11); clear b11 R10 OQ10 OK10
        have hq1 : (((k : Int) + (q.length : Int)) != ((k : Int) + (q.length : Int))) = false := by simp
        obtain ⟨b', off', n', a', c', he', hn', NA⟩ := R11.out.at_ hlt
        simp only [Option.some.injEq, Addr.mk.injEq, and_true] at he'
        obtain ⟨rfl, rfl⟩ := he'
        obtain rfl : n' = n := by rw [HN.out] at hn'; cases hn'; rfl
        have e0 := NA.c0
        rw [Nat.zero_add] at e0
        clear NA hn'
        go_wp2_with fail
        refine (implArity_any _ _).mono ?_
        rintro e w12 ⟨rfl, b12⟩
        rw [HHA.out]
        have R12 := Lib.hid (R11.out.below b12); have OQ12 := Lib.hid (OQ11.out.below b12); have OK12 := Lib.hid (OK11.out.below b12); have B12 := Lib.hid (below_step B11.out (Nat.le_refl _) b12); clear b12 R11 OQ11 OK11 e0
        have hq2 : ((ks.length : Int) != (ks.length : Int)) = false := by simp
        rcases HKF.out with ⟨hks, _, hen, hde⟩ | ⟨hks, _, hen, hd1, hde⟩ | ⟨m, hks, _, hen, hem, hd1, hde⟩
        · subst hks
          have hq3 : (((k : Int) + 1) != ((k : Int) + (q.length : Int))) = false := by rw [hen]; simp
          go_wp2_with fail
          refine wp_loop_rounds 1 ?_; rw [rounds_succ]
          go_wp2_with fail
          refine (implDepthOf_any _ qc q SQ.out _ OQ12.out).mono ?_
          rintro e w13 ⟨rfl, b13⟩
          rw [hde]
          have R13 := Lib.hid (show PRel w b l w13 (.int .i64 ((k : Int) + 1)) from ⟨k + 1, by simp, by omega, R12.out.below b13, below_step B12.out (Nat.le_refl _) b13⟩); clear b13 R12 OQ12 OK12
          go_wp2_with fail
          go_roundw
          case rel => exact R13.out
          case measure => simp [intOf]; omega
        · subst hks
          obtain ⟨kb, rfl⟩ : ∃ kb, ka = some ⟨kb, 0, none⟩ := by
            rcases KFO.out with ⟨_, _, h⟩ | ⟨g, h, _⟩
            · simp at h
            · exact ⟨g, h⟩
          have hdd0 : 1 ≤ depthN (partN l ((k : Int) + 1)) := hd1
          clear hd1
          obtain ⟨x0, hx0⟩ : ∃ x, partN l ((k : Int) + 1) = x := ⟨_, rfl⟩
          have SX0 := Lib.hid (partN_small SM.out ((k : Int) + 1))
          rw [hx0] at SX0 hde hdd0
          have Q0 := Lib.hid hx0; clear hx0
          obtain ⟨y0, hy0⟩ : ∃ y, depthN x0 = y := ⟨_, rfl⟩
          have by0 := depthN_bd x0
          rw [hy0] at hde hdd0 by0
          have Y0 := Lib.hid hy0; clear hy0
          have hp0 : (0 : Int) < y0 := by omega
          have HDE := Lib.hid hde; have HEN := Lib.hid hen; clear hde hen
          go_wp2_with fail
          refine wp_loop_rounds 2 ?_; rw [rounds_succ]
          have ec0 := kid_at OK12.out (i := 0) rfl
          go_wp2_with fail
          refine (implEndOf_any _ c l SM.out ((k : Int) + 1) _ R12.out).mono ?_
          rintro e w13 ⟨rfl, b13⟩
          rw [HEN.out]
          have R13 := Lib.hid (R12.out.below b13); have OQ13 := Lib.hid (OQ12.out.below b13); have OK13 := Lib.hid (OK12.out.below b13); have B13 := Lib.hid (below_step B12.out (Nat.le_refl _) b13); clear b13 R12 OQ12 OK12 ec0
          have ec0 := kid_at OK13.out (i := 0) rfl
          have PT0 := Lib.hid (implPartOf_any (some ⟨b, 0, none⟩) c l SM.out ((k : Int) + 1) w13 R13.out (.inr ⟨hlc, hcm⟩))
          rw [Q0.out] at PT0
          go_wp2_with fail
          refine PT0.out.mono ?_
          rintro e w14 ⟨xa0, xc0, rfl, ox, b14⟩
          have OX0 := Lib.hid ox.rd
          have R14 := Lib.hid (R13.out.below b14); have OQ14 := Lib.hid (OQ13.out.below b14); have OK14 := Lib.hid (OK13.out.below b14); have B14 := Lib.hid (below_step B13.out (Nat.le_refl _) b14); clear b14 R13 OQ13 OK13 ec0 ox PT0
          go_wp2_with fail
          refine (implDepthOf_any _ xc0 x0 SX0.out _ OX0.out).mono ?_
          rintro e w15 ⟨rfl, b15⟩
          rw [Y0.out]
          have R15 := Lib.hid (R14.out.below b15); have OQ15 := Lib.hid (OQ14.out.below b15); have OK15 := Lib.hid (OK14.out.below b15); have B15 := Lib.hid (below_step B14.out (Nat.le_refl _) b15); clear b15 R14 OQ14 OK14 OX0
          have hq4 : (y0 + 1 != y0 + 1) = false := by simp
          go_wp2_with fail
          rw [rounds_succ]
          go_wp2_with fail
          refine (implDepthOf_any _ qc q SQ.out _ OQ15.out).mono ?_
          rintro e w16 ⟨rfl, b16⟩
          rw [HDE.out]
          have R16 := Lib.hid (show PRel w b l w16 (.int .i64 ((k : Int) + 1)) from ⟨k + 1, by simp, by omega, R15.out.below b16, below_step B15.out (Nat.le_refl _) b16⟩); clear b16 R15 OQ15 OK15
          go_wp2_with fail
          go_roundw
          case rel => exact R16.out
          case measure => simp [intOf]; omega
        · subst hks
          obtain ⟨kb, rfl⟩ : ∃ kb, ka = some ⟨kb, 0, none⟩ := by
            rcases KFO.out with ⟨_, _, h⟩ | ⟨g, h, _⟩
            · simp at h
            · exact ⟨g, h⟩
          have hdd0 : 1 ≤ depthN (partN l ((k : Int) + 1)) := hd1
          have hdd1 : 0 ≤ depthN (partN l m) := (depthN_bd _).1
          clear hd1
          obtain ⟨x0, hx0⟩ : ∃ x, partN l ((k : Int) + 1) = x := ⟨_, rfl⟩
          have SX0 := Lib.hid (partN_small SM.out ((k : Int) + 1))
          rw [hx0] at SX0 hde hdd0
          have Q0 := Lib.hid hx0; clear hx0
          obtain ⟨y0, hy0⟩ : ∃ y, depthN x0 = y := ⟨_, rfl⟩
          have by0 := depthN_bd x0
          rw [hy0] at hde hdd0 by0
          have Y0 := Lib.hid hy0; clear hy0
          obtain ⟨x1, hx1⟩ : ∃ x, partN l m = x := ⟨_, rfl⟩
          have SX1 := Lib.hid (partN_small SM.out m)
          rw [hx1] at SX1 hde hdd1
          have Q1 := Lib.hid hx1; clear hx1
          obtain ⟨y1, hy1⟩ : ∃ y, depthN x1 = y := ⟨_, rfl⟩
          have by1 := depthN_bd x1
          rw [hy1] at hde hdd1 by1
          have Y1 := Lib.hid hy1; clear hy1
          have hp0 : (0 : Int) < y0 := by omega
          have HDE := Lib.hid hde; have HEN := Lib.hid hen; have HEM := Lib.hid hem; clear hde hen hem
          have hq5 : (m != m) = false := by simp
          go_wp2_with fail
          refine wp_loop_rounds 3 ?_; rw [rounds_succ]
          have ec0 := kid_at OK12.out (i := 0) rfl
          go_wp2_with fail
          refine (implEndOf_any _ c l SM.out ((k : Int) + 1) _ R12.out).mono ?_
          rintro e w13 ⟨rfl, b13⟩
          rw [HEN.out]
          have R13 := Lib.hid (R12.out.below b13); have OQ13 := Lib.hid (OQ12.out.below b13); have OK13 := Lib.hid (OK12.out.below b13); have B13 := Lib.hid (below_step B12.out (Nat.le_refl _) b13); clear b13 R12 OQ12 OK12 ec0
          have ec0 := kid_at OK13.out (i := 0) rfl
          have PT0 := Lib.hid (implPartOf_any (some ⟨b, 0, none⟩) c l SM.out ((k : Int) + 1) w13 R13.out (.inr ⟨hlc, hcm⟩))
          rw [Q0.out] at PT0
          go_wp2_with fail
          refine PT0.out.mono ?_
          rintro e w14 ⟨xa0, xc0, rfl, ox, b14⟩
          have OX0 := Lib.hid ox.rd
          have R14 := Lib.hid (R13.out.below b14); have OQ14 := Lib.hid (OQ13.out.below b14); have OK14 := Lib.hid (OK13.out.below b14); have B14 := Lib.hid (below_step B13.out (Nat.le_refl _) b14); clear b14 R13 OQ13 OK13 ec0 ox PT0
          go_wp2_with fail
          refine (implDepthOf_any _ xc0 x0 SX0.out _ OX0.out).mono ?_
          rintro e w15 ⟨rfl, b15⟩
          rw [Y0.out]
          have R15 := Lib.hid (R14.out.below b15); have OQ15 := Lib.hid (OQ14.out.below b15); have OK15 := Lib.hid (OK14.out.below b15); have B15 := Lib.hid (below_step B14.out (Nat.le_refl _) b15); clear b15 R14 OQ14 OK14 OX0
          go_wp2_with fail
          rw [rounds_succ]
          have ec1 := kid_at OK15.out (i := 1) rfl
          go_wp2_with fail
          refine (implEndOf_any _ c l SM.out m _ R15.out).mono ?_
          rintro e w16 ⟨rfl, b16⟩
          rw [HEM.out]
          have R16 := Lib.hid (R15.out.below b16); have OQ16 := Lib.hid (OQ15.out.below b16); have OK16 := Lib.hid (OK15.out.below b16); have B16 := Lib.hid (below_step B15.out (Nat.le_refl _) b16); clear b16 R15 OQ15 OK15 ec1
          have ec1 := kid_at OK16.out (i := 1) rfl
          have PT1 := Lib.hid (implPartOf_any (some ⟨b, 0, none⟩) c l SM.out m w16 R16.out (.inr ⟨hlc, hcm⟩))
          rw [Q1.out] at PT1
          go_wp2_with fail
          refine PT1.out.mono ?_
          rintro e w17 ⟨xa1, xc1, rfl, ox, b17⟩
          have OX1 := Lib.hid ox.rd
          have R17 := Lib.hid (R16.out.below b17); have OQ17 := Lib.hid (OQ16.out.below b17); have OK17 := Lib.hid (OK16.out.below b17); have B17 := Lib.hid (below_step B16.out (Nat.le_refl _) b17); clear b17 R16 OQ16 OK16 ec1 ox PT1
          go_wp2_with fail
          refine (implDepthOf_any _ xc1 x1 SX1.out _ OX1.out).mono ?_
          rintro e w18 ⟨rfl, b18⟩
          rw [Y1.out]
          have R18 := Lib.hid (R17.out.below b18); have OQ18 := Lib.hid (OQ17.out.below b18); have OK18 := Lib.hid (OK17.out.below b18); have B18 := Lib.hid (below_step B17.out (Nat.le_refl _) b18); clear b18 R17 OQ17 OK17 OX1
          by_cases hyy : y0 < y1
          · have hmx : depthN q = y1 + 1 := by rw [HDE.out]; omega
            have hq4 : (y1 + 1 != y1 + 1) = false := by simp
            go_wp2_with fail
            rw [rounds_succ]
            go_wp2_with fail
            refine (implDepthOf_any _ qc q SQ.out _ OQ18.out).mono ?_
            rintro e w19 ⟨rfl, b19⟩
            rw [hmx]
            have R19 := Lib.hid (show PRel w b l w19 (.int .i64 ((k : Int) + 1)) from ⟨k + 1, by simp, by omega, R18.out.below b19, below_step B18.out (Nat.le_refl _) b19⟩); clear b19 R18 OQ18 OK18
            go_wp2_with fail
            go_roundw
            case rel => exact R19.out
            case measure => simp [intOf]; omega
          · have hmx : depthN q = y0 + 1 := by rw [HDE.out]; omega
            have hq4 : (y0 + 1 != y0 + 1) = false := by simp
            go_wp2_with fail
            rw [rounds_succ]
            go_wp2_with fail
            refine (implDepthOf_any _ qc q SQ.out _ OQ18.out).mono ?_
            rintro e w19 ⟨rfl, b19⟩
            rw [hmx]
            have R19 := Lib.hid (show PRel w b l w19 (.int .i64 ((k : Int) + 1)) from ⟨k + 1, by simp, by omega, R18.out.below b19, below_step B18.out (Nat.le_refl _) b19⟩); clear b19 R18 OQ18 OK18
            go_wp2_with fail
            go_roundw
            case rel => exact R19.out
            case measure => simp [intOf]; omega
      · have N0 := Lib.hid (show NRel w b l wr (.int .i64 0) (.int .i64 0) from ⟨0, rfl, by omega, rfl, RK.out, BK.out⟩)
        have hk' : ¬ (k : Int) < (l.length : Int) := by omega
        have SP := Lib.hid (sum_plan HB.out)
        have TF := Lib.hid (tabs_few l)
        clear RK BK
        go_wp2_with fail
        go_loopw [15, 16] (fun s i wr => NRel w b l wr s i) (fun _ i _ => 8 - (intOf i).toNat)
        case atStart => exact N0.out
        case round =>
          clear N0
          obtain ⟨j, rfl, hj, rfl, rj, bj⟩ := hrel
          have RJ := Lib.hid rj; have BJ := Lib.hid bj; clear rj bj
          by_cases hj8 : j < 8
          · have h8' : (j : Int) < 8 := by omega
            have sb := sumK_bd l j
            have sb2 : (j : Int) * (l.length : Int) ≤ 8 * 82 := by
              have h1 : (j : Int) * (l.length : Int) ≤ 8 * (l.length : Int) := Int.mul_le_mul_of_nonneg_right (by omega) (by omega)
              omega
            have cb := cnt_bd (j : Int) l
            go_wp2_with fail
            refine (implCountKind_any _ c l SM.out (j : Int) _ RJ.out).mono ?_
            rintro e w2 ⟨rfl, b2⟩
            rw [count_plan HB.out]
            have R2 := Lib.hid (show NRel w b l w2 (.int .i64 (sumK l j + cnt (j : Int) l)) (.int .i64 ((j : Int) + 1)) from ⟨j + 1, by simp, by omega, rfl, RJ.out.below b2, below_step BJ.out (Nat.le_refl _) b2⟩); clear b2
            go_wp2_with fail
            go_roundw
            case rel => exact R2.out
            case measure => simp [intOf]; omega
          · have h8' : ¬ (j : Int) < 8 := by omega
            obtain rfl : j = 8 := by omega
            rw [SP.out]
            go_wp2_with fail
            refine (implTables_any _ c l SM.out _ RJ.out).mono ?_
            rw [if_pos HB.out]
            obtain ⟨ts, hts⟩ : ∃ ts, tabsOf (scans l) = ts := ⟨_, rfl⟩
            rw [hts] at TF ⊢
            clear hts
            rintro e w2 ⟨ta, tc, rfl, _, b2⟩
            have R2 := Lib.hid (RJ.out.below b2); have B2 := Lib.hid (below_step BJ.out (Nat.le_refl _) b2); clear b2
            go_wp2_with fail
            refine (implCountKind_any _ c l SM.out 0 _ R2.out).mono ?_
            rintro e w3 ⟨rfl, b3⟩
            rw [count_plan HB.out]
            have B3 := Lib.hid (below_step B2.out (Nat.le_refl _) b3); clear b3
            have htf := TF.out
            have htf' : decide ((ts.length : Int) ≤ cnt 0 l) = true := by simp; exact htf
            go_wp2_with fail
            go_ret
            exact ⟨ret_bool (by simp [htf]), B3.out⟩
end Go.Proofs.Ytfbgflmolkgopaa.fnParts
