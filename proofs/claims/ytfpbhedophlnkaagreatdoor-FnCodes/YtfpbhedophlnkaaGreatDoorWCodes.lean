/-
  The walk of FnCodes.
-/
import Derived.Test.YtfpbhedophlnkaaGreatDoorRows
import Derived.Test.YtfpbhedophlnkaaGreatDoorJ15x
import Derived.Test.YtfpbhedophlnkaaGreatDoorJ39x
import Derived.Test.YtfpbhedophlnkaaGreatDoorJ45x
import Derived.Test.YtfpbhedophlnkaaGreatDoorJ50x
import Derived.Test.YtfpbhedophlnkaaGreatDoorJ53x
import Derived.Test.YtfpbhedophlnkaaGreatDoorJ37x
import Derived.Deep.DeepCutAuto
namespace Go.Proofs.YtfpbhedophlnkaaGreatDoor.fnCodes
open Go.RowKit
set_option linter.unusedSimpArgs false
set_option linter.unusedVariables false
set_option linter.unusedVariables false

theorem rd_take {w : World} {a : Option Addr} {l : List Int} (h : Rd w .u8 a l) (k : Nat) : Rd w .u8 a (l.take k) := by
  rcases h with rfl | ⟨b, off, rfl, hc⟩
  · left; simp
  · refine .inr ⟨b, off, rfl, fun i hi => ?_⟩
    rw [List.length_take] at hi
    rw [hc i (by omega), List.getD_eq_getElem?_getD, List.getD_eq_getElem?_getD, List.getElem?_take_of_lt (by omega)]
set_option maxRecDepth 100000 in
set_option maxHeartbeats 8000000 in
theorem walk (w : World) (a0 : Option Addr) (cap0 : Nat) (code : List Int) (hn : code.length ≤ maxLen) (rd0 : Rd w .u8 a0 code) (hby : By code) (hg : ErrT w) :
    Calls Tryz.prog 5 #[.slice a0 code.length cap0] w fun e w' => e = .returned (.bool true) ∧ Below w.heap.size w w' := by
  by_cases h : 1048576 < code.length
  · have B := Lib.hid (big_t a0 code.length cap0 w h hn)
    clear hg
    go_enter Tryz.func5, Tryz.ntmps5
    go_wp2_with fail
    refine B.out.mono ?_
    rintro e w' ⟨rfl, rfl⟩
    go_wp2_with fail
    go_ret
    exact ⟨rfl, Below.refl _ _⟩
  have B := Lib.hid (big_f a0 code.length cap0 w h)
  have DR := Lib.hid (drawEncodePlan_any a0 cap0 code w rd0 hby (by omega))
  have AL := Lib.hid (fun W (h : Rd W .u8 a0 code) => alt_any a0 cap0 code 1 W h hby (by omega) (by omega) (by omega))
  have AT0 := Lib.hid (fun W (h : Rd W .u8 a0 code) => at_any a0 cap0 code 0 W h hby (by omega) (by omega) (by omega))
  have AT1 := Lib.hid (fun W (h : Rd W .u8 a0 code) => at_any a0 cap0 code 1 W h hby (by omega) (by omega) (by omega))
  have G := Lib.hid hg
  have RC := Lib.hid rd0
  clear rd0 hby hn h hg
  generalize code.length = cn at *
  go_enter Tryz.func5, Tryz.ntmps5
  go_wp2_with fail
  refine B.out.mono ?_
  rintro e w' ⟨rfl, rfl⟩
  go_wp2_with fail
  refine DR.out.mono ?_
  rintro e w1 ⟨l, b, c, rfl, h82, sm, hlc, hcm, rd, b1⟩
  have SM := Lib.hid sm; have R1 := Lib.hid rd; have B1 := Lib.hid b1
  have hl6 : l.length ≤ 1048576 := by omega
  have hlm : l.length ≤ maxLen := by omega
  clear sm rd b1 DR B
  have IE := Lib.hid (fun W h => implEncodePlan_any (some ⟨b, 0, none⟩) c l SM.out W h)
  have SE := Lib.hid (fun W h => specEncodePlan_any (some ⟨b, 0, none⟩) c l W h hl6)
  have IS := Lib.hid (fun W h => implPlanSum_any (some ⟨b, 0, none⟩) c l SM.out W h)
  have SS := Lib.hid (fun W h => specPlanSum_any (some ⟨b, 0, none⟩) c l W h hl6)
  have DE := Lib.hid (fun (hb : planB l = true) => dec_enc hb)
  have DC := Lib.hid (fun (hb : planB l = true) k hk => dec_cut hb (k := k) hk)
  have hel := encP_len l
  have HEY := Lib.hid (encP_by l)
  have HEP : Hid (planB l = true → 1 ≤ (encP l).length) := fun hb => by
    have e := dec_enc hb
    rcases Nat.eq_zero_or_pos (encP l).length with h0 | h0
    · exfalso
      have h1 : encP l = [] := List.eq_nil_of_length_eq_zero h0
      rw [h1] at e
      have h2 : (decP []).2 = 1 := rfl
      rw [e] at h2; simp at h2
    · exact h0
  generalize encP l = bs at IE SE DE DC hel HEY HEP
  generalize sumP l = sm at IS SS
  have SB := Lib.hid (fun (x y : Option Addr × Nat) W (h : Rd W .u8 x.1 bs) (k : Rd W .u8 y.1 bs) => sameBytes_any x.1 y.1 x.2 y.2 bs bs W h k (by unfold maxLen; omega) (by unfold maxLen; omega))
  rw [eqL_refl] at SB
  have ID := Lib.hid (fun W a d (hg : ErrT W) (h : Rd W .u8 a bs) (hd : bs.length ≤ d) (hd2 : d ≤ maxLen) => implDecodePlan_any a d bs W hg h HEY.out (by unfold maxLen; omega) hd hd2)
  have IC := Lib.hid (fun W a d k (hg : ErrT W) (h : Rd W .u8 a (bs.take k)) (hd : (bs.take k).length ≤ d) (hd2 : d ≤ maxLen) => implDecodePlan_any a d (bs.take k) W hg h (fun z hz => HEY.out z (List.mem_of_mem_take hz)) (by simp; unfold maxLen; omega) hd hd2)
  generalize hbl : bs.length = nb at *
  have HBL := Lib.hid hbl; clear hbl
  go_wp2_with fail
  refine (SE.out _ R1.out).mono ?_
  rintro e w2 ⟨a2, c2, rfl, o2, b2⟩
  rw [HBL.out]
  have B2 := Lib.hid (below_step B1.out (Nat.le_refl _) b2); have R2 := Lib.hid (R1.out.below b2); have Q2 := Lib.hid o2.rd; clear o2 b2
  go_wp2_with fail
  refine (IE.out _ R2.out).mono ?_
  rintro e w3 ⟨a3, c3, rfl, o3, b3⟩
  rw [HBL.out]
  have B3 := Lib.hid (below_step B2.out (Nat.le_refl _) b3); have R3 := Lib.hid (R2.out.below b3); have Q3 := Lib.hid (Q2.out.below b3); have P3 := Lib.hid o3.rd
  have hc3 := o3.cap_ge; have hc3' := o3.cap_le
  rw [HBL.out] at hc3
  clear o3 b3
  go_wp2_with fail
  have pp : (planB l != planB l) = false := by simp
  refine (SB.out (a3, c3) (a2, c2) _ P3.out Q3.out).mono ?_
  rintro e w4 ⟨rfl, b4⟩
  have B4 := Lib.hid (below_step B3.out (Nat.le_refl _) b4); have R4 := Lib.hid (R3.out.below b4); have P4 := Lib.hid (P3.out.below b4); clear b4
  go_wp2_with fail
  refine (IS.out _ R4.out).mono ?_
  rintro e w5 ⟨rfl, b5⟩
  have B5 := Lib.hid (below_step B4.out (Nat.le_refl _) b5); have R5 := Lib.hid (R4.out.below b5); have P5 := Lib.hid (P4.out.below b5); clear b5
  go_wp2_with fail
  refine (SS.out _ R5.out).mono ?_
  rintro e w6 ⟨rfl, b6⟩
  have B6 := Lib.hid (below_step B5.out (Nat.le_refl _) b6); have R6 := Lib.hid (R5.out.below b6); have P6 := Lib.hid (P5.out.below b6); clear b6
  clear IE SE IS SS SB B1 B2 B3 B4 B5 R1 R2 R3 R4 R5 Q2 Q3 P3 P4 P5
  go_upto_if 49 with fail
  go_cut [5, 7] (fun _ _ wx => Below w.heap.size w wx)
  case first =>
    cases hb : planB l with
    | false =>
      go_wp2_with fail
      go_meet
      exact B6.out
    | true =>
      have e1 := DE.out hb
      have hnb1 := HEP.out hb
      have DCC := Lib.hid (DC.out hb)
      rw [e1] at ID
      unfold MadeN2 at ID
      simp only at ID
      clear hb DE e1 HEP DC
      go_wp2_with fail
      refine (ID.out _ a3 c3 (G.out.below B6.out) P6.out hc3 hc3').mono ?_
      rintro e w7 ⟨a7, c7, rfl, o7, b7⟩
      have R7 := Lib.hid o7.rd; have Q7 := Lib.hid (R6.out.below b7); have P7 := Lib.hid (P6.out.below b7)
      have B7 := Lib.hid (below_step B6.out (Nat.le_refl _) b7)
      clear o7 b7
      go_wp2_with fail
      refine (AT0.out _ (RC.out.below B7.out)).mono ?_
      rintro e w' ⟨⟨x, x0, x1, rfl⟩, rfl⟩
      go_wp2_with fail
      refine (AT1.out _ (RC.out.below B7.out)).mono ?_
      rintro e w' ⟨⟨y, y0, y1, rfl⟩, rfl⟩
      have z0 : 0 ≤ x * (1 + y) := Int.mul_nonneg x0 (by omega)
      have z1 : x * (1 + y) ≤ 65280 := by
        have h1 : x * (1 + y) ≤ 255 * (1 + y) := Int.mul_le_mul_of_nonneg_right x1 (by omega)
        omega
      have hw1 : wrap64 (x * (1 + y)) = x * (1 + y) := by unfold wrap64; omega
      have nb0 : ((nb : Int) == 0) = false := by simp; omega
      have nb1 : (0 : Int) < nb := by omega
      obtain ⟨k, hk⟩ : ∃ k : Nat, (x * (1 + y)) % (nb : Int) = k := ⟨((x * (1 + y)) % (nb : Int)).toNat, by have := Int.emod_nonneg (x * (1 + y)) (show (nb : Int) ≠ 0 by omega); omega⟩
      have hkn : k < nb := by have := Int.emod_lt_of_pos (x * (1 + y)) nb1; omega
      have htm : (x * (1 + y)).tmod (nb : Int) = k := by rw [Int.tmod_eq_emod_of_nonneg z0]; exact hk
      have TKL : (bs.take k).length = k := by rw [List.length_take, HBL.out]; omega
      have IK := IC.out _ a3 c3 k (G.out.below B7.out) (rd_take P7.out k) (by rw [TKL]; omega) hc3'
      have hdz := DCC.out k hkn
      obtain ⟨⟨l2, z⟩, hlz⟩ : ∃ r, r = decP (bs.take k) := ⟨_, rfl⟩
      rw [TKL, ← hlz] at IK
      rw [← hlz] at hdz
      unfold MadeN2 at IK
      simp only at IK hdz
      have IK2 := Lib.hid IK
      clear hlz IK TKL IC DCC ID
      have hz0 : (z == 0) = false := by simpa using hdz
      go_wp2_with fail
      refine IK2.out.mono ?_
      rintro e w8 ⟨a8, c8, rfl, o8, b8⟩
      have R8 := Lib.hid (R7.out.below b8); have Q8 := Lib.hid (Q7.out.below b8)
      have B8 := Lib.hid (below_step B7.out (Nat.le_refl _) b8)
      clear o8 b8
      go_wp2_with fail
      refine (implSamePlan_any a7 (some ⟨b, 0, none⟩) c7 c l l _ R8.out Q8.out hlm hlm).mono ?_
      rintro e w9 ⟨rfl, b9⟩
      rw [eqNs_refl]
      have B9 := Lib.hid (below_step B8.out (Nat.le_refl _) b9)
      clear b9
      go_wp2_with fail
      go_meet
      exact B9.out
  case rest =>
    have BC := Lib.hid hcut
    clear hcut B6 R6 P6 ID IC DE DC HEY HEP SM HBL
    go_wp2_with fail
    refine (AL.out _ (RC.out.below BC.out)).mono ?_
    rintro e x1 ⟨m, am, cm, rfl, hm1, hmb, om, bx1⟩
    have RM := Lib.hid om.rd; have X1 := Lib.hid (below_step BC.out (Nat.le_refl _) bx1); have HMB := Lib.hid hmb
    clear om bx1 hmb
    go_wp2_with fail
    refine (drawDecodePlan_any am cm m _ RM.out HMB.out (by omega)).mono ?_
    rintro e x2 ⟨s, sa, sc, rfl, hs1, hsb, os, bx2⟩
    have X2 := Lib.hid (below_step X1.out (Nat.le_refl _) bx2)
    have RS := Lib.hid os.rd
    have hcs := os.cap_ge; have hcs' := os.cap_le
    have HSB := Lib.hid hsb
    have hsm : s.length ≤ maxLen := by unfold maxLen; omega
    clear os bx2 hsb
    have ID := Lib.hid (fun W (hg : ErrT W) (h : Rd W .u8 sa s) => implDecodePlan_any sa sc s W hg h HSB.out hsm hcs hcs')
    have SD := Lib.hid (fun W (h : Rd W .u8 sa s) => specDecodePlan_any sa sc s W h HSB.out hsm hcs hcs' (by omega))
    have ED := Lib.hid (fun (h : (decP s).2 = 0) => enc_dec HSB.out h)
    have DP := Lib.hid (fun (h : (decP s).2 = 0) => dec_plan (l := s) h)
    have hsl := decP_small HSB.out
    obtain ⟨⟨q, pl⟩, hq⟩ : ∃ r, r = decP s := ⟨_, rfl⟩
    rw [← hq] at ID SD ED DP hsl
    clear hq
    simp only at ED DP hsl
    unfold MadeN2 at ID SD
    simp only at ID SD
    obtain ⟨hq1, hq2⟩ := hsl
    have hqm : q.length ≤ maxLen := by unfold maxLen; omega
    have SMQ : Hid (Small q) := ⟨by omega, fun n hn => by have := hq2 n hn; omega⟩
    clear hq2
    go_wp2_with fail
    refine (ID.out _ (G.out.below X2.out) RS.out).mono ?_
    rintro e x3 ⟨a3, c3, rfl, o3, bx3⟩
    have R3 := Lib.hid o3.rd; have X3 := Lib.hid (below_step X2.out (Nat.le_refl _) bx3); have S3 := Lib.hid (RS.out.below bx3)
    clear o3 bx3
    go_wp2_with fail
    refine (SD.out _ S3.out).mono ?_
    rintro e x4 ⟨a4, c4, rfl, o4, bx4⟩
    have R4 := Lib.hid o4.rd; have Q4 := Lib.hid (R3.out.below bx4); have X4 := Lib.hid (below_step X3.out (Nat.le_refl _) bx4); have S4 := Lib.hid (S3.out.below bx4)
    clear o4 bx4
    go_wp2_with fail
    refine (implSamePlan_any a3 a4 c3 c4 q q _ Q4.out R4.out hqm hqm).mono ?_
    rintro e x5 ⟨rfl, bx5⟩
    rw [eqNs_refl]
    have X5 := Lib.hid (below_step X4.out (Nat.le_refl _) bx5); have Q5 := Lib.hid (Q4.out.below bx5); have S5 := Lib.hid (S4.out.below bx5)
    clear bx5
    by_cases h0 : pl = 0
    · subst h0
      have IE := Lib.hid (implEncodePlan_any a3 c3 q SMQ.out _ Q5.out)
      rw [ED.out rfl, DP.out rfl] at IE
      go_wp2_with fail
      refine IE.out.mono ?_
      rintro e x6 ⟨a6, c6, rfl, o6, bx6⟩
      have X6 := Lib.hid (below_step X5.out (Nat.le_refl _) bx6); have S6 := Lib.hid (S5.out.below bx6); have R6 := Lib.hid o6.rd
      clear bx6 o6
      go_wp2_with fail
      refine (sameBytes_any a6 sa c6 sc s s _ R6.out S6.out hsm hsm).mono ?_
      rintro e x7 ⟨rfl, bx7⟩
      rw [eqL_refl]
      have X7 := Lib.hid (below_step X6.out (Nat.le_refl _) bx7); clear bx7
      go_wp2_with fail
      go_ret
      exact ⟨rfl, X7.out⟩
    · have h0' : (pl != 0) = true := by simpa using h0
      go_wp2_with fail
      go_ret
      exact ⟨rfl, X5.out⟩
end Go.Proofs.YtfpbhedophlnkaaGreatDoor.fnCodes
