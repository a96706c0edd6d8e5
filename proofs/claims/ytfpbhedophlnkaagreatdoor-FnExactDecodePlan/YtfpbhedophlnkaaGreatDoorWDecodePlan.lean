/-
  The walk of FnExactDecodePlan.
-/
import Derived.Test.YtfpbhedophlnkaaGreatDoorRows
import Derived.Test.YtfpbhedophlnkaaGreatDoorArg
import Derived.Test.YtfpbhedophlnkaaGreatDoorSlice
import Derived.Test.YtfpbhedophlnkaaGreatDoorSDecP
import Derived.Test.YtfpbhedophlnkaaGreatDoorIDecP
import Derived.Test.YtfpbhedophlnkaaGreatDoorKM
namespace Go.Proofs.YtfpbhedophlnkaaGreatDoor.fnExactDecodePlan
open Go.RowKit
set_option linter.unusedSimpArgs false
set_option linter.unusedVariables false
set_option linter.unusedVariables false

theorem mlen_300 {l : List Nd} (h : ∀ n ∈ l, n.cols.length ≤ 300) : mlen l ≤ 306 * l.length := by
  induction l with
  | nil => simp [mlen_nil]
  | cons n l ih =>
    rw [mlen_cons]
    have h1 := h n (by simp)
    have h2 := ih (fun m hm => h m (by simp [hm]))
    simp only [List.length_cons]; omega
set_option maxRecDepth 100000 in
set_option maxHeartbeats 4000000 in
theorem walk (a0 : Option Addr) (len0 cap0 : Nat) (z0 : List Int) (w : World) (w0 : IsRow .u8 w a0 len0 cap0 z0) (hg : ErrT w) :
    Calls Tryz.prog 7 #[.slice a0 len0 cap0] w fun e w' => e = .returned (.bool true) ∧ Below w.heap.size w w' := by
  obtain ⟨l, rfl, hn, hr, hwf⟩ := w0.rd
  have hby := by_of_wf hwf
  clear w0 hwf
  by_cases h : 1048576 < l.length
  · have h' : (1048576 : Int) < l.length := by omega
    clear hg
    go_enter Tryz.func7, Tryz.ntmps7
    go_wp2
    go_ret
    exact ⟨rfl, Below.refl _ _⟩
  have h' : (l.length : Int) ≤ 1048576 := by omega
  have hd0 := decP_small hby
  have hm2 := mlen_300 hd0.2
  have hql := hd0.1
  have hm0 := mlen_pos (decP l).1
  clear hd0
  have S : Hid (∀ (b : Option Addr) (d : Nat) (w : World), Rd w .u8 b l → l.length ≤ d → d ≤ maxLen → Calls Tryz.prog 46 #[.slice b l.length d] w (MadeN2 (decP l) w)) := fun b d w h h1 h2 => specDecodePlan_any b d l w h hby hn h1 h2 (by omega)
  have I : Hid (∀ (b : Option Addr) (d : Nat) (w : World), ErrT w → Rd w .u8 b l → l.length ≤ d → d ≤ maxLen → Calls Tryz.prog 42 #[.slice b l.length d] w (MadeN2 (decP l) w)) := fun b d w g h h1 h2 => implDecodePlan_any b d l w g h hby hn h1 h2
  unfold MadeN2 at S I
  generalize (decP l).1 = q at S I hql hm2 hm0
  generalize (decP l).2 = nx at S I
  have hnn : (nx != nx) = false := by simp
  have C : Hid (∀ (b : Option Addr) (d : Nat) (w : World), Rd w .u8 b l → Calls Tryz.prog 59 #[.slice b l.length d] w (Made w 5 .u8 l)) := fun b d w h => toByteS_any b d l w h (by omega)
  have hm : q.length ≤ maxLen := by unfold maxLen; omega
  have HM := Lib.hid hm; have HN := Lib.hid hn; have R0 := Lib.hid hr; have G0 := Lib.hid hg
  clear hm h hn hr hg hby
  go_enter Tryz.func7, Tryz.ntmps7
  go_wp2_with fail
  refine (C.out _ _ _ R0.out).mono ?_
  rintro e w1 ⟨a1, c1, rfl, o1, b1⟩
  have R1 := Lib.hid (R0.out.below b1); have T1 := Lib.hid b1; have X1 := Lib.hid o1; clear o1 b1
  go_wp2_with fail
  refine (S.out _ _ _ X1.out.rd X1.out.cap_ge X1.out.cap_le).mono ?_
  rintro e w2 ⟨aw, cw, rfl, o2, b2⟩
  have R2 := Lib.hid (R1.out.below b2); have T2 := Lib.hid (below_step T1.out (Nat.le_refl _) b2); have W2 := Lib.hid o2.rd
  have z2 := T2.out.size
  clear o2 b2 X1 R1 T1
  go_wp2_with fail
  refine (C.out _ _ _ R2.out).mono ?_
  rintro e w3 ⟨ax, cx, rfl, o3, b3⟩
  have R3 := Lib.hid (R2.out.below b3); have T3 := Lib.hid (below_step T2.out (Nat.le_refl _) b3); have D3 := Lib.hid b3; have X3 := Lib.hid o3
  have XL := Lib.hid (fun b hb => (o3.lt b hb).2)
  have XM := Lib.hid (fun b hb => (o3.lt b hb).1)
  have z3 := b3.size
  clear o3 b3 R2 T2
  go_wp2_with fail
  refine (I.out _ _ _ (G0.out.below T3.out) X3.out.rd X3.out.cap_ge X3.out.cap_le).mono ?_
  rintro e w4 ⟨ag, cg, rfl, o4, b4⟩
  have R4 := Lib.hid (R3.out.below b4); have T4 := Lib.hid (below_step T3.out (Nat.le_refl _) b4); have D4 := Lib.hid (below_step D3.out (Nat.le_refl _) b4); have X4 := Lib.hid (X3.out.below b4); have G4 := Lib.hid o4.hi
  have z4 := b4.size
  clear o4 b4 R3 T3 D3 X3
  go_wp2_with fail
  refine (eqNodeS_any _ _ _ _ _ _ _ G4.out.rd (W2.out.below D4.out) HM.out HM.out).mono ?_
  rintro e w5 ⟨rfl, b5⟩
  rw [eqNs_refl]
  have R5 := Lib.hid (R4.out.below b5); have T5 := Lib.hid (below_step T4.out (Nat.le_refl _) b5); have D5 := Lib.hid (below_step D4.out (Nat.le_refl _) b5); have X5 := Lib.hid (X4.out.below b5); have G5 := Lib.hid (G4.out.below b5)
  clear b5 R4 T4 D4 X4 G4
  go_wp2_with fail
  refine (C.out _ _ _ R5.out).mono ?_
  rintro e w6 ⟨ay, cy, rfl, o6, b6⟩
  have T6 := Lib.hid (below_step T5.out (Nat.le_refl _) b6); have D6 := Lib.hid (below_step D5.out (Nat.le_refl _) b6); have X6 := Lib.hid (X5.out.below b6); have G6 := Lib.hid (G5.out.below b6); have Y6 := Lib.hid o6
  clear o6 b6 R5 T5 D5 X5 G5
  go_wp2_with fail
  refine (eqByteS_any _ _ _ _ _ _ _ X6.out.rd Y6.out.rd HN.out HN.out).mono ?_
  rintro e w7 ⟨rfl, b7⟩
  rw [eqL_refl]
  have T7 := Lib.hid (below_step T6.out (Nat.le_refl _) b7); have D7 := Lib.hid (below_step D6.out (Nat.le_refl _) b7); have X7 := Lib.hid (X6.out.below b7); have G7 := Lib.hid (G6.out.below b7)
  clear b7 T6 D6 X6 G6 Y6
  go_wp2_with fail
  refine (markByteS_any _ _ _ _ 1 _ X7.out (by omega) (by omega)).mono ?_
  rintro e w8 ⟨rfl, _, g8⟩
  have f8 : Frame w2.heap.size w3.heap.size w7 w8 := Frame.of_grown g8 (fun r hr => by
    cases ax with
    | none => cases hr
    | some b => simp at hr; subst hr; exact ⟨XM.out b rfl, XL.out b rfl⟩)
  have T8 := Lib.hid (f8.below T7.out z2 (Nat.le_refl _))
  have D8 := Lib.hid (f8.below D7.out (Nat.le_refl _) (Nat.le_refl _))
  have G8 := Lib.hid (G7.out.frame f8 (.inr (Nat.le_refl _)))
  clear g8 f8 T7 D7 X7 G7
  go_wp2_with fail
  refine (eqNodeS_any _ _ _ _ _ _ _ G8.out.rd (W2.out.below D8.out) HM.out HM.out).mono ?_
  rintro e w9 ⟨rfl, b9⟩
  rw [eqNs_refl]
  have T9 := Lib.hid (below_step T8.out (Nat.le_refl _) b9); have D9 := Lib.hid (below_step D8.out (Nat.le_refl _) b9); have G9 := Lib.hid (G8.out.below b9)
  clear b9 T8 D8 G8
  go_wp2_with fail
  refine (markNodeS_any _ _ ag cg q 1 _ G9.out (by omega) (by omega) (by omega)).mono ?_
  rintro e w10 ⟨rfl, m10, f10⟩
  have T10 := Lib.hid (f10.below T9.out (Nat.le_trans z2 z3) (Nat.le_refl _))
  have D10 := Lib.hid (f10.below D9.out z3 (Nat.le_refl _))
  have K10 := Lib.hid m10.rd
  clear m10 f10 T9 D9 G9
  go_wp2_with fail
  refine (heldNodeS_any ag cg q 1 _ K10.out (by omega) (by omega) (by omega)).mono ?_
  rintro e v10 ⟨rfl, bb⟩
  have TT10 := Lib.hid (below_step T10.out (Nat.le_refl _) bb); have DD10 := Lib.hid (below_step D10.out (Nat.le_refl _) bb); have KK10 := Lib.hid (K10.out.below bb)
  have RR10 : Hid (Rd v10 .u8 a0 l) := Lib.hid (R0.out.below TT10.out)
  have q1 : (1 + mlen q != 1 + mlen q) = false := by simp
  clear bb T10 D10 K10
  go_wp2_with fail
  refine (C.out _ _ _ RR10.out).mono ?_
  rintro e w11 ⟨au, cu, rfl, o11, b11⟩
  have T11 := Lib.hid (below_step TT10.out (Nat.le_refl _) b11); have D11 := Lib.hid (below_step DD10.out (Nat.le_refl _) b11); have K11 := Lib.hid (KK10.out.below b11); have U11 := Lib.hid o11
  clear o11 b11 RR10 TT10 DD10 KK10
  go_wp2_with fail
  refine (I.out _ _ _ (G0.out.below T11.out) U11.out.rd U11.out.cap_ge U11.out.cap_le).mono ?_
  rintro e w12 ⟨ah, ch, rfl, o12, b12⟩
  have T12 := Lib.hid (below_step T11.out (Nat.le_refl _) b12); have D12 := Lib.hid (below_step D11.out (Nat.le_refl _) b12); have K12 := Lib.hid (K11.out.below b12); have H12 := Lib.hid o12.rd
  clear o12 b12 T11 D11 K11 U11
  go_wp2_with fail
  refine (eqNodeS_any _ _ _ _ _ _ _ H12.out (W2.out.below D12.out) HM.out HM.out).mono ?_
  rintro e w13 ⟨rfl, b13⟩
  rw [eqNs_refl]
  have T13 := Lib.hid (below_step T12.out (Nat.le_refl _) b13); have K13 := Lib.hid (K12.out.below b13)
  clear b13 T12 D12 K12 H12
  go_wp2_with fail
  refine (heldNodeS_any ag cg q 1 _ K13.out (by omega) (by omega) (by omega)).mono ?_
  rintro e v13 ⟨rfl, bb⟩
  have TT13 := Lib.hid (below_step T13.out (Nat.le_refl _) bb)
  clear bb
  go_wp2_with fail
  go_ret
  exact ⟨rfl, TT13.out⟩
end Go.Proofs.YtfpbhedophlnkaaGreatDoor.fnExactDecodePlan
