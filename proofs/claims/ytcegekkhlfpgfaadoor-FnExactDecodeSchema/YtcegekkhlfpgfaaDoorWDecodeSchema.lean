/-
  The walk of FnExactDecodeSchema.
-/
import Derived.Test.YtcegekkhlfpgfaaDoorRows
import Derived.Test.YtcegekkhlfpgfaaDoorArg
import Derived.Test.YtcegekkhlfpgfaaDoorSlice
import Derived.Test.YtcegekkhlfpgfaaDoorSDecQ
import Derived.Test.YtcegekkhlfpgfaaDoorIDecQ
import Derived.Test.YtcegekkhlfpgfaaDoorHTb
import Derived.Test.YtcegekkhlfpgfaaDoorHTq
import Derived.Test.YtcegekkhlfpgfaaDoorTbM
namespace Go.Proofs.YtcegekkhlfpgfaaDoor.fnExactDecodeSchema
open Go.RowKit
set_option linter.unusedSimpArgs false
set_option linter.unusedVariables false
set_option linter.unusedVariables false

theorem decQ_len (l : List Int) : ((decQ l).getD []).length ≤ 8 := by
  unfold decQ
  split
  · simp
  · split
    · simp
    · rename_i h
      split
      · exact countT_8 h
      · simp
set_option maxRecDepth 100000 in
set_option maxHeartbeats 4000000 in
theorem walk (a0 : Option Addr) (len0 cap0 : Nat) (z0 : List Int) (w : World) (w0 : IsRow .u8 w a0 len0 cap0 z0) (hg : ErrT w) :
    Calls Tryd.prog 4 #[.slice a0 len0 cap0] w fun e w' => e = .returned (.bool true) ∧ Below w.heap.size w w' := by
  obtain ⟨l, rfl, hn, hr, hwf⟩ := w0.rd
  have hby := by_of_wf hwf
  clear w0 hwf
  by_cases h : 1048576 < l.length
  · have h' : (1048576 : Int) < l.length := by omega
    clear hg
    go_enter Tryd.func4, Tryd.ntmps4
    go_wp2
    go_ret
    exact ⟨rfl, Below.refl _ _⟩
  have h' : (l.length : Int) ≤ 1048576 := by omega
  have hql := decQ_len l
  have S : Hid (∀ (b : Option Addr) (d : Nat) (w : World), Rd w .u8 b l → l.length ≤ d → d ≤ maxLen → Calls Tryd.prog 15 #[.slice b l.length d] w (MadeT2 (decQ l) w)) := fun b d w h h1 h2 => specDecodeSchema_any b d l w h hby hn h1 h2 (by omega)
  have I : Hid (∀ (b : Option Addr) (d : Nat) (w : World), ErrT w → Rd w .u8 b l → l.length ≤ d → d ≤ maxLen → Calls Tryd.prog 16 #[.slice b l.length d] w (MadeT2 (decQ l) w)) := fun b d w g h h1 h2 => implDecodeSchema_any b d l w g h hby hn h1 h2
  unfold MadeT2 at S I
  generalize (decQ l).getD [] = q at S I hql
  generalize (decQ l).isSome = nx at S I
  have hnn : (nx != nx) = false := by cases nx <;> rfl
  have C : Hid (∀ (b : Option Addr) (d : Nat) (w : World), Rd w .u8 b l → Calls Tryd.prog 8 #[.slice b l.length d] w (Made w 5 .u8 l)) := fun b d w h => toByteS_any b d l w h (by omega)
  have hm : q.length ≤ maxLen := by unfold maxLen; omega
  have HM := Lib.hid hm; have HN := Lib.hid hn; have R0 := Lib.hid hr; have G0 := Lib.hid hg
  clear hm h hn hr hg hby
  go_enter Tryd.func4, Tryd.ntmps4
  go_wp2_with fail
  refine (C.out _ _ _ R0.out).mono ?_
  rintro e w1 ⟨a1, c1, rfl, o1, b1⟩
  have R1 := Lib.hid (R0.out.below b1); have T1 := Lib.hid b1; have X1 := Lib.hid o1; clear o1 b1
  go_wp2_with fail
  refine (S.out _ _ _ X1.out.rd X1.out.cap_ge X1.out.cap_le).mono ?_
  rintro e w2 ⟨aw, cw, rfl, o2, b2⟩
  have R2 := Lib.hid (R1.out.below b2); have T2 := Lib.hid (below_step T1.out (Nat.le_refl _) b2); have W2 := Lib.hid o2; clear o2 b2 X1 R1 T1
  go_wp2_with fail
  refine (C.out _ _ _ R2.out).mono ?_
  rintro e w3 ⟨ax, cx, rfl, o3, b3⟩
  have nwx : ∀ a b, aw = some a → ax = some b → a.block ≠ b.block := fun a b ha hb => by have := (W2.out.lt a ha).2; have := (o3.lt b hb).1; omega
  have bx : ∀ b, ax = some b → w.heap.size ≤ b.block := fun b hb => Nat.le_trans T2.out.size (o3.lt b hb).1
  have R3 := Lib.hid (R2.out.below b3); have T3 := Lib.hid (below_step T2.out (Nat.le_refl _) b3); have W3 := Lib.hid (W2.out.below b3); have X3 := Lib.hid o3
  have NWX := Lib.hid nwx; have BX := Lib.hid bx
  clear o3 b3 R2 T2 W2 nwx bx
  go_wp2_with fail
  refine (I.out _ _ _ (G0.out.below T3.out) X3.out.rd X3.out.cap_ge X3.out.cap_le).mono ?_
  rintro e w4 ⟨ag, cg, rfl, o4, b4⟩
  have nxg : ∀ a b, ag = some a → ax = some b → a.block ≠ b.block := fun a b ha hb => by have := (X3.out.lt b hb).2; have := (o4.lt a ha).1; omega
  have nwg : ∀ a b, aw = some a → ag = some b → a.block ≠ b.block := fun a b ha hb => by have := (W3.out.lt a ha).2; have := (o4.lt b hb).1; omega
  have bg : ∀ b, ag = some b → w.heap.size ≤ b.block := fun b hb => Nat.le_trans T3.out.size (o4.lt b hb).1
  have R4 := Lib.hid (R3.out.below b4); have T4 := Lib.hid (below_step T3.out (Nat.le_refl _) b4); have W4 := Lib.hid (W3.out.below b4); have X4 := Lib.hid (X3.out.below b4); have G4 := Lib.hid o4
  have NXG := Lib.hid nxg; have NWG := Lib.hid nwg; have BG := Lib.hid bg
  clear o4 b4 R3 T3 W3 X3 nxg nwg bg
  go_wp2_with fail
  refine (eqTableS_any _ _ _ _ _ _ _ G4.out.rd W4.out.rd HM.out HM.out).mono ?_
  rintro e w5 ⟨rfl, b5⟩
  rw [eqTs_refl]
  have R5 := Lib.hid (R4.out.below b5); have T5 := Lib.hid (below_step T4.out (Nat.le_refl _) b5); have W5 := Lib.hid (W4.out.below b5); have X5 := Lib.hid (X4.out.below b5); have G5 := Lib.hid (G4.out.below b5)
  clear b5 R4 T4 W4 X4 G4
  go_wp2_with fail
  refine (C.out _ _ _ R5.out).mono ?_
  rintro e w6 ⟨ay, cy, rfl, o6, b6⟩
  have R6 := Lib.hid (R5.out.below b6); have T6 := Lib.hid (below_step T5.out (Nat.le_refl _) b6); have W6 := Lib.hid (W5.out.below b6); have X6 := Lib.hid (X5.out.below b6); have G6 := Lib.hid (G5.out.below b6); have Y6 := Lib.hid o6
  clear o6 b6 R5 T5 W5 X5 G5
  go_wp2_with fail
  refine (eqByteS_any _ _ _ _ _ _ _ X6.out.rd Y6.out.rd HN.out HN.out).mono ?_
  rintro e w7 ⟨rfl, b7⟩
  rw [eqL_refl]
  have R7 := Lib.hid (R6.out.below b7); have T7 := Lib.hid (below_step T6.out (Nat.le_refl _) b7); have W7 := Lib.hid (W6.out.below b7); have X7 := Lib.hid (X6.out.below b7); have G7 := Lib.hid (G6.out.below b7)
  clear b7 R6 T6 W6 X6 G6 Y6
  go_wp2_with fail
  refine (markByteS_any _ _ _ _ 1 _ X7.out (by omega) (by omega)).mono ?_
  rintro e w8 ⟨rfl, _, g8⟩
  have W8 := Lib.hid (W7.out.apart g8 NWX.out); have G8 := Lib.hid (G7.out.apart g8 NXG.out)
  have T8 := Lib.hid (below_grow T7.out (Nat.le_refl _) g8 BX.out)
  have R8 : Hid (Rd w8 .u8 a0 l) := Lib.hid (R0.out.below T8.out)
  clear g8 R7 T7 W7 X7 G7 NWX NXG BX
  go_wp2_with fail
  refine (eqTableS_any _ _ _ _ _ _ _ G8.out.rd W8.out.rd HM.out HM.out).mono ?_
  rintro e w9 ⟨rfl, b9⟩
  rw [eqTs_refl]
  have R9 := Lib.hid (R8.out.below b9); have T9 := Lib.hid (below_step T8.out (Nat.le_refl _) b9); have W9 := Lib.hid (W8.out.below b9); have G9 := Lib.hid (G8.out.below b9)
  clear b9 R8 T8 W8 G8
  go_wp2_with fail
  refine (markTableS_any _ _ _ _ 1 _ G9.out (by omega) (by omega)).mono ?_
  rintro e w10 ⟨rfl, r10, g10⟩
  have W10 := Lib.hid (W9.out.apart g10 NWG.out)
  have T10 := Lib.hid (below_grow T9.out (Nat.le_refl _) g10 BG.out)
  have R10 : Hid (Rd w10 .u8 a0 l) := Lib.hid (R0.out.below T10.out)
  have K10 := Lib.hid r10
  clear r10 g10 R9 T9 W9 G9 NWG BG
  go_wp2_with fail
  refine (heldTableS_any _ _ _ q.length 1 _ K10.out (by omega) (by omega)).mono ?_
  rintro e v10 ⟨rfl, bb⟩
  have TT10 := Lib.hid (below_step T10.out (Nat.le_refl _) bb); have WW10 := Lib.hid (W10.out.below bb); have KK10 := Lib.hid (K10.out.below bb)
  have RR10 : Hid (Rd v10 .u8 a0 l) := Lib.hid (R0.out.below TT10.out)
  clear bb R10 T10 W10 K10
  go_wp2_with fail
  refine (C.out _ _ _ RR10.out).mono ?_
  rintro e w11 ⟨au, cu, rfl, o11, b11⟩
  have T11 := Lib.hid (below_step TT10.out (Nat.le_refl _) b11); have W11 := Lib.hid (WW10.out.below b11); have K11 := Lib.hid (KK10.out.below b11); have U11 := Lib.hid o11
  clear o11 b11 RR10 TT10 WW10 KK10
  go_wp2_with fail
  refine (I.out _ _ _ (G0.out.below T11.out) U11.out.rd U11.out.cap_ge U11.out.cap_le).mono ?_
  rintro e w12 ⟨ah, ch, rfl, o12, b12⟩
  have T12 := Lib.hid (below_step T11.out (Nat.le_refl _) b12); have W12 := Lib.hid (W11.out.below b12); have K12 := Lib.hid (K11.out.below b12); have H12 := Lib.hid o12
  clear o12 b12 T11 W11 K11 U11
  go_wp2_with fail
  refine (eqTableS_any _ _ _ _ _ _ _ H12.out.rd W12.out.rd HM.out HM.out).mono ?_
  rintro e w13 ⟨rfl, b13⟩
  rw [eqTs_refl]
  have T13 := Lib.hid (below_step T12.out (Nat.le_refl _) b13); have K13 := Lib.hid (K12.out.below b13)
  clear b13 T12 W12 K12 H12
  go_wp2_with fail
  refine (heldTableS_any _ _ _ q.length 1 _ K13.out (by omega) (by omega)).mono ?_
  rintro e v13 ⟨rfl, bb⟩
  have TT13 := Lib.hid (below_step T13.out (Nat.le_refl _) bb)
  clear bb
  go_wp2_with fail
  go_ret
  exact ⟨rfl, TT13.out⟩
end Go.Proofs.YtcegekkhlfpgfaaDoor.fnExactDecodeSchema
