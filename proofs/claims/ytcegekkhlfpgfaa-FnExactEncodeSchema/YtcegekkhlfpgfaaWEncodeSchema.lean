/-
  The walk of FnExactEncodeSchema.
-/
import Derived.Test.YtcegekkhlfpgfaaRows
import Derived.Test.YtcegekkhlfpgfaaRead
import Derived.Test.YtcegekkhlfpgfaaKQ1
import Derived.Test.YtcegekkhlfpgfaaIEncQ
import Derived.Test.YtcegekkhlfpgfaaHTb
import Derived.Test.YtcegekkhlfpgfaaHTq
import Derived.Test.YtcegekkhlfpgfaaTbM
import Derived.Test.YtcegekkhlfpgfaaSlice
import Derived.Deep.RegionWith
namespace Go.Proofs.Ytcegekkhlfpgfaa.fnExactEncodeSchema
open Go.RowKit
set_option linter.unusedSimpArgs false
set_option linter.unusedVariables false
set_option linter.unusedVariables false

set_option maxRecDepth 100000 in
set_option maxHeartbeats 4000000 in
theorem walk (w : World) (a0 : Option Addr) (cap : Nat) (l : List Tb) (hn : l.length ≤ maxLen) (rd : RdT w a0 l) :
    Calls Try.prog 6 #[.slice a0 l.length cap] w fun e w' => e = .returned (.bool true) ∧ Below w.heap.size w w' := by
  have RD := Lib.hid rd; clear rd
  have hpl := encQ_len l
  have hgg : (!schemaB l == schemaB l) = false := by simp
  have hgg2 : (schemaB l != schemaB l) = false := by simp
  have SP := Lib.hid (fun a c w h h2 => specEncodeSchema_any a c l w h (Nat.le_trans (h2 : l.length ≤ 1048576) (by omega)))
  have IP := Lib.hid (fun a c w h h2 => implEncodeSchema_any a c l w h h2)
  obtain ⟨q, hq⟩ : ∃ q, q = encQ l := ⟨_, rfl⟩
  obtain ⟨ok, hok⟩ : ∃ ok, ok = schemaB l := ⟨_, rfl⟩
  rw [← hq] at hpl SP IP
  rw [← hok] at SP IP hgg hgg2
  clear hq hok
  have hqm : q.length ≤ maxLen := by unfold maxLen; omega
  go_enter Try.func6, Try.ntmps6
  go_wp2_with fail
  refine (szTableS_any a0 cap l 1048576 _ RD.out hn (by omega) (by omega)).mono ?_
  rintro e w1 ⟨r, rfl, b1, hr⟩
  have B1 := Lib.hid b1; clear b1
  rcases hr with rfl | ⟨hr0, hr⟩
  · go_wp2_with fail
    go_ret
    exact ⟨rfl, B1.out⟩
  have hl : l.length ≤ 1048576 := by omega
  clear hr
  go_wp2_with fail
  refine (toTableS_any a0 cap l _ (RD.out.below B1.out) hl).mono ?_
  rintro e w2 ⟨a2, c2, rfl, o2, b2⟩
  have B2 := Lib.hid (below_step B1.out (Nat.le_refl _) b2)
  have R2 := Lib.hid o2.rd
  clear o2 b2
  go_wp2_with fail
  refine (SP.out a2 c2 _ R2.out hl).mono ?_
  rintro e w3 ⟨a3, c3, rfl, o3, b3⟩
  have B3 := Lib.hid (below_step B2.out (Nat.le_refl _) b3)
  have P3 := Lib.hid o3
  have L3 := Lib.hid (fun x hx => (o3.lt x hx).2)
  clear o3 b3
  go_wp2_with fail
  refine (toTableS_any a0 cap l _ (RD.out.below B3.out) hl).mono ?_
  rintro e w4 ⟨a4, c4, rfl, o4, b4⟩
  have B4 := Lib.hid (below_step B3.out (Nat.le_refl _) b4)
  have P4 := Lib.hid (P3.out.below b4)
  have X4 := Lib.hid o4
  have z4 := Lib.hid b4.size
  have LX := Lib.hid (fun y hy => (o4.lt y hy).2)
  clear o4 b4 P3
  go_wp2_with fail
  refine (IP.out a4 c4 _ X4.out.rd hl).mono ?_
  rintro e w5 ⟨a5, c5, rfl, o5, b5⟩
  have B5 := Lib.hid (below_step B4.out (Nat.le_refl _) b5)
  have X5 := Lib.hid (X4.out.below b5)
  have P5 := Lib.hid (P4.out.below b5)
  have G5 := Lib.hid o5
  have L5 := Lib.hid (fun x hx => o5.lt x hx)
  have N35 : Hid (∀ x y, a3 = some x → a5 = some y → x.block ≠ y.block) := fun x y hx hy => by have h1 := L3.out x hx; have h2 := (o5.lt y hy).1; have h3 := z4.out; omega
  clear o5 b5 X4 P4
  go_wp2_with fail
  refine (eqByteS_any a5 a3 c5 c3 q q _ G5.out.rd P5.out.rd hqm hqm).mono ?_
  rintro e w6 ⟨rfl, b6⟩
  rw [eqL_refl]
  have B6 := Lib.hid (below_step B5.out (Nat.le_refl _) b6)
  have X6 := Lib.hid (X5.out.below b6)
  have P6 := Lib.hid (P5.out.below b6)
  have G6 := Lib.hid (G5.out.below b6)
  clear b6 X5 P5 G5
  go_wp2_with fail
  refine (toTableS_any a0 cap l _ (RD.out.below B6.out) hl).mono ?_
  rintro e w7 ⟨a7, c7, rfl, o7, b7⟩
  have B7 := Lib.hid (below_step B6.out (Nat.le_refl _) b7)
  have X7 := Lib.hid (X6.out.below b7)
  have P7 := Lib.hid (P6.out.below b7)
  have G7 := Lib.hid (G6.out.below b7)
  have R7 := Lib.hid o7.rd
  clear o7 b7 X6 P6 G6
  go_wp2_with fail
  refine (eqTableS_any a4 a7 c4 c7 l l _ X7.out.rd R7.out hn hn).mono ?_
  rintro e w8 ⟨rfl, b8⟩
  rw [eqTs_refl]
  have B8 := Lib.hid (below_step B7.out (Nat.le_refl _) b8)
  have X8 := Lib.hid (X7.out.below b8)
  have P8 := Lib.hid (P7.out.below b8)
  have G8 := Lib.hid (G7.out.below b8)
  clear b8 X7 P7 G7 R7
  go_wp2_with fail
  refine (markTableS_any _ a4 c4 l 1 _ X8.out (by omega) (by omega)).mono ?_
  rintro e w9 ⟨rfl, _, g9⟩
  have B9 := Lib.hid (below_grow B8.out (Nat.le_refl _) g9 (fun x hx => Nat.le_trans B3.out.size (X8.out.lt x hx).1))
  have P9 := Lib.hid (P8.out.apart g9 (fun x y hx hy => by have := L3.out x hx; have := (X8.out.lt y hy).1; omega))
  have G9 := Lib.hid (G8.out.apart g9 (fun x y hx hy => by have := (G8.out.lt x hx).1; have := LX.out y hy; omega))
  clear g9 X8 P8 G8
  go_wp2_with fail
  refine (eqByteS_any a5 a3 c5 c3 q q _ G9.out.rd P9.out.rd hqm hqm).mono ?_
  rintro e w10 ⟨rfl, b10⟩
  rw [eqL_refl]
  have B10 := Lib.hid (below_step B9.out (Nat.le_refl _) b10)
  have P10 := Lib.hid (P9.out.below b10)
  have G10 := Lib.hid (G9.out.below b10)
  clear b10 P9 G9
  go_wp2_with fail
  refine (markByteS_any _ a5 c5 q 1 _ G10.out (by omega) (by omega)).mono ?_
  rintro e w11 ⟨rfl, m11, g11⟩
  have B11 := Lib.hid (below_grow B10.out (Nat.le_refl _) g11 (fun x hx => Nat.le_trans B4.out.size (L5.out x hx).1))
  have P11 := Lib.hid (P10.out.apart g11 N35.out)
  have M11 := Lib.hid m11
  clear m11 g11 P10 G10
  go_wp2_with fail
  refine (heldByteS_any a5 c5 q.length 1 _ M11.out (by omega) (by omega)).mono ?_
  rintro e w' ⟨rfl, rfl⟩
  go_wp2_with fail
  refine (toTableS_any a0 cap l _ (RD.out.below B11.out) hl).mono ?_
  rintro e w12 ⟨a12, c12, rfl, o12, b12⟩
  have B12 := Lib.hid (below_step B11.out (Nat.le_refl _) b12)
  have P12 := Lib.hid (P11.out.below b12)
  have M12 := Lib.hid (M11.out.below b12)
  have R12 := Lib.hid o12.rd
  clear o12 b12 P11 M11
  go_wp2_with fail
  refine (IP.out a12 c12 _ R12.out hl).mono ?_
  rintro e w13 ⟨a13, c13, rfl, o13, b13⟩
  have B13 := Lib.hid (below_step B12.out (Nat.le_refl _) b13)
  have P13 := Lib.hid (P12.out.below b13)
  have M13 := Lib.hid (M12.out.below b13)
  have G13 := Lib.hid o13
  clear o13 b13 P12 M12
  go_wp2_with fail
  refine (eqByteS_any a13 a3 c13 c3 q q _ G13.out.rd P13.out.rd hqm hqm).mono ?_
  rintro e w14 ⟨rfl, b14⟩
  rw [eqL_refl]
  have B14 := Lib.hid (below_step B13.out (Nat.le_refl _) b14)
  have M14 := Lib.hid (M13.out.below b14)
  clear b14
  go_wp2_with fail
  refine (heldByteS_any a5 c5 q.length 1 _ M14.out (by omega) (by omega)).mono ?_
  rintro e w' ⟨rfl, rfl⟩
  go_wp2_with fail
  go_ret
  exact ⟨rfl, B14.out⟩
end Go.Proofs.Ytcegekkhlfpgfaa.fnExactEncodeSchema
