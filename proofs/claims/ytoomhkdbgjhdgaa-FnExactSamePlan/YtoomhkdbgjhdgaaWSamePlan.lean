/-
  The walk of FnExactSamePlan.
-/
import Derived.Test.YtoomhkdbgjhdgaaRows
import Derived.Test.YtoomhkdbgjhdgaaRead
import Derived.Test.YtoomhkdbgjhdgaaSame
import Derived.Test.YtoomhkdbgjhdgaaHT
import Derived.Test.YtoomhkdbgjhdgaaHQ
import Derived.Test.YtoomhkdbgjhdgaaSm
import Derived.Deep.RegionWith
namespace Go.Proofs.Ytoomhkdbgjhdgaa.fnExactSamePlan
open Go.RowKit
set_option linter.unusedSimpArgs false
set_option linter.unusedVariables false
set_option linter.unusedVariables false

set_option maxRecDepth 100000 in
set_option maxHeartbeats 1600000 in
theorem walk (w : World) (a0 : Option Addr) (cap0 : Nat) (l : List Nd) (hn : l.length ≤ maxLen) (rd : RdN w a0 l) (a1 : Option Addr) (cap1 : Nat) (m : List Nd) (hm : m.length ≤ maxLen) (rd1 : RdN w a1 m) :
    Calls Try.prog 11 #[.slice a0 l.length cap0, .slice a1 m.length cap1] w fun e w' => e = .returned (.bool true) ∧ Below w.heap.size w w' := by
  have RD := Lib.hid rd; clear rd
  have RE := Lib.hid rd1; clear rd1
  have hq : (!eqNs l m == eqNs l m) = false := by simp
  go_enter Try.func11, Try.ntmps11
  go_wp2_with fail
  refine (szNodeS_any a0 cap0 l 1048576 _ RD.out hn (by omega) (by omega)).mono ?_
  rintro e w1 ⟨r, rfl, b1, hr⟩
  have B1 := Lib.hid b1; clear b1
  rcases hr with rfl | ⟨hr0, hr⟩
  · go_wp2_with fail
    go_ret
    exact ⟨rfl, B1.out⟩
  have SM := Lib.hid (small_of hr0 hr (by omega))
  have hl : l.length ≤ 1048576 := SM.out.1
  have hr1 : r ≤ 1048576 := by omega
  clear hr
  go_wp2_with fail
  refine (szNodeS_any a1 cap1 m r _ (RE.out.below B1.out) hm hr0 hr1).mono ?_
  rintro e w1' ⟨r', rfl, b1, hr⟩
  have B1' := Lib.hid (below_step B1.out (Nat.le_refl _) b1); clear b1 B1
  rcases hr with rfl | ⟨hr2, hr⟩
  · go_wp2_with fail
    go_ret
    exact ⟨rfl, B1'.out⟩
  have SN := Lib.hid (small_of hr2 hr hr1)
  have hl' : m.length ≤ 1048576 := SN.out.1
  clear hr
  go_wp2_with fail
  refine (toNodeS_any a0 cap0 l _ (RD.out.below B1'.out) hl SM.out.2).mono ?_
  rintro e w2 ⟨a2, c2, rfl, o2, b2⟩
  have B2 := Lib.hid (below_step B1'.out (Nat.le_refl _) b2)
  have R2 := Lib.hid o2.rd
  clear o2 b2
  go_wp2_with fail
  refine (toNodeS_any a1 cap1 m _ (RE.out.below B2.out) hl' SN.out.2).mono ?_
  rintro e w3 ⟨a3, c3, rfl, o3, b3⟩
  have B3 := Lib.hid (below_step B2.out (Nat.le_refl _) b3)
  have R3 := Lib.hid o3.rd
  have Q3 := Lib.hid (R2.out.below b3)
  clear o3 b3
  go_wp2_with fail
  refine (specSamePlan_any a2 a3 c2 c3 l m _ Q3.out R3.out hn hm).mono ?_
  rintro e w4 ⟨rfl, b4⟩
  have B4 := Lib.hid (below_step B3.out (Nat.le_refl _) b4)
  clear b4
  go_wp2_with fail
  refine (toNodeS_any a0 cap0 l _ (RD.out.below B4.out) hl SM.out.2).mono ?_
  rintro e w5 ⟨a5, c5, rfl, o5, b5⟩
  have B5 := Lib.hid (below_step B4.out (Nat.le_refl _) b5)
  have R5 := Lib.hid o5.rd
  clear o5 b5
  go_wp2_with fail
  refine (toNodeS_any a1 cap1 m _ (RE.out.below B5.out) hl' SN.out.2).mono ?_
  rintro e w6 ⟨a6, c6, rfl, o6, b6⟩
  have B6 := Lib.hid (below_step B5.out (Nat.le_refl _) b6)
  have R6 := Lib.hid o6.rd
  have Q6 := Lib.hid (R5.out.below b6)
  clear o6 b6
  go_wp2_with fail
  refine (implSamePlan_any a5 a6 c5 c6 l m _ Q6.out R6.out hn hm).mono ?_
  rintro e w7 ⟨rfl, b7⟩
  have B7 := Lib.hid (below_step B6.out (Nat.le_refl _) b7)
  have R7 := Lib.hid (R6.out.below b7)
  have Q7 := Lib.hid (Q6.out.below b7)
  clear b7
  go_wp2_with fail
  refine (toNodeS_any a0 cap0 l _ (RD.out.below B7.out) hl SM.out.2).mono ?_
  rintro e w8 ⟨a8, c8, rfl, o8, b8⟩
  have B8 := Lib.hid (below_step B7.out (Nat.le_refl _) b8)
  have S8 := Lib.hid o8.rd
  have R8 := Lib.hid (R7.out.below b8)
  have Q8 := Lib.hid (Q7.out.below b8)
  clear o8 b8
  go_wp2_with fail
  refine (eqNodeS_any a5 a8 c5 c8 l l _ Q8.out S8.out hn hn).mono ?_
  rintro e w9 ⟨rfl, b9⟩
  rw [eqNs_refl]
  have B9 := Lib.hid (below_step B8.out (Nat.le_refl _) b9)
  have R9 := Lib.hid (R8.out.below b9)
  clear b9
  go_wp2_with fail
  refine (toNodeS_any a1 cap1 m _ (RE.out.below B9.out) hl' SN.out.2).mono ?_
  rintro e w10 ⟨a10, c10, rfl, o10, b10⟩
  have B10 := Lib.hid (below_step B9.out (Nat.le_refl _) b10)
  have S10 := Lib.hid o10.rd
  have R10 := Lib.hid (R9.out.below b10)
  clear o10 b10
  go_wp2_with fail
  refine (eqNodeS_any a6 a10 c6 c10 m m _ R10.out S10.out hm hm).mono ?_
  rintro e w11 ⟨rfl, b11⟩
  rw [eqNs_refl]
  have B11 := Lib.hid (below_step B10.out (Nat.le_refl _) b11)
  clear b11
  go_wp2_with fail
  go_ret
  exact ⟨rfl, B11.out⟩
end Go.Proofs.Ytoomhkdbgjhdgaa.fnExactSamePlan
