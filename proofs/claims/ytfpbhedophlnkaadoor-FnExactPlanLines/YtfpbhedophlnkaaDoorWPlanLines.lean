/-
  The walk of FnExactPlanLines.
-/
import Derived.Test.YtfpbhedophlnkaaDoorRows
import Derived.Test.YtfpbhedophlnkaaDoorRead
import Derived.Test.YtfpbhedophlnkaaDoorSLin
import Derived.Test.YtfpbhedophlnkaaDoorILin
import Derived.Test.YtfpbhedophlnkaaDoorKH
import Derived.Deep.RegionWith
namespace Go.Proofs.YtfpbhedophlnkaaDoor.fnExactPlanLines
open Go.RowKit
set_option linter.unusedSimpArgs false
set_option linter.unusedVariables false
set_option linter.unusedVariables false

set_option maxRecDepth 100000 in
set_option maxHeartbeats 1600000 in
theorem walk (w : World) (a0 : Option Addr) (cap : Nat) (l : List Nd) (hn : l.length ≤ maxLen) (rd : RdN w a0 l) (hg : GTab w) :
    Calls Tryd.prog 5 #[.slice a0 l.length cap] w fun e w' => e = .returned (.bool true) ∧ Below w.heap.size w w' := by
  have RD := Lib.hid rd; clear rd
  have G := Lib.hid hg
  have SN := Lib.hid (fun a c W h (hp : l.length ≤ 1048576) => specPlanLines_any a c l W h hp)
  have IN := Lib.hid (fun a c (hp : Small l) W h g => implPlanLines_any a c l hp W h g)
  clear hg
  generalize linO l = R at SN IN
  go_enter Tryd.func5, Tryd.ntmps5
  go_wp2_with fail
  refine (szNodeS_any a0 cap l 1048576 _ RD.out hn (by omega) (by omega)).mono ?_
  rintro e w1 ⟨r, rfl, b1, hr⟩
  have B1 := Lib.hid b1; clear b1
  rcases hr with rfl | ⟨hr0, hr⟩
  · go_wp2_with fail
    go_ret
    exact ⟨rfl, B1.out⟩
  have SM := Lib.hid (small_of hr0 hr (by omega))
  have hl : l.length ≤ 1048576 := SM.out.1
  clear hr
  go_wp2_with fail
  refine (toNodeS_any a0 cap l _ (RD.out.below B1.out) hl SM.out.2).mono ?_
  rintro e w2 ⟨a2, c2, rfl, o2, b2⟩
  have B2 := Lib.hid (below_step B1.out (Nat.le_refl _) b2)
  have R2 := Lib.hid o2.rd
  clear o2 b2
  go_wp2_with fail
  refine (SN.out a2 c2 _ R2.out hl).mono ?_
  rintro e w3 ⟨rfl, b3⟩
  have B3 := Lib.hid (below_step B2.out (Nat.le_refl _) b3)
  clear b3
  go_wp2_with fail
  refine (toNodeS_any a0 cap l _ (RD.out.below B3.out) hl SM.out.2).mono ?_
  rintro e w4 ⟨a4, c4, rfl, o4, b4⟩
  have B4 := Lib.hid (below_step B3.out (Nat.le_refl _) b4)
  have R4 := Lib.hid o4.rd
  clear o4 b4
  go_wp2_with fail
  refine (IN.out a4 c4 SM.out _ R4.out (gtab_below G.out B4.out)).mono ?_
  rintro e w5 ⟨rfl, b5⟩
  have B5 := Lib.hid (below_step B4.out (Nat.le_refl _) b5)
  have R5 := Lib.hid (R4.out.below b5)
  clear b5
  go_wp2_with fail
  refine (toNodeS_any a0 cap l _ (RD.out.below B5.out) hl SM.out.2).mono ?_
  rintro e w6 ⟨a6, c6, rfl, o6, b6⟩
  have B6 := Lib.hid (below_step B5.out (Nat.le_refl _) b6)
  have R6 := Lib.hid (R5.out.below b6)
  have Q6 := Lib.hid o6.rd
  clear o6 b6
  go_wp2_with fail
  refine (eqNodeS_any a4 a6 c4 c6 l l _ R6.out Q6.out hn hn).mono ?_
  rintro e w7 ⟨rfl, b7⟩
  rw [eqNs_refl]
  have B7 := Lib.hid (below_step B6.out (Nat.le_refl _) b7)
  clear b7
  go_wp2_with fail
  go_ret
  exact ⟨rfl, B7.out⟩
end Go.Proofs.YtfpbhedophlnkaaDoor.fnExactPlanLines
