/-
  The walk of FnExactRowText.
-/
import Derived.Test.YtaaiedgmpgoonaaDoorRows
import Derived.Test.YtaaiedgmpgoonaaDoorSTxt
import Derived.Test.YtaaiedgmpgoonaaDoorITxt
import Derived.OpenShut
namespace Go.Proofs.YtaaiedgmpgoonaaDoor.fnExactRowText
open Go.RowKit
set_option linter.unusedSimpArgs false
set_option linter.unusedVariables false
set_option linter.unusedVariables false

theorem i64s_of {l : List Int} (h : ∀ z ∈ l, (Lit.int .i64 z).wf = true) : I64s l := by
  intro z hz
  exact bounds_i64 (h z hz)
set_option maxRecDepth 100000 in
set_option maxHeartbeats 1600000 in
theorem walk (w : World) (a0 : Option Addr) (cap0 : Nat) (l0 : List Int) (n0 : l0.length ≤ maxLen) (rd0 : Rd w .i64 a0 l0 ∧ ∀ z ∈ l0, (Lit.int .i64 z).wf = true) (hg : GTab w) :
    Calls Tryd.prog 3 #[.slice a0 l0.length cap0] w fun e w' => e = .returned (.bool true) ∧ Below w.heap.size w w' := by
  have V := Lib.hid (i64s_of rd0.2)
  have G := Lib.hid hg; clear hg
  have RD0 := Lib.hid rd0.1; clear rd0
  have nn0 := n0; unfold maxLen at nn0
  by_cases hl0 : (1048576 : Int) < (l0.length : Int)
  · go_enter Tryd.func3, Tryd.ntmps3
    go_wp2_with fail
    go_ret
    exact ⟨rfl, Below.refl _ _⟩
  have hl0 : l0.length ≤ 1048576 := by omega
  go_enter Tryd.func3, Tryd.ntmps3
  go_wp2_with fail
  refine (toIntS_any a0 cap0 l0 _ (RD0.out.below (Below.refl w.heap.size w)) (by omega)).mono ?_
  rintro e w1 ⟨p1, c1, rfl, o1, b1⟩
  have B1 := Lib.hid (below_step (Below.refl w.heap.size w) (Nat.le_refl _) b1)
  have X1 := Lib.hid o1.rd
  clear o1 b1
  go_wp2_with fail
  refine (specRowText_any p1 c1 l0 _ X1.out (by omega) V.out).mono ?_
  rintro e w2 ⟨rfl, b2⟩
  clear X1
  have B2 := Lib.hid (below_step B1.out (Nat.le_refl _) b2)
  clear b2
  go_wp2_with fail
  refine (toIntS_any a0 cap0 l0 _ (RD0.out.below B2.out) (by omega)).mono ?_
  rintro e w3 ⟨p3, c3, rfl, o3, b3⟩
  have B3 := Lib.hid (below_step B2.out (Nat.le_refl _) b3)
  have X3 := Lib.hid o3.rd
  clear o3 b3
  go_wp2_with fail
  refine (implRowText_any p3 c3 l0 _ X3.out (by omega) V.out (gtab_below G.out B3.out)).mono ?_
  rintro e w4 ⟨rfl, b4⟩
  have B4 := Lib.hid (below_step B3.out (Nat.le_refl _) b4)
  replace X3 := Lib.hid (X3.out.below b4)
  clear b4
  go_wp2_with fail
  refine (toIntS_any a0 cap0 l0 _ (RD0.out.below B4.out) (by omega)).mono ?_
  rintro e w5 ⟨p5, c5, rfl, o5, b5⟩
  have B5 := Lib.hid (below_step B4.out (Nat.le_refl _) b5)
  replace X3 := Lib.hid (X3.out.below b5)
  have X5 := Lib.hid o5.rd
  clear o5 b5
  go_wp2_with fail
  refine (eqIntS_any p3 p5 c3 c5 l0 l0 _ X3.out X5.out n0 n0).mono ?_
  rintro e w6 ⟨rfl, b6⟩
  rw [eqL_refl]
  clear X3 X5
  have B6 := Lib.hid (below_step B5.out (Nat.le_refl _) b6)
  clear b6
  go_wp2_with fail
  go_ret
  exact ⟨rfl, B6.out⟩
end Go.Proofs.YtaaiedgmpgoonaaDoor.fnExactRowText
