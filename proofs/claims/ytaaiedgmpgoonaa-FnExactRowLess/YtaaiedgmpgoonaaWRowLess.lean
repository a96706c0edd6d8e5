/-
  The walk of FnExactRowLess.
-/
import Derived.Test.YtaaiedgmpgoonaaRows
import Derived.Test.YtaaiedgmpgoonaaRead
import Derived.Test.YtaaiedgmpgoonaaSLess
import Derived.Test.YtaaiedgmpgoonaaILess
import Derived.Test.YtaaiedgmpgoonaaHR
import Derived.Deep.RegionWith
namespace Go.Proofs.Ytaaiedgmpgoonaa.fnExactRowLess
open Go.RowKit
set_option linter.unusedSimpArgs false
set_option linter.unusedVariables false
set_option linter.unusedVariables false

set_option maxRecDepth 100000 in
set_option maxHeartbeats 1600000 in
theorem walk (w : World) (a0 : Option Addr) (cap0 : Nat) (l0 : List Int) (n0 : l0.length ≤ maxLen) (rd0 : Rd w .i64 a0 l0 ∧ ∀ z ∈ l0, (Lit.int .i64 z).wf = true) (a1 : Option Addr) (cap1 : Nat) (l1 : List Int) (n1 : l1.length ≤ maxLen) (rd1 : Rd w .i64 a1 l1 ∧ ∀ z ∈ l1, (Lit.int .i64 z).wf = true) :
    Calls Try.prog 5 #[.slice a0 l0.length cap0, .slice a1 l1.length cap1] w fun e w' => e = .returned (.bool true) ∧ Below w.heap.size w w' := by
  have WF0 := Lib.hid rd0.2
  have RD0 := Lib.hid rd0.1; clear rd0
  have nn0 := n0; unfold maxLen at nn0
  have WF1 := Lib.hid rd1.2
  have RD1 := Lib.hid rd1.1; clear rd1
  have nn1 := n1; unfold maxLen at nn1
  by_cases hl0 : (1048576 : Int) < (l0.length : Int)
  · go_enter Try.func5, Try.ntmps5
    go_wp2_with fail
    go_ret
    exact ⟨rfl, Below.refl _ _⟩
  have hl0 : l0.length ≤ 1048576 := by omega
  by_cases hl1 : (1048576 : Int) < (l1.length : Int)
  · go_enter Try.func5, Try.ntmps5
    go_wp2_with fail
    go_ret
    exact ⟨rfl, Below.refl _ _⟩
  have hl1 : l1.length ≤ 1048576 := by omega
  have HQ : (!lessL l0 l1 == lessL l0 l1) = false := by simp
  go_enter Try.func5, Try.ntmps5
  go_wp2_with fail
  refine (toIntS_any a0 cap0 l0 _ (RD0.out.below (Below.refl w.heap.size w)) (by omega)).mono ?_
  rintro e w1 ⟨p1, c1, rfl, o1, b1⟩
  have B1 := Lib.hid (below_step (Below.refl w.heap.size w) (Nat.le_refl _) b1)
  have X1 := Lib.hid o1.rd
  clear o1 b1
  go_wp2_with fail
  refine (toIntS_any a1 cap1 l1 _ (RD1.out.below B1.out) (by omega)).mono ?_
  rintro e w2 ⟨p2, c2, rfl, o2, b2⟩
  have B2 := Lib.hid (below_step B1.out (Nat.le_refl _) b2)
  replace X1 := Lib.hid (X1.out.below b2)
  have X2 := Lib.hid o2.rd
  clear o2 b2
  go_wp2_with fail
  refine (specRowLess_any p1 p2 c1 c2 l0 l1 _ X1.out X2.out n0 n1).mono ?_
  rintro e w3 ⟨rfl, b3⟩
  clear X1
  clear X2
  have B3 := Lib.hid (below_step B2.out (Nat.le_refl _) b3)
  clear b3
  go_wp2_with fail
  refine (toIntS_any a0 cap0 l0 _ (RD0.out.below B3.out) (by omega)).mono ?_
  rintro e w4 ⟨p4, c4, rfl, o4, b4⟩
  have B4 := Lib.hid (below_step B3.out (Nat.le_refl _) b4)
  have X4 := Lib.hid o4.rd
  clear o4 b4
  go_wp2_with fail
  refine (toIntS_any a1 cap1 l1 _ (RD1.out.below B4.out) (by omega)).mono ?_
  rintro e w5 ⟨p5, c5, rfl, o5, b5⟩
  have B5 := Lib.hid (below_step B4.out (Nat.le_refl _) b5)
  replace X4 := Lib.hid (X4.out.below b5)
  have X5 := Lib.hid o5.rd
  clear o5 b5
  go_wp2_with fail
  refine (implRowLess_any p4 p5 c4 c5 l0 l1 _ X4.out X5.out n0 n1).mono ?_
  rintro e w6 ⟨rfl, b6⟩
  have B6 := Lib.hid (below_step B5.out (Nat.le_refl _) b6)
  replace X4 := Lib.hid (X4.out.below b6)
  replace X5 := Lib.hid (X5.out.below b6)
  clear b6
  go_wp2_with fail
  refine (toIntS_any a0 cap0 l0 _ (RD0.out.below B6.out) (by omega)).mono ?_
  rintro e w7 ⟨p7, c7, rfl, o7, b7⟩
  have B7 := Lib.hid (below_step B6.out (Nat.le_refl _) b7)
  replace X4 := Lib.hid (X4.out.below b7)
  replace X5 := Lib.hid (X5.out.below b7)
  have X7 := Lib.hid o7.rd
  clear o7 b7
  go_wp2_with fail
  refine (eqIntS_any p4 p7 c4 c7 l0 l0 _ X4.out X7.out n0 n0).mono ?_
  rintro e w8 ⟨rfl, b8⟩
  rw [eqL_refl]
  clear X4 X7
  have B8 := Lib.hid (below_step B7.out (Nat.le_refl _) b8)
  replace X5 := Lib.hid (X5.out.below b8)
  clear b8
  go_wp2_with fail
  refine (toIntS_any a1 cap1 l1 _ (RD1.out.below B8.out) (by omega)).mono ?_
  rintro e w9 ⟨p9, c9, rfl, o9, b9⟩
  have B9 := Lib.hid (below_step B8.out (Nat.le_refl _) b9)
  replace X5 := Lib.hid (X5.out.below b9)
  have X9 := Lib.hid o9.rd
  clear o9 b9
  go_wp2_with fail
  refine (eqIntS_any p5 p9 c5 c9 l1 l1 _ X5.out X9.out n1 n1).mono ?_
  rintro e w10 ⟨rfl, b10⟩
  rw [eqL_refl]
  clear X5 X9
  have B10 := Lib.hid (below_step B9.out (Nat.le_refl _) b10)
  clear b10
  go_wp2_with fail
  go_ret
  exact ⟨rfl, B10.out⟩
end Go.Proofs.Ytaaiedgmpgoonaa.fnExactRowLess
