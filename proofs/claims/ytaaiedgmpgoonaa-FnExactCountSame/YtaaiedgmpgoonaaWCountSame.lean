/-
  The walk of FnExactCountSame.
-/
import Derived.Test.YtaaiedgmpgoonaaRows
import Derived.Test.YtaaiedgmpgoonaaRead
import Derived.Test.YtaaiedgmpgoonaaSRows
import Derived.Test.YtaaiedgmpgoonaaIRows
import Derived.Test.YtaaiedgmpgoonaaHR
import Derived.Deep.RegionWith
namespace Go.Proofs.Ytaaiedgmpgoonaa.fnExactCountSame
open Go.RowKit
set_option linter.unusedSimpArgs false
set_option linter.unusedVariables false
set_option linter.unusedVariables false

set_option maxRecDepth 100000 in
set_option maxHeartbeats 1600000 in
theorem walk (w : World) (a0 : Option Addr) (cap0 : Nat) (l0 : List (List Int)) (n0 : l0.length ≤ maxLen) (rd0 : RdR w a0 l0) (a1 : Option Addr) (cap1 : Nat) (l1 : List Int) (n1 : l1.length ≤ maxLen) (rd1 : Rd w .i64 a1 l1 ∧ ∀ z ∈ l1, (Lit.int .i64 z).wf = true) :
    Calls Try.prog 9 #[.slice a0 l0.length cap0, .slice a1 l1.length cap1] w fun e w' => e = .returned (.bool true) ∧ Below w.heap.size w w' := by
  have RD0 := Lib.hid rd0; clear rd0
  have WF1 := Lib.hid rd1.2
  have RD1 := Lib.hid rd1.1; clear rd1
  have nn1 := n1; unfold maxLen at nn1
  by_cases hl1 : (1048576 : Int) < (l1.length : Int)
  · go_enter Try.func9, Try.ntmps9
    go_wp2_with fail
    go_ret
    exact ⟨rfl, Below.refl _ _⟩
  have hl1 : l1.length ≤ 1048576 := by omega
  have HQ : ((countL l0 l1 : Int) != (countL l0 l1 : Int)) = false := by simp
  go_enter Try.func9, Try.ntmps9
  go_wp2_with fail
  refine (szIntSS_any a0 cap0 l0 1048576 _ (RD0.out.below (Below.refl w.heap.size w)) n0 (by omega) (by omega)).mono ?_
  rintro e w1 ⟨r1, rfl, rfl, hr⟩
  rcases hr with rfl | ⟨hp1, hr1⟩
  · go_wp2_with fail
    go_ret
    exact ⟨rfl, (Below.refl w.heap.size w)⟩
  have hl0 : l0.length ≤ 1048576 := by omega
  have hz1 : r1 ≤ 1048576 := by omega
  have HC0 := Lib.hid (fun (r : List Int) (h : r ∈ l0) => (show r.length ≤ 1048576 by have := totR_mem h; omega))
  clear hr1
  go_wp2_with fail
  refine (toIntSS_any a0 cap0 l0 _ (RD0.out.below (Below.refl w.heap.size w)) hl0 HC0.out).mono ?_
  rintro e w2 ⟨a2, c2, rfl, o2, _, _, b2⟩
  have B2 := Lib.hid (below_step (Below.refl w.heap.size w) (Nat.le_refl _) b2)
  have X2 := Lib.hid o2.rd
  clear o2 b2
  go_wp2_with fail
  refine (toIntS_any a1 cap1 l1 _ (RD1.out.below B2.out) (by omega)).mono ?_
  rintro e w3 ⟨a3, c3, rfl, o3, b3⟩
  have B3 := Lib.hid (below_step B2.out (Nat.le_refl _) b3)
  replace X2 := Lib.hid (X2.out.below b3)
  have X3 := Lib.hid o3.rd
  clear o3 b3
  go_wp2_with fail
  refine (specCountSame_any a2 a3 c2 c3 l0 l1 _ X2.out X3.out hl0 n1).mono ?_
  rintro e w4 ⟨rfl, b4⟩
  clear X2
  clear X3
  have B4 := Lib.hid (below_step B3.out (Nat.le_refl _) b4)
  clear b4
  go_wp2_with fail
  refine (toIntSS_any a0 cap0 l0 _ (RD0.out.below B4.out) hl0 HC0.out).mono ?_
  rintro e w5 ⟨a5, c5, rfl, o5, _, _, b5⟩
  have B5 := Lib.hid (below_step B4.out (Nat.le_refl _) b5)
  have X5 := Lib.hid o5.rd
  clear o5 b5
  go_wp2_with fail
  refine (toIntS_any a1 cap1 l1 _ (RD1.out.below B5.out) (by omega)).mono ?_
  rintro e w6 ⟨a6, c6, rfl, o6, b6⟩
  have B6 := Lib.hid (below_step B5.out (Nat.le_refl _) b6)
  replace X5 := Lib.hid (X5.out.below b6)
  have X6 := Lib.hid o6.rd
  clear o6 b6
  go_wp2_with fail
  refine (implCountSame_any a5 a6 c5 c6 l0 l1 _ X5.out X6.out hl0 n1).mono ?_
  rintro e w7 ⟨rfl, b7⟩
  have B7 := Lib.hid (below_step B6.out (Nat.le_refl _) b7)
  replace X5 := Lib.hid (X5.out.below b7)
  replace X6 := Lib.hid (X6.out.below b7)
  clear b7
  go_wp2_with fail
  refine (toIntSS_any a0 cap0 l0 _ (RD0.out.below B7.out) hl0 HC0.out).mono ?_
  rintro e w8 ⟨a8, c8, rfl, o8, _, _, b8⟩
  have B8 := Lib.hid (below_step B7.out (Nat.le_refl _) b8)
  replace X5 := Lib.hid (X5.out.below b8)
  replace X6 := Lib.hid (X6.out.below b8)
  have X8 := Lib.hid o8.rd
  clear o8 b8
  go_wp2_with fail
  refine (eqIntSS_any a5 a8 c5 c8 l0 l0 _ X5.out X8.out n0 n0).mono ?_
  rintro e w9 ⟨rfl, b9⟩
  rw [eqR_refl]
  clear X5 X8
  have B9 := Lib.hid (below_step B8.out (Nat.le_refl _) b9)
  replace X6 := Lib.hid (X6.out.below b9)
  clear b9
  go_wp2_with fail
  refine (toIntS_any a1 cap1 l1 _ (RD1.out.below B9.out) (by omega)).mono ?_
  rintro e w10 ⟨a10, c10, rfl, o10, b10⟩
  have B10 := Lib.hid (below_step B9.out (Nat.le_refl _) b10)
  replace X6 := Lib.hid (X6.out.below b10)
  have X10 := Lib.hid o10.rd
  clear o10 b10
  go_wp2_with fail
  refine (eqIntS_any a6 a10 c6 c10 l1 l1 _ X6.out X10.out n1 n1).mono ?_
  rintro e w11 ⟨rfl, b11⟩
  rw [eqL_refl]
  clear X6 X10
  have B11 := Lib.hid (below_step B10.out (Nat.le_refl _) b11)
  clear b11
  go_wp2_with fail
  go_ret
  exact ⟨rfl, B11.out⟩
end Go.Proofs.Ytaaiedgmpgoonaa.fnExactCountSame
