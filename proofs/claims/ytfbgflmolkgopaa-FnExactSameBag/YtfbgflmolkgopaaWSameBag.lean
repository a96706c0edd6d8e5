/-
  The walk of FnExactSameBag.
-/
import Derived.Test.YtfbgflmolkgopaaRows
import Derived.Test.YtfbgflmolkgopaaRead
import Derived.Test.YtfbgflmolkgopaaBag
import Derived.Test.YtfbgflmolkgopaaHR
import Derived.Deep.RegionWith
namespace Go.Proofs.Ytfbgflmolkgopaa.fnExactSameBag
open Go.RowKit
set_option linter.unusedSimpArgs false
set_option linter.unusedVariables false
set_option linter.unusedVariables false

set_option maxRecDepth 100000 in
set_option maxHeartbeats 1600000 in
theorem walk (w : World) (a0 : Option Addr) (cap0 : Nat) (l0 : List (List Int)) (n0 : l0.length ≤ maxLen) (rd0 : RdR w a0 l0) (a1 : Option Addr) (cap1 : Nat) (l1 : List (List Int)) (n1 : l1.length ≤ maxLen) (rd1 : RdR w a1 l1) :
    Calls Try.prog 5 #[.slice a0 l0.length cap0, .slice a1 l1.length cap1] w fun e w' => e = .returned (.bool true) ∧ Below w.heap.size w w' := by
  have RD0 := Lib.hid rd0; clear rd0
  have RD1 := Lib.hid rd1; clear rd1
  have HQ : (!bagB l0 l1 == bagB l0 l1) = false := by simp
  go_enter Try.func5, Try.ntmps5
  go_wp2_with fail
  refine (szIntSS_any a0 cap0 l0 1048576 _ (RD0.out.below (Below.refl w.heap.size w)) n0 (by omega) (by omega)).mono ?_
  rintro e w1 ⟨r1, rfl, rfl, hr⟩
  rcases hr with rfl | ⟨hp1, hr1⟩
  · go_wp2_with fail
    go_ret
    exact ⟨rfl, (Below.refl w.heap.size w)⟩
  have hl0 : l0.length ≤ 1048576 := by omega
  have hz1 : r1 ≤ 1048576 := by omega
  have HC0 := Lib.hid (fun (r : List Int) (h : r ∈ l0) => (show r.length ≤ 1048576 by have := totR_mem h; omega))
  go_wp2_with fail
  refine (szIntSS_any a1 cap1 l1 r1 _ (RD1.out.below (Below.refl w.heap.size w)) n1 hp1 hz1).mono ?_
  rintro e w2 ⟨r2, rfl, rfl, hr⟩
  rcases hr with rfl | ⟨hp2, hr2⟩
  · go_wp2_with fail
    go_ret
    exact ⟨rfl, (Below.refl w.heap.size w)⟩
  have hl1 : l1.length ≤ 1048576 := by omega
  have hz2 : r2 ≤ 1048576 := by omega
  have HC1 := Lib.hid (fun (r : List Int) (h : r ∈ l1) => (show r.length ≤ 1048576 by have := totR_mem h; omega))
  clear hr1
  clear hr2
  go_wp2_with fail
  refine (toIntSS_any a0 cap0 l0 _ (RD0.out.below (Below.refl w.heap.size w)) hl0 HC0.out).mono ?_
  rintro e w3 ⟨p3, c3, rfl, o3, _, _, b3⟩
  have B3 := Lib.hid (below_step (Below.refl w.heap.size w) (Nat.le_refl _) b3)
  have X3 := Lib.hid o3.rd
  clear o3 b3
  go_wp2_with fail
  refine (toIntSS_any a1 cap1 l1 _ (RD1.out.below B3.out) hl1 HC1.out).mono ?_
  rintro e w4 ⟨p4, c4, rfl, o4, _, _, b4⟩
  have B4 := Lib.hid (below_step B3.out (Nat.le_refl _) b4)
  replace X3 := Lib.hid (X3.out.below b4)
  have X4 := Lib.hid o4.rd
  clear o4 b4
  go_wp2_with fail
  refine (specSameBag_any p3 p4 c3 c4 l0 l1 _ X3.out X4.out hl0 hl1 HC0.out HC1.out).mono ?_
  rintro e w5 ⟨rfl, b5⟩
  clear X3
  clear X4
  have B5 := Lib.hid (below_step B4.out (Nat.le_refl _) b5)
  clear b5
  go_wp2_with fail
  refine (toIntSS_any a0 cap0 l0 _ (RD0.out.below B5.out) hl0 HC0.out).mono ?_
  rintro e w6 ⟨p6, c6, rfl, o6, _, _, b6⟩
  have B6 := Lib.hid (below_step B5.out (Nat.le_refl _) b6)
  have X6 := Lib.hid o6.rd
  clear o6 b6
  go_wp2_with fail
  refine (toIntSS_any a1 cap1 l1 _ (RD1.out.below B6.out) hl1 HC1.out).mono ?_
  rintro e w7 ⟨p7, c7, rfl, o7, _, _, b7⟩
  have B7 := Lib.hid (below_step B6.out (Nat.le_refl _) b7)
  replace X6 := Lib.hid (X6.out.below b7)
  have X7 := Lib.hid o7.rd
  clear o7 b7
  go_wp2_with fail
  refine (implSameBag_any p6 p7 c6 c7 l0 l1 _ X6.out X7.out hl0 hl1 HC0.out HC1.out).mono ?_
  rintro e w8 ⟨rfl, b8⟩
  have B8 := Lib.hid (below_step B7.out (Nat.le_refl _) b8)
  replace X6 := Lib.hid (X6.out.below b8)
  replace X7 := Lib.hid (X7.out.below b8)
  clear b8
  go_wp2_with fail
  refine (toIntSS_any a0 cap0 l0 _ (RD0.out.below B8.out) hl0 HC0.out).mono ?_
  rintro e w9 ⟨p9, c9, rfl, o9, _, _, b9⟩
  have B9 := Lib.hid (below_step B8.out (Nat.le_refl _) b9)
  replace X6 := Lib.hid (X6.out.below b9)
  replace X7 := Lib.hid (X7.out.below b9)
  have X9 := Lib.hid o9.rd
  clear o9 b9
  go_wp2_with fail
  refine (eqIntSS_any p6 p9 c6 c9 l0 l0 _ X6.out X9.out n0 n0).mono ?_
  rintro e w10 ⟨rfl, b10⟩
  rw [eqR_refl]
  clear X6 X9
  have B10 := Lib.hid (below_step B9.out (Nat.le_refl _) b10)
  replace X7 := Lib.hid (X7.out.below b10)
  clear b10
  go_wp2_with fail
  refine (toIntSS_any a1 cap1 l1 _ (RD1.out.below B10.out) hl1 HC1.out).mono ?_
  rintro e w11 ⟨p11, c11, rfl, o11, _, _, b11⟩
  have B11 := Lib.hid (below_step B10.out (Nat.le_refl _) b11)
  replace X7 := Lib.hid (X7.out.below b11)
  have X11 := Lib.hid o11.rd
  clear o11 b11
  go_wp2_with fail
  refine (eqIntSS_any p7 p11 c7 c11 l1 l1 _ X7.out X11.out n1 n1).mono ?_
  rintro e w12 ⟨rfl, b12⟩
  rw [eqR_refl]
  clear X7 X11
  have B12 := Lib.hid (below_step B11.out (Nat.le_refl _) b12)
  clear b12
  go_wp2_with fail
  go_ret
  exact ⟨rfl, B12.out⟩
end Go.Proofs.Ytfbgflmolkgopaa.fnExactSameBag
