/-
  The walk of FnExactWidthAt.
-/
import Derived.Test.YtdkiaahcmoafdaaGreatRows
import Derived.Test.YtdkiaahcmoafdaaGreatRead
import Derived.Test.YtdkiaahcmoafdaaGreatKA2
import Derived.Deep.RegionWith
namespace Go.Proofs.YtdkiaahcmoafdaaGreat.fnExactWidthAt
open Go.RowKit
set_option linter.unusedSimpArgs false
set_option linter.unusedVariables false
set_option linter.unusedVariables false

set_option maxRecDepth 100000 in
set_option maxHeartbeats 1600000 in
theorem walk (w : World) (a0 : Option Addr) (cap0 : Nat) (s : List Tb) (hn0 : s.length ≤ maxLen) (rd0 : RdT w a0 s) (a1 : Option Addr) (cap1 : Nat) (l : List Nd) (hn : l.length ≤ maxLen) (rd1 : RdN w a1 l) (k0 : Int) :
    Calls Tryz.prog 3 #[.slice a0 s.length cap0, .slice a1 l.length cap1, .int .i64 k0] w fun e w' => e = .returned (.bool true) ∧ Below w.heap.size w w' := by
  have RT := Lib.hid rd0; have RN := Lib.hid rd1; clear rd0 rd1
  have hq : (widO s (partN l k0) != widO s (partN l k0)) = false := by simp
  go_enter Tryz.func3, Tryz.ntmps3
  go_wp2_with fail
  refine (szTableS_any a0 cap0 s 1048576 _ RT.out hn0 (by omega) (by omega)).mono ?_
  rintro e w1 ⟨r, rfl, b1, hr⟩
  have B1 := Lib.hid b1; clear b1
  rcases hr with rfl | ⟨hr0, hr⟩
  · go_wp2_with fail
    go_ret
    exact ⟨rfl, B1.out⟩
  have hsl : s.length ≤ 1048576 := by omega
  have hr1 : r ≤ 1048576 := by omega
  clear hr
  go_wp2_with fail
  refine (szNodeS_any a1 cap1 l r _ (RN.out.below B1.out) hn hr0 hr1).mono ?_
  rintro e w2 ⟨r2, rfl, b2, hr⟩
  have B2 := Lib.hid (below_step B1.out (Nat.le_refl _) b2); clear b2
  rcases hr with rfl | ⟨hr20, hr2⟩
  · go_wp2_with fail
    go_ret
    exact ⟨rfl, B2.out⟩
  have SM := Lib.hid (small_of hr20 hr2 hr1)
  have hl : l.length ≤ 1048576 := SM.out.1
  clear hr2
  go_wp2_with fail
  refine (toTableS_any a0 cap0 s _ (RT.out.below B2.out) hsl).mono ?_
  rintro e w3 ⟨a3, c3, rfl, o3, b3⟩
  have B3 := Lib.hid (below_step B2.out (Nat.le_refl _) b3)
  have T3 := Lib.hid o3.rd
  clear o3 b3
  go_wp2_with fail
  refine (toNodeS_any a1 cap1 l _ (RN.out.below B3.out) hl SM.out.2).mono ?_
  rintro e w4 ⟨a4, c4, rfl, o4, b4⟩
  have B4 := Lib.hid (below_step B3.out (Nat.le_refl _) b4)
  have T4 := Lib.hid (T3.out.below b4)
  have N4 := Lib.hid o4.rd
  clear o4 b4
  go_wp2_with fail
  refine (specWidthAt_any a3 c3 s a4 c4 l k0 _ T4.out N4.out hsl hl).mono ?_
  rintro e w5 ⟨rfl, b5⟩
  have B5 := Lib.hid (below_step B4.out (Nat.le_refl _) b5)
  clear b5
  go_wp2_with fail
  refine (toTableS_any a0 cap0 s _ (RT.out.below B5.out) hsl).mono ?_
  rintro e w6 ⟨a6, c6, rfl, o6, b6⟩
  have B6 := Lib.hid (below_step B5.out (Nat.le_refl _) b6)
  have T6 := Lib.hid o6.rd
  clear o6 b6
  go_wp2_with fail
  refine (toNodeS_any a1 cap1 l _ (RN.out.below B6.out) hl SM.out.2).mono ?_
  rintro e w7 ⟨a7, c7, rfl, o7, b7⟩
  have B7 := Lib.hid (below_step B6.out (Nat.le_refl _) b7)
  have T7 := Lib.hid (T6.out.below b7)
  have N7 := Lib.hid o7.rd; have K7 := Lib.hid o7.cap
  clear o7 b7
  go_wp2_with fail
  refine (implWidthAt_any a6 c6 s a7 c7 l k0 _ T7.out N7.out hsl SM.out K7.out).mono ?_
  rintro e w8 ⟨rfl, b8⟩
  have B8 := Lib.hid (below_step B7.out (Nat.le_refl _) b8)
  have T8 := Lib.hid (T7.out.below b8)
  have N8 := Lib.hid (N7.out.below b8)
  clear b8
  go_wp2_with fail
  refine (toTableS_any a0 cap0 s _ (RT.out.below B8.out) hsl).mono ?_
  rintro e w9 ⟨a9, c9, rfl, o9, b9⟩
  have B9 := Lib.hid (below_step B8.out (Nat.le_refl _) b9)
  have T9 := Lib.hid (T8.out.below b9)
  have N9 := Lib.hid (N8.out.below b9)
  have R9 := Lib.hid o9.rd
  clear o9 b9
  go_wp2_with fail
  refine (eqTableS_any a6 a9 c6 c9 s s _ T9.out R9.out hn0 hn0).mono ?_
  rintro e w10 ⟨rfl, b10⟩
  rw [eqTs_refl]
  have B10 := Lib.hid (below_step B9.out (Nat.le_refl _) b10)
  have N10 := Lib.hid (N9.out.below b10)
  clear b10
  go_wp2_with fail
  refine (toNodeS_any a1 cap1 l _ (RN.out.below B10.out) hl SM.out.2).mono ?_
  rintro e w11 ⟨a11, c11, rfl, o11, b11⟩
  have B11 := Lib.hid (below_step B10.out (Nat.le_refl _) b11)
  have N11 := Lib.hid (N10.out.below b11)
  have R11 := Lib.hid o11.rd
  clear o11 b11
  go_wp2_with fail
  refine (eqNodeS_any a7 a11 c7 c11 l l _ N11.out R11.out hn hn).mono ?_
  rintro e w12 ⟨rfl, b12⟩
  rw [eqNs_refl]
  have B12 := Lib.hid (below_step B11.out (Nat.le_refl _) b12)
  clear b12
  go_wp2_with fail
  go_ret
  exact ⟨rfl, B12.out⟩
end Go.Proofs.YtdkiaahcmoafdaaGreat.fnExactWidthAt
