/-
  The walk of FnExactSortRows.
-/
import Derived.Test.YtfbgflmolkgopaaRows
import Derived.Test.YtfbgflmolkgopaaRead
import Derived.Test.YtfbgflmolkgopaaBag
import Derived.Test.YtfbgflmolkgopaaHR
import Derived.Test.YtfbgflmolkgopaaMarkR
import Derived.Deep.RegionWith
namespace Go.Proofs.Ytfbgflmolkgopaa.fnExactSortRows
open Go.RowKit
set_option linter.unusedSimpArgs false
set_option linter.unusedVariables false
set_option linter.unusedVariables false

set_option maxRecDepth 100000 in
set_option maxHeartbeats 4000000 in
theorem walk (w : World) (a0 : Option Addr) (cap : Nat) (l : List (List Int)) (hn : l.length ≤ maxLen) (rd : RdR w a0 l) :
    Calls Try.prog 4 #[.slice a0 l.length cap] w fun e w' => e = .returned (.bool true) ∧ Below w.heap.size w w' := by
  have RD := Lib.hid rd; clear rd
  have kl := sortO_len l
  have kt := sortO_tot l
  generalize hks : sortO l = ks at kl kt
  have KS := Lib.hid hks; clear hks
  go_enter Try.func4, Try.ntmps4
  go_wp2_with fail
  refine (szIntSS_any a0 cap l 1048576 _ RD.out hn (by omega) (by omega)).mono ?_
  rintro e w1 ⟨r, rfl, rfl, hr⟩
  have B1 := Lib.hid (Below.refl w.heap.size w)
  rcases hr with rfl | ⟨hr0, hr⟩
  · go_wp2_with fail
    go_ret
    exact ⟨rfl, B1.out⟩
  have hl : l.length ≤ 1048576 := by omega
  have ml : totR l ≤ 1048576 := by omega
  have HC := Lib.hid (fun (r : List Int) (h : r ∈ l) => (show r.length ≤ 1048576 by have := totR_mem h; omega))
  have km : ks.length ≤ maxLen := by unfold maxLen; omega
  clear hr
  go_wp2_with fail
  refine (toIntSS_any a0 cap l _ (RD.out.below B1.out) hl HC.out).mono ?_
  rintro e w2 ⟨a2, c2, rfl, o2, _, _, b2⟩
  have B2 := Lib.hid (below_step B1.out (Nat.le_refl _) b2)
  have R2 := Lib.hid o2.rd
  clear o2 b2
  go_wp2_with fail
  refine (specSortRows_any a2 c2 l _ R2.out hl HC.out).mono ?_
  rw [KS.out]
  rintro e w3 ⟨a3, c3, rfl, o3, _, _, b3⟩
  have B3 := Lib.hid (below_step B2.out (Nat.le_refl _) b3)
  have O3 := Lib.hid o3.top
  clear o3 b3
  go_wp2_with fail
  refine (toIntSS_any a0 cap l _ (RD.out.below B3.out) hl HC.out).mono ?_
  rintro e w4 ⟨a4, c4, rfl, o4, _, _, b4⟩
  have B4 := Lib.hid (below_step B3.out (Nat.le_refl _) b4)
  have X4 := Lib.hid o4.top
  have O4 := Lib.hid (O3.out.below b4)
  have z4 := b4.size
  clear o4 b4 O3
  go_wp2_with fail
  refine (implSortRows_any a4 c4 l _ X4.out.rd hl HC.out).mono ?_
  rw [KS.out]
  rintro e w5 ⟨a5, c5, rfl, o5, _, _, b5⟩
  have B5 := Lib.hid (below_step B4.out (Nat.le_refl _) b5)
  have X5 := Lib.hid (X4.out.below b5)
  have O5 := Lib.hid (O4.out.below b5)
  have G5 := Lib.hid o5.top
  clear o5 b5 X4 O4
  go_wp2_with fail
  refine (eqIntSS_any a5 a3 c5 c3 ks ks _ G5.out.rd O5.out.rd km km).mono ?_
  rintro e w6 ⟨rfl, b6⟩
  rw [eqR_refl]
  have B6 := Lib.hid (below_step B5.out (Nat.le_refl _) b6)
  have X6 := Lib.hid (X5.out.below b6)
  have O6 := Lib.hid (O5.out.below b6)
  have G6 := Lib.hid (G5.out.below b6)
  clear b6 X5 O5 G5
  go_wp2_with fail
  refine (toIntSS_any a0 cap l _ (RD.out.below B6.out) hl HC.out).mono ?_
  rintro e w7 ⟨a7, c7, rfl, o7, _, _, b7⟩
  have B7 := Lib.hid (below_step B6.out (Nat.le_refl _) b7)
  have X7 := Lib.hid (X6.out.below b7)
  have O7 := Lib.hid (O6.out.below b7)
  have G7 := Lib.hid (G6.out.below b7)
  have R7 := Lib.hid o7.rd
  clear o7 b7 X6 O6 G6
  go_wp2_with fail
  refine (eqIntSS_any a4 a7 c4 c7 l l _ X7.out.rd R7.out hn hn).mono ?_
  rintro e w8 ⟨rfl, b8⟩
  rw [eqR_refl]
  have B8 := Lib.hid (below_step B7.out (Nat.le_refl _) b8)
  have X8 := Lib.hid (X7.out.below b8)
  have O8 := Lib.hid (O7.out.below b8)
  have G8 := Lib.hid (G7.out.below b8)
  clear b8 X7 O7 G7 R7
  go_wp2_with fail
  refine (markIntSS_any _ _ a4 c4 l 1 _ X8.out hl (by omega) (by omega)).mono ?_
  rintro e w9 ⟨rfl, _, f9⟩
  have B9 := Lib.hid (f9.below B8.out B3.out.size (Nat.le_refl _))
  have O9 := Lib.hid (O8.out.frame f9 (.inl (Nat.le_refl _)))
  have G9 := Lib.hid (G8.out.frame f9 (.inr (Nat.le_refl _)))
  clear f9 X8 O8 G8
  go_wp2_with fail
  refine (eqIntSS_any a5 a3 c5 c3 ks ks _ G9.out.rd O9.out.rd km km).mono ?_
  rintro e w10 ⟨rfl, b10⟩
  rw [eqR_refl]
  have B10 := Lib.hid (below_step B9.out (Nat.le_refl _) b10)
  have O10 := Lib.hid (O9.out.below b10)
  have G10 := Lib.hid (G9.out.below b10)
  clear b10 O9 G9
  go_wp2_with fail
  refine (markIntSS_any _ _ a5 c5 ks 1 _ G10.out (by omega) (by omega) (by omega)).mono ?_
  rintro e w11 ⟨rfl, m11, f11⟩
  have B11 := Lib.hid (f11.below B10.out B4.out.size (Nat.le_refl _))
  have O11 := Lib.hid (O10.out.frame f11 (.inl z4))
  have M11 := Lib.hid m11.rd
  clear m11 f11 O10 G10
  go_wp2_with fail
  refine (heldIntSS_any a5 c5 ks 1 _ M11.out (by omega) (by omega) (by omega)).mono ?_
  rintro e w' ⟨rfl, rfl⟩
  go_wp2_with fail
  refine (toIntSS_any a0 cap l _ (RD.out.below B11.out) hl HC.out).mono ?_
  rintro e w12 ⟨a12, c12, rfl, o12, _, _, b12⟩
  have B12 := Lib.hid (below_step B11.out (Nat.le_refl _) b12)
  have O12 := Lib.hid (O11.out.below b12)
  have M12 := Lib.hid (M11.out.below b12)
  have R12 := Lib.hid o12.rd
  clear o12 b12 O11 M11
  go_wp2_with fail
  refine (implSortRows_any a12 c12 l _ R12.out hl HC.out).mono ?_
  rw [KS.out]
  rintro e w13 ⟨a13, c13, rfl, o13, _, _, b13⟩
  have B13 := Lib.hid (below_step B12.out (Nat.le_refl _) b13)
  have O13 := Lib.hid (O12.out.below b13)
  have M13 := Lib.hid (M12.out.below b13)
  have H13 := Lib.hid o13.top
  clear o13 b13 O12 M12
  go_wp2_with fail
  refine (eqIntSS_any a13 a3 c13 c3 ks ks _ H13.out.rd O13.out.rd km km).mono ?_
  rintro e w14 ⟨rfl, b14⟩
  rw [eqR_refl]
  have B14 := Lib.hid (below_step B13.out (Nat.le_refl _) b14)
  have M14 := Lib.hid (M13.out.below b14)
  clear b14 O13 M13 H13
  go_wp2_with fail
  refine (heldIntSS_any a5 c5 ks 1 _ M14.out (by omega) (by omega) (by omega)).mono ?_
  rintro e w' ⟨rfl, rfl⟩
  go_wp2_with fail
  go_ret
  exact ⟨rfl, B14.out⟩
end Go.Proofs.Ytfbgflmolkgopaa.fnExactSortRows
