/-
  The walk of FnExactIsPlanText.
-/
import Derived.Test.YtfpbhedophlnkaaGreatDoorRows
import Derived.Test.YtfpbhedophlnkaaGreatDoorTid
namespace Go.Proofs.YtfpbhedophlnkaaGreatDoor.fnExactIsPlanText
open Go.RowKit
set_option linter.unusedSimpArgs false
set_option linter.unusedVariables false
set_option linter.unusedVariables false

set_option maxRecDepth 100000 in
set_option maxHeartbeats 1600000 in
theorem walk (w : World) (s : ByteArray) (hx : s.size ≤ maxLen) (hg : GlobN w) :
    Calls Tryz.prog 9 #[.string s] w fun e w' => e = .returned (.bool true) ∧ Below w.heap.size w w' := by
  by_cases hbig : 1048576 < s.size
  · have hbig' : (1048576 : Int) < s.size := by omega
    clear hg
    go_enter Tryz.func9, Tryz.ntmps9
    go_wp2_with fail
    go_ret
    exact ⟨rfl, Below.refl _ _⟩
  have hbig' : (s.size : Int) ≤ 1048576 := by omega
  have S := Lib.hid (fun W => specIsText_any s W (by omega))
  have I := Lib.hid (fun W g => implIsText_any s W g (by omega))
  obtain ⟨t, ht⟩ : ∃ r, r = isTxt s := ⟨_, rfl⟩
  rw [← ht] at S I
  have G := Lib.hid hg
  clear hg hx hbig ht
  have tt : (t != t) = false := by cases t <;> rfl
  go_enter Tryz.func9, Tryz.ntmps9
  go_wp2_with fail
  refine (S.out _).mono ?_
  rintro e w1 ⟨rfl, b1⟩
  have B1 := Lib.hid b1
  clear b1
  go_wp2_with fail
  refine (I.out _ (G.out.below B1.out)).mono ?_
  rintro e w2 ⟨rfl, b2⟩
  have B2 := Lib.hid (below_step B1.out (Nat.le_refl _) b2)
  clear b2
  go_wp2_with fail
  go_ret
  exact ⟨rfl, B2.out⟩
end Go.Proofs.YtfpbhedophlnkaaGreatDoor.fnExactIsPlanText
