/-
  The contract of impl.PutNum: in memory of its own, the number's bytes; nothing where it is no number. For every integer.
-/
import Derived.Test.YtcegekkhlfpgfaaWire
namespace Go.Proofs.Ytcegekkhlfpgfaa
open Go.RowKit
set_option linter.unusedSimpArgs false
set_option linter.unusedVariables false

set_option maxRecDepth 100000 in
theorem implPutNum_any (x : Int) (w : World) : Calls Try.prog 41 #[.int .i64 x] w (Made w 5 .u8 (putN x)) := by
  by_cases hx : -1000000 ≤ x ∧ x ≤ 1000000
  · rw [show putN x = enc (fold x) by unfold putN; rw [isN_mk hx]; rfl]
    have HX := Lib.hid hx; clear hx
    go_enter Try.func41, Try.ntmps41
    go_wp2_with (go_at_call 65; refine (isNum_t _ _ HX.out).mono ?_; rintro e w' ⟨rfl, rfl⟩)
    refine (addNum_any w.heap.size w.heap.size [] x _ HX.out (Wr.new w _ _) (by simp) (by simp)).mono ?_
    rintro e w1 ⟨rfl, ⟨ao, c, hblk, _, ho⟩, hb⟩
    have hc := cell_of_one hblk
    have HO := Lib.hid ho; have HB := Lib.hid hb; clear ho hb hblk
    rw [List.nil_append] at hc HO
    go_wp2
    go_ret
    exact ⟨ao, c, rfl, HO.out, below_after HB.out⟩
  · rw [show putN x = [] by unfold putN; rw [isN_not hx]; rfl]
    have HX := Lib.hid hx; clear hx
    go_enter Try.func41, Try.ntmps41
    go_wp2_with (go_at_call 65; refine (isNum_f _ _ HX.out).mono ?_; rintro e w' ⟨rfl, rfl⟩)
    go_ret
    exact ⟨none, 0, rfl, Own.none_, Below.refl _ _⟩
end Go.Proofs.Ytcegekkhlfpgfaa
