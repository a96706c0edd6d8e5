/-
  Contract of spec.l02DrawDeep: some nodes, in a row of the draw's own. For every cursor.
-/
import Derived.Test.YtfbgflmolkgopaaDPlan3
namespace Go.Proofs.Ytfbgflmolkgopaa
open Go.RowKit
set_option linter.unusedSimpArgs false
set_option linter.unusedVariables false

set_option maxRecDepth 100000 in
theorem l01Size7_any (b : Option Addr) (n c : Nat) (w : World) (hn : n ≤ 1048577) :
    Calls Try.prog 85 #[.slice b n c, .int .i64 7] w fun e w' => (∃ x : Int, 2 ≤ x ∧ x ≤ 7 ∧ e = .returned (.int .i64 x)) ∧ w = w' := by
  by_cases h : 7 < 2 + n / 16
  · have h' : (7 : Int) < 2 + (n : Int) / 16 := by omega
    go_enter Try.func85, Try.ntmps85
    go_wp2
    go_ret
    exact ⟨⟨7, by omega, by omega, rfl⟩, rfl⟩
  · have h' : 2 + (n : Int) / 16 ≤ 7 := by omega
    go_enter Try.func85, Try.ntmps85
    go_wp2
    go_ret
    exact ⟨⟨_, by omega, by omega, rfl⟩, rfl⟩
/-- What drawing some nodes gives. -/
def DeepP (w : World) (g : Nat) (xo : Option Addr) (d : Nat) (code : List Int) (e : Ending) (w' : World) : Prop :=
  ∃ (l : List Nd) (b c : Nat) (xs : List Value) (A : Nat → Option Addr) (C : Nat → Nat), e = .returned (.slice (some ⟨b, 0, none⟩) l.length c) ∧ 1 ≤ l.length ∧ l.length ≤ 81 ∧ (∀ m ∈ l, m.cols.length ≤ 3) ∧ PartN w' w.heap.size b c l.length l l.length xs A C ∧ Drew w g xo d code w'
set_option maxRecDepth 100000 in
set_option maxHeartbeats 1000000 in
theorem drawDeep_any (g : Nat) (xo : Option Addr) (d : Nat) (code : List Int) (b : Option Addr) (c : Nat) (w : World) (hc : Cur w g xo d code) (hl : code.length ≤ 1048577) :
    Calls Try.prog 60 #[.pointer (some ⟨g, 0, none⟩), .slice b code.length c] w (DeepP w g xo d code) := by
  have HC := Lib.hid hc; have HL := Lib.hid hl; clear hc hl
  go_enter Try.func60, Try.ntmps60
  go_wp2_with fail
  refine (l01Size7_any b code.length c _ HL.out).mono ?_
  rintro e w' ⟨⟨x, hx0, hx1, rfl⟩, rfl⟩
  go_wp2_with fail
  refine (below_d g xo d code x _ HC.out HL.out (by omega) (by omega)).mono ?_
  rintro e w1 ⟨y, hy0, hy1, rfl, d1⟩
  have D1 := Lib.hid d1; clear d1
  have hz1 := D1.out.2.size
  go_wp2_with fail
  refine (drawPlan_any g xo d code HL.out 7 (Nat.le_refl _) (1 + y) (by omega) (by omega) _ D1.out.1).mono ?_
  rintro e w2 ⟨l, v, b2, c2, xs, A, C, rfl, h1, h2, h3, h4, h5, p2, d2⟩
  have P2 := Lib.hid (p2.base_le hz1); have D2 := Lib.hid (D1.out.next d2); have H3 := Lib.hid h3
  have h81 := (BV7 7 (Nat.le_refl _)).1
  clear p2 d2 h3
  go_wp2_with fail
  go_ret
  exact ⟨l, b2, c2, xs, A, C, rfl, h1, by omega, H3.out, P2.out, D2.out⟩
end Go.Proofs.Ytfbgflmolkgopaa
