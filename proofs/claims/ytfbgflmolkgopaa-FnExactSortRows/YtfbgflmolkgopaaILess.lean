/-
  Contracts of cmp.Compare at int, slices.Compare at rows and impl.RowLess. For every two rows.
-/
import Derived.Test.YtfbgflmolkgopaaRowP
import Derived.Test.YtfbgflmolkgopaaSLess
namespace Go.Proofs.Ytfbgflmolkgopaa
open Go.RowKit
set_option linter.unusedSimpArgs false
set_option linter.unusedVariables false

def cmpI (x y : Int) : Int := if x < y then -1 else if y < x then 1 else 0
theorem isNaNI_any (x : Int) (w : World) : Calls Try.prog 111 #[.int .i64 x] w fun e w' => e = .returned (.bool false) ∧ w = w' := by
  have hx : (x != x) = false := by simp
  go_enter Try.func111, Try.ntmps111
  go_wp2_with fail
  go_ret
  exact ⟨rfl, rfl⟩
theorem compareI_any (x y : Int) (w : World) : Calls Try.prog 101 #[.int .i64 x, .int .i64 y] w fun e w' => e = .returned (.int .i64 (cmpI x y)) ∧ w = w' := by
  go_enter Try.func101, Try.ntmps101
  go_wp2_with fail
  refine (isNaNI_any x _).mono ?_
  rintro e w1 ⟨rfl, rfl⟩
  go_wp2_with fail
  refine (isNaNI_any y _).mono ?_
  rintro e w1 ⟨rfl, rfl⟩
  by_cases h1 : x < y
  · have E := Lib.hid (show cmpI x y = -1 by simp [cmpI, h1])
    go_wp2_with fail
    go_ret
    exact ⟨ret_int E.out.symm, rfl⟩
  · by_cases h2 : y < x
    · have E := Lib.hid (show cmpI x y = 1 by simp [cmpI, h1, h2])
      have h3 : y ≤ x := by omega
      go_wp2_with fail
      go_ret
      exact ⟨ret_int E.out.symm, rfl⟩
    · have E := Lib.hid (show cmpI x y = 0 by simp [cmpI, h1, h2])
      have h3 : y ≤ x := by omega
      have h4 : x ≤ y := by omega
      go_wp2_with fail
      go_ret
      exact ⟨ret_int E.out.symm, rfl⟩

/-- How two rows compare. -/
def cmpL (l m : List Int) : Int := if lessL l m then -1 else if l = m then 0 else 1
theorem lessL_irr : ∀ l : List Int, lessL l l = false
  | [] => rfl
  | x :: l => by simp [lessL, lessL_irr l]
theorem cmpL_at {l m : List Int} {j : Nat} {x y : Int} (ht : l.take j = m.take j) (hx : l[j]? = some x) (hy : m[j]? = some y) (h : x ≠ y) : cmpL l m = cmpI x y := by
  unfold cmpL cmpI
  have hne : l ≠ m := by rintro rfl; rw [hx] at hy; cases hy; exact h rfl
  rw [lessL_at l m j x y ht hx hy h]
  by_cases hlt : x < y
  · simp [hlt]
  · have : y < x := by omega
    simp [hlt, this, hne]
theorem cmpL_more {l m : List Int} {j : Nat} (ht : l.take j = m.take j) (hl : j < l.length) (hm : m.length ≤ j) : cmpL l m = 1 := by
  unfold cmpL
  have hne : l ≠ m := by rintro rfl; omega
  rw [lessL_end l m j ht (.inr hm)]
  have : ¬ l.length < m.length := by omega
  simp [this, hne]
theorem cmpL_less {l m : List Int} {j : Nat} (ht : l.take j = m.take j) (hl : l.length ≤ j) (h : l.length < m.length) : cmpL l m = -1 := by
  unfold cmpL
  rw [lessL_end l m j ht (.inl hl)]
  simp [h]
theorem cmpL_same {l m : List Int} {j : Nat} (ht : l.take j = m.take j) (hl : l.length ≤ j) (hm : m.length ≤ j) : cmpL l m = 0 := by
  have : l = m := by rw [List.take_of_length_le hl, List.take_of_length_le hm] at ht; exact ht
  subst this
  simp [cmpL, lessL_irr]
theorem cmpL_neg (l m : List Int) : decide (cmpL l m < 0) = lessL l m := by
  unfold cmpL
  cases h : lessL l m
  · simp; split <;> simp
  · simp

set_option maxRecDepth 100000 in
set_option maxHeartbeats 1600000 in
theorem compareL_any (a b : Option Addr) (c d : Nat) (l m : List Int) (w : World) (h : Rd w .i64 a l) (k : Rd w .i64 b m) (hn : l.length ≤ maxLen) (hm : m.length ≤ maxLen) :
    Calls Try.prog 79 #[.slice a l.length c, .slice b m.length d] w fun e w' => e = .returned (.int .i64 (cmpL l m)) ∧ w = w' := by
  unfold maxLen at hn hm
  have H := Lib.hid h; clear h
  have K := Lib.hid k; clear k
  go_enter Try.func79, Try.ntmps79
  go_wp2_with fail
  go_loop [11] (fun i => ∃ j : Nat, j ≤ l.length ∧ j ≤ m.length ∧ i = .int .i64 j ∧ l.take j = m.take j) (fun i => l.length - (intOf i).toNat)
  case atStart => exact ⟨0, Nat.zero_le _, Nat.zero_le _, rfl, rfl⟩
  case round =>
    obtain ⟨j, hj, hj2, rfl, ht⟩ := hrel
    have HT := Lib.hid ht; clear ht
    by_cases hlt : j < l.length
    · obtain ⟨b1, o1, x, rfl, hx, cx⟩ := H.out.get hlt
      by_cases hlt2 : j < m.length
      · obtain ⟨b2, o2, y, rfl, hy, cy⟩ := K.out.get hlt2
        have X := Lib.hid hx; have Y := Lib.hid hy
        clear hx hy
        have i1 : (j : Int) < (l.length : Int) := by omega
        have i2 : (j : Int) < (m.length : Int) := by omega
        by_cases hxy : x = y
        · subst hxy
          go_wp2_with fail
          refine (compareI_any x x _).mono ?_
          rintro e w1 ⟨rfl, rfl⟩
          rw [show cmpI x x = 0 by simp [cmpI]]
          go_wp2_with fail
          go_round
          case rel => exact ⟨j + 1, by omega, by omega, by go_num, take_eq_step HT.out X.out Y.out⟩
          case measure => simp [intOf]; omega
        · have F := Lib.hid (cmpL_at HT.out X.out Y.out hxy)
          have hc : (cmpI x y != 0) = true := by unfold cmpI; split <;> (try split) <;> simp <;> omega
          go_wp2_with fail
          refine (compareI_any x y _).mono ?_
          rintro e w1 ⟨rfl, rfl⟩
          generalize cmpI x y = z at F hc
          go_wp2_with fail
          go_ret
          exact ⟨ret_int F.out.symm, rfl⟩
      · have X := Lib.hid hx
        clear hx
        have i1 : (j : Int) < (l.length : Int) := by omega
        have i2 : (m.length : Int) ≤ (j : Int) := by omega
        have F := Lib.hid (cmpL_more HT.out hlt (by omega))
        go_wp2_with fail
        go_ret
        exact ⟨ret_int F.out.symm, rfl⟩
    · have i1 : ¬ (j : Int) < (l.length : Int) := by omega
      by_cases hlen : l.length < m.length
      · have F := Lib.hid (cmpL_less HT.out (by omega) hlen)
        have i2 : (l.length : Int) < (m.length : Int) := by omega
        go_wp2_with fail
        go_ret
        exact ⟨ret_int F.out.symm, rfl⟩
      · have F := Lib.hid (cmpL_same HT.out (by omega) (by omega))
        have i2 : ¬ (l.length : Int) < (m.length : Int) := by omega
        go_wp2_with fail
        go_ret
        exact ⟨ret_int F.out.symm, rfl⟩

theorem implRowLess_q (a b : Option Addr) (c d : Nat) (l m : List Int) (w : World) (h : Rd w .i64 a l) (k : Rd w .i64 b m) (hn : l.length ≤ maxLen) (hm : m.length ≤ maxLen) :
    Calls Try.prog 53 #[.slice a l.length c, .slice b m.length d] w fun e w' => e = .returned (.bool (lessL l m)) ∧ w = w' := by
  have H := Lib.hid h; clear h
  have K := Lib.hid k; clear k
  have E := Lib.hid (cmpL_neg l m)
  go_enter Try.func53, Try.ntmps53
  go_wp2_with fail
  refine (compareL_any a b c d l m _ H.out K.out hn hm).mono ?_
  rintro e w1 ⟨rfl, rfl⟩
  go_wp2_with fail
  go_ret
  exact ⟨ret_bool E.out, rfl⟩
theorem implRowLess_any (a b : Option Addr) (c d : Nat) (l m : List Int) (w : World) (h : Rd w .i64 a l) (k : Rd w .i64 b m) (hn : l.length ≤ maxLen) (hm : m.length ≤ maxLen) :
    Calls Try.prog 53 #[.slice a l.length c, .slice b m.length d] w fun e w' => e = .returned (.bool (lessL l m)) ∧ Below w.heap.size w w' :=
  (implRowLess_q a b c d l m w h k hn hm).mono fun e w' ⟨h1, h2⟩ => ⟨h1, by rw [← h2]; exact Below.refl _ _⟩
end Go.Proofs.Ytfbgflmolkgopaa
