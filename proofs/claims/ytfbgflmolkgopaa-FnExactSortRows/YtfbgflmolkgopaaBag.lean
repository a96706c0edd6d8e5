/-
  Contracts of spec.SameBag and impl.SameBag. For every two slices of rows.
-/
import Derived.Test.YtfbgflmolkgopaaSSoS
import Derived.Test.YtfbgflmolkgopaaIRows
import Derived.Test.YtfbgflmolkgopaaSRows
namespace Go.Proofs.Ytfbgflmolkgopaa
open Go.RowKit
set_option linter.unusedSimpArgs false
set_option linter.unusedVariables false

theorem totR_sortL (l : List (List Int)) : totR (sortL lessL l) = totR l := by
  have hi : ∀ (x : List Int) (l : List (List Int)), totR (insL lessL x l) = x.length + totR l := by
    intro x l
    induction l with
    | nil => simp [insL, totR]
    | cons y l ih =>
      unfold insL
      split
      · simp [totR]
      · have e : ∀ (a : List Int) (m : List (List Int)), totR (a :: m) = a.length + totR m := fun a m => by simp [totR]
        rw [e, e, ih]; omega
  have key : ∀ (l acc : List (List Int)), totR (l.foldl (fun out x => insL lessL x out) acc) = totR acc + totR l := by
    intro l
    induction l with
    | nil => intro acc; simp [totR]
    | cons x l ih =>
      intro acc
      have e : totR (x :: l) = x.length + totR l := by simp [totR]
      rw [List.foldl_cons, ih, hi, e]; omega
  have := key l []
  simpa [sortL, totR] using this
theorem sortO_tot (l : List (List Int)) : totR (sortO l) ≤ totR l := by
  unfold sortO
  split
  · simp [totR]
  · rw [totR_sortL]; exact Nat.le_refl _
theorem sortO_len (l : List (List Int)) : (sortO l).length ≤ l.length := by
  unfold sortO
  split
  · simp
  · rw [sortL_len]; exact Nat.le_refl _
/-- Whether two have the same rows, each as often. -/
def bagB (l m : List (List Int)) : Bool := decide (l.length ≤ 200) && (decide (m.length ≤ 200) && eqR (sortO l) (sortO m))
theorem bagB_l {l m : List (List Int)} (h : 200 < l.length) : bagB l m = false := by unfold bagB; rw [decide_eq_false (by omega)]; rfl
theorem bagB_m {l m : List (List Int)} (h : 200 < m.length) : bagB l m = false := by unfold bagB; rw [decide_eq_false (p := m.length ≤ 200) (by omega)]; simp
theorem bagB_y {l m : List (List Int)} (h : l.length ≤ 200) (k : m.length ≤ 200) : bagB l m = eqR (sortO l) (sortO m) := by unfold bagB; rw [decide_eq_true h, decide_eq_true k]; rfl

set_option maxRecDepth 100000 in
theorem implSameBag_any (a b : Option Addr) (c d : Nat) (l m : List (List Int)) (w : World) (h : RdR w a l) (k : RdR w b m) (hl : l.length ≤ 1048576) (hm : m.length ≤ 1048576) (hr : ∀ r ∈ l, r.length ≤ 1048576) (hs : ∀ r ∈ m, r.length ≤ 1048576) :
    Calls Try.prog 28 #[.slice a l.length c, .slice b m.length d] w fun e w' => e = .returned (.bool (bagB l m)) ∧ Below w.heap.size w w' := by
  have H := Lib.hid h; have K := Lib.hid k; have HR := Lib.hid hr; have HS := Lib.hid hs
  clear h k hr hs
  have l9 : l.length ≤ 9223372036854775807 := by omega
  have m9 : m.length ≤ 9223372036854775807 := by omega
  by_cases h1 : 200 < l.length
  · have E := Lib.hid (bagB_l (m := m) h1)
    have z1 : (200 : Int) < (l.length : Int) := by omega
    go_enter Try.func28, Try.ntmps28
    go_wp2_with fail
    go_ret
    exact ⟨ret_bool E.out.symm, Below.refl _ _⟩
  · have z1 : (l.length : Int) ≤ 200 := by omega
    by_cases h2 : 200 < m.length
    · have E := Lib.hid (bagB_m (l := l) h2)
      have z2 : (200 : Int) < (m.length : Int) := by omega
      go_enter Try.func28, Try.ntmps28
      go_wp2_with fail
      go_ret
      exact ⟨ret_bool E.out.symm, Below.refl _ _⟩
    · have z2 : (m.length : Int) ≤ 200 := by omega
      have E := Lib.hid (bagB_y (l := l) (m := m) (by omega) (by omega))
      have L1 := Lib.hid (show (sortO l).length ≤ maxLen by have := sortO_len l; unfold maxLen; omega)
      have L2 := Lib.hid (show (sortO m).length ≤ maxLen by have := sortO_len m; unfold maxLen; omega)
      go_enter Try.func28, Try.ntmps28
      go_wp2_with fail
      refine (implSortRows_any a c l _ H.out hl HR.out).mono ?_
      rintro e w1 ⟨a1, c1, rfl, o1, _, _, b1⟩
      have B1 := Lib.hid b1
      have O1 := Lib.hid o1
      have K1 := Lib.hid (K.out.below b1)
      clear o1 b1
      go_wp2_with fail
      refine (implSortRows_any b d m _ K1.out hm HS.out).mono ?_
      rintro e w2 ⟨a2, c2, rfl, o2, _, _, b2⟩
      have B2 := Lib.hid (below_step B1.out (Nat.le_refl _) b2)
      have O1' := Lib.hid (O1.out.below b2).rd
      have O2 := Lib.hid o2.rd
      clear o2 b2
      go_wp2_with fail
      refine (implSameRows_any a1 a2 c1 c2 (sortO l) (sortO m) _ O1'.out O2.out L1.out L2.out).mono ?_
      rintro e w3 ⟨rfl, b3⟩
      have B3 := Lib.hid (below_step B2.out (Nat.le_refl _) b3)
      clear b3
      go_wp2_with fail
      go_ret
      exact ⟨ret_bool E.out.symm, B3.out⟩

set_option maxRecDepth 100000 in
theorem specSameBag_any (a b : Option Addr) (c d : Nat) (l m : List (List Int)) (w : World) (h : RdR w a l) (k : RdR w b m) (hl : l.length ≤ 1048576) (hm : m.length ≤ 1048576) (hr : ∀ r ∈ l, r.length ≤ 1048576) (hs : ∀ r ∈ m, r.length ≤ 1048576) :
    Calls Try.prog 27 #[.slice a l.length c, .slice b m.length d] w fun e w' => e = .returned (.bool (bagB l m)) ∧ Below w.heap.size w w' := by
  have H := Lib.hid h; have K := Lib.hid k; have HR := Lib.hid hr; have HS := Lib.hid hs
  clear h k hr hs
  have l9 : l.length ≤ 9223372036854775807 := by omega
  have m9 : m.length ≤ 9223372036854775807 := by omega
  by_cases h1 : 200 < l.length
  · have E := Lib.hid (bagB_l (m := m) h1)
    have z1 : (200 : Int) < (l.length : Int) := by omega
    have z1' : ¬ ((l.length : Int) ≤ 200) := by omega
    go_enter Try.func27, Try.ntmps27
    go_wp2_with fail
    go_ret
    exact ⟨ret_bool E.out.symm, Below.refl _ _⟩
  · have z1 : (l.length : Int) ≤ 200 := by omega
    by_cases h2 : 200 < m.length
    · have E := Lib.hid (bagB_m (l := l) h2)
      have z2 : (200 : Int) < (m.length : Int) := by omega
      have z2' : ¬ ((m.length : Int) ≤ 200) := by omega
      go_enter Try.func27, Try.ntmps27
      go_wp2_with fail
      go_ret
      exact ⟨ret_bool E.out.symm, Below.refl _ _⟩
    · have z2 : (m.length : Int) ≤ 200 := by omega
      have E := Lib.hid (bagB_y (l := l) (m := m) (by omega) (by omega))
      have L1 := Lib.hid (show (sortO l).length ≤ maxLen by have := sortO_len l; unfold maxLen; omega)
      have L2 := Lib.hid (show (sortO m).length ≤ maxLen by have := sortO_len m; unfold maxLen; omega)
      go_enter Try.func27, Try.ntmps27
      go_wp2_with fail
      refine (specSortRows_any a c l _ H.out hl HR.out).mono ?_
      rintro e w1 ⟨a1, c1, rfl, o1, _, _, b1⟩
      have B1 := Lib.hid b1
      have O1 := Lib.hid o1
      have K1 := Lib.hid (K.out.below b1)
      clear o1 b1
      go_wp2_with fail
      refine (specSortRows_any b d m _ K1.out hm HS.out).mono ?_
      rintro e w2 ⟨a2, c2, rfl, o2, _, _, b2⟩
      have B2 := Lib.hid (below_step B1.out (Nat.le_refl _) b2)
      have O1' := Lib.hid (O1.out.below b2).rd
      have O2 := Lib.hid o2.rd
      clear o2 b2
      go_wp2_with fail
      refine (specSameRows_any a1 a2 c1 c2 (sortO l) (sortO m) _ O1'.out O2.out L1.out L2.out).mono ?_
      rintro e w3 ⟨rfl, b3⟩
      have B3 := Lib.hid (below_step B2.out (Nat.le_refl _) b3)
      clear b3
      go_wp2_with fail
      go_ret
      exact ⟨ret_bool E.out.symm, B3.out⟩
end Go.Proofs.Ytfbgflmolkgopaa
