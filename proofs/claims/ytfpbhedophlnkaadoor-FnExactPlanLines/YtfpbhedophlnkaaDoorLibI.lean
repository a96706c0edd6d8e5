/-
  The library's slices.Equal, slices.Clone and slices.ContainsFunc at slices of int, in the words of this seat. For every slice of int.
-/
import Derived.Test.YtfpbhedophlnkaaDoorShelf
import Derived.Test.YtfpbhedophlnkaaDoorRow
import Derived.Test.YtfpbhedophlnkaaDoorNodes
import Derived.Lib.SliceRun
namespace Go.Proofs.YtfpbhedophlnkaaDoor
open Go.RowKit Go.Shelf Go.Lib
set_option linter.unusedSimpArgs false
set_option linter.unusedVariables false

theorem libEqual_any (a b : Option Addr) (c d : Nat) (l m : List Int) (w : World) (h : Rd w .i64 a l) (k : Rd w .i64 b m) (hn : l.length ≤ maxLen) (hm : m.length ≤ maxLen) :
    Calls Tryd.prog 48 #[.slice a l.length c, .slice b m.length d] w fun e w' => e = .returned (.bool (eqL l m)) ∧ Below w.heap.size w w' := by
  have hn' : l.length ≤ 9223372036854775807 := by unfold maxLen at hn; omega
  have hm' : m.length ≤ 9223372036854775807 := by unfold maxLen at hm; omega
  by_cases hlen : l.length = m.length
  · rcases h with rfl | ⟨b1, o1, rfl, hc⟩
    · have hm0 : m = [] := List.eq_nil_of_length_eq_zero hlen.symm
      subst hm0
      exact (Any.slices_Equal_int_empty Tryd.lays111 a b c 0 d w (by omega)).mono fun e w' ⟨he, hw⟩ => ⟨by rw [he]; rfl, by rw [hw]; exact Below.refl _ _⟩
    · rcases k with rfl | ⟨b2, o2, rfl, kc⟩
      · have hl0 : l = [] := List.eq_nil_of_length_eq_zero hlen
        subst hl0
        exact (Any.slices_Equal_int_empty Tryd.lays111 _ b c 0 d w (by omega)).mono fun e w' ⟨he, hw⟩ => ⟨by rw [he]; rfl, by rw [hw]; exact Below.refl _ _⟩
      · refine (Any.slices_Equal_int Tryd.lays111 b1 o1 l.length c b2 o2 m.length d l m w (Nat.le_refl _) (Nat.le_refl _) hn' hm' hc kc).mono fun e w' ⟨he, q, hw⟩ => ⟨?_, ?_⟩
        · rw [he, List.take_length, List.take_length]; exact ret_bool (by unfold eqL; rw [Bool.eq_iff_iff]; simp)
        · rw [hw]; exact below_drewN (Below.refl _ _) q
  · refine (Any.slices_Equal_int_lens Tryd.lays111 a b l.length c m.length d w hlen).mono fun e w' ⟨he, hw⟩ => ⟨?_, by rw [hw]; exact Below.refl _ _⟩
    rw [he]; exact ret_bool (by symm; unfold eqL; simp; rintro rfl; exact hlen rfl)

theorem made_of_owns {w w' : World} {v : Value} {l : List Int} {e : TypeId} (h : w'.ownsRow w.heap.size e 1 v l.length (l.map (Value.int .i64))) (hb : Below w.heap.size w w') :
    Made w e .i64 l (.returned v) w' := by
  rcases h.2 with ⟨rfl, hn⟩ | ⟨g, cap, cur, rfl, r⟩
  · obtain rfl : l = [] := List.eq_nil_of_length_eq_zero hn
    exact ⟨none, 0, rfl, Own.none_, hb⟩
  · exact ⟨_, cap, rfl, h, hb⟩

theorem libClone_any (a : Option Addr) (c : Nat) (l : List Int) (w : World) (h : Rd w .i64 a l) (hn : l.length ≤ 17592186044416) :
    Calls Tryd.prog 106 #[.slice a l.length c] w (Made w 3 .i64 l) := by
  rcases h with rfl | ⟨b1, o1, rfl, hc⟩
  · cases a with
    | none =>
      refine (Any.slices_Clone_int_nil Tryd.laysNm215 0 c w).mono ?_
      rintro e w' ⟨he, hw⟩
      rw [he, hw]; exact ⟨none, 0, rfl, Own.none_, Below.refl _ _⟩
    | some x =>
      refine (Any.slices_Clone_int_zero Tryd.laysNm215 x c w).mono ?_
      rintro e w' ⟨v, he, ho, _, hb⟩
      rw [he]; exact made_of_owns (l := []) ho hb
  · refine (Any.slices_Clone_int Tryd.laysNm215 b1 o1 l.length c l w (Nat.le_refl _) (by omega) hc).mono ?_
    rintro e w' ⟨v, he, ho, _, hb⟩
    rw [he]; rw [List.take_length] at ho; exact made_of_owns ho hb

theorem isCol_any (x : Int) (w : World) : Calls Tryd.prog 99 #[.int .i64 x] w fun e w' => e = .returned (.bool (colB x)) ∧ w = w' := by
  by_cases h1 : 0 ≤ x
  · by_cases h2 : x ≤ 63
    · have HF := Lib.hid (colB_t h1 h2)
      go_enter Tryd.func99, Tryd.ntmps99
      go_wp2
      go_ret
      exact ⟨ret_bool HF.out.symm, rfl⟩
    · have HF := Lib.hid (colB_f (x := x) (by omega))
      have h3 : 63 < x := by omega
      go_enter Tryd.func99, Tryd.ntmps99
      go_wp2
      go_ret
      exact ⟨ret_bool HF.out.symm, rfl⟩
  · have HF := Lib.hid (colB_f (x := x) (by omega))
    have h3 : x < 0 := by omega
    go_enter Tryd.func99, Tryd.ntmps99
    go_wp2
    go_ret
    exact ⟨ret_bool HF.out.symm, rfl⟩
theorem isNoCol_any (x : Int) (w : World) : Calls Tryd.prog 105 #[.int .i64 x] w fun e w' => e = .returned (.bool (!colB x)) ∧ w = w' := by
  go_enter Tryd.func105, Tryd.ntmps105
  go_wp2_with fail
  refine (isCol_any _ _).mono ?_
  rintro e w' ⟨rfl, rfl⟩
  go_wp2
  go_ret
  exact ⟨rfl, rfl⟩

theorem libContains_any (a : Option Addr) (c : Nat) (l : List Int) (w : World) (h : Rd w .i64 a l) (hn : l.length ≤ maxLen) :
    Calls Tryd.prog 104 #[.slice a l.length c, .func (.func 105) #[] #[]] w fun e w' => e = .returned (.bool (!l.all colB)) ∧ Below w.heap.size w w' := by
  have hn' : l.length ≤ 9223372036854775807 := by unfold maxLen at hn; omega
  rcases h with rfl | ⟨b1, o1, rfl, hc⟩
  · exact (AnyE.slices_ContainsFunc_empty Tryd.laysContains a c _ w).mono fun e w' ⟨he, hw⟩ => ⟨by rw [he]; rfl, by rw [hw]; exact Below.refl _ _⟩
  · refine (AnyE.slices_ContainsFunc Tryd.laysContains (Value.int .i64) (fun x => !colB x) 105 #[] (enters_of Tryd.func105 (by kernel_rfl) rfl) b1 o1 l.length c l w
      (fun W x _ => (isNoCol_any x W).mono fun e w' ⟨he, hw⟩ => ⟨he, 0, by rw [← hw]; rfl⟩) (Nat.le_refl _) hn' (fun j hj => ?_)).mono fun e w' ⟨he, q, hw⟩ => ⟨?_, ?_⟩
    · rw [hc j hj, List.getD_eq_getElem?_getD, getElem!_def, List.getElem?_eq_getElem hj]; rfl
    · rw [he, List.take_length]; exact ret_bool (by rw [List.not_all_eq_any_not])
    · rw [hw]; exact below_drewN (Below.refl _ _) q
end Go.Proofs.YtfpbhedophlnkaaDoor
