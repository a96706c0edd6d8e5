/-
  Contracts of spec.PlanOk, spec.l02Good, spec.EndOf, spec.DepthOf, spec.CountKind. For every slice of nodes.
-/
import Derived.Test.YtfpbhedophlnkaaDoorSEnd
import Derived.Test.YtfpbhedophlnkaaDoorKK
namespace Go.Proofs.YtfpbhedophlnkaaDoor
open Go.RowKit
set_option linter.unusedSimpArgs false
set_option linter.unusedVariables false

set_option maxRecDepth 100000 in
set_option maxHeartbeats 1600000 in
theorem specPlanOk_any (ao : Option Addr) (c : Nat) (p : List Nd) (w : World) (h : RdN w ao p) (hp : p.length ≤ 1048576) :
    Calls Tryd.prog 29 #[.slice ao p.length c] w fun e w' => e = .returned (.bool (planB p)) ∧ Below w.heap.size w w' := by
  have H := Lib.hid h; clear h
  by_cases hlen : 1 ≤ p.length ∧ p.length ≤ 40
  · obtain ⟨h1, h2⟩ := hlen
    have h3 : (1 : Int) ≤ p.length := by omega
    have h4 : (p.length : Int) ≤ 40 := by omega
    have E := Lib.hid (fun wr (hr : RdN wr ao p) => specEnd_any ao c p hp 10 0 10 wr hr (by omega) (by omega) (by omega) (by omega) (by omega))
    go_enter Tryd.func29, Tryd.ntmps29
    go_wp2_with (go_at_call 35; refine (l01In_any _ _ _ _).mono ?_; rintro e w' ⟨rfl, rfl⟩)
    go_loopw [3] (fun i wr => ∃ j : Nat, j ≤ p.length ∧ i = .int .i64 j ∧ (∀ (i : Nat) (n : Nd), i < j → p[i]? = some n → nodeB n = true) ∧ Below w.heap.size w wr) (fun i _ => p.length - (intOf i).toNat)
    case atStart => exact ⟨0, Nat.zero_le _, rfl, fun i n hi => absurd hi (Nat.not_lt_zero _), Below.refl _ _⟩
    case round =>
      obtain ⟨j, hj, rfl, hall, hb⟩ := hrel
      have HA := Lib.hid hall; clear hall
      have HB := Lib.hid hb
      by_cases hlt : j < p.length
      · obtain ⟨b, off, n, a, c', rfl, hn, hat⟩ := (H.out.below hb).at_ hlt
        have HN := Lib.hid hn; clear hn hb
        obtain ⟨c0, c1, c2, c3, c4, c5, c6, rd, cap, mx, nm⟩ := hat
        have RD := Lib.hid rd
        have cl := Nat.le_trans cap mx
        clear rd cap mx
        have NK := Lib.hid (fun w => specNodeOk_any n a c' w)
        go_wp2_with fail
        refine (NK.out _ RD.out cl nm).mono ?_
        rintro e w1 ⟨rfl, b1⟩
        have T1 := Lib.hid (below_step HB.out (Nat.le_refl _) b1)
        clear b1
        cases hnb : nodeB n with
        | true =>
          have NB := Lib.hid hnb; clear hnb
          go_wp2_with fail
          go_roundw
          case rel => exact ⟨j + 1, by omega, by go_num, fun i m hi hm => by
            by_cases hij : i = j
            · subst hij; rw [HN.out] at hm; cases hm; exact NB.out
            · exact HA.out i m (by omega) hm, T1.out⟩
          case measure => simp [intOf]; omega
        | false =>
          have F := Lib.hid (planB_node (List.mem_of_getElem? HN.out) hnb)
          clear hnb
          go_wp2_with fail
          go_ret
          exact ⟨ret_bool F.out.symm, T1.out⟩
      · have hall : ∀ n ∈ p, nodeB n = true := by
          intro n hn
          obtain ⟨i, hi, rfl⟩ := List.mem_iff_getElem.1 hn
          exact HA.out i _ (by omega) (List.getElem?_eq_getElem hi)
        have F := Lib.hid (planB_spec p h2 hall)
        have R := Lib.hid (H.out.below hb)
        clear hall hb
        go_wp2_with fail
        refine (E.out _ R.out).mono ?_
        rintro e w' ⟨rfl, rfl⟩
        cases he : endN p 10 (0 : Int).toNat with
        | none =>
          have he' : endN p 10 0 = none := he
          have F2 := Lib.hid (show planB p = false by rw [F.out, he']; rfl)
          simp only [endV]
          clear he he'
          have h5 : ((-1 : Int) == (p.length : Int)) = false := beq_eq_false_iff_ne.2 (by omega)
          go_wp2_with fail
          go_ret
          exact ⟨ret_bool F2.out.symm, HB.out⟩
        | some x =>
          obtain ⟨e1, d1⟩ := x
          have he' : endN p 10 0 = some (e1, d1) := he
          have F2 := Lib.hid (show planB p = decide (e1 = p.length) by rw [F.out, he']; simp)
          simp only [endV]
          clear he he'
          by_cases hee : e1 = p.length
          · have h5 : ((e1 : Int) == (p.length : Int)) = true := beq_iff_eq.2 (by omega)
            have F3 := Lib.hid (show planB p = true by rw [F2.out]; simp [hee])
            clear hee
            go_wp2_with fail
            go_ret
            exact ⟨ret_bool F3.out.symm, HB.out⟩
          · have h5 : ((e1 : Int) == (p.length : Int)) = false := beq_eq_false_iff_ne.2 (by omega)
            have F3 := Lib.hid (show planB p = false by rw [F2.out]; simp [hee])
            clear hee
            go_wp2_with fail
            go_ret
            exact ⟨ret_bool F3.out.symm, HB.out⟩
  · have HF := Lib.hid (planB_len (p := p) (by omega))
    have h3 : (decide ((1 : Int) ≤ p.length) && decide ((p.length : Int) ≤ 40)) = false := by simp; omega
    have H3 := Lib.hid h3; clear h3 hlen
    go_enter Tryd.func29, Tryd.ntmps29
    go_wp2_with (go_at_call 35; refine (l01In_any _ _ _ _).mono ?_; rintro e w' ⟨rfl, rfl⟩; rw [H3.out])
    go_ret
    exact ⟨ret_bool HF.out.symm, Below.refl _ _⟩

/-- Whether a place is one of a plan. -/
def goodB (p : List Nd) (k : Int) : Bool := planB p && (decide (0 ≤ k) && decide (k ≤ (p.length : Int) - 1))
end Go.Proofs.YtfpbhedophlnkaaDoor
