/-
  A plan's text, as far as j nodes. Plain facts; no program, no walk. Contract of spec.l02End: where the tree that begins at a place ends, and how deep it is. For every slice of nodes and every place in it. Contracts of spec.PlanOk, spec.l02Good, spec.EndOf, spec.DepthOf, spec.CountKind. For every slice of nodes. Contract of spec.PrintPlan. For every slice of nodes.
-/
import Derived.Test.YtfpbhedophlnkaaDoorNdT
import Derived.Test.YtfpbhedophlnkaaDoorKind
import Derived.Test.YtfpbhedophlnkaaDoorRead
import Derived.Test.YtfpbhedophlnkaaDoorSNode
import Derived.Test.YtfpbhedophlnkaaDoorSNdTA
namespace Go.Proofs.YtfpbhedophlnkaaDoor
open Go.RowKit
set_option linter.unusedSimpArgs false
set_option linter.unusedVariables false

theorem planB_40 {p : List Nd} (h : planB p = true) : p.length ≤ 40 := by
  cases ht : treeN p with
  | none => simp [planB, ht] at h
  | some T => exact (treeN_some ht).1
theorem planB_nodes {p : List Nd} (h : planB p = true) : ∀ n ∈ p, nodeB n = true := by
  cases ht : treeN p with
  | none => simp [planB, ht] at h
  | some T => exact treeN_all ht
theorem planO_yes {p : List Nd} (h : planB p = true) : planO p = ⟨(planT p).toArray⟩ := by unfold planO; rw [if_pos h]
theorem planO_no {p : List Nd} (h : planB p = false) : planO p = ⟨#[]⟩ := by unfold planO; rw [if_neg (by rw [h]; simp)]
/-- The texts of a plan's nodes. -/
theorem ndO_map {p : List Nd} (h : ∀ n ∈ p, nodeB n = true) : (p.map ndO).map (·.data.toList) = p.map ndT := by
  rw [List.map_map]
  exact List.map_congr_left fun n hn => ndO_list (h n hn)
theorem planT_len {p : List Nd} (h : ∀ n ∈ p, nodeB n = true) : (joinB 32 (p.map ndT)).length ≤ 177 * p.length := by
  have h1 := joinB_len 32 176 (p.map ndT) (fun x hx => by
    obtain ⟨n, hn, rfl⟩ := List.mem_map.1 hx
    exact ndT_len (h n hn))
  rwa [List.length_map] at h1
end Go.Proofs.YtfpbhedophlnkaaDoor
namespace Go.Proofs.YtfpbhedophlnkaaDoor
open Go.RowKit
set_option linter.unusedSimpArgs false
set_option linter.unusedVariables false

/-- What l02End answers. -/
def endV : Option (Nat × Nat) → Value
  | none => .tuple #[.int .i64 (-1), .int .i64 0]
  | some (e, d) => .tuple #[.int .i64 e, .int .i64 d]

theorem endN_out {p : List Nd} {r k : Nat} (h : p.length ≤ k) : endN p r k = none := by
  cases r with
  | zero => rfl
  | succ r => simp only [endN]; rw [List.getElem?_eq_none h]
theorem endN_0 {p : List Nd} {r k : Nat} {n : Nd} (hn : p[k]? = some n) (h1 : arity n.kind ≠ 1) (h2 : arity n.kind ≠ 2) : endN p (r + 1) k = some (k + 1, 1) := by
  simp only [endN, hn]; rw [if_neg h1, if_neg h2]
theorem endN_1n {p : List Nd} {r k : Nat} {n : Nd} (hn : p[k]? = some n) (h1 : arity n.kind = 1) (h : endN p r (k + 1) = none) : endN p (r + 1) k = none := by
  simp only [endN, hn]; rw [if_pos h1, h]
theorem endN_1s {p : List Nd} {r k e d : Nat} {n : Nd} (hn : p[k]? = some n) (h1 : arity n.kind = 1) (h : endN p r (k + 1) = some (e, d)) : endN p (r + 1) k = some (e, d + 1) := by
  simp only [endN, hn]; rw [if_pos h1, h]
theorem endN_2n {p : List Nd} {r k : Nat} {n : Nd} (hn : p[k]? = some n) (h2 : arity n.kind = 2) (h : endN p r (k + 1) = none) : endN p (r + 1) k = none := by
  simp only [endN, hn]; rw [if_neg (by omega), if_pos h2, h]
theorem endN_2sn {p : List Nd} {r k e d : Nat} {n : Nd} (hn : p[k]? = some n) (h2 : arity n.kind = 2) (h : endN p r (k + 1) = some (e, d)) (h' : endN p r e = none) : endN p (r + 1) k = none := by
  simp only [endN, hn]; rw [if_neg (by omega), if_pos h2, h]; simp only; rw [h']
theorem endN_2ss {p : List Nd} {r k e d e' d' : Nat} {n : Nd} (hn : p[k]? = some n) (h2 : arity n.kind = 2) (h : endN p r (k + 1) = some (e, d)) (h' : endN p r e = some (e', d')) : endN p (r + 1) k = some (e', (if d < d' then d' else d) + 1) := by
  simp only [endN, hn]; rw [if_neg (by omega), if_pos h2, h]; simp only; rw [h']
theorem endN_bd (p : List Nd) : ∀ (r k e d : Nat), endN p r k = some (e, d) → k < e ∧ e ≤ p.length ∧ 1 ≤ d ∧ d ≤ r := by
  intro r
  induction r with
  | zero => intro k e d h; cases h
  | succ r ih =>
    intro k e d h
    cases hn : p[k]? with
    | none => simp only [endN, hn] at h; cases h
    | some n =>
      have hk : k < p.length := by
        rcases Nat.lt_or_ge k p.length with h1 | h1
        · exact h1
        · rw [List.getElem?_eq_none h1] at hn; cases hn
      by_cases h1 : arity n.kind = 1
      · cases hc : endN p r (k + 1) with
        | none => rw [endN_1n hn h1 hc] at h; cases h
        | some x =>
          obtain ⟨e1, d1⟩ := x
          rw [endN_1s hn h1 hc] at h; cases h
          have := ih _ _ _ hc; omega
      · by_cases h2 : arity n.kind = 2
        · cases hc : endN p r (k + 1) with
          | none => rw [endN_2n hn h2 hc] at h; cases h
          | some x =>
            obtain ⟨e1, d1⟩ := x
            cases hd : endN p r e1 with
            | none => rw [endN_2sn hn h2 hc hd] at h; cases h
            | some y =>
              obtain ⟨e2, d2⟩ := y
              rw [endN_2ss hn h2 hc hd] at h; cases h
              have := ih _ _ _ hc; have := ih _ _ _ hd
              split <;> omega
        · rw [endN_0 hn h1 h2] at h; cases h; omega

set_option maxRecDepth 100000 in
set_option maxHeartbeats 1600000 in
theorem specEnd_any (ao : Option Addr) (c : Nat) (p : List Nd) (hp : p.length ≤ 1048576) : ∀ (r : Nat) (k room : Int) (w : World), RdN w ao p → 0 ≤ k → k ≤ 1048576 → (r : Int) ≤ room → room ≤ (r : Int) → r ≤ 1000 →
    Calls Tryd.prog 41 #[.slice ao p.length c, .int .i64 k, .int .i64 room] w fun e w' => e = .returned (endV (endN p r k.toNat)) ∧ w = w' := by
  intro r
  induction r with
  | zero =>
    intro k room w h hk0 hk1 hr1 hr2 _
    have hr : (room == 0) = true := beq_iff_eq.2 (by omega)
    have HF := Lib.hid (show endN p 0 k.toNat = none from rfl)
    by_cases hk : (p.length : Int) ≤ k
    · go_enter Tryd.func41, Tryd.ntmps41
      go_wp2_with fail
      go_ret2
      exact ⟨by rw [HF.out]; rfl, rfl⟩
    · have hk' : k < (p.length : Int) := by omega
      go_enter Tryd.func41, Tryd.ntmps41
      go_wp2_with fail
      go_ret2
      exact ⟨by rw [HF.out]; rfl, rfl⟩
  | succ r ih =>
    intro k room w h hk0 hk1 hr1 hr2 hr3
    have IH := Lib.hid ih; clear ih
    have hr : (room == 0) = false := beq_eq_false_iff_ne.2 (by omega)
    by_cases hk : (p.length : Int) ≤ k
    · have HF := Lib.hid (endN_out (r := r + 1) (show p.length ≤ k.toNat by omega))
      go_enter Tryd.func41, Tryd.ntmps41
      go_wp2_with fail
      go_ret2
      exact ⟨by rw [HF.out]; rfl, rfl⟩
    · have hk' : k < (p.length : Int) := by omega
      obtain ⟨b, off, n, a, c', rfl, hn, hat⟩ := h.at_ (i := k.toNat) (by omega)
      have H := Lib.hid h; clear h
      have HN := Lib.hid hn; clear hn
      have c0 := hat.c0
      clear hat hk
      have AR := Lib.hid (fun w => specArity_any n.kind w)
      by_cases h1 : arity n.kind = 1
      · have H1 := Lib.hid h1; clear h1
        cases hc : endN p r (k.toNat + 1) with
        | none =>
          have HC := Lib.hid hc; clear hc
          have HF := Lib.hid (endN_1n HN.out H1.out HC.out)
          go_enter Tryd.func41, Tryd.ntmps41
          go_wp2_with fail
          refine wp_loop_rounds 2 ?_; rw [rounds_succ]
          go_wp2_with (go_at_call 52; refine (AR.out _).mono ?_; rintro e w' ⟨rfl, rfl⟩; rw [H1.out])
          refine (IH.out _ _ _ H.out (by omega) (by omega) (by omega) (by omega) (by omega)).mono ?_
          rintro e w' ⟨rfl, rfl⟩
          rw [show (k + 1).toNat = k.toNat + 1 from by omega, HC.out]
          simp only [endV]
          go_wp2_with fail
          go_ret2
          exact ⟨by rw [HF.out]; rfl, rfl⟩
        | some x =>
          obtain ⟨e1, d1⟩ := x
          have HC := Lib.hid hc; clear hc
          have HF := Lib.hid (endN_1s HN.out H1.out HC.out)
          obtain ⟨q1, q2, q3, q4⟩ := endN_bd _ _ _ _ _ HC.out
          go_enter Tryd.func41, Tryd.ntmps41
          go_wp2_with fail
          refine wp_loop_rounds 2 ?_; rw [rounds_succ]
          go_wp2_with (go_at_call 52; refine (AR.out _).mono ?_; rintro e w' ⟨rfl, rfl⟩; rw [H1.out])
          refine (IH.out _ _ _ H.out (by omega) (by omega) (by omega) (by omega) (by omega)).mono ?_
          rintro e w' ⟨rfl, rfl⟩
          rw [show (k + 1).toNat = k.toNat + 1 from by omega, HC.out]
          simp only [endV]
          go_wp2_with fail
          rw [rounds_succ]
          go_wp2_with (go_at_call 52; refine (AR.out _).mono ?_; rintro e w' ⟨rfl, rfl⟩; rw [H1.out])
          go_ret2
          exact ⟨by rw [HF.out]; rfl, rfl⟩
      · by_cases h2 : arity n.kind = 2
        · have H1 := Lib.hid h2; clear h1 h2
          cases hc : endN p r (k.toNat + 1) with
          | none =>
            have HC := Lib.hid hc; clear hc
            have HF := Lib.hid (endN_2n HN.out H1.out HC.out)
            go_enter Tryd.func41, Tryd.ntmps41
            go_wp2_with fail
            refine wp_loop_rounds 3 ?_; rw [rounds_succ]
            go_wp2_with (go_at_call 52; refine (AR.out _).mono ?_; rintro e w' ⟨rfl, rfl⟩; rw [H1.out])
            refine (IH.out _ _ _ H.out (by omega) (by omega) (by omega) (by omega) (by omega)).mono ?_
            rintro e w' ⟨rfl, rfl⟩
            rw [show (k + 1).toNat = k.toNat + 1 from by omega, HC.out]
            simp only [endV]
            go_wp2_with fail
            go_ret2
            exact ⟨by rw [HF.out]; rfl, rfl⟩
          | some x =>
            obtain ⟨e1, d1⟩ := x
            have HC := Lib.hid hc; clear hc
            obtain ⟨q1, q2, q3, q4⟩ := endN_bd _ _ _ _ _ HC.out
            cases hd : endN p r e1 with
            | none =>
              have HD := Lib.hid hd; clear hd
              have HF := Lib.hid (endN_2sn HN.out H1.out HC.out HD.out)
              go_enter Tryd.func41, Tryd.ntmps41
              go_wp2_with fail
              refine wp_loop_rounds 3 ?_; rw [rounds_succ]
              go_wp2_with (go_at_call 52; refine (AR.out _).mono ?_; rintro e w' ⟨rfl, rfl⟩; rw [H1.out])
              refine (IH.out _ _ _ H.out (by omega) (by omega) (by omega) (by omega) (by omega)).mono ?_
              rintro e w' ⟨rfl, rfl⟩
              rw [show (k + 1).toNat = k.toNat + 1 from by omega, HC.out]
              simp only [endV]
              go_wp2_with fail
              rw [rounds_succ]
              go_wp2_with (go_at_call 52; refine (AR.out _).mono ?_; rintro e w' ⟨rfl, rfl⟩; rw [H1.out])
              refine (IH.out _ _ _ H.out (by omega) (by omega) (by omega) (by omega) (by omega)).mono ?_
              rintro e w' ⟨rfl, rfl⟩
              rw [Int.toNat_natCast, HD.out]
              simp only [endV]
              go_wp2_with fail
              go_ret2
              exact ⟨by rw [HF.out]; rfl, rfl⟩
            | some y =>
              obtain ⟨e2, d2⟩ := y
              have HD := Lib.hid hd; clear hd
              have HF := Lib.hid (endN_2ss HN.out H1.out HC.out HD.out)
              obtain ⟨q5, q6, q7, q8⟩ := endN_bd _ _ _ _ _ HD.out
              by_cases hdd : d1 < d2
              all_goals
                go_enter Tryd.func41, Tryd.ntmps41
                go_wp2_with fail
                refine wp_loop_rounds 3 ?_; rw [rounds_succ]
                go_wp2_with (go_at_call 52; refine (AR.out _).mono ?_; rintro e w' ⟨rfl, rfl⟩; rw [H1.out])
                refine (IH.out _ _ _ H.out (by omega) (by omega) (by omega) (by omega) (by omega)).mono ?_
                rintro e w' ⟨rfl, rfl⟩
                rw [show (k + 1).toNat = k.toNat + 1 from by omega, HC.out]
                simp only [endV]
                go_wp2_with fail
                rw [rounds_succ]
                go_wp2_with (go_at_call 52; refine (AR.out _).mono ?_; rintro e w' ⟨rfl, rfl⟩; rw [H1.out])
                refine (IH.out _ _ _ H.out (by omega) (by omega) (by omega) (by omega) (by omega)).mono ?_
                rintro e w' ⟨rfl, rfl⟩
                rw [Int.toNat_natCast, HD.out]
                simp only [endV]
                go_wp2_with fail
                rw [rounds_succ]
                go_wp2_with (go_at_call 52; refine (AR.out _).mono ?_; rintro e w' ⟨rfl, rfl⟩; rw [H1.out])
                go_ret2
                exact ⟨by rw [HF.out]; simp [endV, hdd], rfl⟩
        · have HF := Lib.hid (endN_0 (r := r) HN.out h1 h2)
          have ha : arity n.kind ≤ 0 := by rcases arity_cases n.kind with h | h | h | h <;> omega
          clear h1 h2
          go_enter Tryd.func41, Tryd.ntmps41
          go_wp2_with fail
          refine wp_loop_rounds 1 ?_; rw [rounds_succ]
          go_wp2_with (go_at_call 52; refine (AR.out _).mono ?_; rintro e w' ⟨rfl, rfl⟩)
          go_ret2
          exact ⟨by rw [HF.out]; simp [endV]; omega, rfl⟩
end Go.Proofs.YtfpbhedophlnkaaDoor
namespace Go.Proofs.YtfpbhedophlnkaaDoor
open Go.RowKit
set_option linter.unusedSimpArgs false
set_option linter.unusedVariables false

set_option maxRecDepth 100000 in
set_option maxHeartbeats 1600000 in
theorem specPlanOk_any (ao : Option Addr) (c : Nat) (p : List Nd) (w : World) (h : RdN w ao p) (hp : p.length ≤ 1048576) :
    Calls Tryd.prog 29 #[.slice ao p.length c] w fun e w' => e = .returned (.bool (planB p)) ∧ Below w.heap.size w w' := by
  have H := Lib.hid h; clear h
  by_cases hlen : 1 ≤ p.length ∧ p.length ≤ 40
  · obtain ⟨h1, h2⟩ := hlen
    have h3 : (1 : Int) ≤ p.length := by omega
    have h4 : (p.length : Int) ≤ 40 := by omega
    have E := Lib.hid (fun wr (hr : RdN wr ao p) => specEnd_any ao c p hp 10 0 10 wr hr (by omega) (by omega) (by omega) (by omega) (by omega))
    go_enter Tryd.func29, Tryd.ntmps29
    go_wp2_with (go_at_call 35; refine (l01In_any _ _ _ _).mono ?_; rintro e w' ⟨rfl, rfl⟩)
    go_loopw [3] (fun i wr => ∃ j : Nat, j ≤ p.length ∧ i = .int .i64 j ∧ (∀ (i : Nat) (n : Nd), i < j → p[i]? = some n → nodeB n = true) ∧ Below w.heap.size w wr) (fun i _ => p.length - (intOf i).toNat)
    case atStart => exact ⟨0, Nat.zero_le _, rfl, fun i n hi => absurd hi (Nat.not_lt_zero _), Below.refl _ _⟩
    case round =>
      obtain ⟨j, hj, rfl, hall, hb⟩ := hrel
      have HA := Lib.hid hall; clear hall
      have HB := Lib.hid hb
      by_cases hlt : j < p.length
      · obtain ⟨b, off, n, a, c', rfl, hn, hat⟩ := (H.out.below hb).at_ hlt
        have HN := Lib.hid hn; clear hn hb
        obtain ⟨c0, c1, c2, c3, c4, c5, c6, rd, cap, mx, nm⟩ := hat
        have RD := Lib.hid rd
        have cl := Nat.le_trans cap mx
        clear rd cap mx
        have NK := Lib.hid (fun w => specNodeOk_any n a c' w)
        go_wp2_with fail
        refine (NK.out _ RD.out cl nm).mono ?_
        rintro e w1 ⟨rfl, b1⟩
        have T1 := Lib.hid (below_step HB.out (Nat.le_refl _) b1)
        clear b1
        cases hnb : nodeB n with
        | true =>
          have NB := Lib.hid hnb; clear hnb
          go_wp2_with fail
          go_roundw
          case rel => exact ⟨j + 1, by omega, by go_num, fun i m hi hm => by
            by_cases hij : i = j
            · subst hij; rw [HN.out] at hm; cases hm; exact NB.out
            · exact HA.out i m (by omega) hm, T1.out⟩
          case measure => simp [intOf]; omega
        | false =>
          have F := Lib.hid (planB_node (List.mem_of_getElem? HN.out) hnb)
          clear hnb
          go_wp2_with fail
          go_ret
          exact ⟨ret_bool F.out.symm, T1.out⟩
      · have hall : ∀ n ∈ p, nodeB n = true := by
          intro n hn
          obtain ⟨i, hi, rfl⟩ := List.mem_iff_getElem.1 hn
          exact HA.out i _ (by omega) (List.getElem?_eq_getElem hi)
        have F := Lib.hid (planB_spec p h2 hall)
        have R := Lib.hid (H.out.below hb)
        clear hall hb
        go_wp2_with fail
        refine (E.out _ R.out).mono ?_
        rintro e w' ⟨rfl, rfl⟩
        cases he : endN p 10 (0 : Int).toNat with
        | none =>
          have he' : endN p 10 0 = none := he
          have F2 := Lib.hid (show planB p = false by rw [F.out, he']; rfl)
          simp only [endV]
          clear he he'
          have h5 : ((-1 : Int) == (p.length : Int)) = false := beq_eq_false_iff_ne.2 (by omega)
          go_wp2_with fail
          go_ret
          exact ⟨ret_bool F2.out.symm, HB.out⟩
        | some x =>
          obtain ⟨e1, d1⟩ := x
          have he' : endN p 10 0 = some (e1, d1) := he
          have F2 := Lib.hid (show planB p = decide (e1 = p.length) by rw [F.out, he']; simp)
          simp only [endV]
          clear he he'
          by_cases hee : e1 = p.length
          · have h5 : ((e1 : Int) == (p.length : Int)) = true := beq_iff_eq.2 (by omega)
            have F3 := Lib.hid (show planB p = true by rw [F2.out]; simp [hee])
            clear hee
            go_wp2_with fail
            go_ret
            exact ⟨ret_bool F3.out.symm, HB.out⟩
          · have h5 : ((e1 : Int) == (p.length : Int)) = false := beq_eq_false_iff_ne.2 (by omega)
            have F3 := Lib.hid (show planB p = false by rw [F2.out]; simp [hee])
            clear hee
            go_wp2_with fail
            go_ret
            exact ⟨ret_bool F3.out.symm, HB.out⟩
  · have HF := Lib.hid (planB_len (p := p) (by omega))
    have h3 : (decide ((1 : Int) ≤ p.length) && decide ((p.length : Int) ≤ 40)) = false := by simp; omega
    have H3 := Lib.hid h3; clear h3 hlen
    go_enter Tryd.func29, Tryd.ntmps29
    go_wp2_with (go_at_call 35; refine (l01In_any _ _ _ _).mono ?_; rintro e w' ⟨rfl, rfl⟩; rw [H3.out])
    go_ret
    exact ⟨ret_bool HF.out.symm, Below.refl _ _⟩

/-- Whether a place is one of a plan. -/
def goodB (p : List Nd) (k : Int) : Bool := planB p && (decide (0 ≤ k) && decide (k ≤ (p.length : Int) - 1))
end Go.Proofs.YtfpbhedophlnkaaDoor
namespace Go.Proofs.YtfpbhedophlnkaaDoor
open Go.RowKit
set_option linter.unusedSimpArgs false
set_option linter.unusedVariables false

set_option maxRecDepth 100000 in
set_option maxHeartbeats 1600000 in
theorem specPrintPlan_any (ao : Option Addr) (c : Nat) (p : List Nd) (w : World) (h : RdN w ao p) (hp : p.length ≤ 1048576) :
    Calls Tryd.prog 12 #[.slice ao p.length c] w fun e w' => e = .returned (.string (planO p)) ∧ Below w.heap.size w w' := by
  have H := Lib.hid h; clear h
  have PO := Lib.hid (fun w h => specPlanOk_any ao c p w h hp)
  cases hg : planB p with
  | false =>
    rw [planO_no hg]
    rw [hg] at PO
    clear hg
    go_enter Tryd.func12, Tryd.ntmps12
    go_wp2_with fail
    refine (PO.out _ H.out).mono ?_
    rintro e w1 ⟨rfl, b1⟩
    go_wp2_with fail
    go_ret
    exact ⟨rfl, b1⟩
  | true =>
    rw [hg] at PO
    have hl40 := planB_40 hg
    have HG := Lib.hid (planB_nodes hg)
    have E := Lib.hid (planO_yes hg)
    clear hg
    go_enter Tryd.func12, Tryd.ntmps12
    go_wp2_with fail
    refine (PO.out _ H.out).mono ?_
    rintro e w1 ⟨rfl, b1⟩
    have B1 := Lib.hid b1; clear b1
    go_wp2_with fail
    go_loopw [3, 4] (fun s i wr => ∃ (j : Nat) (X : ByteArray), j ≤ p.length ∧ i = .int .i64 j ∧ s = .string X ∧ X.data.toList = joinB 32 ((p.take j).map ndT) ∧ Below w.heap.size w wr) (fun _ i _ => p.length - (intOf i).toNat)
    case atStart => exact ⟨0, _, Nat.zero_le _, rfl, rfl, rfl, B1.out⟩
    case round =>
      obtain ⟨j, X, hj, rfl, rfl, hX, hb⟩ := hrel
      have hxs : X.size ≤ 7080 := by
        have h1 : X.data.toList.length = X.size := by rw [Array.length_toList]; rfl
        have h2 := planT_len (p := p.take j) (fun n hn => HG.out n (List.mem_of_mem_take hn))
        have h3 : (p.take j).length ≤ 40 := by simp; omega
        rw [← h1, hX]; omega
      have HX := Lib.hid hX; have HB := Lib.hid hb; clear hX hb
      by_cases hlt : j < p.length
      · obtain ⟨b, off, n, a, c', rfl, hn, hat⟩ := (H.out.below HB.out).at_ hlt
        have hnb := HG.out n (List.mem_of_getElem? hn)
        have JT := Lib.hid (joinB_take 32 ndT hn)
        have HO := Lib.hid (ndO_list hnb)
        have hns := ndO_size n
        obtain ⟨c0, c1, c2', c3', c4, c5, c6, rd, cap, mx, nm⟩ := hat
        have RD := Lib.hid rd
        have cl := Nat.le_trans cap mx
        clear rd cap mx hnb hn
        have PN := Lib.hid (fun w h => specNodeText_any n a c' w h cl nm)
        generalize ndO n = R at PN HO hns
        have i1 : (j : Int) < (p.length : Int) := by omega
        by_cases h0 : j = 0
        · have Z := Lib.hid h0
          have j0 : ¬ (0 : Int) < (j : Int) := by omega
          have e1 : ¬ (9223372036854775807 < X.size + R.size) := by omega
          clear h0
          go_wp2_with fail
          refine (PN.out _ RD.out).mono ?_
          rintro e w4 ⟨rfl, b4⟩
          have B4 := Lib.hid (below_step HB.out (Nat.le_refl _) b4)
          clear b4 c0 c1 c2' c3' c4 c5 c6
          go_wp2_with fail
          go_roundw
          case rel => exact ⟨j + 1, _, by omega, by go_num, rfl, by rw [JT.out, if_pos Z.out]; have := HX.out; rw [Z.out] at this; simp [joinB] at this; simp [ByteArray.data_append, this, HO.out], B4.out⟩
          case measure => simp [intOf]; omega
        · have Z := Lib.hid h0
          have j0 : (0 : Int) < (j : Int) := by omega
          have e0 : ¬ (9223372036854775807 < X.size + 1) := by omega
          have e1 : ¬ (9223372036854775807 < X.size + 1 + R.size) := by omega
          clear h0
          go_wp2_with fail
          refine (PN.out _ RD.out).mono ?_
          rintro e w4 ⟨rfl, b4⟩
          have B4 := Lib.hid (below_step HB.out (Nat.le_refl _) b4)
          clear b4 c0 c1 c2' c3' c4 c5 c6
          go_wp2_with fail
          go_roundw
          case rel => exact ⟨j + 1, _, by omega, by go_num, rfl, by rw [JT.out, if_neg Z.out, ← HX.out]; simp [ByteArray.data_append, HO.out], B4.out⟩
          case measure => simp [intOf]; omega
      · obtain rfl : j = p.length := by omega
        have XE : Hid (X = planO p) := by
          show _ = _
          rw [E.out]; refine bx ?_
          have := HX.out; rw [List.take_length] at this; exact this
        clear HX
        go_wp2_with fail
        go_ret
        exact ⟨ret_strN XE.out, HB.out⟩
end Go.Proofs.YtfpbhedophlnkaaDoor
