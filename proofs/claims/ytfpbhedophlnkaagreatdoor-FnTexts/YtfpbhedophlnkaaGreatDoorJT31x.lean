/-
  Contract of spec.l02End: where the tree that begins at a place ends, and how deep it is. For every slice of nodes and every place in it. Contracts of spec.PlanOk, spec.l02Good, spec.EndOf, spec.DepthOf, spec.CountKind. For every slice of nodes. Contract of spec.ParsePlan. For every text that is not too long.
-/
import Derived.Test.YtfpbhedophlnkaaGreatDoorJT10x
import Derived.Test.YtfpbhedophlnkaaGreatDoorJT4x
import Derived.Test.YtfpbhedophlnkaaGreatDoorJT11x
import Derived.Test.YtfpbhedophlnkaaGreatDoorJT19x
import Derived.Test.YtfpbhedophlnkaaGreatDoorSWords
import Derived.Test.YtfpbhedophlnkaaGreatDoorJT30x
namespace Go.Proofs.YtfpbhedophlnkaaGreatDoor
open Go.RowKit
set_option linter.unusedSimpArgs false
set_option linter.unusedVariables false

/-- What l02End answers. -/
def endV : Option (Nat × Nat) → Value
  | none => .tuple #[.int .i64 (-1), .int .i64 0]
  | some (e, d) => .tuple #[.int .i64 e, .int .i64 d]

theorem endN_out {p : List Nd} {r k : Nat} (h : p.length ≤ k) : endN p r k = none := by
  cases r with
  | zero => rfl
  | succ r => simp only [endN]; rw [List.getElem?_eq_none h]
theorem endN_0 {p : List Nd} {r k : Nat} {n : Nd} (hn : p[k]? = some n) (h1 : arity n.kind ≠ 1) (h2 : arity n.kind ≠ 2) : endN p (r + 1) k = some (k + 1, 1) := by
  simp only [endN, hn]; rw [if_neg h1, if_neg h2]
theorem endN_1n {p : List Nd} {r k : Nat} {n : Nd} (hn : p[k]? = some n) (h1 : arity n.kind = 1) (h : endN p r (k + 1) = none) : endN p (r + 1) k = none := by
  simp only [endN, hn]; rw [if_pos h1, h]
theorem endN_1s {p : List Nd} {r k e d : Nat} {n : Nd} (hn : p[k]? = some n) (h1 : arity n.kind = 1) (h : endN p r (k + 1) = some (e, d)) : endN p (r + 1) k = some (e, d + 1) := by
  simp only [endN, hn]; rw [if_pos h1, h]
theorem endN_2n {p : List Nd} {r k : Nat} {n : Nd} (hn : p[k]? = some n) (h2 : arity n.kind = 2) (h : endN p r (k + 1) = none) : endN p (r + 1) k = none := by
  simp only [endN, hn]; rw [if_neg (by omega), if_pos h2, h]
theorem endN_2sn {p : List Nd} {r k e d : Nat} {n : Nd} (hn : p[k]? = some n) (h2 : arity n.kind = 2) (h : endN p r (k + 1) = some (e, d)) (h' : endN p r e = none) : endN p (r + 1) k = none := by
  simp only [endN, hn]; rw [if_neg (by omega), if_pos h2, h]; simp only; rw [h']
theorem endN_2ss {p : List Nd} {r k e d e' d' : Nat} {n : Nd} (hn : p[k]? = some n) (h2 : arity n.kind = 2) (h : endN p r (k + 1) = some (e, d)) (h' : endN p r e = some (e', d')) : endN p (r + 1) k = some (e', (if d < d' then d' else d) + 1) := by
  simp only [endN, hn]; rw [if_neg (by omega), if_pos h2, h]; simp only; rw [h']
theorem endN_bd (p : List Nd) : ∀ (r k e d : Nat), endN p r k = some (e, d) → k < e ∧ e ≤ p.length ∧ 1 ≤ d ∧ d ≤ r := by
  intro r
  induction r with
  | zero => intro k e d h; cases h
  | succ r ih =>
    intro k e d h
    cases hn : p[k]? with
    | none => simp only [endN, hn] at h; cases h
    | some n =>
      have hk : k < p.length := by
        rcases Nat.lt_or_ge k p.length with h1 | h1
        · exact h1
        · rw [List.getElem?_eq_none h1] at hn; cases hn
      by_cases h1 : arity n.kind = 1
      · cases hc : endN p r (k + 1) with
        | none => rw [endN_1n hn h1 hc] at h; cases h
        | some x =>
          obtain ⟨e1, d1⟩ := x
          rw [endN_1s hn h1 hc] at h; cases h
          have := ih _ _ _ hc; omega
      · by_cases h2 : arity n.kind = 2
        · cases hc : endN p r (k + 1) with
          | none => rw [endN_2n hn h2 hc] at h; cases h
          | some x =>
            obtain ⟨e1, d1⟩ := x
            cases hd : endN p r e1 with
            | none => rw [endN_2sn hn h2 hc hd] at h; cases h
            | some y =>
              obtain ⟨e2, d2⟩ := y
              rw [endN_2ss hn h2 hc hd] at h; cases h
              have := ih _ _ _ hc; have := ih _ _ _ hd
              split <;> omega
        · rw [endN_0 hn h1 h2] at h; cases h; omega

set_option maxRecDepth 100000 in
set_option maxHeartbeats 1600000 in
theorem specEnd_any (ao : Option Addr) (c : Nat) (p : List Nd) (hp : p.length ≤ 1048576) : ∀ (r : Nat) (k room : Int) (w : World), RdN w ao p → 0 ≤ k → k ≤ 1048576 → (r : Int) ≤ room → room ≤ (r : Int) → r ≤ 1000 →
    Calls Tryz.prog 133 #[.slice ao p.length c, .int .i64 k, .int .i64 room] w fun e w' => e = .returned (endV (endN p r k.toNat)) ∧ w = w' := by
  intro r
  induction r with
  | zero =>
    intro k room w h hk0 hk1 hr1 hr2 _
    have hr : (room == 0) = true := beq_iff_eq.2 (by omega)
    have HF := Lib.hid (show endN p 0 k.toNat = none from rfl)
    by_cases hk : (p.length : Int) ≤ k
    · go_enter Tryz.func133, Tryz.ntmps133
      go_wp2_with fail
      go_ret2
      exact ⟨by rw [HF.out]; rfl, rfl⟩
    · have hk' : k < (p.length : Int) := by omega
      go_enter Tryz.func133, Tryz.ntmps133
      go_wp2_with fail
      go_ret2
      exact ⟨by rw [HF.out]; rfl, rfl⟩
  | succ r ih =>
    intro k room w h hk0 hk1 hr1 hr2 hr3
    have IH := Lib.hid ih; clear ih
    have hr : (room == 0) = false := beq_eq_false_iff_ne.2 (by omega)
    by_cases hk : (p.length : Int) ≤ k
    · have HF := Lib.hid (endN_out (r := r + 1) (show p.length ≤ k.toNat by omega))
      go_enter Tryz.func133, Tryz.ntmps133
      go_wp2_with fail
      go_ret2
      exact ⟨by rw [HF.out]; rfl, rfl⟩
    · have hk' : k < (p.length : Int) := by omega
      obtain ⟨b, off, n, a, c', rfl, hn, hat⟩ := h.at_ (i := k.toNat) (by omega)
      have H := Lib.hid h; clear h
      have HN := Lib.hid hn; clear hn
      have c0 := hat.c0
      clear hat hk
      have AR := Lib.hid (fun w => specArity_any n.kind w)
      by_cases h1 : arity n.kind = 1
      · have H1 := Lib.hid h1; clear h1
        cases hc : endN p r (k.toNat + 1) with
        | none =>
          have HC := Lib.hid hc; clear hc
          have HF := Lib.hid (endN_1n HN.out H1.out HC.out)
          go_enter Tryz.func133, Tryz.ntmps133
          go_wp2_with fail
          refine wp_loop_rounds 2 ?_; rw [rounds_succ]
          go_wp2_with (go_at_call 140; refine (AR.out _).mono ?_; rintro e w' ⟨rfl, rfl⟩; rw [H1.out])
          refine (IH.out _ _ _ H.out (by omega) (by omega) (by omega) (by omega) (by omega)).mono ?_
          rintro e w' ⟨rfl, rfl⟩
          rw [show (k + 1).toNat = k.toNat + 1 from by omega, HC.out]
          simp only [endV]
          go_wp2_with fail
          go_ret2
          exact ⟨by rw [HF.out]; rfl, rfl⟩
        | some x =>
          obtain ⟨e1, d1⟩ := x
          have HC := Lib.hid hc; clear hc
          have HF := Lib.hid (endN_1s HN.out H1.out HC.out)
          obtain ⟨q1, q2, q3, q4⟩ := endN_bd _ _ _ _ _ HC.out
          go_enter Tryz.func133, Tryz.ntmps133
          go_wp2_with fail
          refine wp_loop_rounds 2 ?_; rw [rounds_succ]
          go_wp2_with (go_at_call 140; refine (AR.out _).mono ?_; rintro e w' ⟨rfl, rfl⟩; rw [H1.out])
          refine (IH.out _ _ _ H.out (by omega) (by omega) (by omega) (by omega) (by omega)).mono ?_
          rintro e w' ⟨rfl, rfl⟩
          rw [show (k + 1).toNat = k.toNat + 1 from by omega, HC.out]
          simp only [endV]
          go_wp2_with fail
          rw [rounds_succ]
          go_wp2_with (go_at_call 140; refine (AR.out _).mono ?_; rintro e w' ⟨rfl, rfl⟩; rw [H1.out])
          go_ret2
          exact ⟨by rw [HF.out]; rfl, rfl⟩
      · by_cases h2 : arity n.kind = 2
        · have H1 := Lib.hid h2; clear h1 h2
          cases hc : endN p r (k.toNat + 1) with
          | none =>
            have HC := Lib.hid hc; clear hc
            have HF := Lib.hid (endN_2n HN.out H1.out HC.out)
            go_enter Tryz.func133, Tryz.ntmps133
            go_wp2_with fail
            refine wp_loop_rounds 3 ?_; rw [rounds_succ]
            go_wp2_with (go_at_call 140; refine (AR.out _).mono ?_; rintro e w' ⟨rfl, rfl⟩; rw [H1.out])
            refine (IH.out _ _ _ H.out (by omega) (by omega) (by omega) (by omega) (by omega)).mono ?_
            rintro e w' ⟨rfl, rfl⟩
            rw [show (k + 1).toNat = k.toNat + 1 from by omega, HC.out]
            simp only [endV]
            go_wp2_with fail
            go_ret2
            exact ⟨by rw [HF.out]; rfl, rfl⟩
          | some x =>
            obtain ⟨e1, d1⟩ := x
            have HC := Lib.hid hc; clear hc
            obtain ⟨q1, q2, q3, q4⟩ := endN_bd _ _ _ _ _ HC.out
            cases hd : endN p r e1 with
            | none =>
              have HD := Lib.hid hd; clear hd
              have HF := Lib.hid (endN_2sn HN.out H1.out HC.out HD.out)
              go_enter Tryz.func133, Tryz.ntmps133
              go_wp2_with fail
              refine wp_loop_rounds 3 ?_; rw [rounds_succ]
              go_wp2_with (go_at_call 140; refine (AR.out _).mono ?_; rintro e w' ⟨rfl, rfl⟩; rw [H1.out])
              refine (IH.out _ _ _ H.out (by omega) (by omega) (by omega) (by omega) (by omega)).mono ?_
              rintro e w' ⟨rfl, rfl⟩
              rw [show (k + 1).toNat = k.toNat + 1 from by omega, HC.out]
              simp only [endV]
              go_wp2_with fail
              rw [rounds_succ]
              go_wp2_with (go_at_call 140; refine (AR.out _).mono ?_; rintro e w' ⟨rfl, rfl⟩; rw [H1.out])
              refine (IH.out _ _ _ H.out (by omega) (by omega) (by omega) (by omega) (by omega)).mono ?_
              rintro e w' ⟨rfl, rfl⟩
              rw [Int.toNat_natCast, HD.out]
              simp only [endV]
              go_wp2_with fail
              go_ret2
              exact ⟨by rw [HF.out]; rfl, rfl⟩
            | some y =>
              obtain ⟨e2, d2⟩ := y
              have HD := Lib.hid hd; clear hd
              have HF := Lib.hid (endN_2ss HN.out H1.out HC.out HD.out)
              obtain ⟨q5, q6, q7, q8⟩ := endN_bd _ _ _ _ _ HD.out
              by_cases hdd : d1 < d2
              all_goals
                go_enter Tryz.func133, Tryz.ntmps133
                go_wp2_with fail
                refine wp_loop_rounds 3 ?_; rw [rounds_succ]
                go_wp2_with (go_at_call 140; refine (AR.out _).mono ?_; rintro e w' ⟨rfl, rfl⟩; rw [H1.out])
                refine (IH.out _ _ _ H.out (by omega) (by omega) (by omega) (by omega) (by omega)).mono ?_
                rintro e w' ⟨rfl, rfl⟩
                rw [show (k + 1).toNat = k.toNat + 1 from by omega, HC.out]
                simp only [endV]
                go_wp2_with fail
                rw [rounds_succ]
                go_wp2_with (go_at_call 140; refine (AR.out _).mono ?_; rintro e w' ⟨rfl, rfl⟩; rw [H1.out])
                refine (IH.out _ _ _ H.out (by omega) (by omega) (by omega) (by omega) (by omega)).mono ?_
                rintro e w' ⟨rfl, rfl⟩
                rw [Int.toNat_natCast, HD.out]
                simp only [endV]
                go_wp2_with fail
                rw [rounds_succ]
                go_wp2_with (go_at_call 140; refine (AR.out _).mono ?_; rintro e w' ⟨rfl, rfl⟩; rw [H1.out])
                go_ret2
                exact ⟨by rw [HF.out]; simp [endV, hdd], rfl⟩
        · have HF := Lib.hid (endN_0 (r := r) HN.out h1 h2)
          have ha : arity n.kind ≤ 0 := by rcases arity_cases n.kind with h | h | h | h <;> omega
          clear h1 h2
          go_enter Tryz.func133, Tryz.ntmps133
          go_wp2_with fail
          refine wp_loop_rounds 1 ?_; rw [rounds_succ]
          go_wp2_with (go_at_call 140; refine (AR.out _).mono ?_; rintro e w' ⟨rfl, rfl⟩)
          go_ret2
          exact ⟨by rw [HF.out]; simp [endV]; omega, rfl⟩
end Go.Proofs.YtfpbhedophlnkaaGreatDoor
namespace Go.Proofs.YtfpbhedophlnkaaGreatDoor
open Go.RowKit
set_option linter.unusedSimpArgs false
set_option linter.unusedVariables false

set_option maxRecDepth 100000 in
set_option maxHeartbeats 1600000 in
theorem specPlanOk_any (ao : Option Addr) (c : Nat) (p : List Nd) (w : World) (h : RdN w ao p) (hp : p.length ≤ 1048576) :
    Calls Tryz.prog 52 #[.slice ao p.length c] w fun e w' => e = .returned (.bool (planB p)) ∧ Below w.heap.size w w' := by
  have H := Lib.hid h; clear h
  by_cases hlen : 1 ≤ p.length ∧ p.length ≤ 40
  · obtain ⟨h1, h2⟩ := hlen
    have h3 : (1 : Int) ≤ p.length := by omega
    have h4 : (p.length : Int) ≤ 40 := by omega
    have E := Lib.hid (fun wr (hr : RdN wr ao p) => specEnd_any ao c p hp 10 0 10 wr hr (by omega) (by omega) (by omega) (by omega) (by omega))
    go_enter Tryz.func52, Tryz.ntmps52
    go_wp2_with (go_at_call 97; refine (l01In_any _ _ _ _).mono ?_; rintro e w' ⟨rfl, rfl⟩)
    go_loopw [3] (fun i wr => ∃ j : Nat, j ≤ p.length ∧ i = .int .i64 j ∧ (∀ (i : Nat) (n : Nd), i < j → p[i]? = some n → nodeB n = true) ∧ Below w.heap.size w wr) (fun i _ => p.length - (intOf i).toNat)
    case atStart => exact ⟨0, Nat.zero_le _, rfl, fun i n hi => absurd hi (Nat.not_lt_zero _), Below.refl _ _⟩
    case round =>
      obtain ⟨j, hj, rfl, hall, hb⟩ := hrel
      have HA := Lib.hid hall; clear hall
      have HB := Lib.hid hb
      by_cases hlt : j < p.length
      · obtain ⟨b, off, n, a, c', rfl, hn, hat⟩ := (H.out.below hb).at_ hlt
        have HN := Lib.hid hn; clear hn hb
        obtain ⟨c0, c1, c2, c3, c4, c5, c6, rd, cap, mx, nm⟩ := hat
        have RD := Lib.hid rd
        have cl := Nat.le_trans cap mx
        clear rd cap mx
        have NK := Lib.hid (fun w => specNodeOk_any n a c' w)
        go_wp2_with fail
        refine (NK.out _ RD.out cl nm).mono ?_
        rintro e w1 ⟨rfl, b1⟩
        have T1 := Lib.hid (below_step HB.out (Nat.le_refl _) b1)
        clear b1
        cases hnb : nodeB n with
        | true =>
          have NB := Lib.hid hnb; clear hnb
          go_wp2_with fail
          go_roundw
          case rel => exact ⟨j + 1, by omega, by go_num, fun i m hi hm => by
            by_cases hij : i = j
            · subst hij; rw [HN.out] at hm; cases hm; exact NB.out
            · exact HA.out i m (by omega) hm, T1.out⟩
          case measure => simp [intOf]; omega
        | false =>
          have F := Lib.hid (planB_node (List.mem_of_getElem? HN.out) hnb)
          clear hnb
          go_wp2_with fail
          go_ret
          exact ⟨ret_bool F.out.symm, T1.out⟩
      · have hall : ∀ n ∈ p, nodeB n = true := by
          intro n hn
          obtain ⟨i, hi, rfl⟩ := List.mem_iff_getElem.1 hn
          exact HA.out i _ (by omega) (List.getElem?_eq_getElem hi)
        have F := Lib.hid (planB_spec p h2 hall)
        have R := Lib.hid (H.out.below hb)
        clear hall hb
        go_wp2_with fail
        refine (E.out _ R.out).mono ?_
        rintro e w' ⟨rfl, rfl⟩
        cases he : endN p 10 (0 : Int).toNat with
        | none =>
          have he' : endN p 10 0 = none := he
          have F2 := Lib.hid (show planB p = false by rw [F.out, he']; rfl)
          simp only [endV]
          clear he he'
          have h5 : ((-1 : Int) == (p.length : Int)) = false := beq_eq_false_iff_ne.2 (by omega)
          go_wp2_with fail
          go_ret
          exact ⟨ret_bool F2.out.symm, HB.out⟩
        | some x =>
          obtain ⟨e1, d1⟩ := x
          have he' : endN p 10 0 = some (e1, d1) := he
          have F2 := Lib.hid (show planB p = decide (e1 = p.length) by rw [F.out, he']; simp)
          simp only [endV]
          clear he he'
          by_cases hee : e1 = p.length
          · have h5 : ((e1 : Int) == (p.length : Int)) = true := beq_iff_eq.2 (by omega)
            have F3 := Lib.hid (show planB p = true by rw [F2.out]; simp [hee])
            clear hee
            go_wp2_with fail
            go_ret
            exact ⟨ret_bool F3.out.symm, HB.out⟩
          · have h5 : ((e1 : Int) == (p.length : Int)) = false := beq_eq_false_iff_ne.2 (by omega)
            have F3 := Lib.hid (show planB p = false by rw [F2.out]; simp [hee])
            clear hee
            go_wp2_with fail
            go_ret
            exact ⟨ret_bool F3.out.symm, HB.out⟩
  · have HF := Lib.hid (planB_len (p := p) (by omega))
    have h3 : (decide ((1 : Int) ≤ p.length) && decide ((p.length : Int) ≤ 40)) = false := by simp; omega
    have H3 := Lib.hid h3; clear h3 hlen
    go_enter Tryz.func52, Tryz.ntmps52
    go_wp2_with (go_at_call 97; refine (l01In_any _ _ _ _).mono ?_; rintro e w' ⟨rfl, rfl⟩; rw [H3.out])
    go_ret
    exact ⟨ret_bool HF.out.symm, Below.refl _ _⟩

/-- Whether a place is one of a plan. -/
def goodB (p : List Nd) (k : Int) : Bool := planB p && (decide (0 ≤ k) && decide (k ≤ (p.length : Int) - 1))
end Go.Proofs.YtfpbhedophlnkaaGreatDoor
namespace Go.Proofs.YtfpbhedophlnkaaGreatDoor
open Go.RowKit
set_option linter.unusedSimpArgs false
set_option linter.unusedVariables false

/-- The place at which the model's reader in block R stands. -/
def posL (R : Nat) (w : World) : Nat := match w.cell? ⟨R, 1, none⟩ with | some (.int _ z) => z.toNat | _ => 0
theorem lrd_c1 {w : World} {R c p : Nat} {ao : Option Addr} {ws : List ByteArray} {f : Bool} (h : Lrd w R ao c ws p f) : w.cell? ⟨R, 1, none⟩ = some (.int .i64 p) := cell_of_row w R 1 _ _ _ h.1
theorem posL_lrd {w : World} {R c p : Nat} {ao : Option Addr} {ws : List ByteArray} {f : Bool} (h : Lrd w R ao c ws p f) : posL R w = p := by
  unfold posL; rw [lrd_c1 h]; simp
theorem lrd_box {w : World} {ao : Option Addr} {c base : Nat} {ws : List ByteArray} (h : OwnS w base ao c ws) (h2 : ws.length ≤ 2000) : Lrd (w.alloc (.cells #[.slice ao ws.length c, .int .i64 0, .bool false] 153)) w.heap.size ao c ws 0 false := by
  refine ⟨heap_alloc_new w _, h.rd.below ((Below.refl _ w).alloc (Nat.le_refl _) _), Nat.zero_le _, ?_, h2⟩
  intro a ha hne
  rcases h.form with ⟨_, hl, rfl⟩ | ⟨g, rfl, hg⟩
  · exact absurd rfl hne
  · cases ha
    exact Nat.ne_of_lt hg.2
theorem goQ_bd2 {ws : List ByteArray} : ∀ (f : Nat) (acc : List Nd) (need : Int) (p : Nat) (l : List Nd) (q : Nat), goQ ws f acc need p = .inr (l, q) → acc.length ≤ p → p ≤ ws.length → l.length ≤ q ∧ q ≤ ws.length
  | 0, acc, need, p, l, q, h, _, _ => by simp [goQ] at h
  | f + 1, acc, need, p, l, q, h, h1, h2 => by
    unfold goQ at h
    split at h
    · simp at h; obtain ⟨rfl, rfl⟩ := h; exact ⟨h1, h2⟩
    · split at h
      · simp at h
      · rename_i x hx
        obtain ⟨nd, q'⟩ := x
        have hb := nodeQ_bd hx
        exact goQ_bd2 f _ _ _ l q h (by simp; omega) hb.2.1
def PlRel (w : World) (R : Nat) (ao : Option Addr) (c : Nat) (ws : List ByteArray) (RES : Nat ⊕ (List Nd × Nat)) (wr : World) (v i : Value) : Prop :=
  ∃ (f q n cc : Nat) (need : Int) (acc : List Nd) (a : Option Addr), v = .slice a n cc ∧ i = .int .i64 need ∧ n = acc.length ∧ goQ ws f acc need q = RES ∧ GrowN wr w.heap.size wr.heap.size (.slice a acc.length cc) acc ∧ Lrd wr R ao c ws q false ∧ w.grownBy wr (some R) ∧ ws.length + 2 ≤ f + q ∧ acc.length ≤ q ∧ (0 ≤ need ∧ need ≤ acc.length + 1)
theorem plRel_next {w w4 : World} {R c : Nat} {ao : Option Addr} {ws : List ByteArray} {RES : Nat ⊕ (List Nd × Nat)} {f q q' n cc : Nat} {need z : Int} {acc : List Nd} {nd : Nd} {a : Option Addr}
    (hg : goQ ws f acc need q = RES) (h0 : 0 < need) (hq : nodeQ ws q = .inr (nd, q')) (ho : GrowN w4 w.heap.size w4.heap.size (.slice a (acc.length + 1) cc) (acc ++ [nd])) (hp : Lrd w4 R ao c ws q' false) (hgr : w.grownBy w4 (some R)) (hf : ws.length + 2 ≤ f + q) (hal : acc.length ≤ q) (hn : need ≤ acc.length + 1) (hz : z = need + (arI nd.kind - 1)) (hlen : n = acc.length + 1) :
    PlRel w R ao c ws RES w4 (.slice a n cc) (.int .i64 z) := by
  have hb := nodeQ_bd hq
  have ha := arI_bd nd.kind
  cases f with
  | zero => omega
  | succ f =>
    simp only [goQ, if_neg (show ¬ need ≤ 0 by omega), hq] at hg
    refine ⟨f, q', n, cc, need + arI nd.kind - 1, acc ++ [nd], a, rfl, by rw [hz]; congr 1; omega, by simp [hlen], hg, by simpa using ho, hp, hgr, by omega, by simp; omega, by simp; omega⟩

set_option maxRecDepth 100000 in
set_option maxHeartbeats 3200000 in
theorem specParsePlan_any (s : ByteArray) (w : World) (hs : s.size ≤ 9223372036854775807) :
    Calls Tryz.prog 56 #[.string s] w (MadeN2 (parseO s) w) := by
  by_cases h2 : 2000 < s.size
  · have E : parseO s = ([], 0) := by unfold parseO; rw [if_pos h2]
    go_enter Tryz.func56, Tryz.ntmps56
    go_wp2_with fail
    go_ret2
    exact madeN2_no E (Below.refl _ w)
  · have h3 : s.size ≤ 2000 := by omega
    have EW : wordsO s = (wordsL s.data.toList).map mkBs := by unfold wordsO; rw [if_neg h2]
    have E := Lib.hid (show parseO s = parseQ (wordsO s) by unfold parseO; rw [if_neg h2])
    have WI := Lib.hid (fun W => specWordsOf_any s W hs)
    have WN : Hid (Wds (wordsO s)) := by
      show Wds _
      rw [EW]
      intro x hx
      obtain ⟨l, hl, rfl⟩ := List.mem_map.1 hx
      have h := (wordsL_len s.data.toList).2 l hl
      rw [size_listW] at h
      rw [mkBs_size]
      have := List.length_pos_iff.2 h.2
      omega
    have WL : Hid ((wordsO s).length ≤ 2000) := by show _ ≤ _; rw [EW]; exact wordsL_acc h3
    obtain ⟨ws, hws⟩ : ∃ ws, ws = wordsO s := ⟨_, rfl⟩
    rw [← hws] at E WI WN WL
    clear hws EW
    obtain ⟨RES, hres⟩ : ∃ r, r = goQ ws (ws.length + 2) [] 1 0 := ⟨_, rfl⟩
    have E2 := Lib.hid (E.out.trans (parseQ_pick ws))
    rw [← hres] at E2
    have GB := Lib.hid (fun l q (h : RES = .inr (l, q)) => goQ_bd2 _ _ _ _ l q (hres.symm.trans h) (by simp) (by simp))
    have HRES := Lib.hid hres
    clear hres E
    go_enter Tryz.func56, Tryz.ntmps56
    go_wp2_with fail
    refine (WI.out _).mono ?_
    rintro e w1 ⟨ao, c, rfl, o1, b1⟩
    have RB := Lib.hid (lrd_box o1 WL.out)
    have WWD : Hid (∀ a, ao = some a → ws ≠ [] → a.block < w1.heap.size + 1) := fun a ha hl => by
      have h := RB.out.words a ha hl
      simpa using h
    have B1 := Lib.hid (b1.alloc b1.size (.cells #[.slice ao ws.length c, .int .i64 0, .bool false] 153))
    have hz1 := b1.size
    clear o1 b1 WI
    obtain ⟨wR, hwR⟩ : ∃ wR, wR = w1.alloc (.cells #[.slice ao ws.length c, .int .i64 0, .bool false] 153) := ⟨_, rfl⟩
    have hzR : wR.heap.size = w1.heap.size + 1 := by rw [hwR]; simp
    have ALR := Lib.hid ((Below.refl _ wR).alloc (Nat.le_refl _) (.cells #[] 92))
    have O0 := Lib.hid ((GrowN.lit (w := wR) (Nat.le_refl _)).mono (top' := (wR.alloc (.cells #[] 92)).heap.size) (by simp))
    have P0 := Lib.hid (show PlRel wR w1.heap.size ao c ws RES (wR.alloc (.cells #[] 92)) (.slice (some ⟨wR.heap.size, 0, none⟩) 0 0) (.int .i64 1) from
      ⟨ws.length + 2, 0, 0, 0, 1, [], _, rfl, rfl, rfl, HRES.out.symm, O0.out, by rw [hwR]; rw [hwR] at ALR; exact RB.out.below ALR.out, World.grownBy_alloc wR _ _, by omega, by simp, by simp⟩)
    rw [hzR] at P0
    have CKR := Lib.hid hwR
    have CZR := Lib.hid hzR
    have hRR : w1.heap.size < wR.heap.size := by omega
    go_wp2_with fail
    rw [← hwR]
    clear hwR hzR RB ALR O0 HRES
    have ND := Lib.hid (fun W q (h : Lrd W w1.heap.size ao c ws q false) => specNode_any W WN.out h)
    go_loopw [5, 6] (fun v i wr => PlRel wR w1.heap.size ao c ws RES wr v i) (fun _ _ wr => ws.length - posL w1.heap.size wr)
    case atStart => exact P0.out
    case round =>
      clear P0
      obtain ⟨f, q, n, cc, need, acc, a, rfl, rfl, hn, hgo, ho, hp, hgr, hf, hal, hnd⟩ := hrel
      have GO := Lib.hid hgo; have HO := Lib.hid ho; have HP := Lib.hid hp; have GR := Lib.hid hgr; have HNL := Lib.hid hn
      have hql := hp.2.2.1
      have po := Lib.hid (posL_lrd hp)
      have szr := hgr.size
      have BB := Lib.hid (fun (w' : World) (h : wR.grownBy w' (some w1.heap.size)) => (show Below w.heap.size w w' from (CKR.out ▸ B1.out : Below w.heap.size w wR).grown h (by omega) (fun k hk => by cases hk; exact hz1)))
      clear hgo ho hp hgr hn
      by_cases h0 : 0 < need
      · have d0 : decide (0 < need) = true := by simpa using h0
        have NQ := Lib.hid (ND.out wr q HP.out)
        obtain ⟨r2, hr2⟩ : ∃ r2, r2 = nodeQ ws q := ⟨_, rfl⟩
        rw [← hr2] at NQ
        have HQ := Lib.hid hr2.symm
        clear hr2
        cases r2 with
        | inl q2 =>
          have E3 : Hid (parseO s = ([], (q2 : Int))) := by
            show _ = _
            rw [E2.out, ← GO.out]
            cases f with
            | zero => omega
            | succ f => simp only [goQ, if_neg (show ¬ need ≤ 0 by omega), HQ.out]; rfl
          go_wp2_with fail
          refine NQ.out.mono ?_
          rintro e w2 ⟨x, a2, c2, rfl, o2, h2, g2⟩
          have L2 := h2.below ((Below.refl _ w2).alloc (Nat.le_refl _) (.cells #[.int .i64 x.kind, .string x.name, .int .i64 x.col, .int .i64 x.op, .int .i64 x.num, .bool x.slot, .slice a2 x.cols.length c2] 92))
          have cf := lrd_c2 L2
          have cp := lrd_c1 L2
          have BW := Lib.hid (BB.out _ (grownBy_trans (grownBy_trans GR.out g2) (World.grownBy_alloc w2 (.cells #[.int .i64 x.kind, .string x.name, .int .i64 x.col, .int .i64 x.op, .int .i64 x.num, .bool x.slot, .slice a2 x.cols.length c2] 92) (some w1.heap.size))))
          clear L2 o2 h2 g2
          go_wp2_with fail
          go_quiet (fail)
          go_wp2_with fail
          go_ret2
          exact madeN2_no E3.out (below_step BW.out (Nat.le_refl _) (below_drewN (Below.refl _ _) _))
        | inr x =>
          obtain ⟨nd, q'⟩ := x
          have hb := nodeQ_bd HQ.out
          have hab := arI_bd nd.kind
          have AR := Lib.hid (fun W => specArity_any nd.kind W)
          rw [← arI_eq hb.2.2.2.1] at AR
          go_wp2_with fail
          refine NQ.out.mono ?_
          rintro e w2 ⟨a2, c2, rfl, ho2, h2, g2⟩
          simp only at ho2 h2 ⊢
          have hz2 := g2.size
          have OW2 := Lib.hid (HO.out.grown g2 (fun r hr => by cases hr; exact hRR))
          have H2 := Lib.hid h2; have G2 := Lib.hid (grownBy_trans GR.out g2)
          have cf := lrd_c2 (h2.below ((Below.refl _ w2).alloc (Nat.le_refl _) (.cells #[.int .i64 nd.kind, .string nd.name, .int .i64 nd.col, .int .i64 nd.op, .int .i64 nd.num, .bool nd.slot, .slice a2 nd.cols.length c2] 92)))
          have BX := Lib.hid ((Below.refl wR.heap.size w2).alloc (by omega) (.cells #[.int .i64 nd.kind, .string nd.name, .int .i64 nd.col, .int .i64 nd.op, .int .i64 nd.num, .bool nd.slot, .slice a2 nd.cols.length c2] 92))
          have BA := Lib.hid (BX.out.alloc (by have := BX.out.size; simp at this ⊢; omega) (.cells #[.int .i64 nd.kind, .string nd.name, .int .i64 nd.col, .int .i64 nd.op, .int .i64 nd.num, .bool nd.slot, .slice a2 nd.cols.length c2] 92))
          have CA := Lib.hid ((ho2.alloc (.cells #[.int .i64 nd.kind, .string nd.name, .int .i64 nd.col, .int .i64 nd.op, .int .i64 nd.num, .bool nd.slot, .slice a2 nd.cols.length c2] 92)).alloc (.cells #[.int .i64 nd.kind, .string nd.name, .int .i64 nd.col, .int .i64 nd.op, .int .i64 nd.num, .bool nd.slot, .slice a2 nd.cols.length c2] 92))
          have W2 := Lib.hid (((Below.refl _ w2).alloc (Nat.le_refl _) (.cells #[.int .i64 nd.kind, .string nd.name, .int .i64 nd.col, .int .i64 nd.op, .int .i64 nd.num, .bool nd.slot, .slice a2 nd.cols.length c2] 92)).alloc (by simp) (.cells #[.int .i64 nd.kind, .string nd.name, .int .i64 nd.col, .int .i64 nd.op, .int .i64 nd.num, .bool nd.slot, .slice a2 nd.cols.length c2] 92))
          have OL := Lib.hid (fun x hx => (HO.out.lt x hx).1)
          have OU := Lib.hid (fun x hx => (HO.out.lt x hx).2)
          have K0 : Hid (((w2.alloc (.cells #[.int .i64 nd.kind, .string nd.name, .int .i64 nd.col, .int .i64 nd.op, .int .i64 nd.num, .bool nd.slot, .slice a2 nd.cols.length c2] 92)).alloc (.cells #[.int .i64 nd.kind, .string nd.name, .int .i64 nd.col, .int .i64 nd.op, .int .i64 nd.num, .bool nd.slot, .slice a2 nd.cols.length c2] 92)).cell? ⟨w2.heap.size, 0, none⟩ = some (.int .i64 nd.kind)) := by
            show _ = _
            rw [World.cell?_alloc_lt _ _ ⟨w2.heap.size, 0, none⟩ (by simp)]
            exact (cell_of_row _ _ _ _ _ _ (heap_alloc_new w2 _)).trans rfl
          have hs12 : nd.name.size ≤ maxLen := by have := hb.2.2.2.2; unfold maxLen; omega
          have WLL := WL.out
          clear ho2 h2 g2
          go_wp2_with (at_builtin; go_must (refine wpList_appendG _ rfl (.tmp 22) (.tmp 24) 25 rfl wR.heap.size wr.heap.size Tryz.underlying25 Tryz.infoNodeG rfl a cc n acc rfl HNL.out (OW2.out.below W2.out) (by simp; omega) szr (w2.heap.size + 1) 1 nd a2 c2 rfl (ndRow_at (by simp)) CA.out hs12 (by omega) ?_; intro ao' c' w4 o4 g4; have O4 := Lib.hid o4; have B4 := Lib.hid (below_grow BA.out (by omega) g4 (fun x hx => OL.out x hx)); have k0 : w4.cell? ⟨w2.heap.size, 0, none⟩ = some (.int .i64 nd.kind) := g4.cell K0.out (by cases a with | none => simp | some x => simp; have := OU.out x rfl; omega); clear o4 g4))
          refine (AR.out _).mono ?_
          rintro e w5 ⟨rfl, rfl⟩
          have H5 := Lib.hid (H2.out.belowB hRR (fun a ha hl => by have := WWD.out a ha hl; omega) B4.out)
          have G5 := Lib.hid (grown_belowI G2.out B4.out)
          have O5 := Lib.hid (O4.out.top_)
          clear k0
          go_wp2_with fail
          go_roundw
          case rel => exact plRel_next GO.out h0 HQ.out O5.out H5.out G5.out hf hal hnd.2 (by first | rfl | omega | (unfold RowKit.wrap64; omega)) (by first | rfl | simp)
          case measure => rw [posL_lrd H5.out, po.out]; omega
      · have d0 : decide (0 < need) = false := by simpa using h0
        have EE : Hid (RES = .inr (acc, q)) := by
          show _ = _
          rw [← GO.out]
          cases f with
          | zero => omega
          | succ f => simp only [goQ, if_pos (show need ≤ 0 by omega)]
        have c0 : wr.cell? ⟨w1.heap.size, 0, none⟩ = some (.slice ao ws.length c) := cell_of_row wr w1.heap.size 0 _ _ _ HP.out.1
        have c1 := lrd_c1 HP.out
        have gb := GB.out acc q EE.out
        have BW := Lib.hid (BB.out _ GR.out)
        have WLL := WL.out
        by_cases hq : q < ws.length
        · have d1 : decide ((q : Int) < (ws.length : Int)) = true := by simp; omega
          have E3 : Hid (parseO s = ([], (q : Int))) := by show _ = _; rw [E2.out, EE.out]; unfold pickQ; simp only [if_pos hq]
          go_wp2_with fail
          go_quiet (fail)
          go_wp2_with fail
          go_ret2
          exact madeN2_no E3.out (below_step BW.out (Nat.le_refl _) (below_drewN (Below.refl _ _) _))
        · have d1 : decide ((q : Int) < (ws.length : Int)) = false := by simp; omega
          have E3 : Hid (parseO s = if planB acc = true then (acc, -1) else ([], (ws.length : Int))) := by show _ = _; rw [E2.out, EE.out]; unfold pickQ; simp only [if_neg hq]
          have OO := Lib.hid (HO.out.ownN)
          have SK := Lib.hid (specPlanOk_any a cc acc wr OO.out.rd (by omega))
          go_wp2_with fail
          rw [HNL.out]
          refine SK.out.mono ?_
          rintro e w5 ⟨rfl, b5⟩
          have L5 := HP.out.below b5
          have c0 : w5.cell? ⟨w1.heap.size, 0, none⟩ = some (.slice ao ws.length c) := cell_of_row w5 w1.heap.size 0 _ _ _ L5.1
          have B5 := Lib.hid (below_step BW.out (Nat.le_refl _) b5)
          have O5 := Lib.hid ((OO.out.below b5).base_le (base' := w.heap.size) (by omega))
          clear b5 L5
          cases hs : planB acc with
          | true =>
            have E4 : Hid (parseO s = (acc, -1)) := by show _ = _; rw [E3.out, if_pos hs]
            go_wp2_with fail
            go_ret2
            exact madeN2_yes E4.out rfl O5.out B5.out
          | false =>
            have E4 : Hid (parseO s = ([], (ws.length : Int))) := by show _ = _; rw [E3.out, if_neg (by rw [hs]; simp)]
            go_wp2_with fail
            go_quiet (fail)
            go_wp2_with fail
            go_ret2
            exact madeN2_no E4.out (below_step B5.out (Nat.le_refl _) (below_drewN (Below.refl _ _) _))
end Go.Proofs.YtfpbhedophlnkaaGreatDoor
