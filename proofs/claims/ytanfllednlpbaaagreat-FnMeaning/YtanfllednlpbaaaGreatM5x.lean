/-
  Contracts of spec.ArityOf, impl.kindOf, impl.arityOf and impl.ArityOf. For every number, for every node. Contract of spec.l02End: where the tree that begins at a place ends, and how deep it is. For every slice of nodes and every place in it. Contract of spec.NodeOk: it answers whether the node is one. For every node. Contract of spec.NodeOk at some of the kinds. For every node of them. Contract of spec.NodeOk at some of the kinds. For every node of them. Contract of spec.NodeOk at some of the kinds. For every node of them.
-/
import Derived.Test.YtanfllednlpbaaaGreatRows
import Derived.Test.YtanfllednlpbaaaGreatM1x
import Derived.Test.YtanfllednlpbaaaGreatM4x
import Derived.WalkKit
import Derived.WalkSpells
import Derived.WalkLawsBesides
import Derived.Lib.Hide
import Derived.Test.YtanfllednlpbaaaGreatM2x
import Derived.Test.YtanfllednlpbaaaGreatM3x
import Derived.Laws.Strings
namespace Go.Proofs.YtanfllednlpbaaaGreat
open Go.RowKit
set_option linter.unusedSimpArgs false
set_option linter.unusedVariables false
theorem kind_ways (k : Int) : k = 0 ∨ k = 1 ∨ k = 2 ∨ k = 3 ∨ k = 4 ∨ k = 5 ∨ k = 6 ∨ k = 7 ∨ (k < 0 ∨ 7 < k) := by omega
theorem arity_out {k : Int} (h : k < 0 ∨ 7 < k) : arity k = -1 := by
  simp only [arity]; rw [if_neg (by omega), if_neg (by omega), if_neg (by omega)]
theorem specArity_any (k : Int) (w : World) : Calls Tryz.prog 102 #[.int .i64 k] w fun e w' => e = .returned (.int .i64 (arity k)) ∧ w = w' := by
  rcases kind_ways k with rfl | rfl | rfl | rfl | rfl | rfl | rfl | rfl | hk
  iterate 8
    · go_enter Tryz.func102, Tryz.ntmps102
      go_wp2
      go_ret
      exact ⟨ret_int (by simp [arity]), rfl⟩
  · have HF := Lib.hid (arity_out hk)
    have h0 : (k == 0) = false := beq_eq_false_iff_ne.2 (by omega)
    have h1 : (k == 1) = false := beq_eq_false_iff_ne.2 (by omega)
    have h2 : (k == 2) = false := beq_eq_false_iff_ne.2 (by omega)
    have h3 : (k == 3) = false := beq_eq_false_iff_ne.2 (by omega)
    have h4 : (k == 4) = false := beq_eq_false_iff_ne.2 (by omega)
    have h5 : (k == 5) = false := beq_eq_false_iff_ne.2 (by omega)
    have h6 : (k == 6) = false := beq_eq_false_iff_ne.2 (by omega)
    have h7 : (k == 7) = false := beq_eq_false_iff_ne.2 (by omega)
    clear hk
    go_enter Tryz.func102, Tryz.ntmps102
    go_wp2
    go_ret
    exact ⟨ret_int HF.out.symm, rfl⟩
def kindV (n : Nd) (a : Option Addr) (c : Nat) : Value :=
  if n.kind = 0 then .iface 164 (.agg #[.string n.name])
  else if n.kind = 1 then .iface 153 (.agg #[.int .i64 n.col, .int .i64 n.op, .int .i64 n.num, .bool n.slot])
  else if n.kind = 2 then .iface 156 (.agg #[.slice a n.cols.length c])
  else if n.kind = 3 then .iface 158 (.agg #[.int .i64 n.col, .int .i64 n.num])
  else if n.kind = 4 then .iface 160 (.agg #[])
  else if n.kind = 5 then .iface 162 (.agg #[.int .i64 n.col])
  else if n.kind = 6 then .iface 178 (.agg #[.int .i64 n.num, .bool n.slot])
  else if n.kind = 7 then .iface 180 (.agg #[])
  else .nilIface
theorem ret_val {a b : Value} (h : a = b) : Ending.returned a = .returned b := by rw [h]
theorem kindOf_any (n : Nd) (a : Option Addr) (c : Nat) (w : World) :
    Calls Tryz.prog 127 #[.agg #[.int .i64 n.kind, .string n.name, .int .i64 n.col, .int .i64 n.op, .int .i64 n.num, .bool n.slot, .slice a n.cols.length c]] w fun e w' => e = .returned (kindV n a c) ∧ Below w.heap.size w w' := by
  obtain ⟨k, name, col, op, num, slot, cols⟩ := n
  simp only
  rcases kind_ways k with rfl | rfl | rfl | rfl | rfl | rfl | rfl | rfl | hk
  iterate 8
    · go_enter Tryz.func127, Tryz.ntmps127
      go_wp2
      go_ret
      exact ⟨ret_val (by simp [kindV]), (Below.refl _ _).alloc (Nat.le_refl _) _⟩
  · have HF : Hid (kindV ⟨k, name, col, op, num, slot, cols⟩ a c = .nilIface) := by
      show kindV ⟨k, name, col, op, num, slot, cols⟩ a c = .nilIface
      simp only [kindV]
      rw [if_neg (by omega), if_neg (by omega), if_neg (by omega), if_neg (by omega), if_neg (by omega), if_neg (by omega), if_neg (by omega), if_neg (by omega)]
    have h0 : (k == 0) = false := beq_eq_false_iff_ne.2 (by omega)
    have h1 : (k == 1) = false := beq_eq_false_iff_ne.2 (by omega)
    have h2 : (k == 2) = false := beq_eq_false_iff_ne.2 (by omega)
    have h3 : (k == 3) = false := beq_eq_false_iff_ne.2 (by omega)
    have h4 : (k == 4) = false := beq_eq_false_iff_ne.2 (by omega)
    have h5 : (k == 5) = false := beq_eq_false_iff_ne.2 (by omega)
    have h6 : (k == 6) = false := beq_eq_false_iff_ne.2 (by omega)
    have h7 : (k == 7) = false := beq_eq_false_iff_ne.2 (by omega)
    clear hk
    go_enter Tryz.func127, Tryz.ntmps127
    go_wp2
    go_ret
    exact ⟨ret_val HF.out.symm, (Below.refl _ _).alloc (Nat.le_refl _) _⟩
set_option maxRecDepth 100000 in
theorem arityOf_any (n : Nd) (a : Option Addr) (c : Nat) (w : World) :
    Calls Tryz.prog 128 #[kindV n a c] w fun e w' => e = .returned (.int .i64 (arity n.kind)) ∧ w = w' := by
  obtain ⟨k, name, col, op, num, slot, cols⟩ := n
  simp only
  rcases kind_ways k with rfl | rfl | rfl | rfl | rfl | rfl | rfl | rfl | hk
  · simp only [kindV, Int.reduceEq, if_false, if_true]
    have f0 := Tryz.as_scanNode_scanNode
    go_enter Tryz.func128, Tryz.ntmps128
    go_wp2
    go_ret
    exact ⟨ret_int (by simp [arity]), rfl⟩
  · simp only [kindV, Int.reduceEq, if_false, if_true]
    have f0 := Tryz.as_filterNode_scanNode
    have f1 := Tryz.as_filterNode_filterNode
    have f2 := Tryz.as_filterNode_keepNode
    have f3 := Tryz.as_filterNode_sortNode
    have f4 := Tryz.as_filterNode_limitNode
    have f5 := Tryz.as_filterNode_onceNode
    go_enter Tryz.func128, Tryz.ntmps128
    go_wp2
    go_ret
    exact ⟨ret_int (by simp [arity]), rfl⟩
  · simp only [kindV, Int.reduceEq, if_false, if_true]
    have f0 := Tryz.as_keepNode_scanNode
    have f1 := Tryz.as_keepNode_filterNode
    have f2 := Tryz.as_keepNode_keepNode
    have f3 := Tryz.as_keepNode_sortNode
    have f4 := Tryz.as_keepNode_limitNode
    have f5 := Tryz.as_keepNode_onceNode
    go_enter Tryz.func128, Tryz.ntmps128
    go_wp2
    go_ret
    exact ⟨ret_int (by simp [arity]), rfl⟩
  · simp only [kindV, Int.reduceEq, if_false, if_true]
    have f0 := Tryz.as_joinNode_scanNode
    have f1 := Tryz.as_joinNode_filterNode
    have f2 := Tryz.as_joinNode_keepNode
    have f3 := Tryz.as_joinNode_sortNode
    have f4 := Tryz.as_joinNode_limitNode
    have f5 := Tryz.as_joinNode_onceNode
    have f6 := Tryz.as_joinNode_joinNode
    have f7 := Tryz.as_joinNode_bothNode
    go_enter Tryz.func128, Tryz.ntmps128
    go_wp2
    go_ret
    exact ⟨ret_int (by simp [arity]), rfl⟩
  · simp only [kindV, Int.reduceEq, if_false, if_true]
    have f0 := Tryz.as_bothNode_scanNode
    have f1 := Tryz.as_bothNode_filterNode
    have f2 := Tryz.as_bothNode_keepNode
    have f3 := Tryz.as_bothNode_sortNode
    have f4 := Tryz.as_bothNode_limitNode
    have f5 := Tryz.as_bothNode_onceNode
    have f6 := Tryz.as_bothNode_joinNode
    have f7 := Tryz.as_bothNode_bothNode
    go_enter Tryz.func128, Tryz.ntmps128
    go_wp2
    go_ret
    exact ⟨ret_int (by simp [arity]), rfl⟩
  · simp only [kindV, Int.reduceEq, if_false, if_true]
    have f0 := Tryz.as_sortNode_scanNode
    have f1 := Tryz.as_sortNode_filterNode
    have f2 := Tryz.as_sortNode_keepNode
    have f3 := Tryz.as_sortNode_sortNode
    have f4 := Tryz.as_sortNode_limitNode
    have f5 := Tryz.as_sortNode_onceNode
    go_enter Tryz.func128, Tryz.ntmps128
    go_wp2
    go_ret
    exact ⟨ret_int (by simp [arity]), rfl⟩
  · simp only [kindV, Int.reduceEq, if_false, if_true]
    have f0 := Tryz.as_limitNode_scanNode
    have f1 := Tryz.as_limitNode_filterNode
    have f2 := Tryz.as_limitNode_keepNode
    have f3 := Tryz.as_limitNode_sortNode
    have f4 := Tryz.as_limitNode_limitNode
    have f5 := Tryz.as_limitNode_onceNode
    go_enter Tryz.func128, Tryz.ntmps128
    go_wp2
    go_ret
    exact ⟨ret_int (by simp [arity]), rfl⟩
  · simp only [kindV, Int.reduceEq, if_false, if_true]
    have f0 := Tryz.as_onceNode_scanNode
    have f1 := Tryz.as_onceNode_filterNode
    have f2 := Tryz.as_onceNode_keepNode
    have f3 := Tryz.as_onceNode_sortNode
    have f4 := Tryz.as_onceNode_limitNode
    have f5 := Tryz.as_onceNode_onceNode
    go_enter Tryz.func128, Tryz.ntmps128
    go_wp2
    go_ret
    exact ⟨ret_int (by simp [arity]), rfl⟩
  · have HF := Lib.hid (arity_out hk)
    have e : kindV ⟨k, name, col, op, num, slot, cols⟩ a c = .nilIface := by
      simp only [kindV]
      rw [if_neg (by omega), if_neg (by omega), if_neg (by omega), if_neg (by omega), if_neg (by omega), if_neg (by omega), if_neg (by omega), if_neg (by omega)]
    rw [e]
    clear hk e
    have f0 := Tryz.as_nil_scanNode
    have f1 := Tryz.as_nil_filterNode
    have f2 := Tryz.as_nil_keepNode
    have f3 := Tryz.as_nil_sortNode
    have f4 := Tryz.as_nil_limitNode
    have f5 := Tryz.as_nil_onceNode
    have f6 := Tryz.as_nil_joinNode
    have f7 := Tryz.as_nil_bothNode
    go_enter Tryz.func128, Tryz.ntmps128
    go_wp2
    go_ret
    exact ⟨ret_int HF.out.symm, rfl⟩
def endV : Option (Nat × Nat) → Value
  | none => .tuple #[.int .i64 (-1), .int .i64 0]
  | some (e, d) => .tuple #[.int .i64 e, .int .i64 d]
theorem endN_out {p : List Nd} {r k : Nat} (h : p.length ≤ k) : endN p r k = none := by
  cases r with
  | zero => rfl
  | succ r => simp only [endN]; rw [List.getElem?_eq_none h]
theorem endN_0 {p : List Nd} {r k : Nat} {n : Nd} (hn : p[k]? = some n) (h1 : arity n.kind ≠ 1) (h2 : arity n.kind ≠ 2) : endN p (r + 1) k = some (k + 1, 1) := by
  simp only [endN, hn]; rw [if_neg h1, if_neg h2]
theorem endN_1n {p : List Nd} {r k : Nat} {n : Nd} (hn : p[k]? = some n) (h1 : arity n.kind = 1) (h : endN p r (k + 1) = none) : endN p (r + 1) k = none := by
  simp only [endN, hn]; rw [if_pos h1, h]
theorem endN_1s {p : List Nd} {r k e d : Nat} {n : Nd} (hn : p[k]? = some n) (h1 : arity n.kind = 1) (h : endN p r (k + 1) = some (e, d)) : endN p (r + 1) k = some (e, d + 1) := by
  simp only [endN, hn]; rw [if_pos h1, h]
theorem endN_2n {p : List Nd} {r k : Nat} {n : Nd} (hn : p[k]? = some n) (h2 : arity n.kind = 2) (h : endN p r (k + 1) = none) : endN p (r + 1) k = none := by
  simp only [endN, hn]; rw [if_neg (by omega), if_pos h2, h]
theorem endN_2sn {p : List Nd} {r k e d : Nat} {n : Nd} (hn : p[k]? = some n) (h2 : arity n.kind = 2) (h : endN p r (k + 1) = some (e, d)) (h' : endN p r e = none) : endN p (r + 1) k = none := by
  simp only [endN, hn]; rw [if_neg (by omega), if_pos h2, h]; simp only; rw [h']
theorem endN_2ss {p : List Nd} {r k e d e' d' : Nat} {n : Nd} (hn : p[k]? = some n) (h2 : arity n.kind = 2) (h : endN p r (k + 1) = some (e, d)) (h' : endN p r e = some (e', d')) : endN p (r + 1) k = some (e', (if d < d' then d' else d) + 1) := by
  simp only [endN, hn]; rw [if_neg (by omega), if_pos h2, h]; simp only; rw [h']
theorem endN_bd (p : List Nd) : ∀ (r k e d : Nat), endN p r k = some (e, d) → k < e ∧ e ≤ p.length ∧ 1 ≤ d ∧ d ≤ r := by
  intro r
  induction r with
  | zero => intro k e d h; cases h
  | succ r ih =>
    intro k e d h
    cases hn : p[k]? with
    | none => simp only [endN, hn] at h; cases h
    | some n =>
      have hk : k < p.length := by
        rcases Nat.lt_or_ge k p.length with h1 | h1
        · exact h1
        · rw [List.getElem?_eq_none h1] at hn; cases hn
      by_cases h1 : arity n.kind = 1
      · cases hc : endN p r (k + 1) with
        | none => rw [endN_1n hn h1 hc] at h; cases h
        | some x =>
          obtain ⟨e1, d1⟩ := x
          rw [endN_1s hn h1 hc] at h; cases h
          have := ih _ _ _ hc; omega
      · by_cases h2 : arity n.kind = 2
        · cases hc : endN p r (k + 1) with
          | none => rw [endN_2n hn h2 hc] at h; cases h
          | some x =>
            obtain ⟨e1, d1⟩ := x
            cases hd : endN p r e1 with
            | none => rw [endN_2sn hn h2 hc hd] at h; cases h
            | some y =>
              obtain ⟨e2, d2⟩ := y
              rw [endN_2ss hn h2 hc hd] at h; cases h
              have := ih _ _ _ hc; have := ih _ _ _ hd
              split <;> omega
        · rw [endN_0 hn h1 h2] at h; cases h; omega
set_option maxRecDepth 100000 in
set_option maxHeartbeats 1600000 in
theorem specEnd_any (ao : Option Addr) (c : Nat) (p : List Nd) (hp : p.length ≤ 1048576) : ∀ (r : Nat) (k room : Int) (w : World), RdN w ao p → 0 ≤ k → k ≤ 1048576 → (r : Int) ≤ room → room ≤ (r : Int) → r ≤ 1000 →
    Calls Tryz.prog 103 #[.slice ao p.length c, .int .i64 k, .int .i64 room] w fun e w' => e = .returned (endV (endN p r k.toNat)) ∧ w = w' := by
  intro r
  induction r with
  | zero =>
    intro k room w h hk0 hk1 hr1 hr2 _
    have hr : (room == 0) = true := beq_iff_eq.2 (by omega)
    have HF := Lib.hid (show endN p 0 k.toNat = none from rfl)
    by_cases hk : (p.length : Int) ≤ k
    · go_enter Tryz.func103, Tryz.ntmps103
      go_wp2_with fail
      go_ret2
      exact ⟨by rw [HF.out]; rfl, rfl⟩
    · have hk' : k < (p.length : Int) := by omega
      go_enter Tryz.func103, Tryz.ntmps103
      go_wp2_with fail
      go_ret2
      exact ⟨by rw [HF.out]; rfl, rfl⟩
  | succ r ih =>
    intro k room w h hk0 hk1 hr1 hr2 hr3
    have IH := Lib.hid ih; clear ih
    have hr : (room == 0) = false := beq_eq_false_iff_ne.2 (by omega)
    by_cases hk : (p.length : Int) ≤ k
    · have HF := Lib.hid (endN_out (r := r + 1) (show p.length ≤ k.toNat by omega))
      go_enter Tryz.func103, Tryz.ntmps103
      go_wp2_with fail
      go_ret2
      exact ⟨by rw [HF.out]; rfl, rfl⟩
    · have hk' : k < (p.length : Int) := by omega
      obtain ⟨b, off, n, a, c', rfl, hn, hat⟩ := h.at_ (i := k.toNat) (by omega)
      have H := Lib.hid h; clear h
      have HN := Lib.hid hn; clear hn
      have c0 := hat.c0
      clear hat hk
      have AR := Lib.hid (fun w => specArity_any n.kind w)
      by_cases h1 : arity n.kind = 1
      · have H1 := Lib.hid h1; clear h1
        cases hc : endN p r (k.toNat + 1) with
        | none =>
          have HC := Lib.hid hc; clear hc
          have HF := Lib.hid (endN_1n HN.out H1.out HC.out)
          go_enter Tryz.func103, Tryz.ntmps103
          go_wp2_with fail
          refine wp_loop_rounds 2 ?_; rw [rounds_succ]
          go_wp2_with (go_at_call 102; refine (AR.out _).mono ?_; rintro e w' ⟨rfl, rfl⟩; rw [H1.out])
          refine (IH.out _ _ _ H.out (by omega) (by omega) (by omega) (by omega) (by omega)).mono ?_
          rintro e w' ⟨rfl, rfl⟩
          rw [show (k + 1).toNat = k.toNat + 1 from by omega, HC.out]
          simp only [endV]
          go_wp2_with fail
          go_ret2
          exact ⟨by rw [HF.out]; rfl, rfl⟩
        | some x =>
          obtain ⟨e1, d1⟩ := x
          have HC := Lib.hid hc; clear hc
          have HF := Lib.hid (endN_1s HN.out H1.out HC.out)
          obtain ⟨q1, q2, q3, q4⟩ := endN_bd _ _ _ _ _ HC.out
          go_enter Tryz.func103, Tryz.ntmps103
          go_wp2_with fail
          refine wp_loop_rounds 2 ?_; rw [rounds_succ]
          go_wp2_with (go_at_call 102; refine (AR.out _).mono ?_; rintro e w' ⟨rfl, rfl⟩; rw [H1.out])
          refine (IH.out _ _ _ H.out (by omega) (by omega) (by omega) (by omega) (by omega)).mono ?_
          rintro e w' ⟨rfl, rfl⟩
          rw [show (k + 1).toNat = k.toNat + 1 from by omega, HC.out]
          simp only [endV]
          go_wp2_with fail
          rw [rounds_succ]
          go_wp2_with (go_at_call 102; refine (AR.out _).mono ?_; rintro e w' ⟨rfl, rfl⟩; rw [H1.out])
          go_ret2
          exact ⟨by rw [HF.out]; rfl, rfl⟩
      · by_cases h2 : arity n.kind = 2
        · have H1 := Lib.hid h2; clear h1 h2
          cases hc : endN p r (k.toNat + 1) with
          | none =>
            have HC := Lib.hid hc; clear hc
            have HF := Lib.hid (endN_2n HN.out H1.out HC.out)
            go_enter Tryz.func103, Tryz.ntmps103
            go_wp2_with fail
            refine wp_loop_rounds 3 ?_; rw [rounds_succ]
            go_wp2_with (go_at_call 102; refine (AR.out _).mono ?_; rintro e w' ⟨rfl, rfl⟩; rw [H1.out])
            refine (IH.out _ _ _ H.out (by omega) (by omega) (by omega) (by omega) (by omega)).mono ?_
            rintro e w' ⟨rfl, rfl⟩
            rw [show (k + 1).toNat = k.toNat + 1 from by omega, HC.out]
            simp only [endV]
            go_wp2_with fail
            go_ret2
            exact ⟨by rw [HF.out]; rfl, rfl⟩
          | some x =>
            obtain ⟨e1, d1⟩ := x
            have HC := Lib.hid hc; clear hc
            obtain ⟨q1, q2, q3, q4⟩ := endN_bd _ _ _ _ _ HC.out
            cases hd : endN p r e1 with
            | none =>
              have HD := Lib.hid hd; clear hd
              have HF := Lib.hid (endN_2sn HN.out H1.out HC.out HD.out)
              go_enter Tryz.func103, Tryz.ntmps103
              go_wp2_with fail
              refine wp_loop_rounds 3 ?_; rw [rounds_succ]
              go_wp2_with (go_at_call 102; refine (AR.out _).mono ?_; rintro e w' ⟨rfl, rfl⟩; rw [H1.out])
              refine (IH.out _ _ _ H.out (by omega) (by omega) (by omega) (by omega) (by omega)).mono ?_
              rintro e w' ⟨rfl, rfl⟩
              rw [show (k + 1).toNat = k.toNat + 1 from by omega, HC.out]
              simp only [endV]
              go_wp2_with fail
              rw [rounds_succ]
              go_wp2_with (go_at_call 102; refine (AR.out _).mono ?_; rintro e w' ⟨rfl, rfl⟩; rw [H1.out])
              refine (IH.out _ _ _ H.out (by omega) (by omega) (by omega) (by omega) (by omega)).mono ?_
              rintro e w' ⟨rfl, rfl⟩
              rw [Int.toNat_natCast, HD.out]
              simp only [endV]
              go_wp2_with fail
              go_ret2
              exact ⟨by rw [HF.out]; rfl, rfl⟩
            | some y =>
              obtain ⟨e2, d2⟩ := y
              have HD := Lib.hid hd; clear hd
              have HF := Lib.hid (endN_2ss HN.out H1.out HC.out HD.out)
              obtain ⟨q5, q6, q7, q8⟩ := endN_bd _ _ _ _ _ HD.out
              by_cases hdd : d1 < d2
              all_goals
                go_enter Tryz.func103, Tryz.ntmps103
                go_wp2_with fail
                refine wp_loop_rounds 3 ?_; rw [rounds_succ]
                go_wp2_with (go_at_call 102; refine (AR.out _).mono ?_; rintro e w' ⟨rfl, rfl⟩; rw [H1.out])
                refine (IH.out _ _ _ H.out (by omega) (by omega) (by omega) (by omega) (by omega)).mono ?_
                rintro e w' ⟨rfl, rfl⟩
                rw [show (k + 1).toNat = k.toNat + 1 from by omega, HC.out]
                simp only [endV]
                go_wp2_with fail
                rw [rounds_succ]
                go_wp2_with (go_at_call 102; refine (AR.out _).mono ?_; rintro e w' ⟨rfl, rfl⟩; rw [H1.out])
                refine (IH.out _ _ _ H.out (by omega) (by omega) (by omega) (by omega) (by omega)).mono ?_
                rintro e w' ⟨rfl, rfl⟩
                rw [Int.toNat_natCast, HD.out]
                simp only [endV]
                go_wp2_with fail
                rw [rounds_succ]
                go_wp2_with (go_at_call 102; refine (AR.out _).mono ?_; rintro e w' ⟨rfl, rfl⟩; rw [H1.out])
                go_ret2
                exact ⟨by rw [HF.out]; simp [endV, hdd], rfl⟩
        · have HF := Lib.hid (endN_0 (r := r) HN.out h1 h2)
          have ha : arity n.kind ≤ 0 := by rcases arity_cases n.kind with h | h | h | h <;> omega
          clear h1 h2
          go_enter Tryz.func103, Tryz.ntmps103
          go_wp2_with fail
          refine wp_loop_rounds 1 ?_; rw [rounds_succ]
          go_wp2_with (go_at_call 102; refine (AR.out _).mono ?_; rintro e w' ⟨rfl, rfl⟩)
          go_ret2
          exact ⟨by rw [HF.out]; simp [endV]; omega, rfl⟩
theorem l02Col_any (x : Int) (w : World) : Calls Tryz.prog 154 #[.int .i64 x] w fun e w' => e = .returned (.bool (colB x)) ∧ w = w' := by
  go_enter Tryz.func154, Tryz.ntmps154
  go_wp2_with fail
  refine (l01In_any _ _ _ _).mono ?_
  rintro e w' ⟨rfl, rfl⟩
  go_wp2
  go_ret
  exact ⟨rfl, rfl⟩
def numB (x : Int) : Bool := decide (-1000000 ≤ x) && decide (x ≤ 1000000)
theorem l01Number_any (x : Int) (w : World) : Calls Tryz.prog 114 #[.int .i64 x] w fun e w' => e = .returned (.bool (numB x)) ∧ w = w' := by
  go_enter Tryz.func114, Tryz.ntmps114
  go_wp2_with fail
  refine (l01In_any _ _ _ _).mono ?_
  rintro e w' ⟨rfl, rfl⟩
  go_wp2
  go_ret
  exact ⟨rfl, rfl⟩
set_option maxRecDepth 100000 in
set_option maxHeartbeats 4000000 in
theorem specNodeOk4 (name : ByteArray) (col op num : Int) (slot : Bool) (cols : List Int) (a : Option Addr) (c : Nat) (w : World) (hl : cols.length ≤ maxLen) (hs : name.size ≤ maxLen) :
    Calls Tryz.prog 131 #[.agg #[.int .i64 4, .string name, .int .i64 col, .int .i64 op, .int .i64 num, .bool slot, .slice a cols.length c]] w fun e w' => e = .returned (.bool (nodeB ⟨4, name, col, op, num, slot, cols⟩)) ∧ Below w.heap.size w w' := by
  unfold maxLen at hl
  rcases cols with _ | ⟨z, zs⟩
  · go_enter Tryz.func131, Tryz.ntmps131
    go_wp2_with (first
    | (go_at_call 72; refine (l01In_any _ _ _ _).mono ?_; rintro e w' ⟨rfl, rfl⟩)
    | (go_at_call 154; refine (l02Col_any _ _).mono ?_; rintro e w' ⟨rfl, rfl⟩)
    | (go_at_call 114; refine (l01Number_any _ _).mono ?_; rintro e w' ⟨rfl, rfl⟩)
    | (go_at_call 112; refine (specWordOk_any _ _ hs).mono ?_; rintro e w' ⟨rfl, rfl⟩))
    all_goals
      go_ret
      refine ⟨ret_bool ?_, (Below.refl _ _).alloc (Nat.le_refl _) _⟩
      first
        | (simp_all [nodeB, ByteArray.toList_eq]; done)
        | (simp_all [nodeB, ByteArray.toList_eq, numB, colB]; done)
        | (simp_all [nodeB, ByteArray.toList_eq, numB, colB]; omega)
  · have hp : 0 < (z :: zs).length := by simp
    have hq : (0 : Int) < ((z :: zs).length : Int) := by simp
    generalize (z :: zs).length = m at hp hq hl ⊢
    go_enter Tryz.func131, Tryz.ntmps131
    go_wp2_with (first
    | (go_at_call 72; refine (l01In_any _ _ _ _).mono ?_; rintro e w' ⟨rfl, rfl⟩)
    | (go_at_call 154; refine (l02Col_any _ _).mono ?_; rintro e w' ⟨rfl, rfl⟩)
    | (go_at_call 114; refine (l01Number_any _ _).mono ?_; rintro e w' ⟨rfl, rfl⟩)
    | (go_at_call 112; refine (specWordOk_any _ _ hs).mono ?_; rintro e w' ⟨rfl, rfl⟩))
    all_goals
      go_ret
      refine ⟨ret_bool ?_, (Below.refl _ _).alloc (Nat.le_refl _) _⟩
      first
        | (simp_all [nodeB, ByteArray.toList_eq]; done)
        | (simp_all [nodeB, ByteArray.toList_eq, numB, colB]; done)
        | (simp_all [nodeB, ByteArray.toList_eq, numB, colB]; omega)
set_option maxRecDepth 100000 in
set_option maxHeartbeats 4000000 in
theorem specNodeOk7 (name : ByteArray) (col op num : Int) (slot : Bool) (cols : List Int) (a : Option Addr) (c : Nat) (w : World) (hl : cols.length ≤ maxLen) (hs : name.size ≤ maxLen) :
    Calls Tryz.prog 131 #[.agg #[.int .i64 7, .string name, .int .i64 col, .int .i64 op, .int .i64 num, .bool slot, .slice a cols.length c]] w fun e w' => e = .returned (.bool (nodeB ⟨7, name, col, op, num, slot, cols⟩)) ∧ Below w.heap.size w w' := by
  unfold maxLen at hl
  rcases cols with _ | ⟨z, zs⟩
  · go_enter Tryz.func131, Tryz.ntmps131
    go_wp2_with (first
    | (go_at_call 72; refine (l01In_any _ _ _ _).mono ?_; rintro e w' ⟨rfl, rfl⟩)
    | (go_at_call 154; refine (l02Col_any _ _).mono ?_; rintro e w' ⟨rfl, rfl⟩)
    | (go_at_call 114; refine (l01Number_any _ _).mono ?_; rintro e w' ⟨rfl, rfl⟩)
    | (go_at_call 112; refine (specWordOk_any _ _ hs).mono ?_; rintro e w' ⟨rfl, rfl⟩))
    all_goals
      go_ret
      refine ⟨ret_bool ?_, (Below.refl _ _).alloc (Nat.le_refl _) _⟩
      first
        | (simp_all [nodeB, ByteArray.toList_eq]; done)
        | (simp_all [nodeB, ByteArray.toList_eq, numB, colB]; done)
        | (simp_all [nodeB, ByteArray.toList_eq, numB, colB]; omega)
  · have hp : 0 < (z :: zs).length := by simp
    have hq : (0 : Int) < ((z :: zs).length : Int) := by simp
    generalize (z :: zs).length = m at hp hq hl ⊢
    go_enter Tryz.func131, Tryz.ntmps131
    go_wp2_with (first
    | (go_at_call 72; refine (l01In_any _ _ _ _).mono ?_; rintro e w' ⟨rfl, rfl⟩)
    | (go_at_call 154; refine (l02Col_any _ _).mono ?_; rintro e w' ⟨rfl, rfl⟩)
    | (go_at_call 114; refine (l01Number_any _ _).mono ?_; rintro e w' ⟨rfl, rfl⟩)
    | (go_at_call 112; refine (specWordOk_any _ _ hs).mono ?_; rintro e w' ⟨rfl, rfl⟩))
    all_goals
      go_ret
      refine ⟨ret_bool ?_, (Below.refl _ _).alloc (Nat.le_refl _) _⟩
      first
        | (simp_all [nodeB, ByteArray.toList_eq]; done)
        | (simp_all [nodeB, ByteArray.toList_eq, numB, colB]; done)
        | (simp_all [nodeB, ByteArray.toList_eq, numB, colB]; omega)
set_option maxRecDepth 100000 in
set_option maxHeartbeats 4000000 in
theorem specNodeOk0 (name : ByteArray) (col op num : Int) (slot : Bool) (cols : List Int) (a : Option Addr) (c : Nat) (w : World) (hl : cols.length ≤ maxLen) (hs : name.size ≤ maxLen) :
    Calls Tryz.prog 131 #[.agg #[.int .i64 0, .string name, .int .i64 col, .int .i64 op, .int .i64 num, .bool slot, .slice a cols.length c]] w fun e w' => e = .returned (.bool (nodeB ⟨0, name, col, op, num, slot, cols⟩)) ∧ Below w.heap.size w w' := by
  unfold maxLen at hl
  rcases cols with _ | ⟨z, zs⟩
  · go_enter Tryz.func131, Tryz.ntmps131
    go_wp2_with (first
    | (go_at_call 72; refine (l01In_any _ _ _ _).mono ?_; rintro e w' ⟨rfl, rfl⟩)
    | (go_at_call 154; refine (l02Col_any _ _).mono ?_; rintro e w' ⟨rfl, rfl⟩)
    | (go_at_call 114; refine (l01Number_any _ _).mono ?_; rintro e w' ⟨rfl, rfl⟩)
    | (go_at_call 112; refine (specWordOk_any _ _ hs).mono ?_; rintro e w' ⟨rfl, rfl⟩))
    all_goals
      go_ret
      refine ⟨ret_bool ?_, (Below.refl _ _).alloc (Nat.le_refl _) _⟩
      first
        | (simp_all [nodeB, ByteArray.toList_eq]; done)
        | (simp_all [nodeB, ByteArray.toList_eq, numB, colB]; done)
        | (simp_all [nodeB, ByteArray.toList_eq, numB, colB]; omega)
  · have hp : 0 < (z :: zs).length := by simp
    have hq : (0 : Int) < ((z :: zs).length : Int) := by simp
    generalize (z :: zs).length = m at hp hq hl ⊢
    go_enter Tryz.func131, Tryz.ntmps131
    go_wp2_with (first
    | (go_at_call 72; refine (l01In_any _ _ _ _).mono ?_; rintro e w' ⟨rfl, rfl⟩)
    | (go_at_call 154; refine (l02Col_any _ _).mono ?_; rintro e w' ⟨rfl, rfl⟩)
    | (go_at_call 114; refine (l01Number_any _ _).mono ?_; rintro e w' ⟨rfl, rfl⟩)
    | (go_at_call 112; refine (specWordOk_any _ _ hs).mono ?_; rintro e w' ⟨rfl, rfl⟩))
    all_goals
      go_ret
      refine ⟨ret_bool ?_, (Below.refl _ _).alloc (Nat.le_refl _) _⟩
      first
        | (simp_all [nodeB, ByteArray.toList_eq]; done)
        | (simp_all [nodeB, ByteArray.toList_eq, numB, colB]; done)
        | (simp_all [nodeB, ByteArray.toList_eq, numB, colB]; omega)
set_option maxRecDepth 100000 in
set_option maxHeartbeats 4000000 in
theorem specNodeOk5 (name : ByteArray) (col op num : Int) (slot : Bool) (cols : List Int) (a : Option Addr) (c : Nat) (w : World) (hl : cols.length ≤ maxLen) (hs : name.size ≤ maxLen) :
    Calls Tryz.prog 131 #[.agg #[.int .i64 5, .string name, .int .i64 col, .int .i64 op, .int .i64 num, .bool slot, .slice a cols.length c]] w fun e w' => e = .returned (.bool (nodeB ⟨5, name, col, op, num, slot, cols⟩)) ∧ Below w.heap.size w w' := by
  unfold maxLen at hl
  rcases cols with _ | ⟨z, zs⟩
  · go_enter Tryz.func131, Tryz.ntmps131
    go_wp2_with (first
    | (go_at_call 72; refine (l01In_any _ _ _ _).mono ?_; rintro e w' ⟨rfl, rfl⟩)
    | (go_at_call 154; refine (l02Col_any _ _).mono ?_; rintro e w' ⟨rfl, rfl⟩)
    | (go_at_call 114; refine (l01Number_any _ _).mono ?_; rintro e w' ⟨rfl, rfl⟩)
    | (go_at_call 112; refine (specWordOk_any _ _ hs).mono ?_; rintro e w' ⟨rfl, rfl⟩))
    all_goals
      go_ret
      refine ⟨ret_bool ?_, (Below.refl _ _).alloc (Nat.le_refl _) _⟩
      first
        | (simp_all [nodeB, ByteArray.toList_eq]; done)
        | (simp_all [nodeB, ByteArray.toList_eq, numB, colB]; done)
        | (simp_all [nodeB, ByteArray.toList_eq, numB, colB]; omega)
  · have hp : 0 < (z :: zs).length := by simp
    have hq : (0 : Int) < ((z :: zs).length : Int) := by simp
    generalize (z :: zs).length = m at hp hq hl ⊢
    go_enter Tryz.func131, Tryz.ntmps131
    go_wp2_with (first
    | (go_at_call 72; refine (l01In_any _ _ _ _).mono ?_; rintro e w' ⟨rfl, rfl⟩)
    | (go_at_call 154; refine (l02Col_any _ _).mono ?_; rintro e w' ⟨rfl, rfl⟩)
    | (go_at_call 114; refine (l01Number_any _ _).mono ?_; rintro e w' ⟨rfl, rfl⟩)
    | (go_at_call 112; refine (specWordOk_any _ _ hs).mono ?_; rintro e w' ⟨rfl, rfl⟩))
    all_goals
      go_ret
      refine ⟨ret_bool ?_, (Below.refl _ _).alloc (Nat.le_refl _) _⟩
      first
        | (simp_all [nodeB, ByteArray.toList_eq]; done)
        | (simp_all [nodeB, ByteArray.toList_eq, numB, colB]; done)
        | (simp_all [nodeB, ByteArray.toList_eq, numB, colB]; omega)
set_option maxRecDepth 100000 in
set_option maxHeartbeats 4000000 in
theorem specNodeOk1 (name : ByteArray) (col op num : Int) (slot : Bool) (cols : List Int) (a : Option Addr) (c : Nat) (w : World) (hl : cols.length ≤ maxLen) (hs : name.size ≤ maxLen) :
    Calls Tryz.prog 131 #[.agg #[.int .i64 1, .string name, .int .i64 col, .int .i64 op, .int .i64 num, .bool slot, .slice a cols.length c]] w fun e w' => e = .returned (.bool (nodeB ⟨1, name, col, op, num, slot, cols⟩)) ∧ Below w.heap.size w w' := by
  unfold maxLen at hl
  rcases cols with _ | ⟨z, zs⟩
  · go_enter Tryz.func131, Tryz.ntmps131
    go_wp2_with (first
    | (go_at_call 72; refine (l01In_any _ _ _ _).mono ?_; rintro e w' ⟨rfl, rfl⟩)
    | (go_at_call 154; refine (l02Col_any _ _).mono ?_; rintro e w' ⟨rfl, rfl⟩)
    | (go_at_call 114; refine (l01Number_any _ _).mono ?_; rintro e w' ⟨rfl, rfl⟩)
    | (go_at_call 112; refine (specWordOk_any _ _ hs).mono ?_; rintro e w' ⟨rfl, rfl⟩))
    all_goals
      go_ret
      refine ⟨ret_bool ?_, (Below.refl _ _).alloc (Nat.le_refl _) _⟩
      first
        | (simp_all [nodeB, ByteArray.toList_eq]; done)
        | (simp_all [nodeB, ByteArray.toList_eq, numB, colB]; done)
        | (simp_all [nodeB, ByteArray.toList_eq, numB, colB]; omega)
  · have hp : 0 < (z :: zs).length := by simp
    have hq : (0 : Int) < ((z :: zs).length : Int) := by simp
    generalize (z :: zs).length = m at hp hq hl ⊢
    go_enter Tryz.func131, Tryz.ntmps131
    go_wp2_with (first
    | (go_at_call 72; refine (l01In_any _ _ _ _).mono ?_; rintro e w' ⟨rfl, rfl⟩)
    | (go_at_call 154; refine (l02Col_any _ _).mono ?_; rintro e w' ⟨rfl, rfl⟩)
    | (go_at_call 114; refine (l01Number_any _ _).mono ?_; rintro e w' ⟨rfl, rfl⟩)
    | (go_at_call 112; refine (specWordOk_any _ _ hs).mono ?_; rintro e w' ⟨rfl, rfl⟩))
    all_goals
      go_ret
      refine ⟨ret_bool ?_, (Below.refl _ _).alloc (Nat.le_refl _) _⟩
      first
        | (simp_all [nodeB, ByteArray.toList_eq]; done)
        | (simp_all [nodeB, ByteArray.toList_eq, numB, colB]; done)
        | (simp_all [nodeB, ByteArray.toList_eq, numB, colB]; omega)
end Go.Proofs.YtanfllednlpbaaaGreat
