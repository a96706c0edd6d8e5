/-
  Contract of spec.l02End: where the tree that begins at a place ends, and how deep it is. For every slice of nodes and every place in it. Contract of spec.NodeOk: it answers whether the node is one. For every node. Contract of spec.NodeOk at some of the kinds. For every node of them. Contract of spec.NodeOk at some of the kinds. For every node of them. Contract of spec.NodeOk at some of the kinds. For every node of them. Contract of spec.NodeOk at some of the kinds. For every node of them. Contract of spec.NodeOk at some of the kinds. For every node of them.
-/
import Derived.Test.YtfpbhedophlnkaaGreatDoorJW9x
import Derived.Test.YtfpbhedophlnkaaGreatDoorJW4x
import Derived.Test.YtfpbhedophlnkaaGreatDoorJW7x
import Derived.Laws.Strings
namespace Go.Proofs.YtfpbhedophlnkaaGreatDoor
open Go.RowKit
set_option linter.unusedSimpArgs false
set_option linter.unusedVariables false

/-- What l02End answers. -/
def endV : Option (Nat × Nat) → Value
  | none => .tuple #[.int .i64 (-1), .int .i64 0]
  | some (e, d) => .tuple #[.int .i64 e, .int .i64 d]

theorem endN_out {p : List Nd} {r k : Nat} (h : p.length ≤ k) : endN p r k = none := by
  cases r with
  | zero => rfl
  | succ r => simp only [endN]; rw [List.getElem?_eq_none h]
theorem endN_0 {p : List Nd} {r k : Nat} {n : Nd} (hn : p[k]? = some n) (h1 : arity n.kind ≠ 1) (h2 : arity n.kind ≠ 2) : endN p (r + 1) k = some (k + 1, 1) := by
  simp only [endN, hn]; rw [if_neg h1, if_neg h2]
theorem endN_1n {p : List Nd} {r k : Nat} {n : Nd} (hn : p[k]? = some n) (h1 : arity n.kind = 1) (h : endN p r (k + 1) = none) : endN p (r + 1) k = none := by
  simp only [endN, hn]; rw [if_pos h1, h]
theorem endN_1s {p : List Nd} {r k e d : Nat} {n : Nd} (hn : p[k]? = some n) (h1 : arity n.kind = 1) (h : endN p r (k + 1) = some (e, d)) : endN p (r + 1) k = some (e, d + 1) := by
  simp only [endN, hn]; rw [if_pos h1, h]
theorem endN_2n {p : List Nd} {r k : Nat} {n : Nd} (hn : p[k]? = some n) (h2 : arity n.kind = 2) (h : endN p r (k + 1) = none) : endN p (r + 1) k = none := by
  simp only [endN, hn]; rw [if_neg (by omega), if_pos h2, h]
theorem endN_2sn {p : List Nd} {r k e d : Nat} {n : Nd} (hn : p[k]? = some n) (h2 : arity n.kind = 2) (h : endN p r (k + 1) = some (e, d)) (h' : endN p r e = none) : endN p (r + 1) k = none := by
  simp only [endN, hn]; rw [if_neg (by omega), if_pos h2, h]; simp only; rw [h']
theorem endN_2ss {p : List Nd} {r k e d e' d' : Nat} {n : Nd} (hn : p[k]? = some n) (h2 : arity n.kind = 2) (h : endN p r (k + 1) = some (e, d)) (h' : endN p r e = some (e', d')) : endN p (r + 1) k = some (e', (if d < d' then d' else d) + 1) := by
  simp only [endN, hn]; rw [if_neg (by omega), if_pos h2, h]; simp only; rw [h']
theorem endN_bd (p : List Nd) : ∀ (r k e d : Nat), endN p r k = some (e, d) → k < e ∧ e ≤ p.length ∧ 1 ≤ d ∧ d ≤ r := by
  intro r
  induction r with
  | zero => intro k e d h; cases h
  | succ r ih =>
    intro k e d h
    cases hn : p[k]? with
    | none => simp only [endN, hn] at h; cases h
    | some n =>
      have hk : k < p.length := by
        rcases Nat.lt_or_ge k p.length with h1 | h1
        · exact h1
        · rw [List.getElem?_eq_none h1] at hn; cases hn
      by_cases h1 : arity n.kind = 1
      · cases hc : endN p r (k + 1) with
        | none => rw [endN_1n hn h1 hc] at h; cases h
        | some x =>
          obtain ⟨e1, d1⟩ := x
          rw [endN_1s hn h1 hc] at h; cases h
          have := ih _ _ _ hc; omega
      · by_cases h2 : arity n.kind = 2
        · cases hc : endN p r (k + 1) with
          | none => rw [endN_2n hn h2 hc] at h; cases h
          | some x =>
            obtain ⟨e1, d1⟩ := x
            cases hd : endN p r e1 with
            | none => rw [endN_2sn hn h2 hc hd] at h; cases h
            | some y =>
              obtain ⟨e2, d2⟩ := y
              rw [endN_2ss hn h2 hc hd] at h; cases h
              have := ih _ _ _ hc; have := ih _ _ _ hd
              split <;> omega
        · rw [endN_0 hn h1 h2] at h; cases h; omega

set_option maxRecDepth 100000 in
set_option maxHeartbeats 1600000 in
theorem specEnd_any (ao : Option Addr) (c : Nat) (p : List Nd) (hp : p.length ≤ 1048576) : ∀ (r : Nat) (k room : Int) (w : World), RdN w ao p → 0 ≤ k → k ≤ 1048576 → (r : Int) ≤ room → room ≤ (r : Int) → r ≤ 1000 →
    Calls Tryz.prog 133 #[.slice ao p.length c, .int .i64 k, .int .i64 room] w fun e w' => e = .returned (endV (endN p r k.toNat)) ∧ w = w' := by
  intro r
  induction r with
  | zero =>
    intro k room w h hk0 hk1 hr1 hr2 _
    have hr : (room == 0) = true := beq_iff_eq.2 (by omega)
    have HF := Lib.hid (show endN p 0 k.toNat = none from rfl)
    by_cases hk : (p.length : Int) ≤ k
    · go_enter Tryz.func133, Tryz.ntmps133
      go_wp2_with fail
      go_ret2
      exact ⟨by rw [HF.out]; rfl, rfl⟩
    · have hk' : k < (p.length : Int) := by omega
      go_enter Tryz.func133, Tryz.ntmps133
      go_wp2_with fail
      go_ret2
      exact ⟨by rw [HF.out]; rfl, rfl⟩
  | succ r ih =>
    intro k room w h hk0 hk1 hr1 hr2 hr3
    have IH := Lib.hid ih; clear ih
    have hr : (room == 0) = false := beq_eq_false_iff_ne.2 (by omega)
    by_cases hk : (p.length : Int) ≤ k
    · have HF := Lib.hid (endN_out (r := r + 1) (show p.length ≤ k.toNat by omega))
      go_enter Tryz.func133, Tryz.ntmps133
      go_wp2_with fail
      go_ret2
      exact ⟨by rw [HF.out]; rfl, rfl⟩
    · have hk' : k < (p.length : Int) := by omega
      obtain ⟨b, off, n, a, c', rfl, hn, hat⟩ := h.at_ (i := k.toNat) (by omega)
      have H := Lib.hid h; clear h
      have HN := Lib.hid hn; clear hn
      have c0 := hat.c0
      clear hat hk
      have AR := Lib.hid (fun w => specArity_any n.kind w)
      by_cases h1 : arity n.kind = 1
      · have H1 := Lib.hid h1; clear h1
        cases hc : endN p r (k.toNat + 1) with
        | none =>
          have HC := Lib.hid hc; clear hc
          have HF := Lib.hid (endN_1n HN.out H1.out HC.out)
          go_enter Tryz.func133, Tryz.ntmps133
          go_wp2_with fail
          refine wp_loop_rounds 2 ?_; rw [rounds_succ]
          go_wp2_with (go_at_call 140; refine (AR.out _).mono ?_; rintro e w' ⟨rfl, rfl⟩; rw [H1.out])
          refine (IH.out _ _ _ H.out (by omega) (by omega) (by omega) (by omega) (by omega)).mono ?_
          rintro e w' ⟨rfl, rfl⟩
          rw [show (k + 1).toNat = k.toNat + 1 from by omega, HC.out]
          simp only [endV]
          go_wp2_with fail
          go_ret2
          exact ⟨by rw [HF.out]; rfl, rfl⟩
        | some x =>
          obtain ⟨e1, d1⟩ := x
          have HC := Lib.hid hc; clear hc
          have HF := Lib.hid (endN_1s HN.out H1.out HC.out)
          obtain ⟨q1, q2, q3, q4⟩ := endN_bd _ _ _ _ _ HC.out
          go_enter Tryz.func133, Tryz.ntmps133
          go_wp2_with fail
          refine wp_loop_rounds 2 ?_; rw [rounds_succ]
          go_wp2_with (go_at_call 140; refine (AR.out _).mono ?_; rintro e w' ⟨rfl, rfl⟩; rw [H1.out])
          refine (IH.out _ _ _ H.out (by omega) (by omega) (by omega) (by omega) (by omega)).mono ?_
          rintro e w' ⟨rfl, rfl⟩
          rw [show (k + 1).toNat = k.toNat + 1 from by omega, HC.out]
          simp only [endV]
          go_wp2_with fail
          rw [rounds_succ]
          go_wp2_with (go_at_call 140; refine (AR.out _).mono ?_; rintro e w' ⟨rfl, rfl⟩; rw [H1.out])
          go_ret2
          exact ⟨by rw [HF.out]; rfl, rfl⟩
      · by_cases h2 : arity n.kind = 2
        · have H1 := Lib.hid h2; clear h1 h2
          cases hc : endN p r (k.toNat + 1) with
          | none =>
            have HC := Lib.hid hc; clear hc
            have HF := Lib.hid (endN_2n HN.out H1.out HC.out)
            go_enter Tryz.func133, Tryz.ntmps133
            go_wp2_with fail
            refine wp_loop_rounds 3 ?_; rw [rounds_succ]
            go_wp2_with (go_at_call 140; refine (AR.out _).mono ?_; rintro e w' ⟨rfl, rfl⟩; rw [H1.out])
            refine (IH.out _ _ _ H.out (by omega) (by omega) (by omega) (by omega) (by omega)).mono ?_
            rintro e w' ⟨rfl, rfl⟩
            rw [show (k + 1).toNat = k.toNat + 1 from by omega, HC.out]
            simp only [endV]
            go_wp2_with fail
            go_ret2
            exact ⟨by rw [HF.out]; rfl, rfl⟩
          | some x =>
            obtain ⟨e1, d1⟩ := x
            have HC := Lib.hid hc; clear hc
            obtain ⟨q1, q2, q3, q4⟩ := endN_bd _ _ _ _ _ HC.out
            cases hd : endN p r e1 with
            | none =>
              have HD := Lib.hid hd; clear hd
              have HF := Lib.hid (endN_2sn HN.out H1.out HC.out HD.out)
              go_enter Tryz.func133, Tryz.ntmps133
              go_wp2_with fail
              refine wp_loop_rounds 3 ?_; rw [rounds_succ]
              go_wp2_with (go_at_call 140; refine (AR.out _).mono ?_; rintro e w' ⟨rfl, rfl⟩; rw [H1.out])
              refine (IH.out _ _ _ H.out (by omega) (by omega) (by omega) (by omega) (by omega)).mono ?_
              rintro e w' ⟨rfl, rfl⟩
              rw [show (k + 1).toNat = k.toNat + 1 from by omega, HC.out]
              simp only [endV]
              go_wp2_with fail
              rw [rounds_succ]
              go_wp2_with (go_at_call 140; refine (AR.out _).mono ?_; rintro e w' ⟨rfl, rfl⟩; rw [H1.out])
              refine (IH.out _ _ _ H.out (by omega) (by omega) (by omega) (by omega) (by omega)).mono ?_
              rintro e w' ⟨rfl, rfl⟩
              rw [Int.toNat_natCast, HD.out]
              simp only [endV]
              go_wp2_with fail
              go_ret2
              exact ⟨by rw [HF.out]; rfl, rfl⟩
            | some y =>
              obtain ⟨e2, d2⟩ := y
              have HD := Lib.hid hd; clear hd
              have HF := Lib.hid (endN_2ss HN.out H1.out HC.out HD.out)
              obtain ⟨q5, q6, q7, q8⟩ := endN_bd _ _ _ _ _ HD.out
              by_cases hdd : d1 < d2
              all_goals
                go_enter Tryz.func133, Tryz.ntmps133
                go_wp2_with fail
                refine wp_loop_rounds 3 ?_; rw [rounds_succ]
                go_wp2_with (go_at_call 140; refine (AR.out _).mono ?_; rintro e w' ⟨rfl, rfl⟩; rw [H1.out])
                refine (IH.out _ _ _ H.out (by omega) (by omega) (by omega) (by omega) (by omega)).mono ?_
                rintro e w' ⟨rfl, rfl⟩
                rw [show (k + 1).toNat = k.toNat + 1 from by omega, HC.out]
                simp only [endV]
                go_wp2_with fail
                rw [rounds_succ]
                go_wp2_with (go_at_call 140; refine (AR.out _).mono ?_; rintro e w' ⟨rfl, rfl⟩; rw [H1.out])
                refine (IH.out _ _ _ H.out (by omega) (by omega) (by omega) (by omega) (by omega)).mono ?_
                rintro e w' ⟨rfl, rfl⟩
                rw [Int.toNat_natCast, HD.out]
                simp only [endV]
                go_wp2_with fail
                rw [rounds_succ]
                go_wp2_with (go_at_call 140; refine (AR.out _).mono ?_; rintro e w' ⟨rfl, rfl⟩; rw [H1.out])
                go_ret2
                exact ⟨by rw [HF.out]; simp [endV, hdd], rfl⟩
        · have HF := Lib.hid (endN_0 (r := r) HN.out h1 h2)
          have ha : arity n.kind ≤ 0 := by rcases arity_cases n.kind with h | h | h | h <;> omega
          clear h1 h2
          go_enter Tryz.func133, Tryz.ntmps133
          go_wp2_with fail
          refine wp_loop_rounds 1 ?_; rw [rounds_succ]
          go_wp2_with (go_at_call 140; refine (AR.out _).mono ?_; rintro e w' ⟨rfl, rfl⟩)
          go_ret2
          exact ⟨by rw [HF.out]; simp [endV]; omega, rfl⟩
end Go.Proofs.YtfpbhedophlnkaaGreatDoor
namespace Go.Proofs.YtfpbhedophlnkaaGreatDoor
open Go.RowKit
set_option linter.unusedSimpArgs false
set_option linter.unusedVariables false

theorem l02Col_any (x : Int) (w : World) : Calls Tryz.prog 207 #[.int .i64 x] w fun e w' => e = .returned (.bool (colB x)) ∧ w = w' := by
  go_enter Tryz.func207, Tryz.ntmps207
  go_wp2_with fail
  refine (l01In_any _ _ _ _).mono ?_
  rintro e w' ⟨rfl, rfl⟩
  go_wp2
  go_ret
  exact ⟨rfl, rfl⟩
def numB (x : Int) : Bool := decide (-1000000 ≤ x) && decide (x ≤ 1000000)
theorem l01Number_any (x : Int) (w : World) : Calls Tryz.prog 188 #[.int .i64 x] w fun e w' => e = .returned (.bool (numB x)) ∧ w = w' := by
  go_enter Tryz.func188, Tryz.ntmps188
  go_wp2_with fail
  refine (l01In_any _ _ _ _).mono ?_
  rintro e w' ⟨rfl, rfl⟩
  go_wp2
  go_ret
  exact ⟨rfl, rfl⟩
theorem name_nil {s : ByteArray} : (s.toList == []) = decide (s.data.toList = []) := by
  rw [ByteArray.toList_eq]; cases s.data.toList <;> rfl
end Go.Proofs.YtfpbhedophlnkaaGreatDoor
namespace Go.Proofs.YtfpbhedophlnkaaGreatDoor
open Go.RowKit
set_option linter.unusedSimpArgs false
set_option linter.unusedVariables false

set_option maxRecDepth 100000 in
set_option maxHeartbeats 4000000 in
theorem specNodeOk4 (name : ByteArray) (col op num : Int) (slot : Bool) (cols : List Int) (a : Option Addr) (c : Nat) (w : World) (hl : cols.length ≤ maxLen) (hs : name.size ≤ maxLen) :
    Calls Tryz.prog 132 #[.agg #[.int .i64 4, .string name, .int .i64 col, .int .i64 op, .int .i64 num, .bool slot, .slice a cols.length c]] w fun e w' => e = .returned (.bool (nodeB ⟨4, name, col, op, num, slot, cols⟩)) ∧ Below w.heap.size w w' := by
  unfold maxLen at hl
  rcases cols with _ | ⟨z, zs⟩
  · go_enter Tryz.func132, Tryz.ntmps132
    go_wp2_with (first
    | (go_at_call 97; refine (l01In_any _ _ _ _).mono ?_; rintro e w' ⟨rfl, rfl⟩)
    | (go_at_call 207; refine (l02Col_any _ _).mono ?_; rintro e w' ⟨rfl, rfl⟩)
    | (go_at_call 188; refine (l01Number_any _ _).mono ?_; rintro e w' ⟨rfl, rfl⟩)
    | (go_at_call 96; refine (specWordOk_any _ _ hs).mono ?_; rintro e w' ⟨rfl, rfl⟩))
    all_goals
      go_ret
      refine ⟨ret_bool ?_, (Below.refl _ _).alloc (Nat.le_refl _) _⟩
      first
        | (simp_all [nodeB, ByteArray.toList_eq]; done)
        | (simp_all [nodeB, ByteArray.toList_eq, numB, colB]; done)
        | (simp_all [nodeB, ByteArray.toList_eq, numB, colB]; omega)
  · have hp : 0 < (z :: zs).length := by simp
    have hq : (0 : Int) < ((z :: zs).length : Int) := by simp
    generalize (z :: zs).length = m at hp hq hl ⊢
    go_enter Tryz.func132, Tryz.ntmps132
    go_wp2_with (first
    | (go_at_call 97; refine (l01In_any _ _ _ _).mono ?_; rintro e w' ⟨rfl, rfl⟩)
    | (go_at_call 207; refine (l02Col_any _ _).mono ?_; rintro e w' ⟨rfl, rfl⟩)
    | (go_at_call 188; refine (l01Number_any _ _).mono ?_; rintro e w' ⟨rfl, rfl⟩)
    | (go_at_call 96; refine (specWordOk_any _ _ hs).mono ?_; rintro e w' ⟨rfl, rfl⟩))
    all_goals
      go_ret
      refine ⟨ret_bool ?_, (Below.refl _ _).alloc (Nat.le_refl _) _⟩
      first
        | (simp_all [nodeB, ByteArray.toList_eq]; done)
        | (simp_all [nodeB, ByteArray.toList_eq, numB, colB]; done)
        | (simp_all [nodeB, ByteArray.toList_eq, numB, colB]; omega)

set_option maxRecDepth 100000 in
set_option maxHeartbeats 4000000 in
theorem specNodeOk7 (name : ByteArray) (col op num : Int) (slot : Bool) (cols : List Int) (a : Option Addr) (c : Nat) (w : World) (hl : cols.length ≤ maxLen) (hs : name.size ≤ maxLen) :
    Calls Tryz.prog 132 #[.agg #[.int .i64 7, .string name, .int .i64 col, .int .i64 op, .int .i64 num, .bool slot, .slice a cols.length c]] w fun e w' => e = .returned (.bool (nodeB ⟨7, name, col, op, num, slot, cols⟩)) ∧ Below w.heap.size w w' := by
  unfold maxLen at hl
  rcases cols with _ | ⟨z, zs⟩
  · go_enter Tryz.func132, Tryz.ntmps132
    go_wp2_with (first
    | (go_at_call 97; refine (l01In_any _ _ _ _).mono ?_; rintro e w' ⟨rfl, rfl⟩)
    | (go_at_call 207; refine (l02Col_any _ _).mono ?_; rintro e w' ⟨rfl, rfl⟩)
    | (go_at_call 188; refine (l01Number_any _ _).mono ?_; rintro e w' ⟨rfl, rfl⟩)
    | (go_at_call 96; refine (specWordOk_any _ _ hs).mono ?_; rintro e w' ⟨rfl, rfl⟩))
    all_goals
      go_ret
      refine ⟨ret_bool ?_, (Below.refl _ _).alloc (Nat.le_refl _) _⟩
      first
        | (simp_all [nodeB, ByteArray.toList_eq]; done)
        | (simp_all [nodeB, ByteArray.toList_eq, numB, colB]; done)
        | (simp_all [nodeB, ByteArray.toList_eq, numB, colB]; omega)
  · have hp : 0 < (z :: zs).length := by simp
    have hq : (0 : Int) < ((z :: zs).length : Int) := by simp
    generalize (z :: zs).length = m at hp hq hl ⊢
    go_enter Tryz.func132, Tryz.ntmps132
    go_wp2_with (first
    | (go_at_call 97; refine (l01In_any _ _ _ _).mono ?_; rintro e w' ⟨rfl, rfl⟩)
    | (go_at_call 207; refine (l02Col_any _ _).mono ?_; rintro e w' ⟨rfl, rfl⟩)
    | (go_at_call 188; refine (l01Number_any _ _).mono ?_; rintro e w' ⟨rfl, rfl⟩)
    | (go_at_call 96; refine (specWordOk_any _ _ hs).mono ?_; rintro e w' ⟨rfl, rfl⟩))
    all_goals
      go_ret
      refine ⟨ret_bool ?_, (Below.refl _ _).alloc (Nat.le_refl _) _⟩
      first
        | (simp_all [nodeB, ByteArray.toList_eq]; done)
        | (simp_all [nodeB, ByteArray.toList_eq, numB, colB]; done)
        | (simp_all [nodeB, ByteArray.toList_eq, numB, colB]; omega)
end Go.Proofs.YtfpbhedophlnkaaGreatDoor
namespace Go.Proofs.YtfpbhedophlnkaaGreatDoor
open Go.RowKit
set_option linter.unusedSimpArgs false
set_option linter.unusedVariables false

set_option maxRecDepth 100000 in
set_option maxHeartbeats 4000000 in
theorem specNodeOk0 (name : ByteArray) (col op num : Int) (slot : Bool) (cols : List Int) (a : Option Addr) (c : Nat) (w : World) (hl : cols.length ≤ maxLen) (hs : name.size ≤ maxLen) :
    Calls Tryz.prog 132 #[.agg #[.int .i64 0, .string name, .int .i64 col, .int .i64 op, .int .i64 num, .bool slot, .slice a cols.length c]] w fun e w' => e = .returned (.bool (nodeB ⟨0, name, col, op, num, slot, cols⟩)) ∧ Below w.heap.size w w' := by
  unfold maxLen at hl
  rcases cols with _ | ⟨z, zs⟩
  · go_enter Tryz.func132, Tryz.ntmps132
    go_wp2_with (first
    | (go_at_call 97; refine (l01In_any _ _ _ _).mono ?_; rintro e w' ⟨rfl, rfl⟩)
    | (go_at_call 207; refine (l02Col_any _ _).mono ?_; rintro e w' ⟨rfl, rfl⟩)
    | (go_at_call 188; refine (l01Number_any _ _).mono ?_; rintro e w' ⟨rfl, rfl⟩)
    | (go_at_call 96; refine (specWordOk_any _ _ hs).mono ?_; rintro e w' ⟨rfl, rfl⟩))
    all_goals
      go_ret
      refine ⟨ret_bool ?_, (Below.refl _ _).alloc (Nat.le_refl _) _⟩
      first
        | (simp_all [nodeB, ByteArray.toList_eq]; done)
        | (simp_all [nodeB, ByteArray.toList_eq, numB, colB]; done)
        | (simp_all [nodeB, ByteArray.toList_eq, numB, colB]; omega)
  · have hp : 0 < (z :: zs).length := by simp
    have hq : (0 : Int) < ((z :: zs).length : Int) := by simp
    generalize (z :: zs).length = m at hp hq hl ⊢
    go_enter Tryz.func132, Tryz.ntmps132
    go_wp2_with (first
    | (go_at_call 97; refine (l01In_any _ _ _ _).mono ?_; rintro e w' ⟨rfl, rfl⟩)
    | (go_at_call 207; refine (l02Col_any _ _).mono ?_; rintro e w' ⟨rfl, rfl⟩)
    | (go_at_call 188; refine (l01Number_any _ _).mono ?_; rintro e w' ⟨rfl, rfl⟩)
    | (go_at_call 96; refine (specWordOk_any _ _ hs).mono ?_; rintro e w' ⟨rfl, rfl⟩))
    all_goals
      go_ret
      refine ⟨ret_bool ?_, (Below.refl _ _).alloc (Nat.le_refl _) _⟩
      first
        | (simp_all [nodeB, ByteArray.toList_eq]; done)
        | (simp_all [nodeB, ByteArray.toList_eq, numB, colB]; done)
        | (simp_all [nodeB, ByteArray.toList_eq, numB, colB]; omega)

set_option maxRecDepth 100000 in
set_option maxHeartbeats 4000000 in
theorem specNodeOk5 (name : ByteArray) (col op num : Int) (slot : Bool) (cols : List Int) (a : Option Addr) (c : Nat) (w : World) (hl : cols.length ≤ maxLen) (hs : name.size ≤ maxLen) :
    Calls Tryz.prog 132 #[.agg #[.int .i64 5, .string name, .int .i64 col, .int .i64 op, .int .i64 num, .bool slot, .slice a cols.length c]] w fun e w' => e = .returned (.bool (nodeB ⟨5, name, col, op, num, slot, cols⟩)) ∧ Below w.heap.size w w' := by
  unfold maxLen at hl
  rcases cols with _ | ⟨z, zs⟩
  · go_enter Tryz.func132, Tryz.ntmps132
    go_wp2_with (first
    | (go_at_call 97; refine (l01In_any _ _ _ _).mono ?_; rintro e w' ⟨rfl, rfl⟩)
    | (go_at_call 207; refine (l02Col_any _ _).mono ?_; rintro e w' ⟨rfl, rfl⟩)
    | (go_at_call 188; refine (l01Number_any _ _).mono ?_; rintro e w' ⟨rfl, rfl⟩)
    | (go_at_call 96; refine (specWordOk_any _ _ hs).mono ?_; rintro e w' ⟨rfl, rfl⟩))
    all_goals
      go_ret
      refine ⟨ret_bool ?_, (Below.refl _ _).alloc (Nat.le_refl _) _⟩
      first
        | (simp_all [nodeB, ByteArray.toList_eq]; done)
        | (simp_all [nodeB, ByteArray.toList_eq, numB, colB]; done)
        | (simp_all [nodeB, ByteArray.toList_eq, numB, colB]; omega)
  · have hp : 0 < (z :: zs).length := by simp
    have hq : (0 : Int) < ((z :: zs).length : Int) := by simp
    generalize (z :: zs).length = m at hp hq hl ⊢
    go_enter Tryz.func132, Tryz.ntmps132
    go_wp2_with (first
    | (go_at_call 97; refine (l01In_any _ _ _ _).mono ?_; rintro e w' ⟨rfl, rfl⟩)
    | (go_at_call 207; refine (l02Col_any _ _).mono ?_; rintro e w' ⟨rfl, rfl⟩)
    | (go_at_call 188; refine (l01Number_any _ _).mono ?_; rintro e w' ⟨rfl, rfl⟩)
    | (go_at_call 96; refine (specWordOk_any _ _ hs).mono ?_; rintro e w' ⟨rfl, rfl⟩))
    all_goals
      go_ret
      refine ⟨ret_bool ?_, (Below.refl _ _).alloc (Nat.le_refl _) _⟩
      first
        | (simp_all [nodeB, ByteArray.toList_eq]; done)
        | (simp_all [nodeB, ByteArray.toList_eq, numB, colB]; done)
        | (simp_all [nodeB, ByteArray.toList_eq, numB, colB]; omega)
end Go.Proofs.YtfpbhedophlnkaaGreatDoor
namespace Go.Proofs.YtfpbhedophlnkaaGreatDoor
open Go.RowKit
set_option linter.unusedSimpArgs false
set_option linter.unusedVariables false

set_option maxRecDepth 100000 in
set_option maxHeartbeats 4000000 in
theorem specNodeOk1 (name : ByteArray) (col op num : Int) (slot : Bool) (cols : List Int) (a : Option Addr) (c : Nat) (w : World) (hl : cols.length ≤ maxLen) (hs : name.size ≤ maxLen) :
    Calls Tryz.prog 132 #[.agg #[.int .i64 1, .string name, .int .i64 col, .int .i64 op, .int .i64 num, .bool slot, .slice a cols.length c]] w fun e w' => e = .returned (.bool (nodeB ⟨1, name, col, op, num, slot, cols⟩)) ∧ Below w.heap.size w w' := by
  unfold maxLen at hl
  rcases cols with _ | ⟨z, zs⟩
  · go_enter Tryz.func132, Tryz.ntmps132
    go_wp2_with (first
    | (go_at_call 97; refine (l01In_any _ _ _ _).mono ?_; rintro e w' ⟨rfl, rfl⟩)
    | (go_at_call 207; refine (l02Col_any _ _).mono ?_; rintro e w' ⟨rfl, rfl⟩)
    | (go_at_call 188; refine (l01Number_any _ _).mono ?_; rintro e w' ⟨rfl, rfl⟩)
    | (go_at_call 96; refine (specWordOk_any _ _ hs).mono ?_; rintro e w' ⟨rfl, rfl⟩))
    all_goals
      go_ret
      refine ⟨ret_bool ?_, (Below.refl _ _).alloc (Nat.le_refl _) _⟩
      first
        | (simp_all [nodeB, ByteArray.toList_eq]; done)
        | (simp_all [nodeB, ByteArray.toList_eq, numB, colB]; done)
        | (simp_all [nodeB, ByteArray.toList_eq, numB, colB]; omega)
  · have hp : 0 < (z :: zs).length := by simp
    have hq : (0 : Int) < ((z :: zs).length : Int) := by simp
    generalize (z :: zs).length = m at hp hq hl ⊢
    go_enter Tryz.func132, Tryz.ntmps132
    go_wp2_with (first
    | (go_at_call 97; refine (l01In_any _ _ _ _).mono ?_; rintro e w' ⟨rfl, rfl⟩)
    | (go_at_call 207; refine (l02Col_any _ _).mono ?_; rintro e w' ⟨rfl, rfl⟩)
    | (go_at_call 188; refine (l01Number_any _ _).mono ?_; rintro e w' ⟨rfl, rfl⟩)
    | (go_at_call 96; refine (specWordOk_any _ _ hs).mono ?_; rintro e w' ⟨rfl, rfl⟩))
    all_goals
      go_ret
      refine ⟨ret_bool ?_, (Below.refl _ _).alloc (Nat.le_refl _) _⟩
      first
        | (simp_all [nodeB, ByteArray.toList_eq]; done)
        | (simp_all [nodeB, ByteArray.toList_eq, numB, colB]; done)
        | (simp_all [nodeB, ByteArray.toList_eq, numB, colB]; omega)
end Go.Proofs.YtfpbhedophlnkaaGreatDoor
namespace Go.Proofs.YtfpbhedophlnkaaGreatDoor
open Go.RowKit
set_option linter.unusedSimpArgs false
set_option linter.unusedVariables false

set_option maxRecDepth 100000 in
set_option maxHeartbeats 4000000 in
theorem specNodeOk3 (name : ByteArray) (col op num : Int) (slot : Bool) (cols : List Int) (a : Option Addr) (c : Nat) (w : World) (hl : cols.length ≤ maxLen) (hs : name.size ≤ maxLen) :
    Calls Tryz.prog 132 #[.agg #[.int .i64 3, .string name, .int .i64 col, .int .i64 op, .int .i64 num, .bool slot, .slice a cols.length c]] w fun e w' => e = .returned (.bool (nodeB ⟨3, name, col, op, num, slot, cols⟩)) ∧ Below w.heap.size w w' := by
  unfold maxLen at hl
  rcases cols with _ | ⟨z, zs⟩
  · go_enter Tryz.func132, Tryz.ntmps132
    go_wp2_with (first
    | (go_at_call 97; refine (l01In_any _ _ _ _).mono ?_; rintro e w' ⟨rfl, rfl⟩)
    | (go_at_call 207; refine (l02Col_any _ _).mono ?_; rintro e w' ⟨rfl, rfl⟩)
    | (go_at_call 188; refine (l01Number_any _ _).mono ?_; rintro e w' ⟨rfl, rfl⟩)
    | (go_at_call 96; refine (specWordOk_any _ _ hs).mono ?_; rintro e w' ⟨rfl, rfl⟩))
    all_goals
      go_ret
      refine ⟨ret_bool ?_, (Below.refl _ _).alloc (Nat.le_refl _) _⟩
      first
        | (simp_all [nodeB, ByteArray.toList_eq]; done)
        | (simp_all [nodeB, ByteArray.toList_eq, numB, colB]; done)
        | (simp_all [nodeB, ByteArray.toList_eq, numB, colB]; omega)
  · have hp : 0 < (z :: zs).length := by simp
    have hq : (0 : Int) < ((z :: zs).length : Int) := by simp
    generalize (z :: zs).length = m at hp hq hl ⊢
    go_enter Tryz.func132, Tryz.ntmps132
    go_wp2_with (first
    | (go_at_call 97; refine (l01In_any _ _ _ _).mono ?_; rintro e w' ⟨rfl, rfl⟩)
    | (go_at_call 207; refine (l02Col_any _ _).mono ?_; rintro e w' ⟨rfl, rfl⟩)
    | (go_at_call 188; refine (l01Number_any _ _).mono ?_; rintro e w' ⟨rfl, rfl⟩)
    | (go_at_call 96; refine (specWordOk_any _ _ hs).mono ?_; rintro e w' ⟨rfl, rfl⟩))
    all_goals
      go_ret
      refine ⟨ret_bool ?_, (Below.refl _ _).alloc (Nat.le_refl _) _⟩
      first
        | (simp_all [nodeB, ByteArray.toList_eq]; done)
        | (simp_all [nodeB, ByteArray.toList_eq, numB, colB]; done)
        | (simp_all [nodeB, ByteArray.toList_eq, numB, colB]; omega)

set_option maxRecDepth 100000 in
set_option maxHeartbeats 4000000 in
theorem specNodeOk6 (name : ByteArray) (col op num : Int) (slot : Bool) (cols : List Int) (a : Option Addr) (c : Nat) (w : World) (hl : cols.length ≤ maxLen) (hs : name.size ≤ maxLen) :
    Calls Tryz.prog 132 #[.agg #[.int .i64 6, .string name, .int .i64 col, .int .i64 op, .int .i64 num, .bool slot, .slice a cols.length c]] w fun e w' => e = .returned (.bool (nodeB ⟨6, name, col, op, num, slot, cols⟩)) ∧ Below w.heap.size w w' := by
  unfold maxLen at hl
  rcases cols with _ | ⟨z, zs⟩
  · go_enter Tryz.func132, Tryz.ntmps132
    go_wp2_with (first
    | (go_at_call 97; refine (l01In_any _ _ _ _).mono ?_; rintro e w' ⟨rfl, rfl⟩)
    | (go_at_call 207; refine (l02Col_any _ _).mono ?_; rintro e w' ⟨rfl, rfl⟩)
    | (go_at_call 188; refine (l01Number_any _ _).mono ?_; rintro e w' ⟨rfl, rfl⟩)
    | (go_at_call 96; refine (specWordOk_any _ _ hs).mono ?_; rintro e w' ⟨rfl, rfl⟩))
    all_goals
      go_ret
      refine ⟨ret_bool ?_, (Below.refl _ _).alloc (Nat.le_refl _) _⟩
      first
        | (simp_all [nodeB, ByteArray.toList_eq]; done)
        | (simp_all [nodeB, ByteArray.toList_eq, numB, colB]; done)
        | (simp_all [nodeB, ByteArray.toList_eq, numB, colB]; omega)
  · have hp : 0 < (z :: zs).length := by simp
    have hq : (0 : Int) < ((z :: zs).length : Int) := by simp
    generalize (z :: zs).length = m at hp hq hl ⊢
    go_enter Tryz.func132, Tryz.ntmps132
    go_wp2_with (first
    | (go_at_call 97; refine (l01In_any _ _ _ _).mono ?_; rintro e w' ⟨rfl, rfl⟩)
    | (go_at_call 207; refine (l02Col_any _ _).mono ?_; rintro e w' ⟨rfl, rfl⟩)
    | (go_at_call 188; refine (l01Number_any _ _).mono ?_; rintro e w' ⟨rfl, rfl⟩)
    | (go_at_call 96; refine (specWordOk_any _ _ hs).mono ?_; rintro e w' ⟨rfl, rfl⟩))
    all_goals
      go_ret
      refine ⟨ret_bool ?_, (Below.refl _ _).alloc (Nat.le_refl _) _⟩
      first
        | (simp_all [nodeB, ByteArray.toList_eq]; done)
        | (simp_all [nodeB, ByteArray.toList_eq, numB, colB]; done)
        | (simp_all [nodeB, ByteArray.toList_eq, numB, colB]; omega)
end Go.Proofs.YtfpbhedophlnkaaGreatDoor
namespace Go.Proofs.YtfpbhedophlnkaaGreatDoor
open Go.RowKit
set_option linter.unusedSimpArgs false
set_option linter.unusedVariables false

set_option maxRecDepth 100000 in
set_option maxHeartbeats 4000000 in
theorem specNodeOkOut (k : Int) (hk : k < 0 ∨ 7 < k) (name : ByteArray) (col op num : Int) (slot : Bool) (cols : List Int) (a : Option Addr) (c : Nat) (w : World) (hl : cols.length ≤ maxLen) (hs : name.size ≤ maxLen) :
    Calls Tryz.prog 132 #[.agg #[.int .i64 k, .string name, .int .i64 col, .int .i64 op, .int .i64 num, .bool slot, .slice a cols.length c]] w fun e w' => e = .returned (.bool (nodeB ⟨k, name, col, op, num, slot, cols⟩)) ∧ Below w.heap.size w w' := by
  unfold maxLen at hl
  have h0 : (k == 0) = false := beq_eq_false_iff_ne.2 (by omega)
  have g0 : (k != 0) = true := by rw [bne_iff_ne]; omega
  have h1 : (k == 1) = false := beq_eq_false_iff_ne.2 (by omega)
  have g1 : (k != 1) = true := by rw [bne_iff_ne]; omega
  have h2 : (k == 2) = false := beq_eq_false_iff_ne.2 (by omega)
  have g2 : (k != 2) = true := by rw [bne_iff_ne]; omega
  have h3 : (k == 3) = false := beq_eq_false_iff_ne.2 (by omega)
  have g3 : (k != 3) = true := by rw [bne_iff_ne]; omega
  have h4 : (k == 4) = false := beq_eq_false_iff_ne.2 (by omega)
  have g4 : (k != 4) = true := by rw [bne_iff_ne]; omega
  have h5 : (k == 5) = false := beq_eq_false_iff_ne.2 (by omega)
  have g5 : (k != 5) = true := by rw [bne_iff_ne]; omega
  have h6 : (k == 6) = false := beq_eq_false_iff_ne.2 (by omega)
  have g6 : (k != 6) = true := by rw [bne_iff_ne]; omega
  have h7 : (k == 7) = false := beq_eq_false_iff_ne.2 (by omega)
  have g7 : (k != 7) = true := by rw [bne_iff_ne]; omega
  have HN : Hid (nodeB ⟨k, name, col, op, num, slot, cols⟩ = false) := by
    show nodeB ⟨k, name, col, op, num, slot, cols⟩ = false
    simp only [nodeB]
    rw [if_neg (by omega), if_neg (by omega), if_neg (by omega), if_neg (by omega), if_neg (by omega), if_neg (by omega), if_neg (by omega), if_neg (by omega)]
  clear hk
  rcases cols with _ | ⟨z, zs⟩
  · go_enter Tryz.func132, Tryz.ntmps132
    go_wp2_with (first
    | (go_at_call 97; refine (l01In_any _ _ _ _).mono ?_; rintro e w' ⟨rfl, rfl⟩)
    | (go_at_call 207; refine (l02Col_any _ _).mono ?_; rintro e w' ⟨rfl, rfl⟩)
    | (go_at_call 188; refine (l01Number_any _ _).mono ?_; rintro e w' ⟨rfl, rfl⟩)
    | (go_at_call 96; refine (specWordOk_any _ _ hs).mono ?_; rintro e w' ⟨rfl, rfl⟩))
    all_goals (go_ret; exact ⟨ret_bool HN.out.symm, (Below.refl _ _).alloc (Nat.le_refl _) _⟩)
  · have hp : 0 < (z :: zs).length := by simp
    have hq : (0 : Int) < ((z :: zs).length : Int) := by simp
    generalize (z :: zs).length = m at hp hq hl ⊢
    go_enter Tryz.func132, Tryz.ntmps132
    go_wp2_with (first
    | (go_at_call 97; refine (l01In_any _ _ _ _).mono ?_; rintro e w' ⟨rfl, rfl⟩)
    | (go_at_call 207; refine (l02Col_any _ _).mono ?_; rintro e w' ⟨rfl, rfl⟩)
    | (go_at_call 188; refine (l01Number_any _ _).mono ?_; rintro e w' ⟨rfl, rfl⟩)
    | (go_at_call 96; refine (specWordOk_any _ _ hs).mono ?_; rintro e w' ⟨rfl, rfl⟩))
    all_goals (go_ret; exact ⟨ret_bool HN.out.symm, (Below.refl _ _).alloc (Nat.le_refl _) _⟩)
end Go.Proofs.YtfpbhedophlnkaaGreatDoor
