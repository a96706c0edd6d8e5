/-
  Contract of spec.NodeOk at some of the kinds. For every node of them. Contract of spec.NodeOk at some of the kinds. For every node of them. Contract of spec.NodeOk at the kind keep. For every node of it. Contract of spec.NodeOk: it answers whether the node is one. For every node. Contracts of spec.PlanOk, spec.l02Good, spec.EndOf, spec.DepthOf, spec.CountKind. For every slice of nodes. A tree of the program in memory: a block of four cells for each node, the children behind a row of pointers. No program, no walk. append of one value of one cell to a row that the call itself made, or to nil. No walk.
-/
import Derived.Test.YtanfllednlpbaaaGreatM5x
import Derived.Test.YtanfllednlpbaaaGreatM2x
import Derived.Maps.AppendAt
import Derived.OwnWalk
import Derived.Test.YtanfllednlpbaaaGreatM1x
namespace Go.Proofs.YtanfllednlpbaaaGreat
open Go.RowKit
set_option linter.unusedSimpArgs false
set_option linter.unusedVariables false
set_option maxRecDepth 100000 in
set_option maxHeartbeats 4000000 in
theorem specNodeOk3 (name : ByteArray) (col op num : Int) (slot : Bool) (cols : List Int) (a : Option Addr) (c : Nat) (w : World) (hl : cols.length ≤ maxLen) (hs : name.size ≤ maxLen) :
    Calls Tryz.prog 131 #[.agg #[.int .i64 3, .string name, .int .i64 col, .int .i64 op, .int .i64 num, .bool slot, .slice a cols.length c]] w fun e w' => e = .returned (.bool (nodeB ⟨3, name, col, op, num, slot, cols⟩)) ∧ Below w.heap.size w w' := by
  unfold maxLen at hl
  rcases cols with _ | ⟨z, zs⟩
  · go_enter Tryz.func131, Tryz.ntmps131
    go_wp2_with (first
    | (go_at_call 72; refine (l01In_any _ _ _ _).mono ?_; rintro e w' ⟨rfl, rfl⟩)
    | (go_at_call 154; refine (l02Col_any _ _).mono ?_; rintro e w' ⟨rfl, rfl⟩)
    | (go_at_call 114; refine (l01Number_any _ _).mono ?_; rintro e w' ⟨rfl, rfl⟩)
    | (go_at_call 112; refine (specWordOk_any _ _ hs).mono ?_; rintro e w' ⟨rfl, rfl⟩))
    all_goals
      go_ret
      refine ⟨ret_bool ?_, (Below.refl _ _).alloc (Nat.le_refl _) _⟩
      first
        | (simp_all [nodeB, ByteArray.toList_eq]; done)
        | (simp_all [nodeB, ByteArray.toList_eq, numB, colB]; done)
        | (simp_all [nodeB, ByteArray.toList_eq, numB, colB]; omega)
  · have hp : 0 < (z :: zs).length := by simp
    have hq : (0 : Int) < ((z :: zs).length : Int) := by simp
    generalize (z :: zs).length = m at hp hq hl ⊢
    go_enter Tryz.func131, Tryz.ntmps131
    go_wp2_with (first
    | (go_at_call 72; refine (l01In_any _ _ _ _).mono ?_; rintro e w' ⟨rfl, rfl⟩)
    | (go_at_call 154; refine (l02Col_any _ _).mono ?_; rintro e w' ⟨rfl, rfl⟩)
    | (go_at_call 114; refine (l01Number_any _ _).mono ?_; rintro e w' ⟨rfl, rfl⟩)
    | (go_at_call 112; refine (specWordOk_any _ _ hs).mono ?_; rintro e w' ⟨rfl, rfl⟩))
    all_goals
      go_ret
      refine ⟨ret_bool ?_, (Below.refl _ _).alloc (Nat.le_refl _) _⟩
      first
        | (simp_all [nodeB, ByteArray.toList_eq]; done)
        | (simp_all [nodeB, ByteArray.toList_eq, numB, colB]; done)
        | (simp_all [nodeB, ByteArray.toList_eq, numB, colB]; omega)
set_option maxRecDepth 100000 in
set_option maxHeartbeats 4000000 in
theorem specNodeOk6 (name : ByteArray) (col op num : Int) (slot : Bool) (cols : List Int) (a : Option Addr) (c : Nat) (w : World) (hl : cols.length ≤ maxLen) (hs : name.size ≤ maxLen) :
    Calls Tryz.prog 131 #[.agg #[.int .i64 6, .string name, .int .i64 col, .int .i64 op, .int .i64 num, .bool slot, .slice a cols.length c]] w fun e w' => e = .returned (.bool (nodeB ⟨6, name, col, op, num, slot, cols⟩)) ∧ Below w.heap.size w w' := by
  unfold maxLen at hl
  rcases cols with _ | ⟨z, zs⟩
  · go_enter Tryz.func131, Tryz.ntmps131
    go_wp2_with (first
    | (go_at_call 72; refine (l01In_any _ _ _ _).mono ?_; rintro e w' ⟨rfl, rfl⟩)
    | (go_at_call 154; refine (l02Col_any _ _).mono ?_; rintro e w' ⟨rfl, rfl⟩)
    | (go_at_call 114; refine (l01Number_any _ _).mono ?_; rintro e w' ⟨rfl, rfl⟩)
    | (go_at_call 112; refine (specWordOk_any _ _ hs).mono ?_; rintro e w' ⟨rfl, rfl⟩))
    all_goals
      go_ret
      refine ⟨ret_bool ?_, (Below.refl _ _).alloc (Nat.le_refl _) _⟩
      first
        | (simp_all [nodeB, ByteArray.toList_eq]; done)
        | (simp_all [nodeB, ByteArray.toList_eq, numB, colB]; done)
        | (simp_all [nodeB, ByteArray.toList_eq, numB, colB]; omega)
  · have hp : 0 < (z :: zs).length := by simp
    have hq : (0 : Int) < ((z :: zs).length : Int) := by simp
    generalize (z :: zs).length = m at hp hq hl ⊢
    go_enter Tryz.func131, Tryz.ntmps131
    go_wp2_with (first
    | (go_at_call 72; refine (l01In_any _ _ _ _).mono ?_; rintro e w' ⟨rfl, rfl⟩)
    | (go_at_call 154; refine (l02Col_any _ _).mono ?_; rintro e w' ⟨rfl, rfl⟩)
    | (go_at_call 114; refine (l01Number_any _ _).mono ?_; rintro e w' ⟨rfl, rfl⟩)
    | (go_at_call 112; refine (specWordOk_any _ _ hs).mono ?_; rintro e w' ⟨rfl, rfl⟩))
    all_goals
      go_ret
      refine ⟨ret_bool ?_, (Below.refl _ _).alloc (Nat.le_refl _) _⟩
      first
        | (simp_all [nodeB, ByteArray.toList_eq]; done)
        | (simp_all [nodeB, ByteArray.toList_eq, numB, colB]; done)
        | (simp_all [nodeB, ByteArray.toList_eq, numB, colB]; omega)
set_option maxRecDepth 100000 in
set_option maxHeartbeats 4000000 in
theorem specNodeOkOut (k : Int) (hk : k < 0 ∨ 7 < k) (name : ByteArray) (col op num : Int) (slot : Bool) (cols : List Int) (a : Option Addr) (c : Nat) (w : World) (hl : cols.length ≤ maxLen) (hs : name.size ≤ maxLen) :
    Calls Tryz.prog 131 #[.agg #[.int .i64 k, .string name, .int .i64 col, .int .i64 op, .int .i64 num, .bool slot, .slice a cols.length c]] w fun e w' => e = .returned (.bool (nodeB ⟨k, name, col, op, num, slot, cols⟩)) ∧ Below w.heap.size w w' := by
  unfold maxLen at hl
  have h0 : (k == 0) = false := beq_eq_false_iff_ne.2 (by omega)
  have g0 : (k != 0) = true := by rw [bne_iff_ne]; omega
  have h1 : (k == 1) = false := beq_eq_false_iff_ne.2 (by omega)
  have g1 : (k != 1) = true := by rw [bne_iff_ne]; omega
  have h2 : (k == 2) = false := beq_eq_false_iff_ne.2 (by omega)
  have g2 : (k != 2) = true := by rw [bne_iff_ne]; omega
  have h3 : (k == 3) = false := beq_eq_false_iff_ne.2 (by omega)
  have g3 : (k != 3) = true := by rw [bne_iff_ne]; omega
  have h4 : (k == 4) = false := beq_eq_false_iff_ne.2 (by omega)
  have g4 : (k != 4) = true := by rw [bne_iff_ne]; omega
  have h5 : (k == 5) = false := beq_eq_false_iff_ne.2 (by omega)
  have g5 : (k != 5) = true := by rw [bne_iff_ne]; omega
  have h6 : (k == 6) = false := beq_eq_false_iff_ne.2 (by omega)
  have g6 : (k != 6) = true := by rw [bne_iff_ne]; omega
  have h7 : (k == 7) = false := beq_eq_false_iff_ne.2 (by omega)
  have g7 : (k != 7) = true := by rw [bne_iff_ne]; omega
  have HN : Hid (nodeB ⟨k, name, col, op, num, slot, cols⟩ = false) := by
    show nodeB ⟨k, name, col, op, num, slot, cols⟩ = false
    simp only [nodeB]
    rw [if_neg (by omega), if_neg (by omega), if_neg (by omega), if_neg (by omega), if_neg (by omega), if_neg (by omega), if_neg (by omega), if_neg (by omega)]
  clear hk
  rcases cols with _ | ⟨z, zs⟩
  · go_enter Tryz.func131, Tryz.ntmps131
    go_wp2_with (first
    | (go_at_call 72; refine (l01In_any _ _ _ _).mono ?_; rintro e w' ⟨rfl, rfl⟩)
    | (go_at_call 154; refine (l02Col_any _ _).mono ?_; rintro e w' ⟨rfl, rfl⟩)
    | (go_at_call 114; refine (l01Number_any _ _).mono ?_; rintro e w' ⟨rfl, rfl⟩)
    | (go_at_call 112; refine (specWordOk_any _ _ hs).mono ?_; rintro e w' ⟨rfl, rfl⟩))
    all_goals (go_ret; exact ⟨ret_bool HN.out.symm, (Below.refl _ _).alloc (Nat.le_refl _) _⟩)
  · have hp : 0 < (z :: zs).length := by simp
    have hq : (0 : Int) < ((z :: zs).length : Int) := by simp
    generalize (z :: zs).length = m at hp hq hl ⊢
    go_enter Tryz.func131, Tryz.ntmps131
    go_wp2_with (first
    | (go_at_call 72; refine (l01In_any _ _ _ _).mono ?_; rintro e w' ⟨rfl, rfl⟩)
    | (go_at_call 154; refine (l02Col_any _ _).mono ?_; rintro e w' ⟨rfl, rfl⟩)
    | (go_at_call 114; refine (l01Number_any _ _).mono ?_; rintro e w' ⟨rfl, rfl⟩)
    | (go_at_call 112; refine (specWordOk_any _ _ hs).mono ?_; rintro e w' ⟨rfl, rfl⟩))
    all_goals (go_ret; exact ⟨ret_bool HN.out.symm, (Below.refl _ _).alloc (Nat.le_refl _) _⟩)
theorem all_take {l : List Int} {k : Nat} {z : Int} (ht : l.take (k + 1) = l.take k ++ [z]) (ha : (l.take k).all colB = true) (hz : colB z = true) : (l.take (k + 1)).all colB = true := by
  rw [ht, List.all_append, ha]; simp [hz]
theorem all_no {l : List Int} {z : Int} (hm : z ∈ l) (hz : colB z = false) : l.all colB = false := by
  rw [List.all_eq_false]; exact ⟨z, hm, by simp [hz]⟩
set_option maxRecDepth 100000 in
set_option maxHeartbeats 4000000 in
theorem specNodeOk2 (name : ByteArray) (col op num : Int) (slot : Bool) (cols : List Int) (a : Option Addr) (c : Nat) (w : World) (h : Rd w .i64 a cols) (hl : cols.length ≤ maxLen) (hs : name.size ≤ maxLen) :
    Calls Tryz.prog 131 #[.agg #[.int .i64 2, .string name, .int .i64 col, .int .i64 op, .int .i64 num, .bool slot, .slice a cols.length c]] w fun e w' => e = .returned (.bool (nodeB ⟨2, name, col, op, num, slot, cols⟩)) ∧ Below w.heap.size w w' := by
  have H := Lib.hid h; clear h
  unfold maxLen at hl
  by_cases h1 : ¬ name.toList = []
  · have HN : Hid (nodeB ⟨2, name, col, op, num, slot, cols⟩ = false) := by
      show nodeB ⟨2, name, col, op, num, slot, cols⟩ = false
      simp_all [nodeB, ByteArray.toList_eq]
    go_enter Tryz.func131, Tryz.ntmps131
    go_wp2_with fail
    go_ret
    exact ⟨ret_bool HN.out.symm, (Below.refl _ _).alloc (Nat.le_refl _) _⟩
  have h1 : name.toList = [] := Classical.not_not.1 h1
  by_cases h2 : ¬ op = 0
  · have HN : Hid (nodeB ⟨2, name, col, op, num, slot, cols⟩ = false) := by
      show nodeB ⟨2, name, col, op, num, slot, cols⟩ = false
      simp_all [nodeB]
    have h3 : (op != 0) = true := by rw [bne_iff_ne]; exact h2
    clear h2
    go_enter Tryz.func131, Tryz.ntmps131
    go_wp2_with fail
    go_ret
    exact ⟨ret_bool HN.out.symm, (Below.refl _ _).alloc (Nat.le_refl _) _⟩
  obtain rfl : op = 0 := Classical.not_not.1 h2
  clear h2
  cases slot with
  | true =>
    have HN : Hid (nodeB ⟨2, name, col, 0, num, true, cols⟩ = false) := by
      show nodeB ⟨2, name, col, 0, num, true, cols⟩ = false
      simp [nodeB]
    by_cases h4 : 0 ≤ num ∧ num ≤ 39
    · obtain ⟨h5, h6⟩ := h4
      go_enter Tryz.func131, Tryz.ntmps131
      go_wp2_with (go_at_call 72; refine (l01In_any _ _ _ _).mono ?_; rintro e w' ⟨rfl, rfl⟩)
      go_loop [3] (fun i => ∃ k : Nat, k ≤ cols.length ∧ i = .int .i64 k) (fun i => cols.length - (intOf i).toNat)
      case atStart => exact ⟨0, Nat.zero_le _, rfl⟩
      case round =>
        obtain ⟨k, hk, rfl⟩ := hrel
        by_cases hlt : k < cols.length
        · obtain ⟨b, off, rfl, hc⟩ : ∃ b off, a = some ⟨b, off, none⟩ ∧ ∀ i, i < cols.length → w.cell? ⟨b, off + i, none⟩ = some (.int .i64 (cols.getD i 0)) := by
            rcases H.out with rfl | h'
            · simp at hlt
            · exact h'
          obtain ⟨z, hm, _, hcz, ht⟩ := Rd.at_ hc hlt
          have hb : b < w.heap.size := World.block_lt_of_cell? w ⟨b, off + k, none⟩ hcz
          clear hc ht hm
          cases hz : colB z with
          | true =>
            have Z := Lib.hid hz; clear hz
            go_wp2_with (go_at_call 154; refine (l02Col_any _ _).mono ?_; rintro e w' ⟨rfl, rfl⟩; rw [Z.out])
            go_round
            case rel => exact ⟨k + 1, by omega, by go_num⟩
            case measure => simp [intOf]; omega
          | false =>
            have Z := Lib.hid hz; clear hz
            go_wp2_with (go_at_call 154; refine (l02Col_any _ _).mono ?_; rintro e w' ⟨rfl, rfl⟩; rw [Z.out])
            go_ret
            exact ⟨ret_bool HN.out.symm, (Below.refl _ _).alloc (Nat.le_refl _) _⟩
        · go_wp2_with (go_at_call 72; refine (l01In_any _ _ _ _).mono ?_; rintro e w' ⟨rfl, rfl⟩)
          all_goals (go_ret; exact ⟨ret_bool HN.out.symm, (Below.refl _ _).alloc (Nat.le_refl _) _⟩)
    · have h5 : (decide (0 ≤ num) && decide (num ≤ 39)) = false := by simp; omega
      have H5 := Lib.hid h5; clear h5 h4
      go_enter Tryz.func131, Tryz.ntmps131
      go_wp2_with (go_at_call 72; refine (l01In_any _ _ _ _).mono ?_; rintro e w' ⟨rfl, rfl⟩; rw [H5.out])
      go_ret
      exact ⟨ret_bool HN.out.symm, (Below.refl _ _).alloc (Nat.le_refl _) _⟩
  | false =>
    go_enter Tryz.func131, Tryz.ntmps131
    go_wp2_with fail
    go_loop [3] (fun i => ∃ k : Nat, k ≤ cols.length ∧ i = .int .i64 k ∧ (cols.take k).all colB = true) (fun i => cols.length - (intOf i).toNat)
    case atStart => exact ⟨0, Nat.zero_le _, rfl, rfl⟩
    case round =>
      obtain ⟨k, hk, rfl, hall⟩ := hrel
      have HA := Lib.hid hall; clear hall
      by_cases hlt : k < cols.length
      · obtain ⟨b, off, rfl, hc⟩ : ∃ b off, a = some ⟨b, off, none⟩ ∧ ∀ i, i < cols.length → w.cell? ⟨b, off + i, none⟩ = some (.int .i64 (cols.getD i 0)) := by
          rcases H.out with rfl | h'
          · simp at hlt
          · exact h'
        obtain ⟨z, hm, _, hcz, ht⟩ := Rd.at_ hc hlt
        have hb : b < w.heap.size := World.block_lt_of_cell? w ⟨b, off + k, none⟩ hcz
        have HT := Lib.hid ht
        have HM := Lib.hid hm
        clear hc ht hm
        cases hz : colB z with
        | true =>
          have Z := Lib.hid hz; clear hz
          go_wp2_with (go_at_call 154; refine (l02Col_any _ _).mono ?_; rintro e w' ⟨rfl, rfl⟩; rw [Z.out])
          go_round
          case rel => exact ⟨k + 1, by omega, by go_num, all_take HT.out HA.out Z.out⟩
          case measure => simp [intOf]; omega
        | false =>
          have Z := Lib.hid hz; clear hz
          have HN : Hid (nodeB ⟨2, name, col, 0, num, false, cols⟩ = false) := by
            show nodeB ⟨2, name, col, 0, num, false, cols⟩ = false
            simp [nodeB, all_no HM.out Z.out]
          go_wp2_with (go_at_call 154; refine (l02Col_any _ _).mono ?_; rintro e w' ⟨rfl, rfl⟩; rw [Z.out])
          go_ret
          exact ⟨ret_bool HN.out.symm, (Below.refl _ _).alloc (Nat.le_refl _) _⟩
      · have hall : cols.all colB = true := by have := HA.out; rwa [List.take_of_length_le (by omega)] at this
        have HN : Hid (nodeB ⟨2, name, col, 0, num, false, cols⟩ = decide (1 ≤ cols.length ∧ cols.length ≤ 6 ∧ col = 0 ∧ num = 0)) := by
          show nodeB ⟨2, name, col, 0, num, false, cols⟩ = decide (1 ≤ cols.length ∧ cols.length ≤ 6 ∧ col = 0 ∧ num = 0)
          rw [ByteArray.toList_eq] at h1
          simp only [nodeB, hall, h1, Int.reduceEq, if_false, if_true]
          rw [Bool.eq_iff_iff]; simp; omega
        clear hall
        go_wp2_with (go_at_call 72; refine (l01In_any _ _ _ _).mono ?_; rintro e w' ⟨rfl, rfl⟩)
        all_goals
          go_ret
          refine ⟨ret_bool (Eq.trans ?_ HN.out.symm), (Below.refl _ _).alloc (Nat.le_refl _) _⟩
          clear HN HA H
          first
            | (simp_all; done)
            | (simp_all; omega)
theorem specNodeOk_any (n : Nd) (a : Option Addr) (c : Nat) (w : World) (h : Rd w .i64 a n.cols) (hl : n.cols.length ≤ maxLen) (hs : n.name.size ≤ maxLen) :
    Calls Tryz.prog 131 #[.agg #[.int .i64 n.kind, .string n.name, .int .i64 n.col, .int .i64 n.op, .int .i64 n.num, .bool n.slot, .slice a n.cols.length c]] w fun e w' => e = .returned (.bool (nodeB n)) ∧ Below w.heap.size w w' := by
  obtain ⟨k, name, col, op, num, slot, cols⟩ := n
  rcases kind_ways k with rfl | rfl | rfl | rfl | rfl | rfl | rfl | rfl | hk
  · exact specNodeOk0 name col op num slot cols a c w hl hs
  · exact specNodeOk1 name col op num slot cols a c w hl hs
  · exact specNodeOk2 name col op num slot cols a c w h hl hs
  · exact specNodeOk3 name col op num slot cols a c w hl hs
  · exact specNodeOk4 name col op num slot cols a c w hl hs
  · exact specNodeOk5 name col op num slot cols a c w hl hs
  · exact specNodeOk6 name col op num slot cols a c w hl hs
  · exact specNodeOk7 name col op num slot cols a c w hl hs
  · exact specNodeOkOut k hk name col op num slot cols a c w hl hs
set_option maxRecDepth 100000 in
set_option maxHeartbeats 1600000 in
theorem specPlanOk_any (ao : Option Addr) (c : Nat) (p : List Nd) (w : World) (h : RdN w ao p) (hp : p.length ≤ 1048576) :
    Calls Tryz.prog 101 #[.slice ao p.length c] w fun e w' => e = .returned (.bool (planB p)) ∧ Below w.heap.size w w' := by
  have H := Lib.hid h; clear h
  by_cases hlen : 1 ≤ p.length ∧ p.length ≤ 40
  · obtain ⟨h1, h2⟩ := hlen
    have h3 : (1 : Int) ≤ p.length := by omega
    have h4 : (p.length : Int) ≤ 40 := by omega
    have E := Lib.hid (fun wr (hr : RdN wr ao p) => specEnd_any ao c p hp 10 0 10 wr hr (by omega) (by omega) (by omega) (by omega) (by omega))
    go_enter Tryz.func101, Tryz.ntmps101
    go_wp2_with (go_at_call 72; refine (l01In_any _ _ _ _).mono ?_; rintro e w' ⟨rfl, rfl⟩)
    go_loopw [3] (fun i wr => ∃ j : Nat, j ≤ p.length ∧ i = .int .i64 j ∧ (∀ (i : Nat) (n : Nd), i < j → p[i]? = some n → nodeB n = true) ∧ Below w.heap.size w wr) (fun i _ => p.length - (intOf i).toNat)
    case atStart => exact ⟨0, Nat.zero_le _, rfl, fun i n hi => absurd hi (Nat.not_lt_zero _), Below.refl _ _⟩
    case round =>
      obtain ⟨j, hj, rfl, hall, hb⟩ := hrel
      have HA := Lib.hid hall; clear hall
      have HB := Lib.hid hb
      by_cases hlt : j < p.length
      · obtain ⟨b, off, n, a, c', rfl, hn, hat⟩ := (H.out.below hb).at_ hlt
        have HN := Lib.hid hn; clear hn hb
        obtain ⟨c0, c1, c2, c3, c4, c5, c6, rd, cap, mx, nm⟩ := hat
        have RD := Lib.hid rd
        have cl := Nat.le_trans cap mx
        clear rd cap mx
        have NK := Lib.hid (fun w => specNodeOk_any n a c' w)
        go_wp2_with fail
        refine (NK.out _ RD.out cl nm).mono ?_
        rintro e w1 ⟨rfl, b1⟩
        have T1 := Lib.hid (below_step HB.out (Nat.le_refl _) b1)
        clear b1
        cases hnb : nodeB n with
        | true =>
          have NB := Lib.hid hnb; clear hnb
          go_wp2_with fail
          go_roundw
          case rel => exact ⟨j + 1, by omega, by go_num, fun i m hi hm => by
            by_cases hij : i = j
            · subst hij; rw [HN.out] at hm; cases hm; exact NB.out
            · exact HA.out i m (by omega) hm, T1.out⟩
          case measure => simp [intOf]; omega
        | false =>
          have F := Lib.hid (planB_node (List.mem_of_getElem? HN.out) hnb)
          clear hnb
          go_wp2_with fail
          go_ret
          exact ⟨ret_bool F.out.symm, T1.out⟩
      · have hall : ∀ n ∈ p, nodeB n = true := by
          intro n hn
          obtain ⟨i, hi, rfl⟩ := List.mem_iff_getElem.1 hn
          exact HA.out i _ (by omega) (List.getElem?_eq_getElem hi)
        have F := Lib.hid (planB_spec p h2 hall)
        have R := Lib.hid (H.out.below hb)
        clear hall hb
        go_wp2_with fail
        refine (E.out _ R.out).mono ?_
        rintro e w' ⟨rfl, rfl⟩
        cases he : endN p 10 (0 : Int).toNat with
        | none =>
          have he' : endN p 10 0 = none := he
          have F2 := Lib.hid (show planB p = false by rw [F.out, he']; rfl)
          simp only [endV]
          clear he he'
          have h5 : ((-1 : Int) == (p.length : Int)) = false := beq_eq_false_iff_ne.2 (by omega)
          go_wp2_with fail
          go_ret
          exact ⟨ret_bool F2.out.symm, HB.out⟩
        | some x =>
          obtain ⟨e1, d1⟩ := x
          have he' : endN p 10 0 = some (e1, d1) := he
          have F2 := Lib.hid (show planB p = decide (e1 = p.length) by rw [F.out, he']; simp)
          simp only [endV]
          clear he he'
          by_cases hee : e1 = p.length
          · have h5 : ((e1 : Int) == (p.length : Int)) = true := beq_iff_eq.2 (by omega)
            have F3 := Lib.hid (show planB p = true by rw [F2.out]; simp [hee])
            clear hee
            go_wp2_with fail
            go_ret
            exact ⟨ret_bool F3.out.symm, HB.out⟩
          · have h5 : ((e1 : Int) == (p.length : Int)) = false := beq_eq_false_iff_ne.2 (by omega)
            have F3 := Lib.hid (show planB p = false by rw [F2.out]; simp [hee])
            clear hee
            go_wp2_with fail
            go_ret
            exact ⟨ret_bool F3.out.symm, HB.out⟩
  · have HF := Lib.hid (planB_len (p := p) (by omega))
    have h3 : (decide ((1 : Int) ≤ p.length) && decide ((p.length : Int) ≤ 40)) = false := by simp; omega
    have H3 := Lib.hid h3; clear h3 hlen
    go_enter Tryz.func101, Tryz.ntmps101
    go_wp2_with (go_at_call 72; refine (l01In_any _ _ _ _).mono ?_; rintro e w' ⟨rfl, rfl⟩; rw [H3.out])
    go_ret
    exact ⟨ret_bool HF.out.symm, Below.refl _ _⟩
def goodB (p : List Nd) (k : Int) : Bool := planB p && (decide (0 ≤ k) && decide (k ≤ (p.length : Int) - 1))
set_option maxHeartbeats 800000 in
theorem specGood_any (ao : Option Addr) (c : Nat) (p : List Nd) (k : Int) (w : World) (h : RdN w ao p) (hp : p.length ≤ 1048576) :
    Calls Tryz.prog 54 #[.slice ao p.length c, .int .i64 k] w fun e w' => e = .returned (.bool (goodB p k)) ∧ Below w.heap.size w w' := by
  have H := Lib.hid h; clear h
  cases hb : planB p with
  | true =>
    have HB := Lib.hid hb; clear hb
    have F := Lib.hid (show goodB p k = (decide (0 ≤ k) && decide (k ≤ (p.length : Int) - 1)) by simp [goodB, HB.out])
    go_enter Tryz.func54, Tryz.ntmps54
    go_wp2_with fail
    refine (specPlanOk_any ao c p _ H.out hp).mono ?_
    rintro e w1 ⟨rfl, b1⟩
    rw [HB.out]
    go_wp2_with fail
    refine (l01In_any _ _ _ _).mono ?_
    rintro e w' ⟨rfl, rfl⟩
    go_wp2_with fail
    go_ret
    exact ⟨ret_bool F.out.symm, b1⟩
  | false =>
    have HB := Lib.hid hb; clear hb
    have F := Lib.hid (show goodB p k = false by simp [goodB, HB.out])
    go_enter Tryz.func54, Tryz.ntmps54
    go_wp2_with fail
    refine (specPlanOk_any ao c p _ H.out hp).mono ?_
    rintro e w1 ⟨rfl, b1⟩
    rw [HB.out]
    go_wp2_with fail
    go_ret
    exact ⟨ret_bool F.out.symm, b1⟩
def Hd (w : World) (lo hi b : Nat) (n : Nd) (pl en : Nat) (below : Value) : Prop :=
  lo ≤ b ∧ b < hi ∧ ∃ a c, w.cell? ⟨b, 0, none⟩ = some (kindV n a c) ∧ w.cell? ⟨b, 1, none⟩ = some (.int .i64 pl) ∧ w.cell? ⟨b, 2, none⟩ = some (.int .i64 en) ∧ w.cell? ⟨b, 3, none⟩ = some below
def TrAt (w : World) (lo hi : Nat) : Tr → Nat → Prop
  | .t0 n pl en, b => Hd w lo hi b n pl en (.slice none 0 0)
  | .t1 n pl en c, b => ∃ g cap bc, Hd w lo hi b n pl en (.slice (some ⟨g, 0, none⟩) 1 cap) ∧ (lo ≤ g ∧ g < hi) ∧ w.cell? ⟨g, 0, none⟩ = some (.pointer (some ⟨bc, 0, none⟩)) ∧ TrAt w lo hi c bc
  | .t2 n pl en c d, b => ∃ g cap bc bd, Hd w lo hi b n pl en (.slice (some ⟨g, 0, none⟩) 2 cap) ∧ (lo ≤ g ∧ g < hi) ∧ w.cell? ⟨g, 0, none⟩ = some (.pointer (some ⟨bc, 0, none⟩)) ∧ w.cell? ⟨g, 1, none⟩ = some (.pointer (some ⟨bd, 0, none⟩)) ∧ TrAt w lo hi c bc ∧ TrAt w lo hi d bd
theorem Hd.keep {w w' : World} {lo hi b : Nat} {n : Nd} {pl en : Nat} {v : Value} (h : Hd w lo hi b n pl en v) (hk : ∀ p : Addr, lo ≤ p.block → p.block < hi → w'.cell? p = w.cell? p) : Hd w' lo hi b n pl en v := by
  obtain ⟨h1, h2, a, c, c0, c1, c2, c3⟩ := h
  exact ⟨h1, h2, a, c, (hk _ h1 h2).trans c0, (hk _ h1 h2).trans c1, (hk _ h1 h2).trans c2, (hk _ h1 h2).trans c3⟩
theorem TrAt.keep {w w' : World} {lo hi : Nat} (hk : ∀ p : Addr, lo ≤ p.block → p.block < hi → w'.cell? p = w.cell? p) : ∀ (T : Tr) (b : Nat), TrAt w lo hi T b → TrAt w' lo hi T b
  | .t0 n pl en, b, h => Hd.keep h hk
  | .t1 n pl en c, b, ⟨g, cap, bc, h1, h2, h3, h4⟩ => ⟨g, cap, bc, h1.keep hk, h2, (hk _ h2.1 h2.2).trans h3, TrAt.keep hk c bc h4⟩
  | .t2 n pl en c d, b, ⟨g, cap, bc, bd, h1, h2, h3, h4, h5, h6⟩ => ⟨g, cap, bc, bd, h1.keep hk, h2, (hk _ h2.1 h2.2).trans h3, (hk _ h2.1 h2.2).trans h4, TrAt.keep hk c bc h5, TrAt.keep hk d bd h6⟩
theorem Hd.wide {w : World} {lo hi lo' hi' b : Nat} {n : Nd} {pl en : Nat} {v : Value} (h : Hd w lo hi b n pl en v) (h1 : lo' ≤ lo) (h2 : hi ≤ hi') : Hd w lo' hi' b n pl en v :=
  ⟨Nat.le_trans h1 h.1, Nat.lt_of_lt_of_le h.2.1 h2, h.2.2⟩
theorem TrAt.wide {w : World} {lo hi lo' hi' : Nat} (h1 : lo' ≤ lo) (h2 : hi ≤ hi') : ∀ (T : Tr) (b : Nat), TrAt w lo hi T b → TrAt w lo' hi' T b
  | .t0 n pl en, b, h => Hd.wide h h1 h2
  | .t1 n pl en c, b, ⟨g, cap, bc, k1, k2, k3, k4⟩ => ⟨g, cap, bc, k1.wide h1 h2, ⟨Nat.le_trans h1 k2.1, Nat.lt_of_lt_of_le k2.2 h2⟩, k3, TrAt.wide h1 h2 c bc k4⟩
  | .t2 n pl en c d, b, ⟨g, cap, bc, bd, k1, k2, k3, k4, k5, k6⟩ => ⟨g, cap, bc, bd, k1.wide h1 h2, ⟨Nat.le_trans h1 k2.1, Nat.lt_of_lt_of_le k2.2 h2⟩, k3, k4, TrAt.wide h1 h2 c bc k5, TrAt.wide h1 h2 d bd k6⟩
theorem TrAt.below {w w' : World} {lo hi : Nat} {T : Tr} {b : Nat} (h : TrAt w lo hi T b) (hh : hi ≤ w.heap.size) (hb : Below w.heap.size w w') : TrAt w' lo hi T b :=
  TrAt.keep (fun _ _ hp => hb.cell (Nat.lt_of_lt_of_le hp hh)) T b h
theorem TrAt.head {w : World} {lo hi : Nat} {T : Tr} {b : Nat} (h : TrAt w lo hi T b) : ∃ v, Hd w lo hi b T.nd T.pl T.en v := by
  cases T with
  | t0 n pl en => exact ⟨_, h⟩
  | t1 n pl en c => obtain ⟨g, cap, bc, h1, _⟩ := h; exact ⟨_, h1⟩
  | t2 n pl en c d => obtain ⟨g, cap, bc, bd, h1, _⟩ := h; exact ⟨_, h1⟩
theorem TrAt.lt {w : World} {lo hi : Nat} {T : Tr} {b : Nat} (h : TrAt w lo hi T b) : lo ≤ b ∧ b < hi := by
  obtain ⟨v, h1, h2, _⟩ := h.head; exact ⟨h1, h2⟩
theorem kindV_iface {n : Nd} (h : nodeB n = true) (a : Option Addr) (c : Nat) : ∃ t v, kindV n a c = .iface t v := by
  have := kind_of_nodeB h
  have hc : n.kind = 0 ∨ n.kind = 1 ∨ n.kind = 2 ∨ n.kind = 3 ∨ n.kind = 4 ∨ n.kind = 5 ∨ n.kind = 6 ∨ n.kind = 7 := by omega
  unfold kindV
  rcases hc with h | h | h | h | h | h | h | h <;> rw [h] <;> exact ⟨_, _, rfl⟩
def OwnV (w : World) (base : Nat) (e : TypeId) (ao : Option Addr) (c : Nat) (xs : List Value) : Prop :=
  w.ownsRow base e 1 (.slice ao xs.length c) xs.length xs
section
variable {w w' : World} {base : Nat} {e : TypeId} {ao : Option Addr} {c : Nat} {xs : List Value}
theorem OwnV.none_ : OwnV w base e none 0 [] := World.ownsRow_nil _ _ _ _
theorem OwnV.form (h : OwnV w base e ao c xs) : (ao = none ∧ c = 0 ∧ xs = []) ∨ ∃ g, ao = some ⟨g, 0, none⟩ ∧ base ≤ g ∧ g < w.heap.size := by
  rcases h.2 with ⟨hv, hn⟩ | ⟨g, cap, cur, hv, hb, hg, _⟩
  · simp only [Value.slice.injEq] at hv
    exact .inl ⟨hv.1, hv.2.2, List.eq_nil_of_length_eq_zero hn⟩
  · simp only [Value.slice.injEq] at hv
    refine .inr ⟨g, hv.1, hb, ?_⟩
    rcases Nat.lt_or_ge g w.heap.size with hlt | hge
    · exact hlt
    · rw [Array.getElem?_eq_none hge] at hg; cases hg
theorem OwnV.lt (h : OwnV w base e ao c xs) : ∀ a, ao = some a → base ≤ a.block ∧ a.block < w.heap.size := by
  rcases h.form with ⟨rfl, _⟩ | ⟨g, rfl, h1, h2⟩
  · intro a ha; cases ha
  · intro a ha; cases ha; exact ⟨h1, h2⟩
theorem OwnV.cell {g : Nat} (h : OwnV w base e (some ⟨g, 0, none⟩) c xs) (i : Nat) (hi : i < xs.length) : w.cell? ⟨g, i, none⟩ = xs[i]? := World.ownsRow.cellAt h i (by omega)
theorem OwnV.keep (h : OwnV w base e ao c xs) (hk : ∀ a : Addr, ao = some a → a.block < w.heap.size → w'.heap[a.block]? = w.heap[a.block]?) : OwnV w' base e ao c xs := by
  refine ⟨h.1, ?_⟩
  have hl := h.lt
  rcases h.2 with h2 | ⟨g, cap, cur, hv, hb, hg, r⟩
  · exact .inl h2
  · refine .inr ⟨g, cap, cur, hv, hb, ?_, r⟩
    simp only [Value.slice.injEq] at hv
    rw [hk _ hv.1 (hl _ hv.1).2]; exact hg
theorem OwnV.below (h : OwnV w base e ao c xs) (hb : Below w.heap.size w w') : OwnV w' base e ao c xs := h.keep fun _ _ hlt => hb.block _ hlt
theorem OwnV.alloc (h : OwnV w base e ao c xs) (o : Obj) : OwnV (w.alloc o) base e ao c xs := h.below ((Below.refl _ _).alloc (Nat.le_refl _) o)
theorem OwnV.far (h : OwnV w base e ao c xs) {p : Addr} (hp : ∀ x, ao = some x → x.block ≠ p.block) (u : Value) : OwnV (w.setCell p u) base e ao c xs :=
  h.keep fun a ha _ => Below.heap_setCell w p u a.block (hp a ha)
theorem OwnV.base_le {base' : Nat} (h : OwnV w base e ao c xs) (hb : base' ≤ base) : OwnV w base' e ao c xs := by
  refine ⟨h.1, ?_⟩
  rcases h.2 with h2 | ⟨g, cap, cur, hv, hg, r⟩
  · exact .inl h2
  · exact .inr ⟨g, cap, cur, hv, Nat.le_trans hb hg, r⟩
end
theorem wpList_appendV {P : Program} (w : World) {ops : Array Oper} {rest : List Oper} {o : Oper} {a : Act} {Q : Exit → Act → World → Prop} (hgd : o.guard = none) (s x : Operand) (t : TypeId)
    (ho : o.op = .call { callee := .builtin .append, args := #[s, x], argTypes := #[t, t] }) (base : Nat) (e : TypeId) (z : Value) (bytes : Nat) (ht : P.underlying t = some (.slice e))
    (hi : (P.info? e).map (fun i => (i.zero, i.size, i.bytes)) = some (some z, 1, bytes)) (hzs : z.cells.size = 1)
    (ao : Option Addr) (c n : Nat) (xs : List Value) (hs : a.eval s = .slice ao n c) (hn : n = xs.length) (hown : OwnV w base e ao c xs)
    (bl cx : Nat) (v : Value) (hx : a.eval x = .slice (some ⟨bl, 0, none⟩) 1 cx) (hv : w.cell? ⟨bl, 0, none⟩ = some v) (hv1 : v.oneCell' = true)
    (h63 : xs.length + 1 ≤ maxLen) (hby : (xs.length + 1) * bytes ≤ 140737488355328) (hbase : base ≤ w.heap.size)
    (h : ∀ ao' c' w', OwnV w' base e ao' c' (xs ++ [v]) → w.grownBy w' (ao.map (·.block)) → (ao' = ao ∨ ao' = some ⟨w.heap.size, 0, none⟩) → wpList P ops Q rest (a.put o.dst (.slice ao' (xs.length + 1) c')) w') :
    wpList P ops Q (o :: rest) a w := by
  obtain ⟨i, hi0, hz0, hz1, hz2⟩ := info_parts hi
  subst hn
  refine wpList_append_own_at w hgd s x t ho base e i z 1 bytes ht hi0 hz0 hz1 hz2 hzs (by omega) _ xs.length xs hs hown ⟨bl, 0, none⟩ 1 cx [v] hx rfl ?_ ?_ h63 hby hbase ?_
  · intro j u hj
    match j, hj with
    | 0, hj => simp at hj; subst hj; simpa [Addr.add] using hv
  · intro u hu; simp at hu; subst hu; exact hv1
  · intro v' w' ho' hg' _ hblk
    have hg2 : w.grownBy w' (ao.map (·.block)) := by
      cases ao with
      | none => exact hg'
      | some x => exact hg'
    have hlen : (xs ++ [v]).length = xs.length + 1 := by simp
    rcases ho'.2 with ⟨rfl, hz⟩ | ⟨g, cap, cur, rfl, r⟩
    · omega
    · refine h _ _ _ (by unfold OwnV; rw [hlen]; exact ho') hg2 ?_
      rcases hblk with hb | hb
      · cases ao with
        | none => simp [Value.ownBlock] at hb
        | some x =>
          left
          rcases hown.form with ⟨hh, _⟩ | ⟨g', hh, _⟩
          · cases hh
          · cases hh
            simp [Value.ownBlock] at hb
            rw [hb]
      · right; simp [Value.ownBlock] at hb; rw [hb]
end Go.Proofs.YtanfllednlpbaaaGreat
