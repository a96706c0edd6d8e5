/-
  Contract of spec.NodeOk at some of the kinds. For every node of them. Contract of spec.NodeOk at some of the kinds. For every node of them. Contract of spec.NodeOk at some of the kinds. For every node of them. Contract of spec.NodeOk at some of the kinds. For every node of them. Contract of spec.NodeOk at some of the kinds. For every node of them. Contract of spec.NodeOk at the kind keep. For every node of it. Contract of spec.NodeOk: it answers whether the node is one. For every node. Contracts of spec.PlanOk, spec.l02Good, spec.EndOf, spec.DepthOf, spec.CountKind. For every slice of nodes.
-/
import Derived.Test.YtanfllednlpbaaaGreatJ11x
namespace Go.Proofs.YtanfllednlpbaaaGreat
open Go.RowKit
set_option linter.unusedSimpArgs false
set_option linter.unusedVariables false

set_option maxRecDepth 100000 in
set_option maxHeartbeats 4000000 in
theorem specNodeOk4 (name : ByteArray) (col op num : Int) (slot : Bool) (cols : List Int) (a : Option Addr) (c : Nat) (w : World) (hl : cols.length ≤ maxLen) (hs : name.size ≤ maxLen) :
    Calls Tryz.prog 131 #[.agg #[.int .i64 4, .string name, .int .i64 col, .int .i64 op, .int .i64 num, .bool slot, .slice a cols.length c]] w fun e w' => e = .returned (.bool (nodeB ⟨4, name, col, op, num, slot, cols⟩)) ∧ Below w.heap.size w w' := by
  unfold maxLen at hl
  rcases cols with _ | ⟨z, zs⟩
  · go_enter Tryz.func131, Tryz.ntmps131
    go_wp2_with (first
    | (go_at_call 72; refine (l01In_any _ _ _ _).mono ?_; rintro e w' ⟨rfl, rfl⟩)
    | (go_at_call 154; refine (l02Col_any _ _).mono ?_; rintro e w' ⟨rfl, rfl⟩)
    | (go_at_call 114; refine (l01Number_any _ _).mono ?_; rintro e w' ⟨rfl, rfl⟩)
    | (go_at_call 112; refine (specWordOk_any _ _ hs).mono ?_; rintro e w' ⟨rfl, rfl⟩))
    all_goals
      go_ret
      refine ⟨ret_bool ?_, (Below.refl _ _).alloc (Nat.le_refl _) _⟩
      first
        | (simp_all [nodeB, ByteArray.toList_eq]; done)
        | (simp_all [nodeB, ByteArray.toList_eq, numB, colB]; done)
        | (simp_all [nodeB, ByteArray.toList_eq, numB, colB]; omega)
  · have hp : 0 < (z :: zs).length := by simp
    have hq : (0 : Int) < ((z :: zs).length : Int) := by simp
    generalize (z :: zs).length = m at hp hq hl ⊢
    go_enter Tryz.func131, Tryz.ntmps131
    go_wp2_with (first
    | (go_at_call 72; refine (l01In_any _ _ _ _).mono ?_; rintro e w' ⟨rfl, rfl⟩)
    | (go_at_call 154; refine (l02Col_any _ _).mono ?_; rintro e w' ⟨rfl, rfl⟩)
    | (go_at_call 114; refine (l01Number_any _ _).mono ?_; rintro e w' ⟨rfl, rfl⟩)
    | (go_at_call 112; refine (specWordOk_any _ _ hs).mono ?_; rintro e w' ⟨rfl, rfl⟩))
    all_goals
      go_ret
      refine ⟨ret_bool ?_, (Below.refl _ _).alloc (Nat.le_refl _) _⟩
      first
        | (simp_all [nodeB, ByteArray.toList_eq]; done)
        | (simp_all [nodeB, ByteArray.toList_eq, numB, colB]; done)
        | (simp_all [nodeB, ByteArray.toList_eq, numB, colB]; omega)

set_option maxRecDepth 100000 in
set_option maxHeartbeats 4000000 in
theorem specNodeOk7 (name : ByteArray) (col op num : Int) (slot : Bool) (cols : List Int) (a : Option Addr) (c : Nat) (w : World) (hl : cols.length ≤ maxLen) (hs : name.size ≤ maxLen) :
    Calls Tryz.prog 131 #[.agg #[.int .i64 7, .string name, .int .i64 col, .int .i64 op, .int .i64 num, .bool slot, .slice a cols.length c]] w fun e w' => e = .returned (.bool (nodeB ⟨7, name, col, op, num, slot, cols⟩)) ∧ Below w.heap.size w w' := by
  unfold maxLen at hl
  rcases cols with _ | ⟨z, zs⟩
  · go_enter Tryz.func131, Tryz.ntmps131
    go_wp2_with (first
    | (go_at_call 72; refine (l01In_any _ _ _ _).mono ?_; rintro e w' ⟨rfl, rfl⟩)
    | (go_at_call 154; refine (l02Col_any _ _).mono ?_; rintro e w' ⟨rfl, rfl⟩)
    | (go_at_call 114; refine (l01Number_any _ _).mono ?_; rintro e w' ⟨rfl, rfl⟩)
    | (go_at_call 112; refine (specWordOk_any _ _ hs).mono ?_; rintro e w' ⟨rfl, rfl⟩))
    all_goals
      go_ret
      refine ⟨ret_bool ?_, (Below.refl _ _).alloc (Nat.le_refl _) _⟩
      first
        | (simp_all [nodeB, ByteArray.toList_eq]; done)
        | (simp_all [nodeB, ByteArray.toList_eq, numB, colB]; done)
        | (simp_all [nodeB, ByteArray.toList_eq, numB, colB]; omega)
  · have hp : 0 < (z :: zs).length := by simp
    have hq : (0 : Int) < ((z :: zs).length : Int) := by simp
    generalize (z :: zs).length = m at hp hq hl ⊢
    go_enter Tryz.func131, Tryz.ntmps131
    go_wp2_with (first
    | (go_at_call 72; refine (l01In_any _ _ _ _).mono ?_; rintro e w' ⟨rfl, rfl⟩)
    | (go_at_call 154; refine (l02Col_any _ _).mono ?_; rintro e w' ⟨rfl, rfl⟩)
    | (go_at_call 114; refine (l01Number_any _ _).mono ?_; rintro e w' ⟨rfl, rfl⟩)
    | (go_at_call 112; refine (specWordOk_any _ _ hs).mono ?_; rintro e w' ⟨rfl, rfl⟩))
    all_goals
      go_ret
      refine ⟨ret_bool ?_, (Below.refl _ _).alloc (Nat.le_refl _) _⟩
      first
        | (simp_all [nodeB, ByteArray.toList_eq]; done)
        | (simp_all [nodeB, ByteArray.toList_eq, numB, colB]; done)
        | (simp_all [nodeB, ByteArray.toList_eq, numB, colB]; omega)
end Go.Proofs.YtanfllednlpbaaaGreat
namespace Go.Proofs.YtanfllednlpbaaaGreat
open Go.RowKit
set_option linter.unusedSimpArgs false
set_option linter.unusedVariables false

set_option maxRecDepth 100000 in
set_option maxHeartbeats 4000000 in
theorem specNodeOk0 (name : ByteArray) (col op num : Int) (slot : Bool) (cols : List Int) (a : Option Addr) (c : Nat) (w : World) (hl : cols.length ≤ maxLen) (hs : name.size ≤ maxLen) :
    Calls Tryz.prog 131 #[.agg #[.int .i64 0, .string name, .int .i64 col, .int .i64 op, .int .i64 num, .bool slot, .slice a cols.length c]] w fun e w' => e = .returned (.bool (nodeB ⟨0, name, col, op, num, slot, cols⟩)) ∧ Below w.heap.size w w' := by
  unfold maxLen at hl
  rcases cols with _ | ⟨z, zs⟩
  · go_enter Tryz.func131, Tryz.ntmps131
    go_wp2_with (first
    | (go_at_call 72; refine (l01In_any _ _ _ _).mono ?_; rintro e w' ⟨rfl, rfl⟩)
    | (go_at_call 154; refine (l02Col_any _ _).mono ?_; rintro e w' ⟨rfl, rfl⟩)
    | (go_at_call 114; refine (l01Number_any _ _).mono ?_; rintro e w' ⟨rfl, rfl⟩)
    | (go_at_call 112; refine (specWordOk_any _ _ hs).mono ?_; rintro e w' ⟨rfl, rfl⟩))
    all_goals
      go_ret
      refine ⟨ret_bool ?_, (Below.refl _ _).alloc (Nat.le_refl _) _⟩
      first
        | (simp_all [nodeB, ByteArray.toList_eq]; done)
        | (simp_all [nodeB, ByteArray.toList_eq, numB, colB]; done)
        | (simp_all [nodeB, ByteArray.toList_eq, numB, colB]; omega)
  · have hp : 0 < (z :: zs).length := by simp
    have hq : (0 : Int) < ((z :: zs).length : Int) := by simp
    generalize (z :: zs).length = m at hp hq hl ⊢
    go_enter Tryz.func131, Tryz.ntmps131
    go_wp2_with (first
    | (go_at_call 72; refine (l01In_any _ _ _ _).mono ?_; rintro e w' ⟨rfl, rfl⟩)
    | (go_at_call 154; refine (l02Col_any _ _).mono ?_; rintro e w' ⟨rfl, rfl⟩)
    | (go_at_call 114; refine (l01Number_any _ _).mono ?_; rintro e w' ⟨rfl, rfl⟩)
    | (go_at_call 112; refine (specWordOk_any _ _ hs).mono ?_; rintro e w' ⟨rfl, rfl⟩))
    all_goals
      go_ret
      refine ⟨ret_bool ?_, (Below.refl _ _).alloc (Nat.le_refl _) _⟩
      first
        | (simp_all [nodeB, ByteArray.toList_eq]; done)
        | (simp_all [nodeB, ByteArray.toList_eq, numB, colB]; done)
        | (simp_all [nodeB, ByteArray.toList_eq, numB, colB]; omega)

set_option maxRecDepth 100000 in
set_option maxHeartbeats 4000000 in
theorem specNodeOk5 (name : ByteArray) (col op num : Int) (slot : Bool) (cols : List Int) (a : Option Addr) (c : Nat) (w : World) (hl : cols.length ≤ maxLen) (hs : name.size ≤ maxLen) :
    Calls Tryz.prog 131 #[.agg #[.int .i64 5, .string name, .int .i64 col, .int .i64 op, .int .i64 num, .bool slot, .slice a cols.length c]] w fun e w' => e = .returned (.bool (nodeB ⟨5, name, col, op, num, slot, cols⟩)) ∧ Below w.heap.size w w' := by
  unfold maxLen at hl
  rcases cols with _ | ⟨z, zs⟩
  · go_enter Tryz.func131, Tryz.ntmps131
    go_wp2_with (first
    | (go_at_call 72; refine (l01In_any _ _ _ _).mono ?_; rintro e w' ⟨rfl, rfl⟩)
    | (go_at_call 154; refine (l02Col_any _ _).mono ?_; rintro e w' ⟨rfl, rfl⟩)
    | (go_at_call 114; refine (l01Number_any _ _).mono ?_; rintro e w' ⟨rfl, rfl⟩)
    | (go_at_call 112; refine (specWordOk_any _ _ hs).mono ?_; rintro e w' ⟨rfl, rfl⟩))
    all_goals
      go_ret
      refine ⟨ret_bool ?_, (Below.refl _ _).alloc (Nat.le_refl _) _⟩
      first
        | (simp_all [nodeB, ByteArray.toList_eq]; done)
        | (simp_all [nodeB, ByteArray.toList_eq, numB, colB]; done)
        | (simp_all [nodeB, ByteArray.toList_eq, numB, colB]; omega)
  · have hp : 0 < (z :: zs).length := by simp
    have hq : (0 : Int) < ((z :: zs).length : Int) := by simp
    generalize (z :: zs).length = m at hp hq hl ⊢
    go_enter Tryz.func131, Tryz.ntmps131
    go_wp2_with (first
    | (go_at_call 72; refine (l01In_any _ _ _ _).mono ?_; rintro e w' ⟨rfl, rfl⟩)
    | (go_at_call 154; refine (l02Col_any _ _).mono ?_; rintro e w' ⟨rfl, rfl⟩)
    | (go_at_call 114; refine (l01Number_any _ _).mono ?_; rintro e w' ⟨rfl, rfl⟩)
    | (go_at_call 112; refine (specWordOk_any _ _ hs).mono ?_; rintro e w' ⟨rfl, rfl⟩))
    all_goals
      go_ret
      refine ⟨ret_bool ?_, (Below.refl _ _).alloc (Nat.le_refl _) _⟩
      first
        | (simp_all [nodeB, ByteArray.toList_eq]; done)
        | (simp_all [nodeB, ByteArray.toList_eq, numB, colB]; done)
        | (simp_all [nodeB, ByteArray.toList_eq, numB, colB]; omega)
end Go.Proofs.YtanfllednlpbaaaGreat
namespace Go.Proofs.YtanfllednlpbaaaGreat
open Go.RowKit
set_option linter.unusedSimpArgs false
set_option linter.unusedVariables false

set_option maxRecDepth 100000 in
set_option maxHeartbeats 4000000 in
theorem specNodeOk1 (name : ByteArray) (col op num : Int) (slot : Bool) (cols : List Int) (a : Option Addr) (c : Nat) (w : World) (hl : cols.length ≤ maxLen) (hs : name.size ≤ maxLen) :
    Calls Tryz.prog 131 #[.agg #[.int .i64 1, .string name, .int .i64 col, .int .i64 op, .int .i64 num, .bool slot, .slice a cols.length c]] w fun e w' => e = .returned (.bool (nodeB ⟨1, name, col, op, num, slot, cols⟩)) ∧ Below w.heap.size w w' := by
  unfold maxLen at hl
  rcases cols with _ | ⟨z, zs⟩
  · go_enter Tryz.func131, Tryz.ntmps131
    go_wp2_with (first
    | (go_at_call 72; refine (l01In_any _ _ _ _).mono ?_; rintro e w' ⟨rfl, rfl⟩)
    | (go_at_call 154; refine (l02Col_any _ _).mono ?_; rintro e w' ⟨rfl, rfl⟩)
    | (go_at_call 114; refine (l01Number_any _ _).mono ?_; rintro e w' ⟨rfl, rfl⟩)
    | (go_at_call 112; refine (specWordOk_any _ _ hs).mono ?_; rintro e w' ⟨rfl, rfl⟩))
    all_goals
      go_ret
      refine ⟨ret_bool ?_, (Below.refl _ _).alloc (Nat.le_refl _) _⟩
      first
        | (simp_all [nodeB, ByteArray.toList_eq]; done)
        | (simp_all [nodeB, ByteArray.toList_eq, numB, colB]; done)
        | (simp_all [nodeB, ByteArray.toList_eq, numB, colB]; omega)
  · have hp : 0 < (z :: zs).length := by simp
    have hq : (0 : Int) < ((z :: zs).length : Int) := by simp
    generalize (z :: zs).length = m at hp hq hl ⊢
    go_enter Tryz.func131, Tryz.ntmps131
    go_wp2_with (first
    | (go_at_call 72; refine (l01In_any _ _ _ _).mono ?_; rintro e w' ⟨rfl, rfl⟩)
    | (go_at_call 154; refine (l02Col_any _ _).mono ?_; rintro e w' ⟨rfl, rfl⟩)
    | (go_at_call 114; refine (l01Number_any _ _).mono ?_; rintro e w' ⟨rfl, rfl⟩)
    | (go_at_call 112; refine (specWordOk_any _ _ hs).mono ?_; rintro e w' ⟨rfl, rfl⟩))
    all_goals
      go_ret
      refine ⟨ret_bool ?_, (Below.refl _ _).alloc (Nat.le_refl _) _⟩
      first
        | (simp_all [nodeB, ByteArray.toList_eq]; done)
        | (simp_all [nodeB, ByteArray.toList_eq, numB, colB]; done)
        | (simp_all [nodeB, ByteArray.toList_eq, numB, colB]; omega)
end Go.Proofs.YtanfllednlpbaaaGreat
namespace Go.Proofs.YtanfllednlpbaaaGreat
open Go.RowKit
set_option linter.unusedSimpArgs false
set_option linter.unusedVariables false

set_option maxRecDepth 100000 in
set_option maxHeartbeats 4000000 in
theorem specNodeOk3 (name : ByteArray) (col op num : Int) (slot : Bool) (cols : List Int) (a : Option Addr) (c : Nat) (w : World) (hl : cols.length ≤ maxLen) (hs : name.size ≤ maxLen) :
    Calls Tryz.prog 131 #[.agg #[.int .i64 3, .string name, .int .i64 col, .int .i64 op, .int .i64 num, .bool slot, .slice a cols.length c]] w fun e w' => e = .returned (.bool (nodeB ⟨3, name, col, op, num, slot, cols⟩)) ∧ Below w.heap.size w w' := by
  unfold maxLen at hl
  rcases cols with _ | ⟨z, zs⟩
  · go_enter Tryz.func131, Tryz.ntmps131
    go_wp2_with (first
    | (go_at_call 72; refine (l01In_any _ _ _ _).mono ?_; rintro e w' ⟨rfl, rfl⟩)
    | (go_at_call 154; refine (l02Col_any _ _).mono ?_; rintro e w' ⟨rfl, rfl⟩)
    | (go_at_call 114; refine (l01Number_any _ _).mono ?_; rintro e w' ⟨rfl, rfl⟩)
    | (go_at_call 112; refine (specWordOk_any _ _ hs).mono ?_; rintro e w' ⟨rfl, rfl⟩))
    all_goals
      go_ret
      refine ⟨ret_bool ?_, (Below.refl _ _).alloc (Nat.le_refl _) _⟩
      first
        | (simp_all [nodeB, ByteArray.toList_eq]; done)
        | (simp_all [nodeB, ByteArray.toList_eq, numB, colB]; done)
        | (simp_all [nodeB, ByteArray.toList_eq, numB, colB]; omega)
  · have hp : 0 < (z :: zs).length := by simp
    have hq : (0 : Int) < ((z :: zs).length : Int) := by simp
    generalize (z :: zs).length = m at hp hq hl ⊢
    go_enter Tryz.func131, Tryz.ntmps131
    go_wp2_with (first
    | (go_at_call 72; refine (l01In_any _ _ _ _).mono ?_; rintro e w' ⟨rfl, rfl⟩)
    | (go_at_call 154; refine (l02Col_any _ _).mono ?_; rintro e w' ⟨rfl, rfl⟩)
    | (go_at_call 114; refine (l01Number_any _ _).mono ?_; rintro e w' ⟨rfl, rfl⟩)
    | (go_at_call 112; refine (specWordOk_any _ _ hs).mono ?_; rintro e w' ⟨rfl, rfl⟩))
    all_goals
      go_ret
      refine ⟨ret_bool ?_, (Below.refl _ _).alloc (Nat.le_refl _) _⟩
      first
        | (simp_all [nodeB, ByteArray.toList_eq]; done)
        | (simp_all [nodeB, ByteArray.toList_eq, numB, colB]; done)
        | (simp_all [nodeB, ByteArray.toList_eq, numB, colB]; omega)

set_option maxRecDepth 100000 in
set_option maxHeartbeats 4000000 in
theorem specNodeOk6 (name : ByteArray) (col op num : Int) (slot : Bool) (cols : List Int) (a : Option Addr) (c : Nat) (w : World) (hl : cols.length ≤ maxLen) (hs : name.size ≤ maxLen) :
    Calls Tryz.prog 131 #[.agg #[.int .i64 6, .string name, .int .i64 col, .int .i64 op, .int .i64 num, .bool slot, .slice a cols.length c]] w fun e w' => e = .returned (.bool (nodeB ⟨6, name, col, op, num, slot, cols⟩)) ∧ Below w.heap.size w w' := by
  unfold maxLen at hl
  rcases cols with _ | ⟨z, zs⟩
  · go_enter Tryz.func131, Tryz.ntmps131
    go_wp2_with (first
    | (go_at_call 72; refine (l01In_any _ _ _ _).mono ?_; rintro e w' ⟨rfl, rfl⟩)
    | (go_at_call 154; refine (l02Col_any _ _).mono ?_; rintro e w' ⟨rfl, rfl⟩)
    | (go_at_call 114; refine (l01Number_any _ _).mono ?_; rintro e w' ⟨rfl, rfl⟩)
    | (go_at_call 112; refine (specWordOk_any _ _ hs).mono ?_; rintro e w' ⟨rfl, rfl⟩))
    all_goals
      go_ret
      refine ⟨ret_bool ?_, (Below.refl _ _).alloc (Nat.le_refl _) _⟩
      first
        | (simp_all [nodeB, ByteArray.toList_eq]; done)
        | (simp_all [nodeB, ByteArray.toList_eq, numB, colB]; done)
        | (simp_all [nodeB, ByteArray.toList_eq, numB, colB]; omega)
  · have hp : 0 < (z :: zs).length := by simp
    have hq : (0 : Int) < ((z :: zs).length : Int) := by simp
    generalize (z :: zs).length = m at hp hq hl ⊢
    go_enter Tryz.func131, Tryz.ntmps131
    go_wp2_with (first
    | (go_at_call 72; refine (l01In_any _ _ _ _).mono ?_; rintro e w' ⟨rfl, rfl⟩)
    | (go_at_call 154; refine (l02Col_any _ _).mono ?_; rintro e w' ⟨rfl, rfl⟩)
    | (go_at_call 114; refine (l01Number_any _ _).mono ?_; rintro e w' ⟨rfl, rfl⟩)
    | (go_at_call 112; refine (specWordOk_any _ _ hs).mono ?_; rintro e w' ⟨rfl, rfl⟩))
    all_goals
      go_ret
      refine ⟨ret_bool ?_, (Below.refl _ _).alloc (Nat.le_refl _) _⟩
      first
        | (simp_all [nodeB, ByteArray.toList_eq]; done)
        | (simp_all [nodeB, ByteArray.toList_eq, numB, colB]; done)
        | (simp_all [nodeB, ByteArray.toList_eq, numB, colB]; omega)
end Go.Proofs.YtanfllednlpbaaaGreat
namespace Go.Proofs.YtanfllednlpbaaaGreat
open Go.RowKit
set_option linter.unusedSimpArgs false
set_option linter.unusedVariables false

set_option maxRecDepth 100000 in
set_option maxHeartbeats 4000000 in
theorem specNodeOkOut (k : Int) (hk : k < 0 ∨ 7 < k) (name : ByteArray) (col op num : Int) (slot : Bool) (cols : List Int) (a : Option Addr) (c : Nat) (w : World) (hl : cols.length ≤ maxLen) (hs : name.size ≤ maxLen) :
    Calls Tryz.prog 131 #[.agg #[.int .i64 k, .string name, .int .i64 col, .int .i64 op, .int .i64 num, .bool slot, .slice a cols.length c]] w fun e w' => e = .returned (.bool (nodeB ⟨k, name, col, op, num, slot, cols⟩)) ∧ Below w.heap.size w w' := by
  unfold maxLen at hl
  have h0 : (k == 0) = false := beq_eq_false_iff_ne.2 (by omega)
  have g0 : (k != 0) = true := by rw [bne_iff_ne]; omega
  have h1 : (k == 1) = false := beq_eq_false_iff_ne.2 (by omega)
  have g1 : (k != 1) = true := by rw [bne_iff_ne]; omega
  have h2 : (k == 2) = false := beq_eq_false_iff_ne.2 (by omega)
  have g2 : (k != 2) = true := by rw [bne_iff_ne]; omega
  have h3 : (k == 3) = false := beq_eq_false_iff_ne.2 (by omega)
  have g3 : (k != 3) = true := by rw [bne_iff_ne]; omega
  have h4 : (k == 4) = false := beq_eq_false_iff_ne.2 (by omega)
  have g4 : (k != 4) = true := by rw [bne_iff_ne]; omega
  have h5 : (k == 5) = false := beq_eq_false_iff_ne.2 (by omega)
  have g5 : (k != 5) = true := by rw [bne_iff_ne]; omega
  have h6 : (k == 6) = false := beq_eq_false_iff_ne.2 (by omega)
  have g6 : (k != 6) = true := by rw [bne_iff_ne]; omega
  have h7 : (k == 7) = false := beq_eq_false_iff_ne.2 (by omega)
  have g7 : (k != 7) = true := by rw [bne_iff_ne]; omega
  have HN : Hid (nodeB ⟨k, name, col, op, num, slot, cols⟩ = false) := by
    show nodeB ⟨k, name, col, op, num, slot, cols⟩ = false
    simp only [nodeB]
    rw [if_neg (by omega), if_neg (by omega), if_neg (by omega), if_neg (by omega), if_neg (by omega), if_neg (by omega), if_neg (by omega), if_neg (by omega)]
  clear hk
  rcases cols with _ | ⟨z, zs⟩
  · go_enter Tryz.func131, Tryz.ntmps131
    go_wp2_with (first
    | (go_at_call 72; refine (l01In_any _ _ _ _).mono ?_; rintro e w' ⟨rfl, rfl⟩)
    | (go_at_call 154; refine (l02Col_any _ _).mono ?_; rintro e w' ⟨rfl, rfl⟩)
    | (go_at_call 114; refine (l01Number_any _ _).mono ?_; rintro e w' ⟨rfl, rfl⟩)
    | (go_at_call 112; refine (specWordOk_any _ _ hs).mono ?_; rintro e w' ⟨rfl, rfl⟩))
    all_goals (go_ret; exact ⟨ret_bool HN.out.symm, (Below.refl _ _).alloc (Nat.le_refl _) _⟩)
  · have hp : 0 < (z :: zs).length := by simp
    have hq : (0 : Int) < ((z :: zs).length : Int) := by simp
    generalize (z :: zs).length = m at hp hq hl ⊢
    go_enter Tryz.func131, Tryz.ntmps131
    go_wp2_with (first
    | (go_at_call 72; refine (l01In_any _ _ _ _).mono ?_; rintro e w' ⟨rfl, rfl⟩)
    | (go_at_call 154; refine (l02Col_any _ _).mono ?_; rintro e w' ⟨rfl, rfl⟩)
    | (go_at_call 114; refine (l01Number_any _ _).mono ?_; rintro e w' ⟨rfl, rfl⟩)
    | (go_at_call 112; refine (specWordOk_any _ _ hs).mono ?_; rintro e w' ⟨rfl, rfl⟩))
    all_goals (go_ret; exact ⟨ret_bool HN.out.symm, (Below.refl _ _).alloc (Nat.le_refl _) _⟩)
end Go.Proofs.YtanfllednlpbaaaGreat
namespace Go.Proofs.YtanfllednlpbaaaGreat
open Go.RowKit
set_option linter.unusedSimpArgs false
set_option linter.unusedVariables false

theorem all_take {l : List Int} {k : Nat} {z : Int} (ht : l.take (k + 1) = l.take k ++ [z]) (ha : (l.take k).all colB = true) (hz : colB z = true) : (l.take (k + 1)).all colB = true := by
  rw [ht, List.all_append, ha]; simp [hz]
theorem all_no {l : List Int} {z : Int} (hm : z ∈ l) (hz : colB z = false) : l.all colB = false := by
  rw [List.all_eq_false]; exact ⟨z, hm, by simp [hz]⟩

set_option maxRecDepth 100000 in
set_option maxHeartbeats 4000000 in
theorem specNodeOk2 (name : ByteArray) (col op num : Int) (slot : Bool) (cols : List Int) (a : Option Addr) (c : Nat) (w : World) (h : Rd w .i64 a cols) (hl : cols.length ≤ maxLen) (hs : name.size ≤ maxLen) :
    Calls Tryz.prog 131 #[.agg #[.int .i64 2, .string name, .int .i64 col, .int .i64 op, .int .i64 num, .bool slot, .slice a cols.length c]] w fun e w' => e = .returned (.bool (nodeB ⟨2, name, col, op, num, slot, cols⟩)) ∧ Below w.heap.size w w' := by
  have H := Lib.hid h; clear h
  unfold maxLen at hl
  by_cases h1 : ¬ name.toList = []
  · have HN : Hid (nodeB ⟨2, name, col, op, num, slot, cols⟩ = false) := by
      show nodeB ⟨2, name, col, op, num, slot, cols⟩ = false
      simp_all [nodeB, ByteArray.toList_eq]
    go_enter Tryz.func131, Tryz.ntmps131
    go_wp2_with fail
    go_ret
    exact ⟨ret_bool HN.out.symm, (Below.refl _ _).alloc (Nat.le_refl _) _⟩
  have h1 : name.toList = [] := Classical.not_not.1 h1
  by_cases h2 : ¬ op = 0
  · have HN : Hid (nodeB ⟨2, name, col, op, num, slot, cols⟩ = false) := by
      show nodeB ⟨2, name, col, op, num, slot, cols⟩ = false
      simp_all [nodeB]
    have h3 : (op != 0) = true := by rw [bne_iff_ne]; exact h2
    clear h2
    go_enter Tryz.func131, Tryz.ntmps131
    go_wp2_with fail
    go_ret
    exact ⟨ret_bool HN.out.symm, (Below.refl _ _).alloc (Nat.le_refl _) _⟩
  obtain rfl : op = 0 := Classical.not_not.1 h2
  clear h2
  cases slot with
  | true =>
    have HN : Hid (nodeB ⟨2, name, col, 0, num, true, cols⟩ = false) := by
      show nodeB ⟨2, name, col, 0, num, true, cols⟩ = false
      simp [nodeB]
    by_cases h4 : 0 ≤ num ∧ num ≤ 39
    · obtain ⟨h5, h6⟩ := h4
      go_enter Tryz.func131, Tryz.ntmps131
      go_wp2_with (go_at_call 72; refine (l01In_any _ _ _ _).mono ?_; rintro e w' ⟨rfl, rfl⟩)
      go_loop [3] (fun i => ∃ k : Nat, k ≤ cols.length ∧ i = .int .i64 k) (fun i => cols.length - (intOf i).toNat)
      case atStart => exact ⟨0, Nat.zero_le _, rfl⟩
      case round =>
        obtain ⟨k, hk, rfl⟩ := hrel
        by_cases hlt : k < cols.length
        · obtain ⟨b, off, rfl, hc⟩ : ∃ b off, a = some ⟨b, off, none⟩ ∧ ∀ i, i < cols.length → w.cell? ⟨b, off + i, none⟩ = some (.int .i64 (cols.getD i 0)) := by
            rcases H.out with rfl | h'
            · simp at hlt
            · exact h'
          obtain ⟨z, hm, _, hcz, ht⟩ := Rd.at_ hc hlt
          have hb : b < w.heap.size := World.block_lt_of_cell? w ⟨b, off + k, none⟩ hcz
          clear hc ht hm
          cases hz : colB z with
          | true =>
            have Z := Lib.hid hz; clear hz
            go_wp2_with (go_at_call 154; refine (l02Col_any _ _).mono ?_; rintro e w' ⟨rfl, rfl⟩; rw [Z.out])
            go_round
            case rel => exact ⟨k + 1, by omega, by go_num⟩
            case measure => simp [intOf]; omega
          | false =>
            have Z := Lib.hid hz; clear hz
            go_wp2_with (go_at_call 154; refine (l02Col_any _ _).mono ?_; rintro e w' ⟨rfl, rfl⟩; rw [Z.out])
            go_ret
            exact ⟨ret_bool HN.out.symm, (Below.refl _ _).alloc (Nat.le_refl _) _⟩
        · go_wp2_with (go_at_call 72; refine (l01In_any _ _ _ _).mono ?_; rintro e w' ⟨rfl, rfl⟩)
          all_goals (go_ret; exact ⟨ret_bool HN.out.symm, (Below.refl _ _).alloc (Nat.le_refl _) _⟩)
    · have h5 : (decide (0 ≤ num) && decide (num ≤ 39)) = false := by simp; omega
      have H5 := Lib.hid h5; clear h5 h4
      go_enter Tryz.func131, Tryz.ntmps131
      go_wp2_with (go_at_call 72; refine (l01In_any _ _ _ _).mono ?_; rintro e w' ⟨rfl, rfl⟩; rw [H5.out])
      go_ret
      exact ⟨ret_bool HN.out.symm, (Below.refl _ _).alloc (Nat.le_refl _) _⟩
  | false =>
    go_enter Tryz.func131, Tryz.ntmps131
    go_wp2_with fail
    go_loop [3] (fun i => ∃ k : Nat, k ≤ cols.length ∧ i = .int .i64 k ∧ (cols.take k).all colB = true) (fun i => cols.length - (intOf i).toNat)
    case atStart => exact ⟨0, Nat.zero_le _, rfl, rfl⟩
    case round =>
      obtain ⟨k, hk, rfl, hall⟩ := hrel
      have HA := Lib.hid hall; clear hall
      by_cases hlt : k < cols.length
      · obtain ⟨b, off, rfl, hc⟩ : ∃ b off, a = some ⟨b, off, none⟩ ∧ ∀ i, i < cols.length → w.cell? ⟨b, off + i, none⟩ = some (.int .i64 (cols.getD i 0)) := by
          rcases H.out with rfl | h'
          · simp at hlt
          · exact h'
        obtain ⟨z, hm, _, hcz, ht⟩ := Rd.at_ hc hlt
        have hb : b < w.heap.size := World.block_lt_of_cell? w ⟨b, off + k, none⟩ hcz
        have HT := Lib.hid ht
        have HM := Lib.hid hm
        clear hc ht hm
        cases hz : colB z with
        | true =>
          have Z := Lib.hid hz; clear hz
          go_wp2_with (go_at_call 154; refine (l02Col_any _ _).mono ?_; rintro e w' ⟨rfl, rfl⟩; rw [Z.out])
          go_round
          case rel => exact ⟨k + 1, by omega, by go_num, all_take HT.out HA.out Z.out⟩
          case measure => simp [intOf]; omega
        | false =>
          have Z := Lib.hid hz; clear hz
          have HN : Hid (nodeB ⟨2, name, col, 0, num, false, cols⟩ = false) := by
            show nodeB ⟨2, name, col, 0, num, false, cols⟩ = false
            simp [nodeB, all_no HM.out Z.out]
          go_wp2_with (go_at_call 154; refine (l02Col_any _ _).mono ?_; rintro e w' ⟨rfl, rfl⟩; rw [Z.out])
          go_ret
          exact ⟨ret_bool HN.out.symm, (Below.refl _ _).alloc (Nat.le_refl _) _⟩
      · have hall : cols.all colB = true := by have := HA.out; rwa [List.take_of_length_le (by omega)] at this
        have HN : Hid (nodeB ⟨2, name, col, 0, num, false, cols⟩ = decide (1 ≤ cols.length ∧ cols.length ≤ 6 ∧ col = 0 ∧ num = 0)) := by
          show nodeB ⟨2, name, col, 0, num, false, cols⟩ = decide (1 ≤ cols.length ∧ cols.length ≤ 6 ∧ col = 0 ∧ num = 0)
          rw [ByteArray.toList_eq] at h1
          simp only [nodeB, hall, h1, Int.reduceEq, if_false, if_true]
          rw [Bool.eq_iff_iff]; simp; omega
        clear hall
        go_wp2_with (go_at_call 72; refine (l01In_any _ _ _ _).mono ?_; rintro e w' ⟨rfl, rfl⟩)
        all_goals
          go_ret
          refine ⟨ret_bool (Eq.trans ?_ HN.out.symm), (Below.refl _ _).alloc (Nat.le_refl _) _⟩
          clear HN HA H
          first
            | (simp_all; done)
            | (simp_all; omega)
end Go.Proofs.YtanfllednlpbaaaGreat
namespace Go.Proofs.YtanfllednlpbaaaGreat
open Go.RowKit
set_option linter.unusedSimpArgs false
set_option linter.unusedVariables false

theorem specNodeOk_any (n : Nd) (a : Option Addr) (c : Nat) (w : World) (h : Rd w .i64 a n.cols) (hl : n.cols.length ≤ maxLen) (hs : n.name.size ≤ maxLen) :
    Calls Tryz.prog 131 #[.agg #[.int .i64 n.kind, .string n.name, .int .i64 n.col, .int .i64 n.op, .int .i64 n.num, .bool n.slot, .slice a n.cols.length c]] w fun e w' => e = .returned (.bool (nodeB n)) ∧ Below w.heap.size w w' := by
  obtain ⟨k, name, col, op, num, slot, cols⟩ := n
  rcases kind_ways k with rfl | rfl | rfl | rfl | rfl | rfl | rfl | rfl | hk
  · exact specNodeOk0 name col op num slot cols a c w hl hs
  · exact specNodeOk1 name col op num slot cols a c w hl hs
  · exact specNodeOk2 name col op num slot cols a c w h hl hs
  · exact specNodeOk3 name col op num slot cols a c w hl hs
  · exact specNodeOk4 name col op num slot cols a c w hl hs
  · exact specNodeOk5 name col op num slot cols a c w hl hs
  · exact specNodeOk6 name col op num slot cols a c w hl hs
  · exact specNodeOk7 name col op num slot cols a c w hl hs
  · exact specNodeOkOut k hk name col op num slot cols a c w hl hs
end Go.Proofs.YtanfllednlpbaaaGreat
namespace Go.Proofs.YtanfllednlpbaaaGreat
open Go.RowKit
set_option linter.unusedSimpArgs false
set_option linter.unusedVariables false

set_option maxRecDepth 100000 in
set_option maxHeartbeats 1600000 in
theorem specPlanOk_any (ao : Option Addr) (c : Nat) (p : List Nd) (w : World) (h : RdN w ao p) (hp : p.length ≤ 1048576) :
    Calls Tryz.prog 101 #[.slice ao p.length c] w fun e w' => e = .returned (.bool (planB p)) ∧ Below w.heap.size w w' := by
  have H := Lib.hid h; clear h
  by_cases hlen : 1 ≤ p.length ∧ p.length ≤ 40
  · obtain ⟨h1, h2⟩ := hlen
    have h3 : (1 : Int) ≤ p.length := by omega
    have h4 : (p.length : Int) ≤ 40 := by omega
    have E := Lib.hid (fun wr (hr : RdN wr ao p) => specEnd_any ao c p hp 10 0 10 wr hr (by omega) (by omega) (by omega) (by omega) (by omega))
    go_enter Tryz.func101, Tryz.ntmps101
    go_wp2_with (go_at_call 72; refine (l01In_any _ _ _ _).mono ?_; rintro e w' ⟨rfl, rfl⟩)
    go_loopw [3] (fun i wr => ∃ j : Nat, j ≤ p.length ∧ i = .int .i64 j ∧ (∀ (i : Nat) (n : Nd), i < j → p[i]? = some n → nodeB n = true) ∧ Below w.heap.size w wr) (fun i _ => p.length - (intOf i).toNat)
    case atStart => exact ⟨0, Nat.zero_le _, rfl, fun i n hi => absurd hi (Nat.not_lt_zero _), Below.refl _ _⟩
    case round =>
      obtain ⟨j, hj, rfl, hall, hb⟩ := hrel
      have HA := Lib.hid hall; clear hall
      have HB := Lib.hid hb
      by_cases hlt : j < p.length
      · obtain ⟨b, off, n, a, c', rfl, hn, hat⟩ := (H.out.below hb).at_ hlt
        have HN := Lib.hid hn; clear hn hb
        obtain ⟨c0, c1, c2, c3, c4, c5, c6, rd, cap, mx, nm⟩ := hat
        have RD := Lib.hid rd
        have cl := Nat.le_trans cap mx
        clear rd cap mx
        have NK := Lib.hid (fun w => specNodeOk_any n a c' w)
        go_wp2_with fail
        refine (NK.out _ RD.out cl nm).mono ?_
        rintro e w1 ⟨rfl, b1⟩
        have T1 := Lib.hid (below_step HB.out (Nat.le_refl _) b1)
        clear b1
        cases hnb : nodeB n with
        | true =>
          have NB := Lib.hid hnb; clear hnb
          go_wp2_with fail
          go_roundw
          case rel => exact ⟨j + 1, by omega, by go_num, fun i m hi hm => by
            by_cases hij : i = j
            · subst hij; rw [HN.out] at hm; cases hm; exact NB.out
            · exact HA.out i m (by omega) hm, T1.out⟩
          case measure => simp [intOf]; omega
        | false =>
          have F := Lib.hid (planB_node (List.mem_of_getElem? HN.out) hnb)
          clear hnb
          go_wp2_with fail
          go_ret
          exact ⟨ret_bool F.out.symm, T1.out⟩
      · have hall : ∀ n ∈ p, nodeB n = true := by
          intro n hn
          obtain ⟨i, hi, rfl⟩ := List.mem_iff_getElem.1 hn
          exact HA.out i _ (by omega) (List.getElem?_eq_getElem hi)
        have F := Lib.hid (planB_spec p h2 hall)
        have R := Lib.hid (H.out.below hb)
        clear hall hb
        go_wp2_with fail
        refine (E.out _ R.out).mono ?_
        rintro e w' ⟨rfl, rfl⟩
        cases he : endN p 10 (0 : Int).toNat with
        | none =>
          have he' : endN p 10 0 = none := he
          have F2 := Lib.hid (show planB p = false by rw [F.out, he']; rfl)
          simp only [endV]
          clear he he'
          have h5 : ((-1 : Int) == (p.length : Int)) = false := beq_eq_false_iff_ne.2 (by omega)
          go_wp2_with fail
          go_ret
          exact ⟨ret_bool F2.out.symm, HB.out⟩
        | some x =>
          obtain ⟨e1, d1⟩ := x
          have he' : endN p 10 0 = some (e1, d1) := he
          have F2 := Lib.hid (show planB p = decide (e1 = p.length) by rw [F.out, he']; simp)
          simp only [endV]
          clear he he'
          by_cases hee : e1 = p.length
          · have h5 : ((e1 : Int) == (p.length : Int)) = true := beq_iff_eq.2 (by omega)
            have F3 := Lib.hid (show planB p = true by rw [F2.out]; simp [hee])
            clear hee
            go_wp2_with fail
            go_ret
            exact ⟨ret_bool F3.out.symm, HB.out⟩
          · have h5 : ((e1 : Int) == (p.length : Int)) = false := beq_eq_false_iff_ne.2 (by omega)
            have F3 := Lib.hid (show planB p = false by rw [F2.out]; simp [hee])
            clear hee
            go_wp2_with fail
            go_ret
            exact ⟨ret_bool F3.out.symm, HB.out⟩
  · have HF := Lib.hid (planB_len (p := p) (by omega))
    have h3 : (decide ((1 : Int) ≤ p.length) && decide ((p.length : Int) ≤ 40)) = false := by simp; omega
    have H3 := Lib.hid h3; clear h3 hlen
    go_enter Tryz.func101, Tryz.ntmps101
    go_wp2_with (go_at_call 72; refine (l01In_any _ _ _ _).mono ?_; rintro e w' ⟨rfl, rfl⟩; rw [H3.out])
    go_ret
    exact ⟨ret_bool HF.out.symm, Below.refl _ _⟩

/-- Whether a place is one of a plan. -/
def goodB (p : List Nd) (k : Int) : Bool := planB p && (decide (0 ≤ k) && decide (k ≤ (p.length : Int) - 1))
set_option maxHeartbeats 800000 in
theorem specGood_any (ao : Option Addr) (c : Nat) (p : List Nd) (k : Int) (w : World) (h : RdN w ao p) (hp : p.length ≤ 1048576) :
    Calls Tryz.prog 54 #[.slice ao p.length c, .int .i64 k] w fun e w' => e = .returned (.bool (goodB p k)) ∧ Below w.heap.size w w' := by
  have H := Lib.hid h; clear h
  cases hb : planB p with
  | true =>
    have HB := Lib.hid hb; clear hb
    have F := Lib.hid (show goodB p k = (decide (0 ≤ k) && decide (k ≤ (p.length : Int) - 1)) by simp [goodB, HB.out])
    go_enter Tryz.func54, Tryz.ntmps54
    go_wp2_with fail
    refine (specPlanOk_any ao c p _ H.out hp).mono ?_
    rintro e w1 ⟨rfl, b1⟩
    rw [HB.out]
    go_wp2_with fail
    refine (l01In_any _ _ _ _).mono ?_
    rintro e w' ⟨rfl, rfl⟩
    go_wp2_with fail
    go_ret
    exact ⟨ret_bool F.out.symm, b1⟩
  | false =>
    have HB := Lib.hid hb; clear hb
    have F := Lib.hid (show goodB p k = false by simp [goodB, HB.out])
    go_enter Tryz.func54, Tryz.ntmps54
    go_wp2_with fail
    refine (specPlanOk_any ao c p _ H.out hp).mono ?_
    rintro e w1 ⟨rfl, b1⟩
    rw [HB.out]
    go_wp2_with fail
    go_ret
    exact ⟨ret_bool F.out.symm, b1⟩
end Go.Proofs.YtanfllednlpbaaaGreat
