/-
  Contract of spec.NodeOk at some of the kinds. For every node of them. Contract of spec.NodeOk at some of the kinds. For every node of them. Contract of spec.NodeOk at some of the kinds. For every node of them. Contract of spec.NodeOk at some of the kinds. For every node of them. Contract of spec.NodeOk at some of the kinds. For every node of them.
-/
import Derived.Test.YtfpbhedophlnkaaGreatDoorJR30x
namespace Go.Proofs.YtfpbhedophlnkaaGreatDoor
open Go.RowKit
set_option linter.unusedSimpArgs false
set_option linter.unusedVariables false

set_option maxRecDepth 100000 in
set_option maxHeartbeats 4000000 in
theorem specNodeOk4 (name : ByteArray) (col op num : Int) (slot : Bool) (cols : List Int) (a : Option Addr) (c : Nat) (w : World) (hl : cols.length ≤ maxLen) (hs : name.size ≤ maxLen) :
    Calls Tryz.prog 132 #[.agg #[.int .i64 4, .string name, .int .i64 col, .int .i64 op, .int .i64 num, .bool slot, .slice a cols.length c]] w fun e w' => e = .returned (.bool (nodeB ⟨4, name, col, op, num, slot, cols⟩)) ∧ Below w.heap.size w w' := by
  unfold maxLen at hl
  rcases cols with _ | ⟨z, zs⟩
  · go_enter Tryz.func132, Tryz.ntmps132
    go_wp2_with (first
    | (go_at_call 97; refine (l01In_any _ _ _ _).mono ?_; rintro e w' ⟨rfl, rfl⟩)
    | (go_at_call 207; refine (l02Col_any _ _).mono ?_; rintro e w' ⟨rfl, rfl⟩)
    | (go_at_call 188; refine (l01Number_any _ _).mono ?_; rintro e w' ⟨rfl, rfl⟩)
    | (go_at_call 96; refine (specWordOk_any _ _ hs).mono ?_; rintro e w' ⟨rfl, rfl⟩))
    all_goals
      go_ret
      refine ⟨ret_bool ?_, (Below.refl _ _).alloc (Nat.le_refl _) _⟩
      first
        | (simp_all [nodeB, ByteArray.toList_eq]; done)
        | (simp_all [nodeB, ByteArray.toList_eq, numB, colB]; done)
        | (simp_all [nodeB, ByteArray.toList_eq, numB, colB]; omega)
  · have hp : 0 < (z :: zs).length := by simp
    have hq : (0 : Int) < ((z :: zs).length : Int) := by simp
    generalize (z :: zs).length = m at hp hq hl ⊢
    go_enter Tryz.func132, Tryz.ntmps132
    go_wp2_with (first
    | (go_at_call 97; refine (l01In_any _ _ _ _).mono ?_; rintro e w' ⟨rfl, rfl⟩)
    | (go_at_call 207; refine (l02Col_any _ _).mono ?_; rintro e w' ⟨rfl, rfl⟩)
    | (go_at_call 188; refine (l01Number_any _ _).mono ?_; rintro e w' ⟨rfl, rfl⟩)
    | (go_at_call 96; refine (specWordOk_any _ _ hs).mono ?_; rintro e w' ⟨rfl, rfl⟩))
    all_goals
      go_ret
      refine ⟨ret_bool ?_, (Below.refl _ _).alloc (Nat.le_refl _) _⟩
      first
        | (simp_all [nodeB, ByteArray.toList_eq]; done)
        | (simp_all [nodeB, ByteArray.toList_eq, numB, colB]; done)
        | (simp_all [nodeB, ByteArray.toList_eq, numB, colB]; omega)

set_option maxRecDepth 100000 in
set_option maxHeartbeats 4000000 in
theorem specNodeOk7 (name : ByteArray) (col op num : Int) (slot : Bool) (cols : List Int) (a : Option Addr) (c : Nat) (w : World) (hl : cols.length ≤ maxLen) (hs : name.size ≤ maxLen) :
    Calls Tryz.prog 132 #[.agg #[.int .i64 7, .string name, .int .i64 col, .int .i64 op, .int .i64 num, .bool slot, .slice a cols.length c]] w fun e w' => e = .returned (.bool (nodeB ⟨7, name, col, op, num, slot, cols⟩)) ∧ Below w.heap.size w w' := by
  unfold maxLen at hl
  rcases cols with _ | ⟨z, zs⟩
  · go_enter Tryz.func132, Tryz.ntmps132
    go_wp2_with (first
    | (go_at_call 97; refine (l01In_any _ _ _ _).mono ?_; rintro e w' ⟨rfl, rfl⟩)
    | (go_at_call 207; refine (l02Col_any _ _).mono ?_; rintro e w' ⟨rfl, rfl⟩)
    | (go_at_call 188; refine (l01Number_any _ _).mono ?_; rintro e w' ⟨rfl, rfl⟩)
    | (go_at_call 96; refine (specWordOk_any _ _ hs).mono ?_; rintro e w' ⟨rfl, rfl⟩))
    all_goals
      go_ret
      refine ⟨ret_bool ?_, (Below.refl _ _).alloc (Nat.le_refl _) _⟩
      first
        | (simp_all [nodeB, ByteArray.toList_eq]; done)
        | (simp_all [nodeB, ByteArray.toList_eq, numB, colB]; done)
        | (simp_all [nodeB, ByteArray.toList_eq, numB, colB]; omega)
  · have hp : 0 < (z :: zs).length := by simp
    have hq : (0 : Int) < ((z :: zs).length : Int) := by simp
    generalize (z :: zs).length = m at hp hq hl ⊢
    go_enter Tryz.func132, Tryz.ntmps132
    go_wp2_with (first
    | (go_at_call 97; refine (l01In_any _ _ _ _).mono ?_; rintro e w' ⟨rfl, rfl⟩)
    | (go_at_call 207; refine (l02Col_any _ _).mono ?_; rintro e w' ⟨rfl, rfl⟩)
    | (go_at_call 188; refine (l01Number_any _ _).mono ?_; rintro e w' ⟨rfl, rfl⟩)
    | (go_at_call 96; refine (specWordOk_any _ _ hs).mono ?_; rintro e w' ⟨rfl, rfl⟩))
    all_goals
      go_ret
      refine ⟨ret_bool ?_, (Below.refl _ _).alloc (Nat.le_refl _) _⟩
      first
        | (simp_all [nodeB, ByteArray.toList_eq]; done)
        | (simp_all [nodeB, ByteArray.toList_eq, numB, colB]; done)
        | (simp_all [nodeB, ByteArray.toList_eq, numB, colB]; omega)
end Go.Proofs.YtfpbhedophlnkaaGreatDoor
namespace Go.Proofs.YtfpbhedophlnkaaGreatDoor
open Go.RowKit
set_option linter.unusedSimpArgs false
set_option linter.unusedVariables false

set_option maxRecDepth 100000 in
set_option maxHeartbeats 4000000 in
theorem specNodeOk0 (name : ByteArray) (col op num : Int) (slot : Bool) (cols : List Int) (a : Option Addr) (c : Nat) (w : World) (hl : cols.length ≤ maxLen) (hs : name.size ≤ maxLen) :
    Calls Tryz.prog 132 #[.agg #[.int .i64 0, .string name, .int .i64 col, .int .i64 op, .int .i64 num, .bool slot, .slice a cols.length c]] w fun e w' => e = .returned (.bool (nodeB ⟨0, name, col, op, num, slot, cols⟩)) ∧ Below w.heap.size w w' := by
  unfold maxLen at hl
  rcases cols with _ | ⟨z, zs⟩
  · go_enter Tryz.func132, Tryz.ntmps132
    go_wp2_with (first
    | (go_at_call 97; refine (l01In_any _ _ _ _).mono ?_; rintro e w' ⟨rfl, rfl⟩)
    | (go_at_call 207; refine (l02Col_any _ _).mono ?_; rintro e w' ⟨rfl, rfl⟩)
    | (go_at_call 188; refine (l01Number_any _ _).mono ?_; rintro e w' ⟨rfl, rfl⟩)
    | (go_at_call 96; refine (specWordOk_any _ _ hs).mono ?_; rintro e w' ⟨rfl, rfl⟩))
    all_goals
      go_ret
      refine ⟨ret_bool ?_, (Below.refl _ _).alloc (Nat.le_refl _) _⟩
      first
        | (simp_all [nodeB, ByteArray.toList_eq]; done)
        | (simp_all [nodeB, ByteArray.toList_eq, numB, colB]; done)
        | (simp_all [nodeB, ByteArray.toList_eq, numB, colB]; omega)
  · have hp : 0 < (z :: zs).length := by simp
    have hq : (0 : Int) < ((z :: zs).length : Int) := by simp
    generalize (z :: zs).length = m at hp hq hl ⊢
    go_enter Tryz.func132, Tryz.ntmps132
    go_wp2_with (first
    | (go_at_call 97; refine (l01In_any _ _ _ _).mono ?_; rintro e w' ⟨rfl, rfl⟩)
    | (go_at_call 207; refine (l02Col_any _ _).mono ?_; rintro e w' ⟨rfl, rfl⟩)
    | (go_at_call 188; refine (l01Number_any _ _).mono ?_; rintro e w' ⟨rfl, rfl⟩)
    | (go_at_call 96; refine (specWordOk_any _ _ hs).mono ?_; rintro e w' ⟨rfl, rfl⟩))
    all_goals
      go_ret
      refine ⟨ret_bool ?_, (Below.refl _ _).alloc (Nat.le_refl _) _⟩
      first
        | (simp_all [nodeB, ByteArray.toList_eq]; done)
        | (simp_all [nodeB, ByteArray.toList_eq, numB, colB]; done)
        | (simp_all [nodeB, ByteArray.toList_eq, numB, colB]; omega)

set_option maxRecDepth 100000 in
set_option maxHeartbeats 4000000 in
theorem specNodeOk5 (name : ByteArray) (col op num : Int) (slot : Bool) (cols : List Int) (a : Option Addr) (c : Nat) (w : World) (hl : cols.length ≤ maxLen) (hs : name.size ≤ maxLen) :
    Calls Tryz.prog 132 #[.agg #[.int .i64 5, .string name, .int .i64 col, .int .i64 op, .int .i64 num, .bool slot, .slice a cols.length c]] w fun e w' => e = .returned (.bool (nodeB ⟨5, name, col, op, num, slot, cols⟩)) ∧ Below w.heap.size w w' := by
  unfold maxLen at hl
  rcases cols with _ | ⟨z, zs⟩
  · go_enter Tryz.func132, Tryz.ntmps132
    go_wp2_with (first
    | (go_at_call 97; refine (l01In_any _ _ _ _).mono ?_; rintro e w' ⟨rfl, rfl⟩)
    | (go_at_call 207; refine (l02Col_any _ _).mono ?_; rintro e w' ⟨rfl, rfl⟩)
    | (go_at_call 188; refine (l01Number_any _ _).mono ?_; rintro e w' ⟨rfl, rfl⟩)
    | (go_at_call 96; refine (specWordOk_any _ _ hs).mono ?_; rintro e w' ⟨rfl, rfl⟩))
    all_goals
      go_ret
      refine ⟨ret_bool ?_, (Below.refl _ _).alloc (Nat.le_refl _) _⟩
      first
        | (simp_all [nodeB, ByteArray.toList_eq]; done)
        | (simp_all [nodeB, ByteArray.toList_eq, numB, colB]; done)
        | (simp_all [nodeB, ByteArray.toList_eq, numB, colB]; omega)
  · have hp : 0 < (z :: zs).length := by simp
    have hq : (0 : Int) < ((z :: zs).length : Int) := by simp
    generalize (z :: zs).length = m at hp hq hl ⊢
    go_enter Tryz.func132, Tryz.ntmps132
    go_wp2_with (first
    | (go_at_call 97; refine (l01In_any _ _ _ _).mono ?_; rintro e w' ⟨rfl, rfl⟩)
    | (go_at_call 207; refine (l02Col_any _ _).mono ?_; rintro e w' ⟨rfl, rfl⟩)
    | (go_at_call 188; refine (l01Number_any _ _).mono ?_; rintro e w' ⟨rfl, rfl⟩)
    | (go_at_call 96; refine (specWordOk_any _ _ hs).mono ?_; rintro e w' ⟨rfl, rfl⟩))
    all_goals
      go_ret
      refine ⟨ret_bool ?_, (Below.refl _ _).alloc (Nat.le_refl _) _⟩
      first
        | (simp_all [nodeB, ByteArray.toList_eq]; done)
        | (simp_all [nodeB, ByteArray.toList_eq, numB, colB]; done)
        | (simp_all [nodeB, ByteArray.toList_eq, numB, colB]; omega)
end Go.Proofs.YtfpbhedophlnkaaGreatDoor
namespace Go.Proofs.YtfpbhedophlnkaaGreatDoor
open Go.RowKit
set_option linter.unusedSimpArgs false
set_option linter.unusedVariables false

set_option maxRecDepth 100000 in
set_option maxHeartbeats 4000000 in
theorem specNodeOk1 (name : ByteArray) (col op num : Int) (slot : Bool) (cols : List Int) (a : Option Addr) (c : Nat) (w : World) (hl : cols.length ≤ maxLen) (hs : name.size ≤ maxLen) :
    Calls Tryz.prog 132 #[.agg #[.int .i64 1, .string name, .int .i64 col, .int .i64 op, .int .i64 num, .bool slot, .slice a cols.length c]] w fun e w' => e = .returned (.bool (nodeB ⟨1, name, col, op, num, slot, cols⟩)) ∧ Below w.heap.size w w' := by
  unfold maxLen at hl
  rcases cols with _ | ⟨z, zs⟩
  · go_enter Tryz.func132, Tryz.ntmps132
    go_wp2_with (first
    | (go_at_call 97; refine (l01In_any _ _ _ _).mono ?_; rintro e w' ⟨rfl, rfl⟩)
    | (go_at_call 207; refine (l02Col_any _ _).mono ?_; rintro e w' ⟨rfl, rfl⟩)
    | (go_at_call 188; refine (l01Number_any _ _).mono ?_; rintro e w' ⟨rfl, rfl⟩)
    | (go_at_call 96; refine (specWordOk_any _ _ hs).mono ?_; rintro e w' ⟨rfl, rfl⟩))
    all_goals
      go_ret
      refine ⟨ret_bool ?_, (Below.refl _ _).alloc (Nat.le_refl _) _⟩
      first
        | (simp_all [nodeB, ByteArray.toList_eq]; done)
        | (simp_all [nodeB, ByteArray.toList_eq, numB, colB]; done)
        | (simp_all [nodeB, ByteArray.toList_eq, numB, colB]; omega)
  · have hp : 0 < (z :: zs).length := by simp
    have hq : (0 : Int) < ((z :: zs).length : Int) := by simp
    generalize (z :: zs).length = m at hp hq hl ⊢
    go_enter Tryz.func132, Tryz.ntmps132
    go_wp2_with (first
    | (go_at_call 97; refine (l01In_any _ _ _ _).mono ?_; rintro e w' ⟨rfl, rfl⟩)
    | (go_at_call 207; refine (l02Col_any _ _).mono ?_; rintro e w' ⟨rfl, rfl⟩)
    | (go_at_call 188; refine (l01Number_any _ _).mono ?_; rintro e w' ⟨rfl, rfl⟩)
    | (go_at_call 96; refine (specWordOk_any _ _ hs).mono ?_; rintro e w' ⟨rfl, rfl⟩))
    all_goals
      go_ret
      refine ⟨ret_bool ?_, (Below.refl _ _).alloc (Nat.le_refl _) _⟩
      first
        | (simp_all [nodeB, ByteArray.toList_eq]; done)
        | (simp_all [nodeB, ByteArray.toList_eq, numB, colB]; done)
        | (simp_all [nodeB, ByteArray.toList_eq, numB, colB]; omega)
end Go.Proofs.YtfpbhedophlnkaaGreatDoor
namespace Go.Proofs.YtfpbhedophlnkaaGreatDoor
open Go.RowKit
set_option linter.unusedSimpArgs false
set_option linter.unusedVariables false

set_option maxRecDepth 100000 in
set_option maxHeartbeats 4000000 in
theorem specNodeOk3 (name : ByteArray) (col op num : Int) (slot : Bool) (cols : List Int) (a : Option Addr) (c : Nat) (w : World) (hl : cols.length ≤ maxLen) (hs : name.size ≤ maxLen) :
    Calls Tryz.prog 132 #[.agg #[.int .i64 3, .string name, .int .i64 col, .int .i64 op, .int .i64 num, .bool slot, .slice a cols.length c]] w fun e w' => e = .returned (.bool (nodeB ⟨3, name, col, op, num, slot, cols⟩)) ∧ Below w.heap.size w w' := by
  unfold maxLen at hl
  rcases cols with _ | ⟨z, zs⟩
  · go_enter Tryz.func132, Tryz.ntmps132
    go_wp2_with (first
    | (go_at_call 97; refine (l01In_any _ _ _ _).mono ?_; rintro e w' ⟨rfl, rfl⟩)
    | (go_at_call 207; refine (l02Col_any _ _).mono ?_; rintro e w' ⟨rfl, rfl⟩)
    | (go_at_call 188; refine (l01Number_any _ _).mono ?_; rintro e w' ⟨rfl, rfl⟩)
    | (go_at_call 96; refine (specWordOk_any _ _ hs).mono ?_; rintro e w' ⟨rfl, rfl⟩))
    all_goals
      go_ret
      refine ⟨ret_bool ?_, (Below.refl _ _).alloc (Nat.le_refl _) _⟩
      first
        | (simp_all [nodeB, ByteArray.toList_eq]; done)
        | (simp_all [nodeB, ByteArray.toList_eq, numB, colB]; done)
        | (simp_all [nodeB, ByteArray.toList_eq, numB, colB]; omega)
  · have hp : 0 < (z :: zs).length := by simp
    have hq : (0 : Int) < ((z :: zs).length : Int) := by simp
    generalize (z :: zs).length = m at hp hq hl ⊢
    go_enter Tryz.func132, Tryz.ntmps132
    go_wp2_with (first
    | (go_at_call 97; refine (l01In_any _ _ _ _).mono ?_; rintro e w' ⟨rfl, rfl⟩)
    | (go_at_call 207; refine (l02Col_any _ _).mono ?_; rintro e w' ⟨rfl, rfl⟩)
    | (go_at_call 188; refine (l01Number_any _ _).mono ?_; rintro e w' ⟨rfl, rfl⟩)
    | (go_at_call 96; refine (specWordOk_any _ _ hs).mono ?_; rintro e w' ⟨rfl, rfl⟩))
    all_goals
      go_ret
      refine ⟨ret_bool ?_, (Below.refl _ _).alloc (Nat.le_refl _) _⟩
      first
        | (simp_all [nodeB, ByteArray.toList_eq]; done)
        | (simp_all [nodeB, ByteArray.toList_eq, numB, colB]; done)
        | (simp_all [nodeB, ByteArray.toList_eq, numB, colB]; omega)

set_option maxRecDepth 100000 in
set_option maxHeartbeats 4000000 in
theorem specNodeOk6 (name : ByteArray) (col op num : Int) (slot : Bool) (cols : List Int) (a : Option Addr) (c : Nat) (w : World) (hl : cols.length ≤ maxLen) (hs : name.size ≤ maxLen) :
    Calls Tryz.prog 132 #[.agg #[.int .i64 6, .string name, .int .i64 col, .int .i64 op, .int .i64 num, .bool slot, .slice a cols.length c]] w fun e w' => e = .returned (.bool (nodeB ⟨6, name, col, op, num, slot, cols⟩)) ∧ Below w.heap.size w w' := by
  unfold maxLen at hl
  rcases cols with _ | ⟨z, zs⟩
  · go_enter Tryz.func132, Tryz.ntmps132
    go_wp2_with (first
    | (go_at_call 97; refine (l01In_any _ _ _ _).mono ?_; rintro e w' ⟨rfl, rfl⟩)
    | (go_at_call 207; refine (l02Col_any _ _).mono ?_; rintro e w' ⟨rfl, rfl⟩)
    | (go_at_call 188; refine (l01Number_any _ _).mono ?_; rintro e w' ⟨rfl, rfl⟩)
    | (go_at_call 96; refine (specWordOk_any _ _ hs).mono ?_; rintro e w' ⟨rfl, rfl⟩))
    all_goals
      go_ret
      refine ⟨ret_bool ?_, (Below.refl _ _).alloc (Nat.le_refl _) _⟩
      first
        | (simp_all [nodeB, ByteArray.toList_eq]; done)
        | (simp_all [nodeB, ByteArray.toList_eq, numB, colB]; done)
        | (simp_all [nodeB, ByteArray.toList_eq, numB, colB]; omega)
  · have hp : 0 < (z :: zs).length := by simp
    have hq : (0 : Int) < ((z :: zs).length : Int) := by simp
    generalize (z :: zs).length = m at hp hq hl ⊢
    go_enter Tryz.func132, Tryz.ntmps132
    go_wp2_with (first
    | (go_at_call 97; refine (l01In_any _ _ _ _).mono ?_; rintro e w' ⟨rfl, rfl⟩)
    | (go_at_call 207; refine (l02Col_any _ _).mono ?_; rintro e w' ⟨rfl, rfl⟩)
    | (go_at_call 188; refine (l01Number_any _ _).mono ?_; rintro e w' ⟨rfl, rfl⟩)
    | (go_at_call 96; refine (specWordOk_any _ _ hs).mono ?_; rintro e w' ⟨rfl, rfl⟩))
    all_goals
      go_ret
      refine ⟨ret_bool ?_, (Below.refl _ _).alloc (Nat.le_refl _) _⟩
      first
        | (simp_all [nodeB, ByteArray.toList_eq]; done)
        | (simp_all [nodeB, ByteArray.toList_eq, numB, colB]; done)
        | (simp_all [nodeB, ByteArray.toList_eq, numB, colB]; omega)
end Go.Proofs.YtfpbhedophlnkaaGreatDoor
namespace Go.Proofs.YtfpbhedophlnkaaGreatDoor
open Go.RowKit
set_option linter.unusedSimpArgs false
set_option linter.unusedVariables false

set_option maxRecDepth 100000 in
set_option maxHeartbeats 4000000 in
theorem specNodeOkOut (k : Int) (hk : k < 0 ∨ 7 < k) (name : ByteArray) (col op num : Int) (slot : Bool) (cols : List Int) (a : Option Addr) (c : Nat) (w : World) (hl : cols.length ≤ maxLen) (hs : name.size ≤ maxLen) :
    Calls Tryz.prog 132 #[.agg #[.int .i64 k, .string name, .int .i64 col, .int .i64 op, .int .i64 num, .bool slot, .slice a cols.length c]] w fun e w' => e = .returned (.bool (nodeB ⟨k, name, col, op, num, slot, cols⟩)) ∧ Below w.heap.size w w' := by
  unfold maxLen at hl
  have h0 : (k == 0) = false := beq_eq_false_iff_ne.2 (by omega)
  have g0 : (k != 0) = true := by rw [bne_iff_ne]; omega
  have h1 : (k == 1) = false := beq_eq_false_iff_ne.2 (by omega)
  have g1 : (k != 1) = true := by rw [bne_iff_ne]; omega
  have h2 : (k == 2) = false := beq_eq_false_iff_ne.2 (by omega)
  have g2 : (k != 2) = true := by rw [bne_iff_ne]; omega
  have h3 : (k == 3) = false := beq_eq_false_iff_ne.2 (by omega)
  have g3 : (k != 3) = true := by rw [bne_iff_ne]; omega
  have h4 : (k == 4) = false := beq_eq_false_iff_ne.2 (by omega)
  have g4 : (k != 4) = true := by rw [bne_iff_ne]; omega
  have h5 : (k == 5) = false := beq_eq_false_iff_ne.2 (by omega)
  have g5 : (k != 5) = true := by rw [bne_iff_ne]; omega
  have h6 : (k == 6) = false := beq_eq_false_iff_ne.2 (by omega)
  have g6 : (k != 6) = true := by rw [bne_iff_ne]; omega
  have h7 : (k == 7) = false := beq_eq_false_iff_ne.2 (by omega)
  have g7 : (k != 7) = true := by rw [bne_iff_ne]; omega
  have HN : Hid (nodeB ⟨k, name, col, op, num, slot, cols⟩ = false) := by
    show nodeB ⟨k, name, col, op, num, slot, cols⟩ = false
    simp only [nodeB]
    rw [if_neg (by omega), if_neg (by omega), if_neg (by omega), if_neg (by omega), if_neg (by omega), if_neg (by omega), if_neg (by omega), if_neg (by omega)]
  clear hk
  rcases cols with _ | ⟨z, zs⟩
  · go_enter Tryz.func132, Tryz.ntmps132
    go_wp2_with (first
    | (go_at_call 97; refine (l01In_any _ _ _ _).mono ?_; rintro e w' ⟨rfl, rfl⟩)
    | (go_at_call 207; refine (l02Col_any _ _).mono ?_; rintro e w' ⟨rfl, rfl⟩)
    | (go_at_call 188; refine (l01Number_any _ _).mono ?_; rintro e w' ⟨rfl, rfl⟩)
    | (go_at_call 96; refine (specWordOk_any _ _ hs).mono ?_; rintro e w' ⟨rfl, rfl⟩))
    all_goals (go_ret; exact ⟨ret_bool HN.out.symm, (Below.refl _ _).alloc (Nat.le_refl _) _⟩)
  · have hp : 0 < (z :: zs).length := by simp
    have hq : (0 : Int) < ((z :: zs).length : Int) := by simp
    generalize (z :: zs).length = m at hp hq hl ⊢
    go_enter Tryz.func132, Tryz.ntmps132
    go_wp2_with (first
    | (go_at_call 97; refine (l01In_any _ _ _ _).mono ?_; rintro e w' ⟨rfl, rfl⟩)
    | (go_at_call 207; refine (l02Col_any _ _).mono ?_; rintro e w' ⟨rfl, rfl⟩)
    | (go_at_call 188; refine (l01Number_any _ _).mono ?_; rintro e w' ⟨rfl, rfl⟩)
    | (go_at_call 96; refine (specWordOk_any _ _ hs).mono ?_; rintro e w' ⟨rfl, rfl⟩))
    all_goals (go_ret; exact ⟨ret_bool HN.out.symm, (Below.refl _ _).alloc (Nat.le_refl _) _⟩)
end Go.Proofs.YtfpbhedophlnkaaGreatDoor
