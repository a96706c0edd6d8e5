/-
  Contracts of spec.ArityOf, impl.kindOf, impl.arityOf and impl.ArityOf. For every number, for every node.
-/
import Derived.Test.YtfpbhedophlnkaaDoorRows
import Derived.Test.YtfpbhedophlnkaaDoorNodes
import Derived.Test.YtfpbhedophlnkaaDoorMem
import Derived.Test.YtfpbhedophlnkaaDoorAsserts
import Derived.WalkKit
import Derived.WalkSpells
import Derived.WalkLawsBesides
import Derived.Lib.Hide
namespace Go.Proofs.YtfpbhedophlnkaaDoor
open Go.RowKit
set_option linter.unusedSimpArgs false
set_option linter.unusedVariables false

theorem kind_ways (k : Int) : k = 0 ∨ k = 1 ∨ k = 2 ∨ k = 3 ∨ k = 4 ∨ k = 5 ∨ k = 6 ∨ k = 7 ∨ (k < 0 ∨ 7 < k) := by omega
theorem arity_out {k : Int} (h : k < 0 ∨ 7 < k) : arity k = -1 := by
  simp only [arity]; rw [if_neg (by omega), if_neg (by omega), if_neg (by omega)]

theorem specArity_any (k : Int) (w : World) : Calls Tryd.prog 52 #[.int .i64 k] w fun e w' => e = .returned (.int .i64 (arity k)) ∧ w = w' := by
  rcases kind_ways k with rfl | rfl | rfl | rfl | rfl | rfl | rfl | rfl | hk
  iterate 8
    · go_enter Tryd.func52, Tryd.ntmps52
      go_wp2
      go_ret
      exact ⟨ret_int (by simp [arity]), rfl⟩
  · have HF := Lib.hid (arity_out hk)
    have h0 : (k == 0) = false := beq_eq_false_iff_ne.2 (by omega)
    have h1 : (k == 1) = false := beq_eq_false_iff_ne.2 (by omega)
    have h2 : (k == 2) = false := beq_eq_false_iff_ne.2 (by omega)
    have h3 : (k == 3) = false := beq_eq_false_iff_ne.2 (by omega)
    have h4 : (k == 4) = false := beq_eq_false_iff_ne.2 (by omega)
    have h5 : (k == 5) = false := beq_eq_false_iff_ne.2 (by omega)
    have h6 : (k == 6) = false := beq_eq_false_iff_ne.2 (by omega)
    have h7 : (k == 7) = false := beq_eq_false_iff_ne.2 (by omega)
    clear hk
    go_enter Tryd.func52, Tryd.ntmps52
    go_wp2
    go_ret
    exact ⟨ret_int HF.out.symm, rfl⟩

/-- The kind that a node has, as an interface value. -/
def kindV (n : Nd) (a : Option Addr) (c : Nat) : Value :=
  if n.kind = 0 then .iface 62 (.agg #[.string n.name])
  else if n.kind = 1 then .iface 64 (.agg #[.int .i64 n.col, .int .i64 n.op, .int .i64 n.num, .bool n.slot])
  else if n.kind = 2 then .iface 66 (.agg #[.slice a n.cols.length c])
  else if n.kind = 3 then .iface 68 (.agg #[.int .i64 n.col, .int .i64 n.num])
  else if n.kind = 4 then .iface 70 (.agg #[])
  else if n.kind = 5 then .iface 72 (.agg #[.int .i64 n.col])
  else if n.kind = 6 then .iface 74 (.agg #[.int .i64 n.num, .bool n.slot])
  else if n.kind = 7 then .iface 75 (.agg #[])
  else .nilIface
theorem ret_val {a b : Value} (h : a = b) : Ending.returned a = .returned b := by rw [h]

theorem kindOf_any (n : Nd) (a : Option Addr) (c : Nat) (w : World) :
    Calls Tryd.prog 27 #[.agg #[.int .i64 n.kind, .string n.name, .int .i64 n.col, .int .i64 n.op, .int .i64 n.num, .bool n.slot, .slice a n.cols.length c]] w fun e w' => e = .returned (kindV n a c) ∧ Below w.heap.size w w' := by
  obtain ⟨k, name, col, op, num, slot, cols⟩ := n
  simp only
  rcases kind_ways k with rfl | rfl | rfl | rfl | rfl | rfl | rfl | rfl | hk
  iterate 8
    · go_enter Tryd.func27, Tryd.ntmps27
      go_wp2
      go_ret
      exact ⟨ret_val (by simp [kindV]), (Below.refl _ _).alloc (Nat.le_refl _) _⟩
  · have HF : Hid (kindV ⟨k, name, col, op, num, slot, cols⟩ a c = .nilIface) := by
      show kindV ⟨k, name, col, op, num, slot, cols⟩ a c = .nilIface
      simp only [kindV]
      rw [if_neg (by omega), if_neg (by omega), if_neg (by omega), if_neg (by omega), if_neg (by omega), if_neg (by omega), if_neg (by omega), if_neg (by omega)]
    have h0 : (k == 0) = false := beq_eq_false_iff_ne.2 (by omega)
    have h1 : (k == 1) = false := beq_eq_false_iff_ne.2 (by omega)
    have h2 : (k == 2) = false := beq_eq_false_iff_ne.2 (by omega)
    have h3 : (k == 3) = false := beq_eq_false_iff_ne.2 (by omega)
    have h4 : (k == 4) = false := beq_eq_false_iff_ne.2 (by omega)
    have h5 : (k == 5) = false := beq_eq_false_iff_ne.2 (by omega)
    have h6 : (k == 6) = false := beq_eq_false_iff_ne.2 (by omega)
    have h7 : (k == 7) = false := beq_eq_false_iff_ne.2 (by omega)
    clear hk
    go_enter Tryd.func27, Tryd.ntmps27
    go_wp2
    go_ret
    exact ⟨ret_val HF.out.symm, (Below.refl _ _).alloc (Nat.le_refl _) _⟩

set_option maxRecDepth 100000 in
theorem arityOf_any (n : Nd) (a : Option Addr) (c : Nat) (w : World) :
    Calls Tryd.prog 55 #[kindV n a c] w fun e w' => e = .returned (.int .i64 (arity n.kind)) ∧ w = w' := by
  obtain ⟨k, name, col, op, num, slot, cols⟩ := n
  simp only
  rcases kind_ways k with rfl | rfl | rfl | rfl | rfl | rfl | rfl | rfl | hk
  · simp only [kindV, Int.reduceEq, if_false, if_true]
    have f0 := Tryd.as_scanNode_scanNode
    go_enter Tryd.func55, Tryd.ntmps55
    go_wp2
    go_ret
    exact ⟨ret_int (by simp [arity]), rfl⟩
  · simp only [kindV, Int.reduceEq, if_false, if_true]
    have f0 := Tryd.as_filterNode_scanNode
    have f1 := Tryd.as_filterNode_filterNode
    have f2 := Tryd.as_filterNode_keepNode
    have f3 := Tryd.as_filterNode_sortNode
    have f4 := Tryd.as_filterNode_limitNode
    have f5 := Tryd.as_filterNode_onceNode
    go_enter Tryd.func55, Tryd.ntmps55
    go_wp2
    go_ret
    exact ⟨ret_int (by simp [arity]), rfl⟩
  · simp only [kindV, Int.reduceEq, if_false, if_true]
    have f0 := Tryd.as_keepNode_scanNode
    have f1 := Tryd.as_keepNode_filterNode
    have f2 := Tryd.as_keepNode_keepNode
    have f3 := Tryd.as_keepNode_sortNode
    have f4 := Tryd.as_keepNode_limitNode
    have f5 := Tryd.as_keepNode_onceNode
    go_enter Tryd.func55, Tryd.ntmps55
    go_wp2
    go_ret
    exact ⟨ret_int (by simp [arity]), rfl⟩
  · simp only [kindV, Int.reduceEq, if_false, if_true]
    have f0 := Tryd.as_joinNode_scanNode
    have f1 := Tryd.as_joinNode_filterNode
    have f2 := Tryd.as_joinNode_keepNode
    have f3 := Tryd.as_joinNode_sortNode
    have f4 := Tryd.as_joinNode_limitNode
    have f5 := Tryd.as_joinNode_onceNode
    have f6 := Tryd.as_joinNode_joinNode
    have f7 := Tryd.as_joinNode_bothNode
    go_enter Tryd.func55, Tryd.ntmps55
    go_wp2
    go_ret
    exact ⟨ret_int (by simp [arity]), rfl⟩
  · simp only [kindV, Int.reduceEq, if_false, if_true]
    have f0 := Tryd.as_bothNode_scanNode
    have f1 := Tryd.as_bothNode_filterNode
    have f2 := Tryd.as_bothNode_keepNode
    have f3 := Tryd.as_bothNode_sortNode
    have f4 := Tryd.as_bothNode_limitNode
    have f5 := Tryd.as_bothNode_onceNode
    have f6 := Tryd.as_bothNode_joinNode
    have f7 := Tryd.as_bothNode_bothNode
    go_enter Tryd.func55, Tryd.ntmps55
    go_wp2
    go_ret
    exact ⟨ret_int (by simp [arity]), rfl⟩
  · simp only [kindV, Int.reduceEq, if_false, if_true]
    have f0 := Tryd.as_sortNode_scanNode
    have f1 := Tryd.as_sortNode_filterNode
    have f2 := Tryd.as_sortNode_keepNode
    have f3 := Tryd.as_sortNode_sortNode
    have f4 := Tryd.as_sortNode_limitNode
    have f5 := Tryd.as_sortNode_onceNode
    go_enter Tryd.func55, Tryd.ntmps55
    go_wp2
    go_ret
    exact ⟨ret_int (by simp [arity]), rfl⟩
  · simp only [kindV, Int.reduceEq, if_false, if_true]
    have f0 := Tryd.as_limitNode_scanNode
    have f1 := Tryd.as_limitNode_filterNode
    have f2 := Tryd.as_limitNode_keepNode
    have f3 := Tryd.as_limitNode_sortNode
    have f4 := Tryd.as_limitNode_limitNode
    have f5 := Tryd.as_limitNode_onceNode
    go_enter Tryd.func55, Tryd.ntmps55
    go_wp2
    go_ret
    exact ⟨ret_int (by simp [arity]), rfl⟩
  · simp only [kindV, Int.reduceEq, if_false, if_true]
    have f0 := Tryd.as_onceNode_scanNode
    have f1 := Tryd.as_onceNode_filterNode
    have f2 := Tryd.as_onceNode_keepNode
    have f3 := Tryd.as_onceNode_sortNode
    have f4 := Tryd.as_onceNode_limitNode
    have f5 := Tryd.as_onceNode_onceNode
    go_enter Tryd.func55, Tryd.ntmps55
    go_wp2
    go_ret
    exact ⟨ret_int (by simp [arity]), rfl⟩
  · have HF := Lib.hid (arity_out hk)
    have e : kindV ⟨k, name, col, op, num, slot, cols⟩ a c = .nilIface := by
      simp only [kindV]
      rw [if_neg (by omega), if_neg (by omega), if_neg (by omega), if_neg (by omega), if_neg (by omega), if_neg (by omega), if_neg (by omega), if_neg (by omega)]
    rw [e]
    clear hk e
    have f0 := Tryd.as_nil_scanNode
    have f1 := Tryd.as_nil_filterNode
    have f2 := Tryd.as_nil_keepNode
    have f3 := Tryd.as_nil_sortNode
    have f4 := Tryd.as_nil_limitNode
    have f5 := Tryd.as_nil_onceNode
    have f6 := Tryd.as_nil_joinNode
    have f7 := Tryd.as_nil_bothNode
    go_enter Tryd.func55, Tryd.ntmps55
    go_wp2
    go_ret
    exact ⟨ret_int HF.out.symm, rfl⟩

end Go.Proofs.YtfpbhedophlnkaaDoor
