/-
  Contracts of spec.ArityOf, impl.kindOf, impl.arityOf and impl.ArityOf. For every number, for every node.
-/
import Derived.Test.YtcegekkhlfpgfaaDoorRows
import Derived.Test.YtcegekkhlfpgfaaDoorNodes
import Derived.Test.YtcegekkhlfpgfaaDoorMem
import Derived.Test.YtcegekkhlfpgfaaDoorAsserts
import Derived.WalkKit
import Derived.WalkSpells
import Derived.WalkLawsBesides
import Derived.Lib.Hide
namespace Go.Proofs.YtcegekkhlfpgfaaDoor
open Go.RowKit
set_option linter.unusedSimpArgs false
set_option linter.unusedVariables false

theorem kind_ways (k : Int) : k = 0 ∨ k = 1 ∨ k = 2 ∨ k = 3 ∨ k = 4 ∨ k = 5 ∨ k = 6 ∨ k = 7 ∨ (k < 0 ∨ 7 < k) := by omega
theorem arity_out {k : Int} (h : k < 0 ∨ 7 < k) : arity k = -1 := by
  simp only [arity]; rw [if_neg (by omega), if_neg (by omega), if_neg (by omega)]

/-- The kind that a node has, as an interface value. -/
def kindV (n : Nd) (a : Option Addr) (c : Nat) : Value :=
  if n.kind = 0 then .iface 149 (.agg #[.string n.name])
  else if n.kind = 1 then .iface 151 (.agg #[.int .i64 n.col, .int .i64 n.op, .int .i64 n.num, .bool n.slot])
  else if n.kind = 2 then .iface 153 (.agg #[.slice a n.cols.length c])
  else if n.kind = 3 then .iface 155 (.agg #[.int .i64 n.col, .int .i64 n.num])
  else if n.kind = 4 then .iface 157 (.agg #[])
  else if n.kind = 5 then .iface 159 (.agg #[.int .i64 n.col])
  else if n.kind = 6 then .iface 161 (.agg #[.int .i64 n.num, .bool n.slot])
  else if n.kind = 7 then .iface 162 (.agg #[])
  else .nilIface
theorem ret_val {a b : Value} (h : a = b) : Ending.returned a = .returned b := by rw [h]

theorem kindOf_any (n : Nd) (a : Option Addr) (c : Nat) (w : World) :
    Calls Tryd.prog 100 #[.agg #[.int .i64 n.kind, .string n.name, .int .i64 n.col, .int .i64 n.op, .int .i64 n.num, .bool n.slot, .slice a n.cols.length c]] w fun e w' => e = .returned (kindV n a c) ∧ Below w.heap.size w w' := by
  obtain ⟨k, name, col, op, num, slot, cols⟩ := n
  simp only
  rcases kind_ways k with rfl | rfl | rfl | rfl | rfl | rfl | rfl | rfl | hk
  iterate 8
    · go_enter Tryd.func100, Tryd.ntmps100
      go_wp2
      go_ret
      exact ⟨ret_val (by simp [kindV]), (Below.refl _ _).alloc (Nat.le_refl _) _⟩
  · have HF : Hid (kindV ⟨k, name, col, op, num, slot, cols⟩ a c = .nilIface) := by
      show kindV ⟨k, name, col, op, num, slot, cols⟩ a c = .nilIface
      simp only [kindV]
      rw [if_neg (by omega), if_neg (by omega), if_neg (by omega), if_neg (by omega), if_neg (by omega), if_neg (by omega), if_neg (by omega), if_neg (by omega)]
    have h0 : (k == 0) = false := beq_eq_false_iff_ne.2 (by omega)
    have h1 : (k == 1) = false := beq_eq_false_iff_ne.2 (by omega)
    have h2 : (k == 2) = false := beq_eq_false_iff_ne.2 (by omega)
    have h3 : (k == 3) = false := beq_eq_false_iff_ne.2 (by omega)
    have h4 : (k == 4) = false := beq_eq_false_iff_ne.2 (by omega)
    have h5 : (k == 5) = false := beq_eq_false_iff_ne.2 (by omega)
    have h6 : (k == 6) = false := beq_eq_false_iff_ne.2 (by omega)
    have h7 : (k == 7) = false := beq_eq_false_iff_ne.2 (by omega)
    clear hk
    go_enter Tryd.func100, Tryd.ntmps100
    go_wp2
    go_ret
    exact ⟨ret_val HF.out.symm, (Below.refl _ _).alloc (Nat.le_refl _) _⟩

end Go.Proofs.YtcegekkhlfpgfaaDoor
