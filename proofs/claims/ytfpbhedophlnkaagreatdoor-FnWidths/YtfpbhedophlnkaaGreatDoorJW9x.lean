/-
  What each type assertion on a kind of node answers: closed facts of the program. No walk. Contracts of spec.ArityOf, impl.kindOf, impl.arityOf and impl.ArityOf. For every number, for every node.
-/
import Derived.Test.YtfpbhedophlnkaaGreatDoorRows
import Derived.WalkKit
import Derived.Test.YtfpbhedophlnkaaGreatDoorJW3x
import Derived.WalkSpells
import Derived.WalkLawsBesides
import Derived.Lib.Hide
namespace Go.Proofs.YtfpbhedophlnkaaGreatDoor
open Go.RowKit
set_option linter.unusedSimpArgs false
set_option linter.unusedVariables false

theorem Tryz.as_scanNode_scanNode (v : Value) (W : World) : (Instr.typeAssert (.iface 234 v) 94 234 true).run Tryz.prog W = .ok (.tuple #[v, .bool true]) W := by kernel_rfl
theorem Tryz.as_scanNode_filterNode (v : Value) (W : World) : (Instr.typeAssert (.iface 234 v) 94 223 true).run Tryz.prog W = .ok (.tuple #[.agg #[.int .i64 0, .int .i64 0, .int .i64 0, .bool false], .bool false]) W := by kernel_rfl
theorem Tryz.as_scanNode_keepNode (v : Value) (W : World) : (Instr.typeAssert (.iface 234 v) 94 226 true).run Tryz.prog W = .ok (.tuple #[.agg #[.slice none 0 0], .bool false]) W := by kernel_rfl
theorem Tryz.as_scanNode_joinNode (v : Value) (W : World) : (Instr.typeAssert (.iface 234 v) 94 228 true).run Tryz.prog W = .ok (.tuple #[.agg #[.int .i64 0, .int .i64 0], .bool false]) W := by kernel_rfl
theorem Tryz.as_scanNode_bothNode (v : Value) (W : World) : (Instr.typeAssert (.iface 234 v) 94 230 true).run Tryz.prog W = .ok (.tuple #[.agg #[], .bool false]) W := by kernel_rfl
theorem Tryz.as_scanNode_sortNode (v : Value) (W : World) : (Instr.typeAssert (.iface 234 v) 94 232 true).run Tryz.prog W = .ok (.tuple #[.agg #[.int .i64 0], .bool false]) W := by kernel_rfl
theorem Tryz.as_scanNode_limitNode (v : Value) (W : World) : (Instr.typeAssert (.iface 234 v) 94 258 true).run Tryz.prog W = .ok (.tuple #[.agg #[.int .i64 0, .bool false], .bool false]) W := by kernel_rfl
theorem Tryz.as_scanNode_onceNode (v : Value) (W : World) : (Instr.typeAssert (.iface 234 v) 94 259 true).run Tryz.prog W = .ok (.tuple #[.agg #[], .bool false]) W := by kernel_rfl
theorem Tryz.as_filterNode_scanNode (v : Value) (W : World) : (Instr.typeAssert (.iface 223 v) 94 234 true).run Tryz.prog W = .ok (.tuple #[.agg #[.string ⟨#[]⟩], .bool false]) W := by kernel_rfl
theorem Tryz.as_filterNode_filterNode (v : Value) (W : World) : (Instr.typeAssert (.iface 223 v) 94 223 true).run Tryz.prog W = .ok (.tuple #[v, .bool true]) W := by kernel_rfl
theorem Tryz.as_filterNode_keepNode (v : Value) (W : World) : (Instr.typeAssert (.iface 223 v) 94 226 true).run Tryz.prog W = .ok (.tuple #[.agg #[.slice none 0 0], .bool false]) W := by kernel_rfl
theorem Tryz.as_filterNode_joinNode (v : Value) (W : World) : (Instr.typeAssert (.iface 223 v) 94 228 true).run Tryz.prog W = .ok (.tuple #[.agg #[.int .i64 0, .int .i64 0], .bool false]) W := by kernel_rfl
theorem Tryz.as_filterNode_bothNode (v : Value) (W : World) : (Instr.typeAssert (.iface 223 v) 94 230 true).run Tryz.prog W = .ok (.tuple #[.agg #[], .bool false]) W := by kernel_rfl
theorem Tryz.as_filterNode_sortNode (v : Value) (W : World) : (Instr.typeAssert (.iface 223 v) 94 232 true).run Tryz.prog W = .ok (.tuple #[.agg #[.int .i64 0], .bool false]) W := by kernel_rfl
theorem Tryz.as_filterNode_limitNode (v : Value) (W : World) : (Instr.typeAssert (.iface 223 v) 94 258 true).run Tryz.prog W = .ok (.tuple #[.agg #[.int .i64 0, .bool false], .bool false]) W := by kernel_rfl
theorem Tryz.as_filterNode_onceNode (v : Value) (W : World) : (Instr.typeAssert (.iface 223 v) 94 259 true).run Tryz.prog W = .ok (.tuple #[.agg #[], .bool false]) W := by kernel_rfl
theorem Tryz.as_keepNode_scanNode (v : Value) (W : World) : (Instr.typeAssert (.iface 226 v) 94 234 true).run Tryz.prog W = .ok (.tuple #[.agg #[.string ⟨#[]⟩], .bool false]) W := by kernel_rfl
theorem Tryz.as_keepNode_filterNode (v : Value) (W : World) : (Instr.typeAssert (.iface 226 v) 94 223 true).run Tryz.prog W = .ok (.tuple #[.agg #[.int .i64 0, .int .i64 0, .int .i64 0, .bool false], .bool false]) W := by kernel_rfl
theorem Tryz.as_keepNode_keepNode (v : Value) (W : World) : (Instr.typeAssert (.iface 226 v) 94 226 true).run Tryz.prog W = .ok (.tuple #[v, .bool true]) W := by kernel_rfl
theorem Tryz.as_keepNode_joinNode (v : Value) (W : World) : (Instr.typeAssert (.iface 226 v) 94 228 true).run Tryz.prog W = .ok (.tuple #[.agg #[.int .i64 0, .int .i64 0], .bool false]) W := by kernel_rfl
theorem Tryz.as_keepNode_bothNode (v : Value) (W : World) : (Instr.typeAssert (.iface 226 v) 94 230 true).run Tryz.prog W = .ok (.tuple #[.agg #[], .bool false]) W := by kernel_rfl
theorem Tryz.as_keepNode_sortNode (v : Value) (W : World) : (Instr.typeAssert (.iface 226 v) 94 232 true).run Tryz.prog W = .ok (.tuple #[.agg #[.int .i64 0], .bool false]) W := by kernel_rfl
theorem Tryz.as_keepNode_limitNode (v : Value) (W : World) : (Instr.typeAssert (.iface 226 v) 94 258 true).run Tryz.prog W = .ok (.tuple #[.agg #[.int .i64 0, .bool false], .bool false]) W := by kernel_rfl
theorem Tryz.as_keepNode_onceNode (v : Value) (W : World) : (Instr.typeAssert (.iface 226 v) 94 259 true).run Tryz.prog W = .ok (.tuple #[.agg #[], .bool false]) W := by kernel_rfl
theorem Tryz.as_joinNode_scanNode (v : Value) (W : World) : (Instr.typeAssert (.iface 228 v) 94 234 true).run Tryz.prog W = .ok (.tuple #[.agg #[.string ⟨#[]⟩], .bool false]) W := by kernel_rfl
theorem Tryz.as_joinNode_filterNode (v : Value) (W : World) : (Instr.typeAssert (.iface 228 v) 94 223 true).run Tryz.prog W = .ok (.tuple #[.agg #[.int .i64 0, .int .i64 0, .int .i64 0, .bool false], .bool false]) W := by kernel_rfl
theorem Tryz.as_joinNode_keepNode (v : Value) (W : World) : (Instr.typeAssert (.iface 228 v) 94 226 true).run Tryz.prog W = .ok (.tuple #[.agg #[.slice none 0 0], .bool false]) W := by kernel_rfl
theorem Tryz.as_joinNode_joinNode (v : Value) (W : World) : (Instr.typeAssert (.iface 228 v) 94 228 true).run Tryz.prog W = .ok (.tuple #[v, .bool true]) W := by kernel_rfl
theorem Tryz.as_joinNode_bothNode (v : Value) (W : World) : (Instr.typeAssert (.iface 228 v) 94 230 true).run Tryz.prog W = .ok (.tuple #[.agg #[], .bool false]) W := by kernel_rfl
theorem Tryz.as_joinNode_sortNode (v : Value) (W : World) : (Instr.typeAssert (.iface 228 v) 94 232 true).run Tryz.prog W = .ok (.tuple #[.agg #[.int .i64 0], .bool false]) W := by kernel_rfl
theorem Tryz.as_joinNode_limitNode (v : Value) (W : World) : (Instr.typeAssert (.iface 228 v) 94 258 true).run Tryz.prog W = .ok (.tuple #[.agg #[.int .i64 0, .bool false], .bool false]) W := by kernel_rfl
theorem Tryz.as_joinNode_onceNode (v : Value) (W : World) : (Instr.typeAssert (.iface 228 v) 94 259 true).run Tryz.prog W = .ok (.tuple #[.agg #[], .bool false]) W := by kernel_rfl
theorem Tryz.as_bothNode_scanNode (v : Value) (W : World) : (Instr.typeAssert (.iface 230 v) 94 234 true).run Tryz.prog W = .ok (.tuple #[.agg #[.string ⟨#[]⟩], .bool false]) W := by kernel_rfl
theorem Tryz.as_bothNode_filterNode (v : Value) (W : World) : (Instr.typeAssert (.iface 230 v) 94 223 true).run Tryz.prog W = .ok (.tuple #[.agg #[.int .i64 0, .int .i64 0, .int .i64 0, .bool false], .bool false]) W := by kernel_rfl
theorem Tryz.as_bothNode_keepNode (v : Value) (W : World) : (Instr.typeAssert (.iface 230 v) 94 226 true).run Tryz.prog W = .ok (.tuple #[.agg #[.slice none 0 0], .bool false]) W := by kernel_rfl
theorem Tryz.as_bothNode_joinNode (v : Value) (W : World) : (Instr.typeAssert (.iface 230 v) 94 228 true).run Tryz.prog W = .ok (.tuple #[.agg #[.int .i64 0, .int .i64 0], .bool false]) W := by kernel_rfl
theorem Tryz.as_bothNode_bothNode (v : Value) (W : World) : (Instr.typeAssert (.iface 230 v) 94 230 true).run Tryz.prog W = .ok (.tuple #[v, .bool true]) W := by kernel_rfl
theorem Tryz.as_bothNode_sortNode (v : Value) (W : World) : (Instr.typeAssert (.iface 230 v) 94 232 true).run Tryz.prog W = .ok (.tuple #[.agg #[.int .i64 0], .bool false]) W := by kernel_rfl
theorem Tryz.as_bothNode_limitNode (v : Value) (W : World) : (Instr.typeAssert (.iface 230 v) 94 258 true).run Tryz.prog W = .ok (.tuple #[.agg #[.int .i64 0, .bool false], .bool false]) W := by kernel_rfl
theorem Tryz.as_bothNode_onceNode (v : Value) (W : World) : (Instr.typeAssert (.iface 230 v) 94 259 true).run Tryz.prog W = .ok (.tuple #[.agg #[], .bool false]) W := by kernel_rfl
theorem Tryz.as_sortNode_scanNode (v : Value) (W : World) : (Instr.typeAssert (.iface 232 v) 94 234 true).run Tryz.prog W = .ok (.tuple #[.agg #[.string ⟨#[]⟩], .bool false]) W := by kernel_rfl
theorem Tryz.as_sortNode_filterNode (v : Value) (W : World) : (Instr.typeAssert (.iface 232 v) 94 223 true).run Tryz.prog W = .ok (.tuple #[.agg #[.int .i64 0, .int .i64 0, .int .i64 0, .bool false], .bool false]) W := by kernel_rfl
theorem Tryz.as_sortNode_keepNode (v : Value) (W : World) : (Instr.typeAssert (.iface 232 v) 94 226 true).run Tryz.prog W = .ok (.tuple #[.agg #[.slice none 0 0], .bool false]) W := by kernel_rfl
theorem Tryz.as_sortNode_joinNode (v : Value) (W : World) : (Instr.typeAssert (.iface 232 v) 94 228 true).run Tryz.prog W = .ok (.tuple #[.agg #[.int .i64 0, .int .i64 0], .bool false]) W := by kernel_rfl
theorem Tryz.as_sortNode_bothNode (v : Value) (W : World) : (Instr.typeAssert (.iface 232 v) 94 230 true).run Tryz.prog W = .ok (.tuple #[.agg #[], .bool false]) W := by kernel_rfl
theorem Tryz.as_sortNode_sortNode (v : Value) (W : World) : (Instr.typeAssert (.iface 232 v) 94 232 true).run Tryz.prog W = .ok (.tuple #[v, .bool true]) W := by kernel_rfl
theorem Tryz.as_sortNode_limitNode (v : Value) (W : World) : (Instr.typeAssert (.iface 232 v) 94 258 true).run Tryz.prog W = .ok (.tuple #[.agg #[.int .i64 0, .bool false], .bool false]) W := by kernel_rfl
theorem Tryz.as_sortNode_onceNode (v : Value) (W : World) : (Instr.typeAssert (.iface 232 v) 94 259 true).run Tryz.prog W = .ok (.tuple #[.agg #[], .bool false]) W := by kernel_rfl
theorem Tryz.as_limitNode_scanNode (v : Value) (W : World) : (Instr.typeAssert (.iface 258 v) 94 234 true).run Tryz.prog W = .ok (.tuple #[.agg #[.string ⟨#[]⟩], .bool false]) W := by kernel_rfl
theorem Tryz.as_limitNode_filterNode (v : Value) (W : World) : (Instr.typeAssert (.iface 258 v) 94 223 true).run Tryz.prog W = .ok (.tuple #[.agg #[.int .i64 0, .int .i64 0, .int .i64 0, .bool false], .bool false]) W := by kernel_rfl
theorem Tryz.as_limitNode_keepNode (v : Value) (W : World) : (Instr.typeAssert (.iface 258 v) 94 226 true).run Tryz.prog W = .ok (.tuple #[.agg #[.slice none 0 0], .bool false]) W := by kernel_rfl
theorem Tryz.as_limitNode_joinNode (v : Value) (W : World) : (Instr.typeAssert (.iface 258 v) 94 228 true).run Tryz.prog W = .ok (.tuple #[.agg #[.int .i64 0, .int .i64 0], .bool false]) W := by kernel_rfl
theorem Tryz.as_limitNode_bothNode (v : Value) (W : World) : (Instr.typeAssert (.iface 258 v) 94 230 true).run Tryz.prog W = .ok (.tuple #[.agg #[], .bool false]) W := by kernel_rfl
theorem Tryz.as_limitNode_sortNode (v : Value) (W : World) : (Instr.typeAssert (.iface 258 v) 94 232 true).run Tryz.prog W = .ok (.tuple #[.agg #[.int .i64 0], .bool false]) W := by kernel_rfl
theorem Tryz.as_limitNode_limitNode (v : Value) (W : World) : (Instr.typeAssert (.iface 258 v) 94 258 true).run Tryz.prog W = .ok (.tuple #[v, .bool true]) W := by kernel_rfl
theorem Tryz.as_limitNode_onceNode (v : Value) (W : World) : (Instr.typeAssert (.iface 258 v) 94 259 true).run Tryz.prog W = .ok (.tuple #[.agg #[], .bool false]) W := by kernel_rfl
theorem Tryz.as_onceNode_scanNode (v : Value) (W : World) : (Instr.typeAssert (.iface 259 v) 94 234 true).run Tryz.prog W = .ok (.tuple #[.agg #[.string ⟨#[]⟩], .bool false]) W := by kernel_rfl
theorem Tryz.as_onceNode_filterNode (v : Value) (W : World) : (Instr.typeAssert (.iface 259 v) 94 223 true).run Tryz.prog W = .ok (.tuple #[.agg #[.int .i64 0, .int .i64 0, .int .i64 0, .bool false], .bool false]) W := by kernel_rfl
theorem Tryz.as_onceNode_keepNode (v : Value) (W : World) : (Instr.typeAssert (.iface 259 v) 94 226 true).run Tryz.prog W = .ok (.tuple #[.agg #[.slice none 0 0], .bool false]) W := by kernel_rfl
theorem Tryz.as_onceNode_joinNode (v : Value) (W : World) : (Instr.typeAssert (.iface 259 v) 94 228 true).run Tryz.prog W = .ok (.tuple #[.agg #[.int .i64 0, .int .i64 0], .bool false]) W := by kernel_rfl
theorem Tryz.as_onceNode_bothNode (v : Value) (W : World) : (Instr.typeAssert (.iface 259 v) 94 230 true).run Tryz.prog W = .ok (.tuple #[.agg #[], .bool false]) W := by kernel_rfl
theorem Tryz.as_onceNode_sortNode (v : Value) (W : World) : (Instr.typeAssert (.iface 259 v) 94 232 true).run Tryz.prog W = .ok (.tuple #[.agg #[.int .i64 0], .bool false]) W := by kernel_rfl
theorem Tryz.as_onceNode_limitNode (v : Value) (W : World) : (Instr.typeAssert (.iface 259 v) 94 258 true).run Tryz.prog W = .ok (.tuple #[.agg #[.int .i64 0, .bool false], .bool false]) W := by kernel_rfl
theorem Tryz.as_onceNode_onceNode (v : Value) (W : World) : (Instr.typeAssert (.iface 259 v) 94 259 true).run Tryz.prog W = .ok (.tuple #[v, .bool true]) W := by kernel_rfl
theorem Tryz.as_nil_scanNode (W : World) : (Instr.typeAssert .nilIface 94 234 true).run Tryz.prog W = .ok (.tuple #[.agg #[.string ⟨#[]⟩], .bool false]) W := by kernel_rfl
theorem Tryz.as_nil_filterNode (W : World) : (Instr.typeAssert .nilIface 94 223 true).run Tryz.prog W = .ok (.tuple #[.agg #[.int .i64 0, .int .i64 0, .int .i64 0, .bool false], .bool false]) W := by kernel_rfl
theorem Tryz.as_nil_keepNode (W : World) : (Instr.typeAssert .nilIface 94 226 true).run Tryz.prog W = .ok (.tuple #[.agg #[.slice none 0 0], .bool false]) W := by kernel_rfl
theorem Tryz.as_nil_joinNode (W : World) : (Instr.typeAssert .nilIface 94 228 true).run Tryz.prog W = .ok (.tuple #[.agg #[.int .i64 0, .int .i64 0], .bool false]) W := by kernel_rfl
theorem Tryz.as_nil_bothNode (W : World) : (Instr.typeAssert .nilIface 94 230 true).run Tryz.prog W = .ok (.tuple #[.agg #[], .bool false]) W := by kernel_rfl
theorem Tryz.as_nil_sortNode (W : World) : (Instr.typeAssert .nilIface 94 232 true).run Tryz.prog W = .ok (.tuple #[.agg #[.int .i64 0], .bool false]) W := by kernel_rfl
theorem Tryz.as_nil_limitNode (W : World) : (Instr.typeAssert .nilIface 94 258 true).run Tryz.prog W = .ok (.tuple #[.agg #[.int .i64 0, .bool false], .bool false]) W := by kernel_rfl
theorem Tryz.as_nil_onceNode (W : World) : (Instr.typeAssert .nilIface 94 259 true).run Tryz.prog W = .ok (.tuple #[.agg #[], .bool false]) W := by kernel_rfl
end Go.Proofs.YtfpbhedophlnkaaGreatDoor
namespace Go.Proofs.YtfpbhedophlnkaaGreatDoor
open Go.RowKit
set_option linter.unusedSimpArgs false
set_option linter.unusedVariables false

theorem kind_ways (k : Int) : k = 0 ∨ k = 1 ∨ k = 2 ∨ k = 3 ∨ k = 4 ∨ k = 5 ∨ k = 6 ∨ k = 7 ∨ (k < 0 ∨ 7 < k) := by omega
theorem arity_out {k : Int} (h : k < 0 ∨ 7 < k) : arity k = -1 := by
  simp only [arity]; rw [if_neg (by omega), if_neg (by omega), if_neg (by omega)]

theorem specArity_any (k : Int) (w : World) : Calls Tryz.prog 140 #[.int .i64 k] w fun e w' => e = .returned (.int .i64 (arity k)) ∧ w = w' := by
  rcases kind_ways k with rfl | rfl | rfl | rfl | rfl | rfl | rfl | rfl | hk
  iterate 8
    · go_enter Tryz.func140, Tryz.ntmps140
      go_wp2
      go_ret
      exact ⟨ret_int (by simp [arity]), rfl⟩
  · have HF := Lib.hid (arity_out hk)
    have h0 : (k == 0) = false := beq_eq_false_iff_ne.2 (by omega)
    have h1 : (k == 1) = false := beq_eq_false_iff_ne.2 (by omega)
    have h2 : (k == 2) = false := beq_eq_false_iff_ne.2 (by omega)
    have h3 : (k == 3) = false := beq_eq_false_iff_ne.2 (by omega)
    have h4 : (k == 4) = false := beq_eq_false_iff_ne.2 (by omega)
    have h5 : (k == 5) = false := beq_eq_false_iff_ne.2 (by omega)
    have h6 : (k == 6) = false := beq_eq_false_iff_ne.2 (by omega)
    have h7 : (k == 7) = false := beq_eq_false_iff_ne.2 (by omega)
    clear hk
    go_enter Tryz.func140, Tryz.ntmps140
    go_wp2
    go_ret
    exact ⟨ret_int HF.out.symm, rfl⟩

/-- The kind that a node has, as an interface value. -/
def kindV (n : Nd) (a : Option Addr) (c : Nat) : Value :=
  if n.kind = 0 then .iface 234 (.agg #[.string n.name])
  else if n.kind = 1 then .iface 223 (.agg #[.int .i64 n.col, .int .i64 n.op, .int .i64 n.num, .bool n.slot])
  else if n.kind = 2 then .iface 226 (.agg #[.slice a n.cols.length c])
  else if n.kind = 3 then .iface 228 (.agg #[.int .i64 n.col, .int .i64 n.num])
  else if n.kind = 4 then .iface 230 (.agg #[])
  else if n.kind = 5 then .iface 232 (.agg #[.int .i64 n.col])
  else if n.kind = 6 then .iface 258 (.agg #[.int .i64 n.num, .bool n.slot])
  else if n.kind = 7 then .iface 259 (.agg #[])
  else .nilIface
theorem ret_val {a b : Value} (h : a = b) : Ending.returned a = .returned b := by rw [h]

theorem kindOf_any (n : Nd) (a : Option Addr) (c : Nat) (w : World) :
    Calls Tryz.prog 196 #[.agg #[.int .i64 n.kind, .string n.name, .int .i64 n.col, .int .i64 n.op, .int .i64 n.num, .bool n.slot, .slice a n.cols.length c]] w fun e w' => e = .returned (kindV n a c) ∧ Below w.heap.size w w' := by
  obtain ⟨k, name, col, op, num, slot, cols⟩ := n
  simp only
  rcases kind_ways k with rfl | rfl | rfl | rfl | rfl | rfl | rfl | rfl | hk
  iterate 8
    · go_enter Tryz.func196, Tryz.ntmps196
      go_wp2
      go_ret
      exact ⟨ret_val (by simp [kindV]), (Below.refl _ _).alloc (Nat.le_refl _) _⟩
  · have HF : Hid (kindV ⟨k, name, col, op, num, slot, cols⟩ a c = .nilIface) := by
      show kindV ⟨k, name, col, op, num, slot, cols⟩ a c = .nilIface
      simp only [kindV]
      rw [if_neg (by omega), if_neg (by omega), if_neg (by omega), if_neg (by omega), if_neg (by omega), if_neg (by omega), if_neg (by omega), if_neg (by omega)]
    have h0 : (k == 0) = false := beq_eq_false_iff_ne.2 (by omega)
    have h1 : (k == 1) = false := beq_eq_false_iff_ne.2 (by omega)
    have h2 : (k == 2) = false := beq_eq_false_iff_ne.2 (by omega)
    have h3 : (k == 3) = false := beq_eq_false_iff_ne.2 (by omega)
    have h4 : (k == 4) = false := beq_eq_false_iff_ne.2 (by omega)
    have h5 : (k == 5) = false := beq_eq_false_iff_ne.2 (by omega)
    have h6 : (k == 6) = false := beq_eq_false_iff_ne.2 (by omega)
    have h7 : (k == 7) = false := beq_eq_false_iff_ne.2 (by omega)
    clear hk
    go_enter Tryz.func196, Tryz.ntmps196
    go_wp2
    go_ret
    exact ⟨ret_val HF.out.symm, (Below.refl _ _).alloc (Nat.le_refl _) _⟩

set_option maxRecDepth 100000 in
theorem arityOf_any (n : Nd) (a : Option Addr) (c : Nat) (w : World) :
    Calls Tryz.prog 217 #[kindV n a c] w fun e w' => e = .returned (.int .i64 (arity n.kind)) ∧ w = w' := by
  obtain ⟨k, name, col, op, num, slot, cols⟩ := n
  simp only
  rcases kind_ways k with rfl | rfl | rfl | rfl | rfl | rfl | rfl | rfl | hk
  · simp only [kindV, Int.reduceEq, if_false, if_true]
    have f0 := Tryz.as_scanNode_scanNode
    go_enter Tryz.func217, Tryz.ntmps217
    go_wp2
    go_ret
    exact ⟨ret_int (by simp [arity]), rfl⟩
  · simp only [kindV, Int.reduceEq, if_false, if_true]
    have f0 := Tryz.as_filterNode_scanNode
    have f1 := Tryz.as_filterNode_filterNode
    have f2 := Tryz.as_filterNode_keepNode
    have f3 := Tryz.as_filterNode_sortNode
    have f4 := Tryz.as_filterNode_limitNode
    have f5 := Tryz.as_filterNode_onceNode
    go_enter Tryz.func217, Tryz.ntmps217
    go_wp2
    go_ret
    exact ⟨ret_int (by simp [arity]), rfl⟩
  · simp only [kindV, Int.reduceEq, if_false, if_true]
    have f0 := Tryz.as_keepNode_scanNode
    have f1 := Tryz.as_keepNode_filterNode
    have f2 := Tryz.as_keepNode_keepNode
    have f3 := Tryz.as_keepNode_sortNode
    have f4 := Tryz.as_keepNode_limitNode
    have f5 := Tryz.as_keepNode_onceNode
    go_enter Tryz.func217, Tryz.ntmps217
    go_wp2
    go_ret
    exact ⟨ret_int (by simp [arity]), rfl⟩
  · simp only [kindV, Int.reduceEq, if_false, if_true]
    have f0 := Tryz.as_joinNode_scanNode
    have f1 := Tryz.as_joinNode_filterNode
    have f2 := Tryz.as_joinNode_keepNode
    have f3 := Tryz.as_joinNode_sortNode
    have f4 := Tryz.as_joinNode_limitNode
    have f5 := Tryz.as_joinNode_onceNode
    have f6 := Tryz.as_joinNode_joinNode
    have f7 := Tryz.as_joinNode_bothNode
    go_enter Tryz.func217, Tryz.ntmps217
    go_wp2
    go_ret
    exact ⟨ret_int (by simp [arity]), rfl⟩
  · simp only [kindV, Int.reduceEq, if_false, if_true]
    have f0 := Tryz.as_bothNode_scanNode
    have f1 := Tryz.as_bothNode_filterNode
    have f2 := Tryz.as_bothNode_keepNode
    have f3 := Tryz.as_bothNode_sortNode
    have f4 := Tryz.as_bothNode_limitNode
    have f5 := Tryz.as_bothNode_onceNode
    have f6 := Tryz.as_bothNode_joinNode
    have f7 := Tryz.as_bothNode_bothNode
    go_enter Tryz.func217, Tryz.ntmps217
    go_wp2
    go_ret
    exact ⟨ret_int (by simp [arity]), rfl⟩
  · simp only [kindV, Int.reduceEq, if_false, if_true]
    have f0 := Tryz.as_sortNode_scanNode
    have f1 := Tryz.as_sortNode_filterNode
    have f2 := Tryz.as_sortNode_keepNode
    have f3 := Tryz.as_sortNode_sortNode
    have f4 := Tryz.as_sortNode_limitNode
    have f5 := Tryz.as_sortNode_onceNode
    go_enter Tryz.func217, Tryz.ntmps217
    go_wp2
    go_ret
    exact ⟨ret_int (by simp [arity]), rfl⟩
  · simp only [kindV, Int.reduceEq, if_false, if_true]
    have f0 := Tryz.as_limitNode_scanNode
    have f1 := Tryz.as_limitNode_filterNode
    have f2 := Tryz.as_limitNode_keepNode
    have f3 := Tryz.as_limitNode_sortNode
    have f4 := Tryz.as_limitNode_limitNode
    have f5 := Tryz.as_limitNode_onceNode
    go_enter Tryz.func217, Tryz.ntmps217
    go_wp2
    go_ret
    exact ⟨ret_int (by simp [arity]), rfl⟩
  · simp only [kindV, Int.reduceEq, if_false, if_true]
    have f0 := Tryz.as_onceNode_scanNode
    have f1 := Tryz.as_onceNode_filterNode
    have f2 := Tryz.as_onceNode_keepNode
    have f3 := Tryz.as_onceNode_sortNode
    have f4 := Tryz.as_onceNode_limitNode
    have f5 := Tryz.as_onceNode_onceNode
    go_enter Tryz.func217, Tryz.ntmps217
    go_wp2
    go_ret
    exact ⟨ret_int (by simp [arity]), rfl⟩
  · have HF := Lib.hid (arity_out hk)
    have e : kindV ⟨k, name, col, op, num, slot, cols⟩ a c = .nilIface := by
      simp only [kindV]
      rw [if_neg (by omega), if_neg (by omega), if_neg (by omega), if_neg (by omega), if_neg (by omega), if_neg (by omega), if_neg (by omega), if_neg (by omega)]
    rw [e]
    clear hk e
    have f0 := Tryz.as_nil_scanNode
    have f1 := Tryz.as_nil_filterNode
    have f2 := Tryz.as_nil_keepNode
    have f3 := Tryz.as_nil_sortNode
    have f4 := Tryz.as_nil_limitNode
    have f5 := Tryz.as_nil_onceNode
    have f6 := Tryz.as_nil_joinNode
    have f7 := Tryz.as_nil_bothNode
    go_enter Tryz.func217, Tryz.ntmps217
    go_wp2
    go_ret
    exact ⟨ret_int HF.out.symm, rfl⟩

theorem implArity_any (k : Int) (w : World) : Calls Tryz.prog 209 #[.int .i64 k] w fun e w' => e = .returned (.int .i64 (arity k)) ∧ Below w.heap.size w w' := by
  go_enter Tryz.func209, Tryz.ntmps209
  go_wp2_with fail
  refine (kindOf_any ⟨k, ByteArray.empty, 0, 0, 0, false, []⟩ none 0 _).mono ?_
  rintro e w1 ⟨rfl, b1⟩
  go_wp2_with fail
  refine (arityOf_any _ _ _ _).mono ?_
  rintro e w' ⟨rfl, rfl⟩
  go_wp2
  go_ret
  exact ⟨rfl, b1⟩
end Go.Proofs.YtfpbhedophlnkaaGreatDoor
