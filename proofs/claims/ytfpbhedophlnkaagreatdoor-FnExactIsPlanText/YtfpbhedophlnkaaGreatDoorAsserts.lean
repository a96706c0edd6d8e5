/-
  What each type assertion on a kind of node answers: closed facts of the program. No walk.
-/
import Derived.Test.YtfpbhedophlnkaaGreatDoorRows
import Derived.WalkKit
namespace Go.Proofs.YtfpbhedophlnkaaGreatDoor
open Go.RowKit
set_option linter.unusedSimpArgs false
set_option linter.unusedVariables false

theorem Tryz.as_scanNode_scanNode (v : Value) (W : World) : (Instr.typeAssert (.iface 234 v) 94 234 true).run Tryz.prog W = .ok (.tuple #[v, .bool true]) W := by kernel_rfl
theorem Tryz.as_scanNode_filterNode (v : Value) (W : World) : (Instr.typeAssert (.iface 234 v) 94 223 true).run Tryz.prog W = .ok (.tuple #[.agg #[.int .i64 0, .int .i64 0, .int .i64 0, .bool false], .bool false]) W := by kernel_rfl
theorem Tryz.as_scanNode_keepNode (v : Value) (W : World) : (Instr.typeAssert (.iface 234 v) 94 226 true).run Tryz.prog W = .ok (.tuple #[.agg #[.slice none 0 0], .bool false]) W := by kernel_rfl
theorem Tryz.as_scanNode_joinNode (v : Value) (W : World) : (Instr.typeAssert (.iface 234 v) 94 228 true).run Tryz.prog W = .ok (.tuple #[.agg #[.int .i64 0, .int .i64 0], .bool false]) W := by kernel_rfl
theorem Tryz.as_scanNode_bothNode (v : Value) (W : World) : (Instr.typeAssert (.iface 234 v) 94 230 true).run Tryz.prog W = .ok (.tuple #[.agg #[], .bool false]) W := by kernel_rfl
theorem Tryz.as_scanNode_sortNode (v : Value) (W : World) : (Instr.typeAssert (.iface 234 v) 94 232 true).run Tryz.prog W = .ok (.tuple #[.agg #[.int .i64 0], .bool false]) W := by kernel_rfl
theorem Tryz.as_scanNode_limitNode (v : Value) (W : World) : (Instr.typeAssert (.iface 234 v) 94 258 true).run Tryz.prog W = .ok (.tuple #[.agg #[.int .i64 0, .bool false], .bool false]) W := by kernel_rfl
theorem Tryz.as_scanNode_onceNode (v : Value) (W : World) : (Instr.typeAssert (.iface 234 v) 94 259 true).run Tryz.prog W = .ok (.tuple #[.agg #[], .bool false]) W := by kernel_rfl
theorem Tryz.as_filterNode_scanNode (v : Value) (W : World) : (Instr.typeAssert (.iface 223 v) 94 234 true).run Tryz.prog W = .ok (.tuple #[.agg #[.string ⟨#[]⟩], .bool false]) W := by kernel_rfl
theorem Tryz.as_filterNode_filterNode (v : Value) (W : World) : (Instr.typeAssert (.iface 223 v) 94 223 true).run Tryz.prog W = .ok (.tuple #[v, .bool true]) W := by kernel_rfl
theorem Tryz.as_filterNode_keepNode (v : Value) (W : World) : (Instr.typeAssert (.iface 223 v) 94 226 true).run Tryz.prog W = .ok (.tuple #[.agg #[.slice none 0 0], .bool false]) W := by kernel_rfl
theorem Tryz.as_filterNode_joinNode (v : Value) (W : World) : (Instr.typeAssert (.iface 223 v) 94 228 true).run Tryz.prog W = .ok (.tuple #[.agg #[.int .i64 0, .int .i64 0], .bool false]) W := by kernel_rfl
theorem Tryz.as_filterNode_bothNode (v : Value) (W : World) : (Instr.typeAssert (.iface 223 v) 94 230 true).run Tryz.prog W = .ok (.tuple #[.agg #[], .bool false]) W := by kernel_rfl
theorem Tryz.as_filterNode_sortNode (v : Value) (W : World) : (Instr.typeAssert (.iface 223 v) 94 232 true).run Tryz.prog W = .ok (.tuple #[.agg #[.int .i64 0], .bool false]) W := by kernel_rfl
theorem Tryz.as_filterNode_limitNode (v : Value) (W : World) : (Instr.typeAssert (.iface 223 v) 94 258 true).run Tryz.prog W = .ok (.tuple #[.agg #[.int .i64 0, .bool false], .bool false]) W := by kernel_rfl
theorem Tryz.as_filterNode_onceNode (v : Value) (W : World) : (Instr.typeAssert (.iface 223 v) 94 259 true).run Tryz.prog W = .ok (.tuple #[.agg #[], .bool false]) W := by kernel_rfl
theorem Tryz.as_keepNode_scanNode (v : Value) (W : World) : (Instr.typeAssert (.iface 226 v) 94 234 true).run Tryz.prog W = .ok (.tuple #[.agg #[.string ⟨#[]⟩], .bool false]) W := by kernel_rfl
theorem Tryz.as_keepNode_filterNode (v : Value) (W : World) : (Instr.typeAssert (.iface 226 v) 94 223 true).run Tryz.prog W = .ok (.tuple #[.agg #[.int .i64 0, .int .i64 0, .int .i64 0, .bool false], .bool false]) W := by kernel_rfl
theorem Tryz.as_keepNode_keepNode (v : Value) (W : World) : (Instr.typeAssert (.iface 226 v) 94 226 true).run Tryz.prog W = .ok (.tuple #[v, .bool true]) W := by kernel_rfl
theorem Tryz.as_keepNode_joinNode (v : Value) (W : World) : (Instr.typeAssert (.iface 226 v) 94 228 true).run Tryz.prog W = .ok (.tuple #[.agg #[.int .i64 0, .int .i64 0], .bool false]) W := by kernel_rfl
theorem Tryz.as_keepNode_bothNode (v : Value) (W : World) : (Instr.typeAssert (.iface 226 v) 94 230 true).run Tryz.prog W = .ok (.tuple #[.agg #[], .bool false]) W := by kernel_rfl
theorem Tryz.as_keepNode_sortNode (v : Value) (W : World) : (Instr.typeAssert (.iface 226 v) 94 232 true).run Tryz.prog W = .ok (.tuple #[.agg #[.int .i64 0], .bool false]) W := by kernel_rfl
theorem Tryz.as_keepNode_limitNode (v : Value) (W : World) : (Instr.typeAssert (.iface 226 v) 94 258 true).run Tryz.prog W = .ok (.tuple #[.agg #[.int .i64 0, .bool false], .bool false]) W := by kernel_rfl
theorem Tryz.as_keepNode_onceNode (v : Value) (W : World) : (Instr.typeAssert (.iface 226 v) 94 259 true).run Tryz.prog W = .ok (.tuple #[.agg #[], .bool false]) W := by kernel_rfl
theorem Tryz.as_joinNode_scanNode (v : Value) (W : World) : (Instr.typeAssert (.iface 228 v) 94 234 true).run Tryz.prog W = .ok (.tuple #[.agg #[.string ⟨#[]⟩], .bool false]) W := by kernel_rfl
theorem Tryz.as_joinNode_filterNode (v : Value) (W : World) : (Instr.typeAssert (.iface 228 v) 94 223 true).run Tryz.prog W = .ok (.tuple #[.agg #[.int .i64 0, .int .i64 0, .int .i64 0, .bool false], .bool false]) W := by kernel_rfl
theorem Tryz.as_joinNode_keepNode (v : Value) (W : World) : (Instr.typeAssert (.iface 228 v) 94 226 true).run Tryz.prog W = .ok (.tuple #[.agg #[.slice none 0 0], .bool false]) W := by kernel_rfl
theorem Tryz.as_joinNode_joinNode (v : Value) (W : World) : (Instr.typeAssert (.iface 228 v) 94 228 true).run Tryz.prog W = .ok (.tuple #[v, .bool true]) W := by kernel_rfl
theorem Tryz.as_joinNode_bothNode (v : Value) (W : World) : (Instr.typeAssert (.iface 228 v) 94 230 true).run Tryz.prog W = .ok (.tuple #[.agg #[], .bool false]) W := by kernel_rfl
theorem Tryz.as_joinNode_sortNode (v : Value) (W : World) : (Instr.typeAssert (.iface 228 v) 94 232 true).run Tryz.prog W = .ok (.tuple #[.agg #[.int .i64 0], .bool false]) W := by kernel_rfl
theorem Tryz.as_joinNode_limitNode (v : Value) (W : World) : (Instr.typeAssert (.iface 228 v) 94 258 true).run Tryz.prog W = .ok (.tuple #[.agg #[.int .i64 0, .bool false], .bool false]) W := by kernel_rfl
theorem Tryz.as_joinNode_onceNode (v : Value) (W : World) : (Instr.typeAssert (.iface 228 v) 94 259 true).run Tryz.prog W = .ok (.tuple #[.agg #[], .bool false]) W := by kernel_rfl
theorem Tryz.as_bothNode_scanNode (v : Value) (W : World) : (Instr.typeAssert (.iface 230 v) 94 234 true).run Tryz.prog W = .ok (.tuple #[.agg #[.string ⟨#[]⟩], .bool false]) W := by kernel_rfl
theorem Tryz.as_bothNode_filterNode (v : Value) (W : World) : (Instr.typeAssert (.iface 230 v) 94 223 true).run Tryz.prog W = .ok (.tuple #[.agg #[.int .i64 0, .int .i64 0, .int .i64 0, .bool false], .bool false]) W := by kernel_rfl
theorem Tryz.as_bothNode_keepNode (v : Value) (W : World) : (Instr.typeAssert (.iface 230 v) 94 226 true).run Tryz.prog W = .ok (.tuple #[.agg #[.slice none 0 0], .bool false]) W := by kernel_rfl
theorem Tryz.as_bothNode_joinNode (v : Value) (W : World) : (Instr.typeAssert (.iface 230 v) 94 228 true).run Tryz.prog W = .ok (.tuple #[.agg #[.int .i64 0, .int .i64 0], .bool false]) W := by kernel_rfl
theorem Tryz.as_bothNode_bothNode (v : Value) (W : World) : (Instr.typeAssert (.iface 230 v) 94 230 true).run Tryz.prog W = .ok (.tuple #[v, .bool true]) W := by kernel_rfl
theorem Tryz.as_bothNode_sortNode (v : Value) (W : World) : (Instr.typeAssert (.iface 230 v) 94 232 true).run Tryz.prog W = .ok (.tuple #[.agg #[.int .i64 0], .bool false]) W := by kernel_rfl
theorem Tryz.as_bothNode_limitNode (v : Value) (W : World) : (Instr.typeAssert (.iface 230 v) 94 258 true).run Tryz.prog W = .ok (.tuple #[.agg #[.int .i64 0, .bool false], .bool false]) W := by kernel_rfl
theorem Tryz.as_bothNode_onceNode (v : Value) (W : World) : (Instr.typeAssert (.iface 230 v) 94 259 true).run Tryz.prog W = .ok (.tuple #[.agg #[], .bool false]) W := by kernel_rfl
theorem Tryz.as_sortNode_scanNode (v : Value) (W : World) : (Instr.typeAssert (.iface 232 v) 94 234 true).run Tryz.prog W = .ok (.tuple #[.agg #[.string ⟨#[]⟩], .bool false]) W := by kernel_rfl
theorem Tryz.as_sortNode_filterNode (v : Value) (W : World) : (Instr.typeAssert (.iface 232 v) 94 223 true).run Tryz.prog W = .ok (.tuple #[.agg #[.int .i64 0, .int .i64 0, .int .i64 0, .bool false], .bool false]) W := by kernel_rfl
theorem Tryz.as_sortNode_keepNode (v : Value) (W : World) : (Instr.typeAssert (.iface 232 v) 94 226 true).run Tryz.prog W = .ok (.tuple #[.agg #[.slice none 0 0], .bool false]) W := by kernel_rfl
theorem Tryz.as_sortNode_joinNode (v : Value) (W : World) : (Instr.typeAssert (.iface 232 v) 94 228 true).run Tryz.prog W = .ok (.tuple #[.agg #[.int .i64 0, .int .i64 0], .bool false]) W := by kernel_rfl
theorem Tryz.as_sortNode_bothNode (v : Value) (W : World) : (Instr.typeAssert (.iface 232 v) 94 230 true).run Tryz.prog W = .ok (.tuple #[.agg #[], .bool false]) W := by kernel_rfl
theorem Tryz.as_sortNode_sortNode (v : Value) (W : World) : (Instr.typeAssert (.iface 232 v) 94 232 true).run Tryz.prog W = .ok (.tuple #[v, .bool true]) W := by kernel_rfl
theorem Tryz.as_sortNode_limitNode (v : Value) (W : World) : (Instr.typeAssert (.iface 232 v) 94 258 true).run Tryz.prog W = .ok (.tuple #[.agg #[.int .i64 0, .bool false], .bool false]) W := by kernel_rfl
theorem Tryz.as_sortNode_onceNode (v : Value) (W : World) : (Instr.typeAssert (.iface 232 v) 94 259 true).run Tryz.prog W = .ok (.tuple #[.agg #[], .bool false]) W := by kernel_rfl
theorem Tryz.as_limitNode_scanNode (v : Value) (W : World) : (Instr.typeAssert (.iface 258 v) 94 234 true).run Tryz.prog W = .ok (.tuple #[.agg #[.string ⟨#[]⟩], .bool false]) W := by kernel_rfl
theorem Tryz.as_limitNode_filterNode (v : Value) (W : World) : (Instr.typeAssert (.iface 258 v) 94 223 true).run Tryz.prog W = .ok (.tuple #[.agg #[.int .i64 0, .int .i64 0, .int .i64 0, .bool false], .bool false]) W := by kernel_rfl
theorem Tryz.as_limitNode_keepNode (v : Value) (W : World) : (Instr.typeAssert (.iface 258 v) 94 226 true).run Tryz.prog W = .ok (.tuple #[.agg #[.slice none 0 0], .bool false]) W := by kernel_rfl
theorem Tryz.as_limitNode_joinNode (v : Value) (W : World) : (Instr.typeAssert (.iface 258 v) 94 228 true).run Tryz.prog W = .ok (.tuple #[.agg #[.int .i64 0, .int .i64 0], .bool false]) W := by kernel_rfl
theorem Tryz.as_limitNode_bothNode (v : Value) (W : World) : (Instr.typeAssert (.iface 258 v) 94 230 true).run Tryz.prog W = .ok (.tuple #[.agg #[], .bool false]) W := by kernel_rfl
theorem Tryz.as_limitNode_sortNode (v : Value) (W : World) : (Instr.typeAssert (.iface 258 v) 94 232 true).run Tryz.prog W = .ok (.tuple #[.agg #[.int .i64 0], .bool false]) W := by kernel_rfl
theorem Tryz.as_limitNode_limitNode (v : Value) (W : World) : (Instr.typeAssert (.iface 258 v) 94 258 true).run Tryz.prog W = .ok (.tuple #[v, .bool true]) W := by kernel_rfl
theorem Tryz.as_limitNode_onceNode (v : Value) (W : World) : (Instr.typeAssert (.iface 258 v) 94 259 true).run Tryz.prog W = .ok (.tuple #[.agg #[], .bool false]) W := by kernel_rfl
theorem Tryz.as_onceNode_scanNode (v : Value) (W : World) : (Instr.typeAssert (.iface 259 v) 94 234 true).run Tryz.prog W = .ok (.tuple #[.agg #[.string ⟨#[]⟩], .bool false]) W := by kernel_rfl
theorem Tryz.as_onceNode_filterNode (v : Value) (W : World) : (Instr.typeAssert (.iface 259 v) 94 223 true).run Tryz.prog W = .ok (.tuple #[.agg #[.int .i64 0, .int .i64 0, .int .i64 0, .bool false], .bool false]) W := by kernel_rfl
theorem Tryz.as_onceNode_keepNode (v : Value) (W : World) : (Instr.typeAssert (.iface 259 v) 94 226 true).run Tryz.prog W = .ok (.tuple #[.agg #[.slice none 0 0], .bool false]) W := by kernel_rfl
theorem Tryz.as_onceNode_joinNode (v : Value) (W : World) : (Instr.typeAssert (.iface 259 v) 94 228 true).run Tryz.prog W = .ok (.tuple #[.agg #[.int .i64 0, .int .i64 0], .bool false]) W := by kernel_rfl
theorem Tryz.as_onceNode_bothNode (v : Value) (W : World) : (Instr.typeAssert (.iface 259 v) 94 230 true).run Tryz.prog W = .ok (.tuple #[.agg #[], .bool false]) W := by kernel_rfl
theorem Tryz.as_onceNode_sortNode (v : Value) (W : World) : (Instr.typeAssert (.iface 259 v) 94 232 true).run Tryz.prog W = .ok (.tuple #[.agg #[.int .i64 0], .bool false]) W := by kernel_rfl
theorem Tryz.as_onceNode_limitNode (v : Value) (W : World) : (Instr.typeAssert (.iface 259 v) 94 258 true).run Tryz.prog W = .ok (.tuple #[.agg #[.int .i64 0, .bool false], .bool false]) W := by kernel_rfl
theorem Tryz.as_onceNode_onceNode (v : Value) (W : World) : (Instr.typeAssert (.iface 259 v) 94 259 true).run Tryz.prog W = .ok (.tuple #[v, .bool true]) W := by kernel_rfl
theorem Tryz.as_nil_scanNode (W : World) : (Instr.typeAssert .nilIface 94 234 true).run Tryz.prog W = .ok (.tuple #[.agg #[.string ⟨#[]⟩], .bool false]) W := by kernel_rfl
theorem Tryz.as_nil_filterNode (W : World) : (Instr.typeAssert .nilIface 94 223 true).run Tryz.prog W = .ok (.tuple #[.agg #[.int .i64 0, .int .i64 0, .int .i64 0, .bool false], .bool false]) W := by kernel_rfl
theorem Tryz.as_nil_keepNode (W : World) : (Instr.typeAssert .nilIface 94 226 true).run Tryz.prog W = .ok (.tuple #[.agg #[.slice none 0 0], .bool false]) W := by kernel_rfl
theorem Tryz.as_nil_joinNode (W : World) : (Instr.typeAssert .nilIface 94 228 true).run Tryz.prog W = .ok (.tuple #[.agg #[.int .i64 0, .int .i64 0], .bool false]) W := by kernel_rfl
theorem Tryz.as_nil_bothNode (W : World) : (Instr.typeAssert .nilIface 94 230 true).run Tryz.prog W = .ok (.tuple #[.agg #[], .bool false]) W := by kernel_rfl
theorem Tryz.as_nil_sortNode (W : World) : (Instr.typeAssert .nilIface 94 232 true).run Tryz.prog W = .ok (.tuple #[.agg #[.int .i64 0], .bool false]) W := by kernel_rfl
theorem Tryz.as_nil_limitNode (W : World) : (Instr.typeAssert .nilIface 94 258 true).run Tryz.prog W = .ok (.tuple #[.agg #[.int .i64 0, .bool false], .bool false]) W := by kernel_rfl
theorem Tryz.as_nil_onceNode (W : World) : (Instr.typeAssert .nilIface 94 259 true).run Tryz.prog W = .ok (.tuple #[.agg #[], .bool false]) W := by kernel_rfl
end Go.Proofs.YtfpbhedophlnkaaGreatDoor
