/-
  What each type assertion on a kind of node answers: closed facts of the program. No walk.
-/
import Derived.Test.YtfpbhedophlnkaaDoorRows
import Derived.WalkKit
namespace Go.Proofs.YtfpbhedophlnkaaDoor
open Go.RowKit
set_option linter.unusedSimpArgs false
set_option linter.unusedVariables false

theorem Tryd.as_scanNode_scanNode (v : Value) (W : World) : (Instr.typeAssert (.iface 62 v) 46 62 true).run Tryd.prog W = .ok (.tuple #[v, .bool true]) W := by kernel_rfl
theorem Tryd.as_scanNode_filterNode (v : Value) (W : World) : (Instr.typeAssert (.iface 62 v) 46 64 true).run Tryd.prog W = .ok (.tuple #[.agg #[.int .i64 0, .int .i64 0, .int .i64 0, .bool false], .bool false]) W := by kernel_rfl
theorem Tryd.as_scanNode_keepNode (v : Value) (W : World) : (Instr.typeAssert (.iface 62 v) 46 66 true).run Tryd.prog W = .ok (.tuple #[.agg #[.slice none 0 0], .bool false]) W := by kernel_rfl
theorem Tryd.as_scanNode_joinNode (v : Value) (W : World) : (Instr.typeAssert (.iface 62 v) 46 68 true).run Tryd.prog W = .ok (.tuple #[.agg #[.int .i64 0, .int .i64 0], .bool false]) W := by kernel_rfl
theorem Tryd.as_scanNode_bothNode (v : Value) (W : World) : (Instr.typeAssert (.iface 62 v) 46 70 true).run Tryd.prog W = .ok (.tuple #[.agg #[], .bool false]) W := by kernel_rfl
theorem Tryd.as_scanNode_sortNode (v : Value) (W : World) : (Instr.typeAssert (.iface 62 v) 46 72 true).run Tryd.prog W = .ok (.tuple #[.agg #[.int .i64 0], .bool false]) W := by kernel_rfl
theorem Tryd.as_scanNode_limitNode (v : Value) (W : World) : (Instr.typeAssert (.iface 62 v) 46 74 true).run Tryd.prog W = .ok (.tuple #[.agg #[.int .i64 0, .bool false], .bool false]) W := by kernel_rfl
theorem Tryd.as_scanNode_onceNode (v : Value) (W : World) : (Instr.typeAssert (.iface 62 v) 46 75 true).run Tryd.prog W = .ok (.tuple #[.agg #[], .bool false]) W := by kernel_rfl
theorem Tryd.as_filterNode_scanNode (v : Value) (W : World) : (Instr.typeAssert (.iface 64 v) 46 62 true).run Tryd.prog W = .ok (.tuple #[.agg #[.string ⟨#[]⟩], .bool false]) W := by kernel_rfl
theorem Tryd.as_filterNode_filterNode (v : Value) (W : World) : (Instr.typeAssert (.iface 64 v) 46 64 true).run Tryd.prog W = .ok (.tuple #[v, .bool true]) W := by kernel_rfl
theorem Tryd.as_filterNode_keepNode (v : Value) (W : World) : (Instr.typeAssert (.iface 64 v) 46 66 true).run Tryd.prog W = .ok (.tuple #[.agg #[.slice none 0 0], .bool false]) W := by kernel_rfl
theorem Tryd.as_filterNode_joinNode (v : Value) (W : World) : (Instr.typeAssert (.iface 64 v) 46 68 true).run Tryd.prog W = .ok (.tuple #[.agg #[.int .i64 0, .int .i64 0], .bool false]) W := by kernel_rfl
theorem Tryd.as_filterNode_bothNode (v : Value) (W : World) : (Instr.typeAssert (.iface 64 v) 46 70 true).run Tryd.prog W = .ok (.tuple #[.agg #[], .bool false]) W := by kernel_rfl
theorem Tryd.as_filterNode_sortNode (v : Value) (W : World) : (Instr.typeAssert (.iface 64 v) 46 72 true).run Tryd.prog W = .ok (.tuple #[.agg #[.int .i64 0], .bool false]) W := by kernel_rfl
theorem Tryd.as_filterNode_limitNode (v : Value) (W : World) : (Instr.typeAssert (.iface 64 v) 46 74 true).run Tryd.prog W = .ok (.tuple #[.agg #[.int .i64 0, .bool false], .bool false]) W := by kernel_rfl
theorem Tryd.as_filterNode_onceNode (v : Value) (W : World) : (Instr.typeAssert (.iface 64 v) 46 75 true).run Tryd.prog W = .ok (.tuple #[.agg #[], .bool false]) W := by kernel_rfl
theorem Tryd.as_keepNode_scanNode (v : Value) (W : World) : (Instr.typeAssert (.iface 66 v) 46 62 true).run Tryd.prog W = .ok (.tuple #[.agg #[.string ⟨#[]⟩], .bool false]) W := by kernel_rfl
theorem Tryd.as_keepNode_filterNode (v : Value) (W : World) : (Instr.typeAssert (.iface 66 v) 46 64 true).run Tryd.prog W = .ok (.tuple #[.agg #[.int .i64 0, .int .i64 0, .int .i64 0, .bool false], .bool false]) W := by kernel_rfl
theorem Tryd.as_keepNode_keepNode (v : Value) (W : World) : (Instr.typeAssert (.iface 66 v) 46 66 true).run Tryd.prog W = .ok (.tuple #[v, .bool true]) W := by kernel_rfl
theorem Tryd.as_keepNode_joinNode (v : Value) (W : World) : (Instr.typeAssert (.iface 66 v) 46 68 true).run Tryd.prog W = .ok (.tuple #[.agg #[.int .i64 0, .int .i64 0], .bool false]) W := by kernel_rfl
theorem Tryd.as_keepNode_bothNode (v : Value) (W : World) : (Instr.typeAssert (.iface 66 v) 46 70 true).run Tryd.prog W = .ok (.tuple #[.agg #[], .bool false]) W := by kernel_rfl
theorem Tryd.as_keepNode_sortNode (v : Value) (W : World) : (Instr.typeAssert (.iface 66 v) 46 72 true).run Tryd.prog W = .ok (.tuple #[.agg #[.int .i64 0], .bool false]) W := by kernel_rfl
theorem Tryd.as_keepNode_limitNode (v : Value) (W : World) : (Instr.typeAssert (.iface 66 v) 46 74 true).run Tryd.prog W = .ok (.tuple #[.agg #[.int .i64 0, .bool false], .bool false]) W := by kernel_rfl
theorem Tryd.as_keepNode_onceNode (v : Value) (W : World) : (Instr.typeAssert (.iface 66 v) 46 75 true).run Tryd.prog W = .ok (.tuple #[.agg #[], .bool false]) W := by kernel_rfl
theorem Tryd.as_joinNode_scanNode (v : Value) (W : World) : (Instr.typeAssert (.iface 68 v) 46 62 true).run Tryd.prog W = .ok (.tuple #[.agg #[.string ⟨#[]⟩], .bool false]) W := by kernel_rfl
theorem Tryd.as_joinNode_filterNode (v : Value) (W : World) : (Instr.typeAssert (.iface 68 v) 46 64 true).run Tryd.prog W = .ok (.tuple #[.agg #[.int .i64 0, .int .i64 0, .int .i64 0, .bool false], .bool false]) W := by kernel_rfl
theorem Tryd.as_joinNode_keepNode (v : Value) (W : World) : (Instr.typeAssert (.iface 68 v) 46 66 true).run Tryd.prog W = .ok (.tuple #[.agg #[.slice none 0 0], .bool false]) W := by kernel_rfl
theorem Tryd.as_joinNode_joinNode (v : Value) (W : World) : (Instr.typeAssert (.iface 68 v) 46 68 true).run Tryd.prog W = .ok (.tuple #[v, .bool true]) W := by kernel_rfl
theorem Tryd.as_joinNode_bothNode (v : Value) (W : World) : (Instr.typeAssert (.iface 68 v) 46 70 true).run Tryd.prog W = .ok (.tuple #[.agg #[], .bool false]) W := by kernel_rfl
theorem Tryd.as_joinNode_sortNode (v : Value) (W : World) : (Instr.typeAssert (.iface 68 v) 46 72 true).run Tryd.prog W = .ok (.tuple #[.agg #[.int .i64 0], .bool false]) W := by kernel_rfl
theorem Tryd.as_joinNode_limitNode (v : Value) (W : World) : (Instr.typeAssert (.iface 68 v) 46 74 true).run Tryd.prog W = .ok (.tuple #[.agg #[.int .i64 0, .bool false], .bool false]) W := by kernel_rfl
theorem Tryd.as_joinNode_onceNode (v : Value) (W : World) : (Instr.typeAssert (.iface 68 v) 46 75 true).run Tryd.prog W = .ok (.tuple #[.agg #[], .bool false]) W := by kernel_rfl
theorem Tryd.as_bothNode_scanNode (v : Value) (W : World) : (Instr.typeAssert (.iface 70 v) 46 62 true).run Tryd.prog W = .ok (.tuple #[.agg #[.string ⟨#[]⟩], .bool false]) W := by kernel_rfl
theorem Tryd.as_bothNode_filterNode (v : Value) (W : World) : (Instr.typeAssert (.iface 70 v) 46 64 true).run Tryd.prog W = .ok (.tuple #[.agg #[.int .i64 0, .int .i64 0, .int .i64 0, .bool false], .bool false]) W := by kernel_rfl
theorem Tryd.as_bothNode_keepNode (v : Value) (W : World) : (Instr.typeAssert (.iface 70 v) 46 66 true).run Tryd.prog W = .ok (.tuple #[.agg #[.slice none 0 0], .bool false]) W := by kernel_rfl
theorem Tryd.as_bothNode_joinNode (v : Value) (W : World) : (Instr.typeAssert (.iface 70 v) 46 68 true).run Tryd.prog W = .ok (.tuple #[.agg #[.int .i64 0, .int .i64 0], .bool false]) W := by kernel_rfl
theorem Tryd.as_bothNode_bothNode (v : Value) (W : World) : (Instr.typeAssert (.iface 70 v) 46 70 true).run Tryd.prog W = .ok (.tuple #[v, .bool true]) W := by kernel_rfl
theorem Tryd.as_bothNode_sortNode (v : Value) (W : World) : (Instr.typeAssert (.iface 70 v) 46 72 true).run Tryd.prog W = .ok (.tuple #[.agg #[.int .i64 0], .bool false]) W := by kernel_rfl
theorem Tryd.as_bothNode_limitNode (v : Value) (W : World) : (Instr.typeAssert (.iface 70 v) 46 74 true).run Tryd.prog W = .ok (.tuple #[.agg #[.int .i64 0, .bool false], .bool false]) W := by kernel_rfl
theorem Tryd.as_bothNode_onceNode (v : Value) (W : World) : (Instr.typeAssert (.iface 70 v) 46 75 true).run Tryd.prog W = .ok (.tuple #[.agg #[], .bool false]) W := by kernel_rfl
theorem Tryd.as_sortNode_scanNode (v : Value) (W : World) : (Instr.typeAssert (.iface 72 v) 46 62 true).run Tryd.prog W = .ok (.tuple #[.agg #[.string ⟨#[]⟩], .bool false]) W := by kernel_rfl
theorem Tryd.as_sortNode_filterNode (v : Value) (W : World) : (Instr.typeAssert (.iface 72 v) 46 64 true).run Tryd.prog W = .ok (.tuple #[.agg #[.int .i64 0, .int .i64 0, .int .i64 0, .bool false], .bool false]) W := by kernel_rfl
theorem Tryd.as_sortNode_keepNode (v : Value) (W : World) : (Instr.typeAssert (.iface 72 v) 46 66 true).run Tryd.prog W = .ok (.tuple #[.agg #[.slice none 0 0], .bool false]) W := by kernel_rfl
theorem Tryd.as_sortNode_joinNode (v : Value) (W : World) : (Instr.typeAssert (.iface 72 v) 46 68 true).run Tryd.prog W = .ok (.tuple #[.agg #[.int .i64 0, .int .i64 0], .bool false]) W := by kernel_rfl
theorem Tryd.as_sortNode_bothNode (v : Value) (W : World) : (Instr.typeAssert (.iface 72 v) 46 70 true).run Tryd.prog W = .ok (.tuple #[.agg #[], .bool false]) W := by kernel_rfl
theorem Tryd.as_sortNode_sortNode (v : Value) (W : World) : (Instr.typeAssert (.iface 72 v) 46 72 true).run Tryd.prog W = .ok (.tuple #[v, .bool true]) W := by kernel_rfl
theorem Tryd.as_sortNode_limitNode (v : Value) (W : World) : (Instr.typeAssert (.iface 72 v) 46 74 true).run Tryd.prog W = .ok (.tuple #[.agg #[.int .i64 0, .bool false], .bool false]) W := by kernel_rfl
theorem Tryd.as_sortNode_onceNode (v : Value) (W : World) : (Instr.typeAssert (.iface 72 v) 46 75 true).run Tryd.prog W = .ok (.tuple #[.agg #[], .bool false]) W := by kernel_rfl
theorem Tryd.as_limitNode_scanNode (v : Value) (W : World) : (Instr.typeAssert (.iface 74 v) 46 62 true).run Tryd.prog W = .ok (.tuple #[.agg #[.string ⟨#[]⟩], .bool false]) W := by kernel_rfl
theorem Tryd.as_limitNode_filterNode (v : Value) (W : World) : (Instr.typeAssert (.iface 74 v) 46 64 true).run Tryd.prog W = .ok (.tuple #[.agg #[.int .i64 0, .int .i64 0, .int .i64 0, .bool false], .bool false]) W := by kernel_rfl
theorem Tryd.as_limitNode_keepNode (v : Value) (W : World) : (Instr.typeAssert (.iface 74 v) 46 66 true).run Tryd.prog W = .ok (.tuple #[.agg #[.slice none 0 0], .bool false]) W := by kernel_rfl
theorem Tryd.as_limitNode_joinNode (v : Value) (W : World) : (Instr.typeAssert (.iface 74 v) 46 68 true).run Tryd.prog W = .ok (.tuple #[.agg #[.int .i64 0, .int .i64 0], .bool false]) W := by kernel_rfl
theorem Tryd.as_limitNode_bothNode (v : Value) (W : World) : (Instr.typeAssert (.iface 74 v) 46 70 true).run Tryd.prog W = .ok (.tuple #[.agg #[], .bool false]) W := by kernel_rfl
theorem Tryd.as_limitNode_sortNode (v : Value) (W : World) : (Instr.typeAssert (.iface 74 v) 46 72 true).run Tryd.prog W = .ok (.tuple #[.agg #[.int .i64 0], .bool false]) W := by kernel_rfl
theorem Tryd.as_limitNode_limitNode (v : Value) (W : World) : (Instr.typeAssert (.iface 74 v) 46 74 true).run Tryd.prog W = .ok (.tuple #[v, .bool true]) W := by kernel_rfl
theorem Tryd.as_limitNode_onceNode (v : Value) (W : World) : (Instr.typeAssert (.iface 74 v) 46 75 true).run Tryd.prog W = .ok (.tuple #[.agg #[], .bool false]) W := by kernel_rfl
theorem Tryd.as_onceNode_scanNode (v : Value) (W : World) : (Instr.typeAssert (.iface 75 v) 46 62 true).run Tryd.prog W = .ok (.tuple #[.agg #[.string ⟨#[]⟩], .bool false]) W := by kernel_rfl
theorem Tryd.as_onceNode_filterNode (v : Value) (W : World) : (Instr.typeAssert (.iface 75 v) 46 64 true).run Tryd.prog W = .ok (.tuple #[.agg #[.int .i64 0, .int .i64 0, .int .i64 0, .bool false], .bool false]) W := by kernel_rfl
theorem Tryd.as_onceNode_keepNode (v : Value) (W : World) : (Instr.typeAssert (.iface 75 v) 46 66 true).run Tryd.prog W = .ok (.tuple #[.agg #[.slice none 0 0], .bool false]) W := by kernel_rfl
theorem Tryd.as_onceNode_joinNode (v : Value) (W : World) : (Instr.typeAssert (.iface 75 v) 46 68 true).run Tryd.prog W = .ok (.tuple #[.agg #[.int .i64 0, .int .i64 0], .bool false]) W := by kernel_rfl
theorem Tryd.as_onceNode_bothNode (v : Value) (W : World) : (Instr.typeAssert (.iface 75 v) 46 70 true).run Tryd.prog W = .ok (.tuple #[.agg #[], .bool false]) W := by kernel_rfl
theorem Tryd.as_onceNode_sortNode (v : Value) (W : World) : (Instr.typeAssert (.iface 75 v) 46 72 true).run Tryd.prog W = .ok (.tuple #[.agg #[.int .i64 0], .bool false]) W := by kernel_rfl
theorem Tryd.as_onceNode_limitNode (v : Value) (W : World) : (Instr.typeAssert (.iface 75 v) 46 74 true).run Tryd.prog W = .ok (.tuple #[.agg #[.int .i64 0, .bool false], .bool false]) W := by kernel_rfl
theorem Tryd.as_onceNode_onceNode (v : Value) (W : World) : (Instr.typeAssert (.iface 75 v) 46 75 true).run Tryd.prog W = .ok (.tuple #[v, .bool true]) W := by kernel_rfl
theorem Tryd.as_nil_scanNode (W : World) : (Instr.typeAssert .nilIface 46 62 true).run Tryd.prog W = .ok (.tuple #[.agg #[.string ⟨#[]⟩], .bool false]) W := by kernel_rfl
theorem Tryd.as_nil_filterNode (W : World) : (Instr.typeAssert .nilIface 46 64 true).run Tryd.prog W = .ok (.tuple #[.agg #[.int .i64 0, .int .i64 0, .int .i64 0, .bool false], .bool false]) W := by kernel_rfl
theorem Tryd.as_nil_keepNode (W : World) : (Instr.typeAssert .nilIface 46 66 true).run Tryd.prog W = .ok (.tuple #[.agg #[.slice none 0 0], .bool false]) W := by kernel_rfl
theorem Tryd.as_nil_joinNode (W : World) : (Instr.typeAssert .nilIface 46 68 true).run Tryd.prog W = .ok (.tuple #[.agg #[.int .i64 0, .int .i64 0], .bool false]) W := by kernel_rfl
theorem Tryd.as_nil_bothNode (W : World) : (Instr.typeAssert .nilIface 46 70 true).run Tryd.prog W = .ok (.tuple #[.agg #[], .bool false]) W := by kernel_rfl
theorem Tryd.as_nil_sortNode (W : World) : (Instr.typeAssert .nilIface 46 72 true).run Tryd.prog W = .ok (.tuple #[.agg #[.int .i64 0], .bool false]) W := by kernel_rfl
theorem Tryd.as_nil_limitNode (W : World) : (Instr.typeAssert .nilIface 46 74 true).run Tryd.prog W = .ok (.tuple #[.agg #[.int .i64 0, .bool false], .bool false]) W := by kernel_rfl
theorem Tryd.as_nil_onceNode (W : World) : (Instr.typeAssert .nilIface 46 75 true).run Tryd.prog W = .ok (.tuple #[.agg #[], .bool false]) W := by kernel_rfl
end Go.Proofs.YtfpbhedophlnkaaDoor
