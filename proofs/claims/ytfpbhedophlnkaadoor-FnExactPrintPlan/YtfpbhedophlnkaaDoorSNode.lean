/-
  Contract of spec.NodeOk: it answers whether the node is one. For every node.
-/
import Derived.Test.YtfpbhedophlnkaaDoorSNodeA
import Derived.Test.YtfpbhedophlnkaaDoorSNodeB
import Derived.Test.YtfpbhedophlnkaaDoorSNodeC
import Derived.Test.YtfpbhedophlnkaaDoorSNodeD
import Derived.Test.YtfpbhedophlnkaaDoorSNodeE
import Derived.Test.YtfpbhedophlnkaaDoorSNodeF
namespace Go.Proofs.YtfpbhedophlnkaaDoor
open Go.RowKit
set_option linter.unusedSimpArgs false
set_option linter.unusedVariables false

theorem specNodeOk_any (n : Nd) (a : Option Addr) (c : Nat) (w : World) (h : Rd w .i64 a n.cols) (hl : n.cols.length ≤ maxLen) (hs : n.name.size ≤ maxLen) :
    Calls Tryd.prog 19 #[.agg #[.int .i64 n.kind, .string n.name, .int .i64 n.col, .int .i64 n.op, .int .i64 n.num, .bool n.slot, .slice a n.cols.length c]] w fun e w' => e = .returned (.bool (nodeB n)) ∧ Below w.heap.size w w' := by
  obtain ⟨k, name, col, op, num, slot, cols⟩ := n
  rcases kind_ways k with rfl | rfl | rfl | rfl | rfl | rfl | rfl | rfl | hk
  · exact specNodeOk0 name col op num slot cols a c w hl hs
  · exact specNodeOk1 name col op num slot cols a c w hl hs
  · exact specNodeOk2 name col op num slot cols a c w h hl hs
  · exact specNodeOk3 name col op num slot cols a c w hl hs
  · exact specNodeOk4 name col op num slot cols a c w hl hs
  · exact specNodeOk5 name col op num slot cols a c w hl hs
  · exact specNodeOk6 name col op num slot cols a c w hl hs
  · exact specNodeOk7 name col op num slot cols a c w hl hs
  · exact specNodeOkOut k hk name col op num slot cols a c w hl hs
end Go.Proofs.YtfpbhedophlnkaaDoor
