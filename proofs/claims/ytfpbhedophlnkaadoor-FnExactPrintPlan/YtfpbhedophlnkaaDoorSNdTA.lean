/-
  Contract of spec.NodeText. For every node.
-/
import Derived.Test.YtfpbhedophlnkaaDoorSNdT1
import Derived.Test.YtfpbhedophlnkaaDoorSNdT2
namespace Go.Proofs.YtfpbhedophlnkaaDoor
open Go.RowKit
set_option linter.unusedSimpArgs false
set_option linter.unusedVariables false

theorem specNodeText_any (n : Nd) (a : Option Addr) (c : Nat) (w : World) (h : Rd w .i64 a n.cols) (hl : n.cols.length ≤ maxLen) (hs : n.name.size ≤ maxLen) :
    Calls Tryd.prog 7 #[.agg #[.int .i64 n.kind, .string n.name, .int .i64 n.col, .int .i64 n.op, .int .i64 n.num, .bool n.slot, .slice a n.cols.length c]] w fun e w' => e = .returned (.string (ndO n)) ∧ Below w.heap.size w w' := by
  cases hb : nodeB n with
  | false => exact specNodeText_no n a c w hb h hl hs
  | true =>
    have hk := kind_of_nodeB hb
    obtain ⟨k, name, col, op, num, slot, cols⟩ := n
    simp only at hk h hl hs
    have hc : k = 0 ∨ k = 1 ∨ k = 2 ∨ k = 3 ∨ k = 4 ∨ k = 5 ∨ k = 6 ∨ k = 7 := by omega
    rcases hc with rfl | rfl | rfl | rfl | rfl | rfl | rfl | rfl
    · exact specNodeText0 name col op num slot cols a c w hb h hl hs
    · by_cases ho : op = 3
      · exact specNodeText1n name col op num slot cols a c w hb ho h hl hs
      · exact specNodeText1 name col op num slot cols a c w hb ho h hl hs
    · exact specNodeText2 name col op num slot cols a c w hb h hl hs
    · exact specNodeText3 name col op num slot cols a c w hb h hl hs
    · exact specNodeText4 name col op num slot cols a c w hb h hl hs
    · exact specNodeText5 name col op num slot cols a c w hb h hl hs
    · exact specNodeText6 name col op num slot cols a c w hb h hl hs
    · exact specNodeText7 name col op num slot cols a c w hb h hl hs
end Go.Proofs.YtfpbhedophlnkaaDoor
