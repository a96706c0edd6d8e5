/-
  Contract of eqNode. For every two nodes.
-/
import Derived.Test.YtfpbhedophlnkaaDoorHN
namespace Go.Proofs.YtfpbhedophlnkaaDoor
open Go.RowKit
set_option linter.unusedSimpArgs false
set_option linter.unusedVariables false

/-- Whether two nodes are the same. -/
def eqN (n m : Nd) : Bool := (n.kind == m.kind) && (n.name.toList == m.name.toList) && (n.col == m.col) && (n.op == m.op) && (n.num == m.num) && (n.slot == m.slot) && eqL n.cols m.cols
theorem eqN_refl (n : Nd) : eqN n n = true := by simp [eqN, eqL_refl]

theorem eqNode_any (n m : Nd) (a b : Option Addr) (c d : Nat) (w : World) (h : Rd w .i64 a n.cols) (k : Rd w .i64 b m.cols) (hn : n.cols.length ≤ maxLen) (hm : m.cols.length ≤ maxLen) :
    Calls Tryd.prog 10 #[.agg #[.int .i64 n.kind, .string n.name, .int .i64 n.col, .int .i64 n.op, .int .i64 n.num, .bool n.slot, .slice a n.cols.length c], .agg #[.int .i64 m.kind, .string m.name, .int .i64 m.col, .int .i64 m.op, .int .i64 m.num, .bool m.slot, .slice b m.cols.length d]] w fun e w' => e = .returned (.bool (eqN n m)) ∧ Below w.heap.size w w' := by
  have H := Lib.hid h; clear h
  have K := Lib.hid k; clear k
  go_enter Tryd.func10, Tryd.ntmps10
  go_wp2_with fail
  all_goals try (go_ret; exact ⟨ret_bool (by simp_all [eqN]), ((Below.refl _ _).alloc (Nat.le_refl _) _).alloc (by simp) _⟩)
  have E : Hid (eqN n m = eqL n.cols m.cols) := by
    show eqN n m = eqL n.cols m.cols
    simp_all [eqN]
  have B2 := Lib.hid (show Below w.heap.size w ((w.alloc (.cells #[.int .i64 n.kind, .string n.name, .int .i64 n.col, .int .i64 n.op, .int .i64 n.num, .bool n.slot, .slice a n.cols.length c] 27)).alloc (.cells #[.int .i64 m.kind, .string m.name, .int .i64 m.col, .int .i64 m.op, .int .i64 m.num, .bool m.slot, .slice b m.cols.length d] 27)) from ((Below.refl _ _).alloc (Nat.le_refl _) _).alloc (by simp) _)
  refine (eqIntS_any a b c d n.cols m.cols _ (H.out.below B2.out) (K.out.below B2.out) hn hm).mono ?_
  rintro e w1 ⟨rfl, b1⟩
  cases hq : eqL n.cols m.cols with
  | true =>
    have Q := Lib.hid (E.out.trans hq); clear hq
    go_wp2
    go_ret
    exact ⟨ret_bool Q.out.symm, B2.out.trans (b1.mono (by simp; omega))⟩
  | false =>
    have Q := Lib.hid (E.out.trans hq); clear hq
    go_wp2
    go_ret
    exact ⟨ret_bool Q.out.symm, B2.out.trans (b1.mono (by simp; omega))⟩
end Go.Proofs.YtfpbhedophlnkaaDoor
