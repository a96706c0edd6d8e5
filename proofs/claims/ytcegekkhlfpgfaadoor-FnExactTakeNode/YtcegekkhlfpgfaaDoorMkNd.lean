/-
  Contracts of markNode and heldNode: marks are written into a node's columns, and found there. For every node.
-/
import Derived.Test.YtcegekkhlfpgfaaDoorIntS
import Derived.Test.YtcegekkhlfpgfaaDoorHN
namespace Go.Proofs.YtcegekkhlfpgfaaDoor
open Go.RowKit
set_option linter.unusedSimpArgs false
set_option linter.unusedVariables false

theorem grown_alloc {w w' : World} {o : Obj} {row : Option Nat} (h : (w.alloc o).grownBy w' row) : w.grownBy w' row :=
  ⟨h.os, h.tape, h.output, by have := h.size; simp at this; omega, fun i hi hne => (h.block i (by simp; omega) hne).trans (((Below.refl w.heap.size w).alloc (Nat.le_refl _) o).block i hi)⟩

theorem markNode_any (base : Nat) (n : Nd) (a : Option Addr) (c : Nat) (m : Int) (w : World) (h : Own w base 3 .i64 a c n.cols) (h0 : 0 ≤ m) (hm : m + n.cols.length ≤ 4611686018427387904) :
    Calls Tryd.prog 13 #[.agg #[.int .i64 n.kind, .string n.name, .int .i64 n.col, .int .i64 n.op, .int .i64 n.num, .bool n.slot, .slice a n.cols.length c], .int .i64 m] w fun e w' => e = .returned (.int .i64 (m + n.cols.length)) ∧ Rd w' .i64 a (marksL id m n.cols.length) ∧ w.grownBy w' (a.map (·.block)) := by
  have H := Lib.hid h; clear h
  go_enter Tryd.func13, Tryd.ntmps13
  go_wp2_with fail
  refine (markIntS_any base a c n.cols m _ (H.out.alloc _) h0 hm).mono ?_
  rintro e w1 ⟨rfl, r1, g1⟩
  have R1 := Lib.hid r1; have G1 := Lib.hid (grown_alloc g1)
  clear r1 g1
  go_wp2_with fail
  go_ret
  exact ⟨rfl, R1.out, G1.out⟩

theorem heldNode_any (n : Nd) (a : Option Addr) (c : Nat) (m : Int) (w : World) (h : Rd w .i64 a (marksL id m n.cols.length)) (h0 : 0 ≤ m) (hm : m + n.cols.length ≤ 4611686018427387904) :
    Calls Tryd.prog 14 #[.agg #[.int .i64 n.kind, .string n.name, .int .i64 n.col, .int .i64 n.op, .int .i64 n.num, .bool n.slot, .slice a n.cols.length c], .int .i64 m] w fun e w' => e = .returned (.int .i64 (m + n.cols.length)) ∧ Below w.heap.size w w' := by
  have H := Lib.hid h; clear h
  go_enter Tryd.func14, Tryd.ntmps14
  go_wp2_with fail
  refine (heldIntS_any a c n.cols.length m _ (H.out.below ((Below.refl _ w).alloc (Nat.le_refl _) _)) h0 hm).mono ?_
  rintro e w' ⟨rfl, rfl⟩
  go_wp2_with fail
  go_ret
  exact ⟨rfl, (Below.refl _ w).alloc (Nat.le_refl _) _⟩
end Go.Proofs.YtcegekkhlfpgfaaDoor
