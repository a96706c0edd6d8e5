/-
  The walk of FnExactNodeText.
-/
import Derived.Test.YtfpbhedophlnkaaDoorRows
import Derived.Test.YtfpbhedophlnkaaDoorRead
import Derived.Test.YtfpbhedophlnkaaDoorSNdTA
import Derived.Test.YtfpbhedophlnkaaDoorKN1
import Derived.Test.YtfpbhedophlnkaaDoorHE
import Derived.Test.YtfpbhedophlnkaaDoorHS
import Derived.Deep.RegionWith
namespace Go.Proofs.YtfpbhedophlnkaaDoor.fnExactNodeText
open Go.RowKit
set_option linter.unusedSimpArgs false
set_option linter.unusedVariables false
set_option linter.unusedVariables false

set_option maxRecDepth 100000 in
set_option maxHeartbeats 1600000 in
theorem walk (w : World) (n : Nd) (a : Option Addr) (c : Nat) (rd : Rd w .i64 a n.cols) (hl : n.cols.length ≤ maxLen) (hs : n.name.size ≤ maxLen) (hg : GTab w) : Calls Tryd.prog 3 #[.agg #[.int .i64 n.kind, .string n.name, .int .i64 n.col, .int .i64 n.op, .int .i64 n.num, .bool n.slot, .slice a n.cols.length c]] w fun e w' => e = .returned (.bool true) ∧ Below w.heap.size w w' := by
  have RD := Lib.hid rd; clear rd
  have Z := Lib.hid (szNode_any n a c 1048576)
  have G := Lib.hid hg
  have SN := Lib.hid (fun a c W h => specNodeText_any n a c W h hl hs)
  have IN := Lib.hid (fun a c W h (hm : n.cols.length ≤ 17592186044416) g => implNodeText_any n a c W h hm hs g)
  clear hg
  generalize ndO n = R at SN IN
  go_enter Tryd.func3, Tryd.ntmps3
  go_wp2_with fail
  refine (Z.out _ (by omega) (by omega) hl hs).mono ?_
  rintro e w1 ⟨rfl, b1⟩
  have hq1 := fun o => b1.cell (p := ⟨w.heap.size, o, none⟩) (by simp)
  have C1 := Lib.hid b1
  have B1 := Lib.hid (((Below.refl _ w).alloc (Nat.le_refl _) _).trans (b1.mono (by simp)))
  clear b1
  by_cases hsz : szN n 1048576 < 0
  · go_wp2_with fail
    go_ret
    exact ⟨rfl, B1.out⟩
  have hsz' : 0 ≤ szN n 1048576 := by omega
  have hcl : n.cols.length ≤ 1048576 := by have := szN_pos hsz'; omega
  clear hsz
  go_wp2_with fail
  have R1 := Lib.hid (RD.out.below B1.out)
  refine (toNode_any n a c _ R1.out (by omega)).mono ?_
  rintro e w2 ⟨a2, c2, rfl, o2, b2⟩
  have B2 := Lib.hid (below_step B1.out (Nat.le_refl _) b2)
  have C2 := Lib.hid (below_step C1.out (Nat.le_refl _) b2)
  have hq2 := fun o => C2.out.cell (p := ⟨w.heap.size, o, none⟩) (by simp)
  have R2 := Lib.hid o2.rd
  clear o2 b2
  go_wp2_with fail
  refine (SN.out a2 c2 _ R2.out).mono ?_
  rintro e w3 ⟨rfl, b3⟩
  have B3 := Lib.hid (below_step B2.out (Nat.le_refl _) b3)
  have C3 := Lib.hid (below_step C2.out (Nat.le_refl _) b3)
  have hq3 := fun o => C3.out.cell (p := ⟨w.heap.size, o, none⟩) (by simp)
  clear b3
  go_wp2_with fail
  refine (toNode_any n a c _ (RD.out.below B3.out) (by omega)).mono ?_
  rintro e w4 ⟨a4, c4, rfl, o4, b4⟩
  have B4 := Lib.hid (below_step B3.out (Nat.le_refl _) b4)
  have C4 := Lib.hid (below_step C3.out (Nat.le_refl _) b4)
  have hq4 := fun o => C4.out.cell (p := ⟨w.heap.size, o, none⟩) (by simp)
  have hz4 : w.heap.size < w4.heap.size := by have := C4.out.size; simp at this; omega
  have O4 := Lib.hid o4
  clear o4 b4
  go_wp2_with fail
  refine (IN.out a4 c4 _ (O4.out.rd.below ((Below.refl _ w4).alloc (Nat.le_refl _) _)) (by omega) (gtab_below G.out (B4.out.alloc B4.out.size _))).mono ?_
  rintro e w5 ⟨rfl, b5⟩
  have B5 := Lib.hid (below_step (B4.out.alloc B4.out.size _) (Nat.le_refl _) b5)
  have C5 := Lib.hid (below_step (C4.out.alloc C4.out.size _) (Nat.le_refl _) b5)
  have D5 := Lib.hid (((Below.refl _ w4).alloc (Nat.le_refl _) _).trans (b5.mono (by simp)))
  have X5 := Lib.hid b5
  have hq5 := fun o => C5.out.cell (p := ⟨w.heap.size, o, none⟩) (by simp)
  have hx5 := fun o => b5.cell (p := ⟨w4.heap.size, o, none⟩) (by simp)
  clear b5
  go_wp2_with fail
  go_region_with (first
    | (go_at_call 8; refine (toNode_any n a c _ ?_ (by omega)).mono ?_; exact RD.out.below B5.out.drew; rintro e w6 ⟨a6, c6, rfl, o6, b6⟩; have B6 := Lib.hid (below_step B5.out.drew (Nat.le_refl _) b6); have D6 := Lib.hid (below_step D5.out.drew (Nat.le_refl _) b6); have X6 := Lib.hid (below_step X5.out.drew (Nat.le_refl _) b6); have hx6 := fun o => X6.out.cell (p := ⟨w4.heap.size, o, none⟩) (by simp); have O6 := Lib.hid o6; clear o6 b6)
    | (go_at_call 10; refine (eqNode_any n n a4 a6 c4 c6 _ (O4.out.rd.below D6.out) O6.out.rd hl hl).mono ?_; rintro e w7 ⟨rfl, b7⟩; rw [eqN_refl]; have B7 := Lib.hid (below_step B6.out (Nat.le_refl _) b7); clear b7))
  all_goals
    go_wp2_with fail
    go_ret
    exact ⟨rfl, B7.out⟩
end Go.Proofs.YtfpbhedophlnkaaDoor.fnExactNodeText
