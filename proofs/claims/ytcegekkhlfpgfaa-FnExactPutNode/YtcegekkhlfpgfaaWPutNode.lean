/-
  The walk of FnExactPutNode.
-/
import Derived.Test.YtcegekkhlfpgfaaRows
import Derived.Test.YtcegekkhlfpgfaaRead
import Derived.Test.YtcegekkhlfpgfaaSPutNd
import Derived.Test.YtcegekkhlfpgfaaIPutNd
import Derived.Test.YtcegekkhlfpgfaaMkNd
import Derived.Test.YtcegekkhlfpgfaaHE
import Derived.Test.YtcegekkhlfpgfaaHS
import Derived.Test.YtcegekkhlfpgfaaSlice
import Derived.Deep.RegionWith
namespace Go.Proofs.Ytcegekkhlfpgfaa.fnExactPutNode
open Go.RowKit
set_option linter.unusedSimpArgs false
set_option linter.unusedVariables false
set_option linter.unusedVariables false

set_option maxRecDepth 100000 in
set_option maxHeartbeats 4000000 in
theorem walk (w : World) (n : Nd) (a : Option Addr) (c : Nat) (rd : Rd w .i64 a n.cols) (hl : n.cols.length ≤ maxLen) (hs : n.name.size ≤ maxLen) : Calls Try.prog 3 #[.agg #[.int .i64 n.kind, .string n.name, .int .i64 n.col, .int .i64 n.op, .int .i64 n.num, .bool n.slot, .slice a n.cols.length c]] w fun e w' => e = .returned (.bool true) ∧ Below w.heap.size w w' := by
  have RD := Lib.hid rd; clear rd
  have Z := Lib.hid (szNode_any n a c 1048576)
  have hpl := putNd_len n
  have SP := Lib.hid (fun a c w h => specPutNode_any n a c w h hl hs)
  have IP := Lib.hid (fun a c w h (hm : n.cols.length ≤ 17592186044416) => implPutNode_any n a c w h hm hs)
  obtain ⟨q, hq⟩ : ∃ q, q = putNd n := ⟨_, rfl⟩
  rw [← hq] at hpl SP IP
  clear hq
  have hqm : q.length ≤ maxLen := by unfold maxLen; omega
  go_enter Try.func3, Try.ntmps3
  go_wp2_with fail
  refine (Z.out _ (by omega) (by omega) hl hs).mono ?_
  rintro e w1 ⟨rfl, b1⟩
  have hq1 := fun o => b1.cell (p := ⟨w.heap.size, o, none⟩) (by simp)
  have C1 := Lib.hid b1
  have B1 := Lib.hid (((Below.refl _ w).alloc (Nat.le_refl _) _).trans (b1.mono (by simp)))
  clear b1
  by_cases hsz : szN n 1048576 < 0
  · go_wp2_with fail
    go_ret
    exact ⟨rfl, B1.out⟩
  have hsz' : 0 ≤ szN n 1048576 := by omega
  have hcl : n.cols.length ≤ 1048576 := by have := szN_pos hsz'; omega
  clear hsz
  go_wp2_with fail
  refine (toNode_any n a c _ (RD.out.below B1.out) (by omega)).mono ?_
  rintro e w2 ⟨a2, c2, rfl, o2, b2⟩
  have B2 := Lib.hid (below_step B1.out (Nat.le_refl _) b2)
  have C2 := Lib.hid (below_step C1.out (Nat.le_refl _) b2)
  have hq2 := fun o => C2.out.cell (p := ⟨w.heap.size, o, none⟩) (by simp)
  have R2 := Lib.hid o2.rd
  clear o2 b2 hq1
  go_wp2_with fail
  refine (SP.out a2 c2 _ R2.out).mono ?_
  rintro e w3 ⟨a3, c3, rfl, o3, b3⟩
  have B3 := Lib.hid (below_step B2.out (Nat.le_refl _) b3)
  have C3 := Lib.hid (below_step C2.out (Nat.le_refl _) b3)
  have hq3 := fun o => C3.out.cell (p := ⟨w.heap.size, o, none⟩) (by simp)
  have O3 := Lib.hid o3
  have L3 := Lib.hid (fun x hx => (o3.lt x hx).2)
  clear o3 b3 hq2
  go_wp2_with fail
  refine (toNode_any n a c _ (RD.out.below B3.out) (by omega)).mono ?_
  rintro e w4 ⟨a4, c4, rfl, o4, b4⟩
  have B4 := Lib.hid (below_step B3.out (Nat.le_refl _) b4)
  have C4 := Lib.hid (below_step C3.out (Nat.le_refl _) b4)
  have hq4 := fun o => C4.out.cell (p := ⟨w.heap.size, o, none⟩) (by simp)
  have hz4 : w.heap.size < w4.heap.size := by have := C4.out.size; simp at this; omega
  have O4 := Lib.hid (o4.alloc (.cells #[.int .i64 n.kind, .string n.name, .int .i64 n.col, .int .i64 n.op, .int .i64 n.num, .bool n.slot, .slice a4 n.cols.length c4] 28))
  have L4 := Lib.hid (fun x hx => o4.lt x hx)
  have P4 := Lib.hid (O3.out.below b4)
  have B4' := Lib.hid (B4.out.alloc B4.out.size (.cells #[.int .i64 n.kind, .string n.name, .int .i64 n.col, .int .i64 n.op, .int .i64 n.num, .bool n.slot, .slice a4 n.cols.length c4] 28))
  have C4' := Lib.hid (C4.out.alloc C4.out.size (.cells #[.int .i64 n.kind, .string n.name, .int .i64 n.col, .int .i64 n.op, .int .i64 n.num, .bool n.slot, .slice a4 n.cols.length c4] 28))
  have P4' := Lib.hid (P4.out.alloc (.cells #[.int .i64 n.kind, .string n.name, .int .i64 n.col, .int .i64 n.op, .int .i64 n.num, .bool n.slot, .slice a4 n.cols.length c4] 28))
  have L43 : w3.heap.size ≤ w4.heap.size + 1 := by have := b4.size; omega
  clear o4 b4 O3 P4 hq3
  go_wp2_with fail
  refine (IP.out a4 c4 _ O4.out.rd (by omega)).mono ?_
  rintro e w5 ⟨a5, c5, rfl, o5, b5⟩
  have B5 := Lib.hid (below_step B4'.out (Nat.le_refl _) b5)
  have C5 := Lib.hid (below_step C4'.out (Nat.le_refl _) b5)
  have X5 := Lib.hid b5
  have O5 := Lib.hid (O4.out.below b5)
  have P5 := Lib.hid (P4'.out.below b5)
  have G5 := Lib.hid o5
  have L5 := Lib.hid (fun x hx => o5.lt x hx)
  have z5 : (w4.alloc (.cells #[.int .i64 n.kind, .string n.name, .int .i64 n.col, .int .i64 n.op, .int .i64 n.num, .bool n.slot, .slice a4 n.cols.length c4] 28)).heap.size = w4.heap.size + 1 := by simp
  have N45 : Hid (∀ x y, a5 = some x → a4 = some y → x.block ≠ y.block) := fun x y hx hy => by have h1 := (o5.lt x hx).1; have h2 := (L4.out y hy).2; rw [z5] at h1; omega
  have N35 : Hid (∀ x y, a3 = some x → a5 = some y → x.block ≠ y.block) := fun x y hx hy => by have h1 := L3.out x hx; have h2 := (o5.lt y hy).1; rw [z5] at h2; omega
  clear z5
  have hq5 := fun o => C5.out.cell (p := ⟨w.heap.size, o, none⟩) (by simp)
  have hx5 := fun o => b5.cell (p := ⟨w4.heap.size, o, none⟩) (by simp)
  clear o5 b5 O4 P4' hq4
  go_wp2_with fail
  refine (eqByteS_any a5 a3 c5 c3 q q _ G5.out.rd P5.out.rd hqm hqm).mono ?_
  rintro e w6 ⟨rfl, b6⟩
  rw [eqL_refl]
  have B6 := Lib.hid (below_step B5.out (Nat.le_refl _) b6)
  have C6 := Lib.hid (below_step C5.out (Nat.le_refl _) b6)
  have X6 := Lib.hid (below_step X5.out (Nat.le_refl _) b6)
  have O6 := Lib.hid (O5.out.below b6)
  have P6 := Lib.hid (P5.out.below b6)
  have G6 := Lib.hid (G5.out.below b6)
  have hq6 := fun o => C6.out.cell (p := ⟨w.heap.size, o, none⟩) (by simp)
  have hx6 := fun o => X6.out.cell (p := ⟨w4.heap.size, o, none⟩) (by simp)
  clear b6 O5 P5 G5 hq5 hx5
  go_wp2_with fail
  go_region_with (first
    | (go_at_call 9; refine (toNode_any n a c _ ?_ (by omega)).mono ?_; exact RD.out.below B6.out.drew; rintro e w7 ⟨a7, c7, rfl, o7, b7⟩; have D7 := Lib.hid b7; have X7 := Lib.hid (below_step X6.out.drew (Nat.le_refl _) b7); have hx7 := fun o => X7.out.cell (p := ⟨w4.heap.size, o, none⟩) (by simp); have O7 := Lib.hid o7; clear o7 b7)
    | (go_at_call 12; refine (eqNode_any n n a4 a7 c4 c7 _ (((O6.out.below (Below.refl _ _).drew).below D7.out).rd) O7.out.rd hl hl).mono ?_; rintro e w8 ⟨rfl, b8⟩; rw [eqN_refl]; have D8 := Lib.hid (below_step D7.out (Nat.le_refl _) b8); clear b8))
  all_goals
    have E8 := Lib.hid (below_step (Below.refl _ w6).drew (Nat.le_refl _) D8.out)
    clear D7 D8 O7 X7 hx7
    have B8 := Lib.hid (below_step B6.out (Nat.le_refl _) E8.out)
    have C8 := Lib.hid (below_step C6.out (Nat.le_refl _) E8.out)
    have X8 := Lib.hid (below_step X6.out (Nat.le_refl _) E8.out)
    have O8 := Lib.hid (O6.out.below E8.out)
    have P8 := Lib.hid (P6.out.below E8.out)
    have G8 := Lib.hid (G6.out.below E8.out)
    have hq8 := fun o => C8.out.cell (p := ⟨w.heap.size, o, none⟩) (by simp)
    have hx8 := fun o => X8.out.cell (p := ⟨w4.heap.size, o, none⟩) (by simp)
    clear E8 O6 P6 G6 hq6 hx6
    go_wp2_with fail
    refine (markNode_any _ n a4 c4 1 _ O8.out (by omega) (by omega)).mono ?_
    rintro e w9 ⟨rfl, _, g9⟩
    have B9 := Lib.hid (below_grow B8.out (Nat.le_refl _) g9 (fun x hx => Nat.le_trans B3.out.size (L4.out x hx).1))
    have C9 := Lib.hid (below_grow C8.out (Nat.le_refl _) g9 (fun x hx => Nat.le_trans C3.out.size (L4.out x hx).1))
    have P9 := Lib.hid (P8.out.apart g9 (fun x y hx hy => by have := L3.out x hx; have := (L4.out y hy).1; omega))
    have G9 := Lib.hid (G8.out.apart g9 N45.out)
    have hq9 := fun o => C9.out.cell (p := ⟨w.heap.size, o, none⟩) (by simp)
    clear g9 O8 P8 G8 hq8 hx8
    go_wp2_with fail
    refine (eqByteS_any a5 a3 c5 c3 q q _ G9.out.rd P9.out.rd hqm hqm).mono ?_
    rintro e w10 ⟨rfl, b10⟩
    rw [eqL_refl]
    have B10 := Lib.hid (below_step B9.out (Nat.le_refl _) b10)
    have C10 := Lib.hid (below_step C9.out (Nat.le_refl _) b10)
    have P10 := Lib.hid (P9.out.below b10)
    have G10 := Lib.hid (G9.out.below b10)
    clear b10 P9 G9 hq9
    go_wp2_with fail
    refine (markByteS_any _ a5 c5 q 1 _ G10.out (by omega) (by omega)).mono ?_
    rintro e w11 ⟨rfl, m11, g11⟩
    have B11 := Lib.hid (below_grow B10.out (Nat.le_refl _) g11 (fun x hx => Nat.le_trans B4'.out.size (L5.out x hx).1))
    have C11 := Lib.hid (below_grow C10.out (Nat.le_refl _) g11 (fun x hx => Nat.le_trans C4'.out.size (L5.out x hx).1))
    have P11 := Lib.hid (P10.out.apart g11 N35.out)
    have M11 := Lib.hid m11
    have hq11 := fun o => C11.out.cell (p := ⟨w.heap.size, o, none⟩) (by simp)
    clear m11 g11 P10 G10
    go_wp2_with fail
    refine (heldByteS_any a5 c5 q.length 1 _ M11.out (by omega) (by omega)).mono ?_
    rintro e w' ⟨rfl, rfl⟩
    go_wp2_with fail
    refine (toNode_any n a c _ (RD.out.below B11.out) (by omega)).mono ?_
    rintro e w12 ⟨a12, c12, rfl, o12, b12⟩
    have B12 := Lib.hid (below_step B11.out (Nat.le_refl _) b12)
    have P12 := Lib.hid (P11.out.below b12)
    have M12 := Lib.hid (M11.out.below b12)
    have R12 := Lib.hid o12.rd
    clear o12 b12 P11 M11 hq11
    go_wp2_with fail
    refine (IP.out a12 c12 _ R12.out (by omega)).mono ?_
    rintro e w13 ⟨a13, c13, rfl, o13, b13⟩
    have B13 := Lib.hid (below_step B12.out (Nat.le_refl _) b13)
    have P13 := Lib.hid (P12.out.below b13)
    have M13 := Lib.hid (M12.out.below b13)
    have G13 := Lib.hid o13
    clear o13 b13 P12 M12
    go_wp2_with fail
    refine (eqByteS_any a13 a3 c13 c3 q q _ G13.out.rd P13.out.rd hqm hqm).mono ?_
    rintro e w14 ⟨rfl, b14⟩
    rw [eqL_refl]
    have B14 := Lib.hid (below_step B13.out (Nat.le_refl _) b14)
    have M14 := Lib.hid (M13.out.below b14)
    clear b14
    go_wp2_with fail
    refine (heldByteS_any a5 c5 q.length 1 _ M14.out (by omega) (by omega)).mono ?_
    rintro e w' ⟨rfl, rfl⟩
    go_wp2_with fail
    go_ret
    exact ⟨rfl, B14.out⟩
end Go.Proofs.Ytcegekkhlfpgfaa.fnExactPutNode
