/-
  The walk of FnExactTakeNode.
-/
import Derived.Test.YtcegekkhlfpgfaaDoorRows
import Derived.Test.YtcegekkhlfpgfaaDoorArg
import Derived.Test.YtcegekkhlfpgfaaDoorSlice
import Derived.Test.YtcegekkhlfpgfaaDoorKT1
import Derived.Test.YtcegekkhlfpgfaaDoorITkN
import Derived.Test.YtcegekkhlfpgfaaDoorMkNd
import Derived.Test.YtcegekkhlfpgfaaDoorHE
namespace Go.Proofs.YtcegekkhlfpgfaaDoor.fnExactTakeNode
open Go.RowKit
set_option linter.unusedSimpArgs false
set_option linter.unusedVariables false
set_option linter.unusedVariables false

theorem i64_bd {x : Int} (h : (Lit.int .i64 x).wf = true) : -9223372036854775808 ≤ x ∧ x ≤ 9223372036854775807 := by
  simp [Lit.wf, IntKind.min, IntKind.max, IntKind.signed, IntKind.bits] at h
  omega
theorem takeNd_cols {l : List Int} (hl : By l) (p : Int) : (takeNd l p).1.cols.length ≤ 300 := by
  unfold takeNd
  split
  · simp [zeroNd]
  · exact fieldR_cols hl _ _

set_option maxRecDepth 100000 in
set_option maxHeartbeats 4000000 in
theorem walk (a0 : Option Addr) (len0 cap0 : Nat) (z0 : List Int) (ai : Int) (w : World) (w0 : IsRow .u8 w a0 len0 cap0 z0) (wi : (Lit.int .i64 ai).wf = true) (hg : ErrT w) :
    Calls Tryd.prog 3 #[.slice a0 len0 cap0, .int .i64 ai] w fun e w' => e = .returned (.bool true) ∧ Below w.heap.size w w' := by
  obtain ⟨l, rfl, hn, hr, hwf⟩ := w0.rd
  have hby := by_of_wf hwf
  have hi := i64_bd wi
  clear w0 hwf wi
  by_cases h : 1048576 < l.length
  · have h' : (1048576 : Int) < l.length := by omega
    clear hg
    go_enter Tryd.func3, Tryd.ntmps3
    go_wp2
    go_ret
    exact ⟨rfl, Below.refl _ _⟩
  have h' : (l.length : Int) ≤ 1048576 := by omega
  have hql := takeNd_cols hby ai
  have S : Hid (∀ (b : Option Addr) (d : Nat) (w : World), Rd w .u8 b l → l.length ≤ d → d ≤ maxLen → Calls Tryd.prog 7 #[.slice b l.length d, .int .i64 ai] w (TookNm (takeNd l ai) w)) := fun b d w h h1 h2 => specTakeNode_any b d l ai w h hby hn h1 h2 hi.2
  have I : Hid (∀ (b : Option Addr) (d : Nat) (w : World), ErrT w → Rd w .u8 b l → l.length ≤ d → d ≤ maxLen → Calls Tryd.prog 9 #[.slice b l.length d, .int .i64 ai] w (TookNm (takeNd l ai) w)) := fun b d w g h h1 h2 => implTakeNode_any b d l ai w g h hby h1 h2 hi.2 hi.1
  obtain ⟨⟨n, nx⟩, hq⟩ : ∃ r, r = takeNd l ai := ⟨_, rfl⟩
  rw [← hq] at S I hql
  simp only at hql
  have hnn : (nx != nx) = false := by simp
  have C : Hid (∀ (b : Option Addr) (d : Nat) (w : World), Rd w .u8 b l → Calls Tryd.prog 8 #[.slice b l.length d] w (Made w 5 .u8 l)) := fun b d w h => toByteS_any b d l w h (by omega)
  have hm : n.cols.length ≤ maxLen := by unfold maxLen; omega
  have HN := Lib.hid hn; have R0 := Lib.hid hr; have G0 := Lib.hid hg
  clear hq h hn hr hg hby
  go_enter Tryd.func3, Tryd.ntmps3
  go_wp2_with fail
  refine (C.out _ _ _ R0.out).mono ?_
  rintro e w1 ⟨a1, c1, rfl, o1, b1⟩
  have T1 := Lib.hid b1; have X1 := Lib.hid o1; clear o1 b1
  go_wp2_with fail
  refine (S.out _ _ _ X1.out.rd X1.out.cap_ge X1.out.cap_le).mono ?_
  rintro e w2 ⟨aw, cw, rfl, o2, b2⟩
  simp only at o2 ⊢
  have T2 := Lib.hid ((below_step T1.out (Nat.le_refl _) b2).alloc (below_step T1.out (Nat.le_refl _) b2).size (.cells #[.int .i64 n.kind, .string n.name, .int .i64 n.col, .int .i64 n.op, .int .i64 n.num, .bool n.slot, .slice aw n.cols.length cw] 25))
  have W2 := Lib.hid (o2.alloc (.cells #[.int .i64 n.kind, .string n.name, .int .i64 n.col, .int .i64 n.op, .int .i64 n.num, .bool n.slot, .slice aw n.cols.length cw] 25))
  have LW := Lib.hid (fun x hx => (o2.lt x hx).2)
  have K52 := Lib.hid (heap_alloc_new w2 (.cells #[.int .i64 n.kind, .string n.name, .int .i64 n.col, .int .i64 n.op, .int .i64 n.num, .bool n.slot, .slice aw n.cols.length cw] 25))
  have SZ0 := Lib.hid (below_step T1.out (Nat.le_refl _) b2).size
  have s2 : (w2.alloc (.cells #[.int .i64 n.kind, .string n.name, .int .i64 n.col, .int .i64 n.op, .int .i64 n.num, .bool n.slot, .slice aw n.cols.length cw] 25)).heap.size = w2.heap.size + 1 := by simp
  clear o2 b2 X1 T1
  go_wp2_with fail
  refine (C.out _ _ _ (R0.out.below T2.out)).mono ?_
  rintro e w3 ⟨ax, cx, rfl, o3, b3⟩
  have T3 := Lib.hid (below_step T2.out (Nat.le_refl _) b3); have W3 := Lib.hid (W2.out.below b3); have X3 := Lib.hid o3
  have K53 := Lib.hid ((b3.block w2.heap.size (by simp)).trans K52.out)
  have s3 := b3.size
  have SZ : Hid (w.heap.size ≤ w2.heap.size) := SZ0
  have LX := Lib.hid (fun x hx => o3.lt x hx)
  clear o3 b3 T2 W2 K52
  go_wp2_with fail
  refine (I.out _ _ _ (G0.out.below T3.out) X3.out.rd X3.out.cap_ge X3.out.cap_le).mono ?_
  rintro e w4 ⟨ag, cg, rfl, o4, b4⟩
  simp only at o4 ⊢
  have T4 := Lib.hid ((below_step T3.out (Nat.le_refl _) b4).alloc (below_step T3.out (Nat.le_refl _) b4).size (.cells #[.int .i64 n.kind, .string n.name, .int .i64 n.col, .int .i64 n.op, .int .i64 n.num, .bool n.slot, .slice ag n.cols.length cg] 25))
  have W4 := Lib.hid ((W3.out.below b4).alloc (.cells #[.int .i64 n.kind, .string n.name, .int .i64 n.col, .int .i64 n.op, .int .i64 n.num, .bool n.slot, .slice ag n.cols.length cg] 25)); have X4 := Lib.hid ((X3.out.below b4).alloc (.cells #[.int .i64 n.kind, .string n.name, .int .i64 n.col, .int .i64 n.op, .int .i64 n.num, .bool n.slot, .slice ag n.cols.length cg] 25)); have G4 := Lib.hid (o4.alloc (.cells #[.int .i64 n.kind, .string n.name, .int .i64 n.col, .int .i64 n.op, .int .i64 n.num, .bool n.slot, .slice ag n.cols.length cg] 25))
  have LG := Lib.hid (fun x hx => o4.lt x hx)
  have s4 := b4.size
  have z5 : w2.heap.size < w4.heap.size := by omega
  have h5 := fun o => cell_of_row w4 w2.heap.size o _ _ _ ((b4.block w2.heap.size (by omega)).trans K53.out)
  have K54 := Lib.hid (((Below.refl _ w4).alloc (Nat.le_refl _) (.cells #[.int .i64 n.kind, .string n.name, .int .i64 n.col, .int .i64 n.op, .int .i64 n.num, .bool n.slot, .slice ag n.cols.length cg] 25)).block w2.heap.size z5 |>.trans ((b4.block w2.heap.size (by omega)).trans K53.out))
  have K84 := Lib.hid (heap_alloc_new w4 (.cells #[.int .i64 n.kind, .string n.name, .int .i64 n.col, .int .i64 n.op, .int .i64 n.num, .bool n.slot, .slice ag n.cols.length cg] 25))
  have NWX : Hid (∀ x y, aw = some x → ax = some y → x.block ≠ y.block) := fun x y hx hy => by have := LW.out x hx; have := (LX.out y hy).1; omega
  have NGX : Hid (∀ x y, ag = some x → ax = some y → x.block ≠ y.block) := fun x y hx hy => by have := (LG.out x hx).1; have := (LX.out y hy).2; omega
  have NWG : Hid (∀ x y, aw = some x → ag = some y → x.block ≠ y.block) := fun x y hx hy => by have := LW.out x hx; have := (LG.out y hy).1; omega
  clear o4 b4 T3 W3 X3 K53
  go_wp2_with fail
  refine (eqNode_any n n ag aw cg cw _ G4.out.rd W4.out.rd hm hm).mono ?_
  rintro e w5 ⟨rfl, b5⟩
  rw [eqN_refl]
  have T5 := Lib.hid (below_step T4.out (Nat.le_refl _) b5); have W5 := Lib.hid (W4.out.below b5); have X5 := Lib.hid (X4.out.below b5); have G5 := Lib.hid (G4.out.below b5)
  have K55 := Lib.hid ((b5.block w2.heap.size (by simp; omega)).trans K54.out); have K85 := Lib.hid ((b5.block w4.heap.size (by simp)).trans K84.out)
  have s5 : w4.heap.size < w5.heap.size := by have := b5.size; simp at this; omega
  clear b5 T4 W4 X4 G4 h5 K54 K84
  go_wp2_with fail
  refine (C.out _ _ _ (R0.out.below T5.out)).mono ?_
  rintro e w6 ⟨ay, cy, rfl, o6, b6⟩
  have T6 := Lib.hid (below_step T5.out (Nat.le_refl _) b6); have W6 := Lib.hid (W5.out.below b6); have X6 := Lib.hid (X5.out.below b6); have G6 := Lib.hid (G5.out.below b6); have Y6 := Lib.hid o6
  have K56 := Lib.hid ((b6.block w2.heap.size (by omega)).trans K55.out); have K86 := Lib.hid ((b6.block w4.heap.size s5).trans K85.out)
  have s6 := b6.size
  clear o6 b6 T5 W5 X5 G5 K55 K85
  go_wp2_with fail
  refine (eqByteS_any _ _ _ _ _ _ _ X6.out.rd Y6.out.rd HN.out HN.out).mono ?_
  rintro e w7 ⟨rfl, b7⟩
  rw [eqL_refl]
  have T7 := Lib.hid (below_step T6.out (Nat.le_refl _) b7); have W7 := Lib.hid (W6.out.below b7); have X7 := Lib.hid (X6.out.below b7); have G7 := Lib.hid (G6.out.below b7)
  have K57 := Lib.hid ((b7.block w2.heap.size (by omega)).trans K56.out); have K87 := Lib.hid ((b7.block w4.heap.size (by omega)).trans K86.out)
  have s7 := b7.size
  clear b7 T6 W6 X6 G6 Y6 K56 K86
  go_wp2_with fail
  refine (markByteS_any _ _ _ _ 1 _ X7.out (by omega) (by omega)).mono ?_
  rintro e w8 ⟨rfl, _, g8⟩
  have T8 := Lib.hid (below_grow T7.out (Nat.le_refl _) g8 (fun x hx => by have := (LX.out x hx).1; have := SZ.out; omega))
  have W8 := Lib.hid (W7.out.apart g8 NWX.out); have G8 := Lib.hid (G7.out.apart g8 NGX.out)
  have K58 := Lib.hid ((g8.block w2.heap.size (by omega) (by
    cases ax with
    | none => simp
    | some y => simp; have := (LX.out y rfl).1; omega)).trans K57.out)
  have K88 := Lib.hid ((g8.block w4.heap.size (by omega) (by
    cases ax with
    | none => simp
    | some y => simp; have := (LX.out y rfl).2; omega)).trans K87.out)
  have s8 := g8.size
  have f5 := fun o => cell_of_row w8 w2.heap.size o _ _ _ K58.out
  have f8 := fun o => cell_of_row w8 w4.heap.size o _ _ _ K88.out
  clear g8 T7 W7 X7 G7 K57 K87
  go_wp2_with fail
  refine (eqNode_any n n ag aw cg cw _ G8.out.rd W8.out.rd hm hm).mono ?_
  rintro e w9 ⟨rfl, b9⟩
  rw [eqN_refl]
  have T9 := Lib.hid (below_step T8.out (Nat.le_refl _) b9); have W9 := Lib.hid (W8.out.below b9); have G9 := Lib.hid (G8.out.below b9)
  have K59 := Lib.hid ((b9.block w2.heap.size (by omega)).trans K58.out); have K89 := Lib.hid ((b9.block w4.heap.size (by omega)).trans K88.out)
  have s9 := b9.size
  have f8' := fun o => cell_of_row w9 w4.heap.size o _ _ _ K89.out
  clear b9 T8 W8 G8 f5 f8 K58 K88
  go_wp2_with fail
  refine (markNode_any _ n ag cg 1 _ G9.out (by omega) (by omega)).mono ?_
  rintro e w10 ⟨rfl, m10, g10⟩
  have T10 := Lib.hid (below_grow T9.out (Nat.le_refl _) g10 (fun x hx => by have := (LG.out x hx).1; have := SZ.out; omega))
  have W10 := Lib.hid (W9.out.apart g10 NWG.out)
  have M10 := Lib.hid m10
  have K510 := Lib.hid ((g10.block w2.heap.size (by omega) (by
    cases ag with
    | none => simp
    | some y => simp; have := (LG.out y rfl).1; omega)).trans K59.out)
  have K810 := Lib.hid ((g10.block w4.heap.size (by omega) (by
    cases ag with
    | none => simp
    | some y => simp; have := (LG.out y rfl).2; omega)).trans K89.out)
  have s10 := g10.size
  have f8 := fun o => cell_of_row w10 w4.heap.size o _ _ _ K810.out
  clear m10 g10 T9 W9 G9 f8' K59 K89
  go_wp2_with fail
  refine (heldNode_any n ag cg 1 _ M10.out (by omega) (by omega)).mono ?_
  rintro e w11 ⟨rfl, b11⟩
  have T11 := Lib.hid (below_step T10.out (Nat.le_refl _) b11); have W11 := Lib.hid (W10.out.below b11); have M11 := Lib.hid (M10.out.below b11)
  have K511 := Lib.hid ((b11.block w2.heap.size (by omega)).trans K510.out); have K811 := Lib.hid ((b11.block w4.heap.size (by omega)).trans K810.out)
  have s11 := b11.size
  clear b11 T10 W10 M10 f8 K510 K810
  go_wp2_with fail
  refine (C.out _ _ _ (R0.out.below T11.out)).mono ?_
  rintro e w12 ⟨au, cu, rfl, o12, b12⟩
  have T12 := Lib.hid (below_step T11.out (Nat.le_refl _) b12); have W12 := Lib.hid (W11.out.below b12); have M12 := Lib.hid (M11.out.below b12); have U12 := Lib.hid o12
  have K512 := Lib.hid ((b12.block w2.heap.size (by omega)).trans K511.out); have K812 := Lib.hid ((b12.block w4.heap.size (by omega)).trans K811.out)
  have s12 := b12.size
  clear o12 b12 T11 W11 M11 K511 K811
  go_wp2_with fail
  refine (I.out _ _ _ (G0.out.below T12.out) U12.out.rd U12.out.cap_ge U12.out.cap_le).mono ?_
  rintro e w13 ⟨ah, ch, rfl, o13, b13⟩
  simp only at o13 ⊢
  have T13 := Lib.hid ((below_step T12.out (Nat.le_refl _) b13).alloc (below_step T12.out (Nat.le_refl _) b13).size (.cells #[.int .i64 n.kind, .string n.name, .int .i64 n.col, .int .i64 n.op, .int .i64 n.num, .bool n.slot, .slice ah n.cols.length ch] 25))
  have W13 := Lib.hid ((W12.out.below b13).alloc (.cells #[.int .i64 n.kind, .string n.name, .int .i64 n.col, .int .i64 n.op, .int .i64 n.num, .bool n.slot, .slice ah n.cols.length ch] 25)); have M13 := Lib.hid ((M12.out.below b13).below ((Below.refl _ w13).alloc (Nat.le_refl _) (.cells #[.int .i64 n.kind, .string n.name, .int .i64 n.col, .int .i64 n.op, .int .i64 n.num, .bool n.slot, .slice ah n.cols.length ch] 25))); have H13 := Lib.hid (o13.alloc (.cells #[.int .i64 n.kind, .string n.name, .int .i64 n.col, .int .i64 n.op, .int .i64 n.num, .bool n.slot, .slice ah n.cols.length ch] 25))
  have s13 := b13.size
  have z13 : w2.heap.size < w13.heap.size := by omega
  have z13' : w4.heap.size < w13.heap.size := by omega
  have f5 := fun o => cell_of_row w13 w2.heap.size o _ _ _ ((b13.block w2.heap.size (by omega)).trans K512.out)
  have K813 := Lib.hid (((Below.refl _ w13).alloc (Nat.le_refl _) (.cells #[.int .i64 n.kind, .string n.name, .int .i64 n.col, .int .i64 n.op, .int .i64 n.num, .bool n.slot, .slice ah n.cols.length ch] 25)).block w4.heap.size z13' |>.trans ((b13.block w4.heap.size (by omega)).trans K812.out))
  clear o13 b13 T12 W12 M12 K512 K812 U12
  go_wp2_with fail
  refine (eqNode_any n n ah aw ch cw _ H13.out.rd W13.out.rd hm hm).mono ?_
  rintro e w14 ⟨rfl, b14⟩
  rw [eqN_refl]
  have T14 := Lib.hid (below_step T13.out (Nat.le_refl _) b14); have M14 := Lib.hid (M13.out.below b14)
  have f8 := fun o => cell_of_row w14 w4.heap.size o _ _ _ ((b14.block w4.heap.size (by simp; omega)).trans K813.out)
  clear b14 T13 W13 M13 H13 f5 K813
  go_wp2_with fail
  refine (heldNode_any n ag cg 1 _ M14.out (by omega) (by omega)).mono ?_
  rintro e w15 ⟨rfl, b15⟩
  have T15 := Lib.hid (below_step T14.out (Nat.le_refl _) b15)
  clear b15 f8
  go_wp2_with fail
  go_ret
  exact ⟨rfl, T15.out⟩
end Go.Proofs.YtcegekkhlfpgfaaDoor.fnExactTakeNode
