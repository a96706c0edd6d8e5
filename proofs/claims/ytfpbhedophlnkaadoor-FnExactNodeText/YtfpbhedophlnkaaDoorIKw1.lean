/-
  Contract of impl.kindWords at further kinds. For every node that is one.
-/
import Derived.Test.YtfpbhedophlnkaaDoorIKw
namespace Go.Proofs.YtfpbhedophlnkaaDoor
open Go.RowKit
set_option linter.unusedSimpArgs false
set_option linter.unusedVariables false

set_option maxRecDepth 100000 in
set_option maxHeartbeats 1600000 in
theorem kindWords1n (name : ByteArray) (col op num : Int) (slot : Bool) (cols : List Int) (a : Option Addr) (c : Nat) (w : World) (hb : nodeB ⟨1, name, col, op, num, slot, cols⟩ = true) (ho : op = 3) (h : Rd w .i64 a cols) (hg : GTab w) :
    Calls Tryd.prog 40 #[kindV ⟨1, name, col, op, num, slot, cols⟩ a c] w (MadeS w (ndB ⟨1, name, col, op, num, slot, cols⟩)) := by
  obtain ⟨_, hnm, hcol, hop, hnum, hcl, hcs⟩ := nums_of_nodeB hb
  simp only at hnm hcol hop hnum hcl hcs
  have G := Lib.hid hg; clear hg hb
  simp only [kindV, ndB, Int.reduceEq, if_false, if_true]
  rw [if_pos ho]
  have ho' : (op != 3) = false := by simp [ho]
  clear ho
  have f0 := Tryd.as_filterNode_scanNode
  have f1 := Tryd.as_filterNode_filterNode
  clear h
  have NA := Lib.hid (fun W (hb : Below w.heap.size w W) => itoaT_any col W (by omega) (by omega) (gtab_below G.out hb))
  have NB := Lib.hid (fun W => opWord_any op W hop)
  have NL := Lib.hid (fun W (hb : Below w.heap.size w W) => literalWord_any num slot W hnum.1 hnum.2 (gtab_below G.out hb))
  generalize numT col = X at *
  generalize opB op = Y at *
  generalize litB slot num = Z at *
  have D0 := Lib.hid (Below.refl (w.alloc (.cells #[.int .i64 col, .int .i64 op, .int .i64 num, .bool slot] 64)).heap.size (w.alloc (.cells #[.int .i64 col, .int .i64 op, .int .i64 num, .bool slot] 64))).drew
  have BB := Lib.hid ((Below.refl _ w).alloc (Nat.le_refl _) (.cells #[.int .i64 col, .int .i64 op, .int .i64 num, .bool slot] 64))
  have KP : Hid (∀ w4, Below (w.alloc (.cells #[.int .i64 col, .int .i64 op, .int .i64 num, .bool slot] 64)).heap.size (w.alloc (.cells #[.int .i64 col, .int .i64 op, .int .i64 num, .bool slot] 64)) w4 → w4.cell? ⟨w.heap.size, 0, none⟩ = some (.int .i64 col) ∧ w4.cell? ⟨w.heap.size, 1, none⟩ = some (.int .i64 op) ∧ w4.cell? ⟨w.heap.size, 2, none⟩ = some (.int .i64 num) ∧ w4.cell? ⟨w.heap.size, 3, none⟩ = some (.bool slot)) := fun w4 b4 => by
    have hq := fun o => b4.cell (p := ⟨w.heap.size, o, none⟩) (by simp)
    exact ⟨(hq 0).trans ((cell_of_row _ _ _ _ _ _ (heap_alloc_new w _)).trans rfl), (hq 1).trans ((cell_of_row _ _ _ _ _ _ (heap_alloc_new w _)).trans rfl), (hq 2).trans ((cell_of_row _ _ _ _ _ _ (heap_alloc_new w _)).trans rfl), (hq 3).trans ((cell_of_row _ _ _ _ _ _ (heap_alloc_new w _)).trans rfl)⟩
  obtain ⟨u0, u1, u2, u3⟩ := KP.out _ (Below.refl _ _)
  go_enter Tryd.func40, Tryd.ntmps40
  go_wp2_with fail
  go_region_held3 (fun w' => w'.cell? ⟨w.heap.size, 0, none⟩ = some (.int .i64 col) ∧ w'.cell? ⟨w.heap.size, 1, none⟩ = some (.int .i64 op) ∧ w'.cell? ⟨w.heap.size, 2, none⟩ = some (.int .i64 num) ∧ w'.cell? ⟨w.heap.size, 3, none⟩ = some (.bool slot))
    (first | exact KP.out _ D5 | exact KP.out _ D4 | exact KP.out _ D3 | go_keep)
    (first
      | (go_at_call 49; have := D3; refine (NA.out _ (BB.out.trans (D3.mono (by simp)))).mono ?_; rintro e w4 ⟨rfl, b4⟩; have D4 := below_step D3 (Nat.le_refl _) b4; have D5 := D4.alloc (by have := D4.size; omega) (.cells #[.string ⟨#[102, 105, 108, 116, 101, 114]⟩, .string X, .string Y] 9))
      | (go_at_call 49; refine (NA.out _ (BB.out.trans (D0.out.mono (by simp)))).mono ?_; rintro e w3 ⟨rfl, b3⟩; have D3 := below_step D0.out (Nat.le_refl _) b3)
      | (go_at_call 50; have := D3; refine (NB.out _).mono ?_; rintro e w4 ⟨rfl, b4⟩; have D4 := below_step D3 (Nat.le_refl _) b4; have D5 := D4.alloc (by have := D4.size; omega) (.cells #[.string ⟨#[102, 105, 108, 116, 101, 114]⟩, .string X, .string Y] 9))
      | (go_at_call 50; refine (NB.out _).mono ?_; rintro e w3 ⟨rfl, b3⟩; have D3 := below_step D0.out (Nat.le_refl _) b3))
  all_goals
    have B4 := Lib.hid (BB.out.trans (D4.mono (by simp)))
    have D5' := Lib.hid D5
    have O5 := Lib.hid (ownS_lit (W := w4) (xs := [⟨#[102, 105, 108, 116, 101, 114]⟩, X, Y]) rfl B4.out.size (by simp))
    have B5 := Lib.hid (B4.out.alloc B4.out.size (.cells #[.string ⟨#[102, 105, 108, 116, 101, 114]⟩, .string X, .string Y] 9))
    obtain ⟨u0, u1, u2, u3⟩ := KP.out _ D5'.out
    clear D3 D4 D5
    go_wp2_with fail
    go_ret
    exact ⟨_, 3, rfl, O5.out, B5.out⟩

set_option maxRecDepth 100000 in
set_option maxHeartbeats 1600000 in
theorem kindWords1 (name : ByteArray) (col op num : Int) (slot : Bool) (cols : List Int) (a : Option Addr) (c : Nat) (w : World) (hb : nodeB ⟨1, name, col, op, num, slot, cols⟩ = true) (ho : op ≠ 3) (h : Rd w .i64 a cols) (hg : GTab w) :
    Calls Tryd.prog 40 #[kindV ⟨1, name, col, op, num, slot, cols⟩ a c] w (MadeS w (ndB ⟨1, name, col, op, num, slot, cols⟩)) := by
  obtain ⟨_, hnm, hcol, hop, hnum, hcl, hcs⟩ := nums_of_nodeB hb
  simp only at hnm hcol hop hnum hcl hcs
  have G := Lib.hid hg; clear hg hb
  simp only [kindV, ndB, Int.reduceEq, if_false, if_true]
  rw [if_neg ho]
  have ho' : (op != 3) = true := by simp [ho]
  clear ho
  have f0 := Tryd.as_filterNode_scanNode
  have f1 := Tryd.as_filterNode_filterNode
  clear h
  have NA := Lib.hid (fun W (hb : Below w.heap.size w W) => itoaT_any col W (by omega) (by omega) (gtab_below G.out hb))
  have NB := Lib.hid (fun W => opWord_any op W hop)
  have NL := Lib.hid (fun W (hb : Below w.heap.size w W) => literalWord_any num slot W hnum.1 hnum.2 (gtab_below G.out hb))
  generalize numT col = X at *
  generalize opB op = Y at *
  generalize litB slot num = Z at *
  have D0 := Lib.hid (Below.refl (w.alloc (.cells #[.int .i64 col, .int .i64 op, .int .i64 num, .bool slot] 64)).heap.size (w.alloc (.cells #[.int .i64 col, .int .i64 op, .int .i64 num, .bool slot] 64))).drew
  have BB := Lib.hid ((Below.refl _ w).alloc (Nat.le_refl _) (.cells #[.int .i64 col, .int .i64 op, .int .i64 num, .bool slot] 64))
  have KP : Hid (∀ w4, Below (w.alloc (.cells #[.int .i64 col, .int .i64 op, .int .i64 num, .bool slot] 64)).heap.size (w.alloc (.cells #[.int .i64 col, .int .i64 op, .int .i64 num, .bool slot] 64)) w4 → w4.cell? ⟨w.heap.size, 0, none⟩ = some (.int .i64 col) ∧ w4.cell? ⟨w.heap.size, 1, none⟩ = some (.int .i64 op) ∧ w4.cell? ⟨w.heap.size, 2, none⟩ = some (.int .i64 num) ∧ w4.cell? ⟨w.heap.size, 3, none⟩ = some (.bool slot)) := fun w4 b4 => by
    have hq := fun o => b4.cell (p := ⟨w.heap.size, o, none⟩) (by simp)
    exact ⟨(hq 0).trans ((cell_of_row _ _ _ _ _ _ (heap_alloc_new w _)).trans rfl), (hq 1).trans ((cell_of_row _ _ _ _ _ _ (heap_alloc_new w _)).trans rfl), (hq 2).trans ((cell_of_row _ _ _ _ _ _ (heap_alloc_new w _)).trans rfl), (hq 3).trans ((cell_of_row _ _ _ _ _ _ (heap_alloc_new w _)).trans rfl)⟩
  obtain ⟨u0, u1, u2, u3⟩ := KP.out _ (Below.refl _ _)
  go_enter Tryd.func40, Tryd.ntmps40
  go_wp2_with fail
  go_region_held3 (fun w' => w'.cell? ⟨w.heap.size, 0, none⟩ = some (.int .i64 col) ∧ w'.cell? ⟨w.heap.size, 1, none⟩ = some (.int .i64 op) ∧ w'.cell? ⟨w.heap.size, 2, none⟩ = some (.int .i64 num) ∧ w'.cell? ⟨w.heap.size, 3, none⟩ = some (.bool slot))
    (first | exact KP.out _ D5 | exact KP.out _ D4 | exact KP.out _ D3 | go_keep)
    (first
      | (go_at_call 49; have := D3; refine (NA.out _ (BB.out.trans (D3.mono (by simp)))).mono ?_; rintro e w4 ⟨rfl, b4⟩; have D4 := below_step D3 (Nat.le_refl _) b4; have D5 := D4.alloc (by have := D4.size; omega) (.cells #[.string ⟨#[102, 105, 108, 116, 101, 114]⟩, .string X, .string Y] 9))
      | (go_at_call 49; refine (NA.out _ (BB.out.trans (D0.out.mono (by simp)))).mono ?_; rintro e w3 ⟨rfl, b3⟩; have D3 := below_step D0.out (Nat.le_refl _) b3)
      | (go_at_call 50; have := D3; refine (NB.out _).mono ?_; rintro e w4 ⟨rfl, b4⟩; have D4 := below_step D3 (Nat.le_refl _) b4; have D5 := D4.alloc (by have := D4.size; omega) (.cells #[.string ⟨#[102, 105, 108, 116, 101, 114]⟩, .string X, .string Y] 9))
      | (go_at_call 50; refine (NB.out _).mono ?_; rintro e w3 ⟨rfl, b3⟩; have D3 := below_step D0.out (Nat.le_refl _) b3))
  all_goals
    have B4 := Lib.hid (BB.out.trans (D4.mono (by simp)))
    have D5' := Lib.hid D5
    have O5 := Lib.hid (ownS_lit (W := w4) (xs := [⟨#[102, 105, 108, 116, 101, 114]⟩, X, Y]) rfl B4.out.size (by simp))
    have B5 := Lib.hid (B4.out.alloc B4.out.size (.cells #[.string ⟨#[102, 105, 108, 116, 101, 114]⟩, .string X, .string Y] 9))
    obtain ⟨u0, u1, u2, u3⟩ := KP.out _ D5'.out
    clear D3 D4 D5
    go_wp2_with fail
    refine (NL.out _ B5.out).mono ?_
    rintro e w6 ⟨rfl, b6⟩
    have B6 := Lib.hid (below_step B5.out (Nat.le_refl _) b6)
    have O6 := Lib.hid (O5.out.below b6)
    clear b6
    go_wp2_with (at_builtin; refine wpList_appendSs _ rfl (.tmp 35) (.tmp 41) 40 rfl w.heap.size Tryd.underlying40 Tryd.infoStr (some ⟨w4.heap.size, 0, none⟩) 3 3 [⟨#[102, 105, 108, 116, 101, 114]⟩, X, Y] rfl rfl (O6.out.alloc _) w6.heap.size 1 1 [Z] rfl rfl (cell_one_w _ _ _) (by simp) (by have := B6.out.size; simp; omega) ?_; intro ao2 c2 w7 o7 g7; have b7 := below_appS B6.out O6.out g7; have O7 := Lib.hid o7; have B7 := Lib.hid b7; clear o7 g7 b7)
    go_ret
    exact ⟨ao2, c2, rfl, O7.out, B7.out⟩

set_option maxRecDepth 100000 in
set_option maxHeartbeats 1600000 in
theorem kindWords3 (name : ByteArray) (col op num : Int) (slot : Bool) (cols : List Int) (a : Option Addr) (c : Nat) (w : World) (hb : nodeB ⟨3, name, col, op, num, slot, cols⟩ = true) (h : Rd w .i64 a cols) (hg : GTab w) :
    Calls Tryd.prog 40 #[kindV ⟨3, name, col, op, num, slot, cols⟩ a c] w (MadeS w (ndB ⟨3, name, col, op, num, slot, cols⟩)) := by
  obtain ⟨_, hnm, hcol, hop, hnum, hcl, hcs⟩ := nums_of_nodeB hb
  simp only at hnm hcol hop hnum hcl hcs
  have G := Lib.hid hg; clear hg hb
  simp only [kindV, ndB, Int.reduceEq, if_false, if_true]
  have f0 := Tryd.as_joinNode_scanNode
  have f1 := Tryd.as_joinNode_filterNode
  have f2 := Tryd.as_joinNode_keepNode
  have f3 := Tryd.as_joinNode_joinNode
  clear h
  have NG := Lib.hid (fun (x : Int) (hx : -1000000 ≤ x ∧ x ≤ 1000000) W (hb : Below w.heap.size w W) => itoaT_any x W (by omega) (by omega) (gtab_below G.out hb))
  have D0 := Lib.hid (Below.refl (w.alloc (.cells #[.int .i64 col, .int .i64 num] 68)).heap.size (w.alloc (.cells #[.int .i64 col, .int .i64 num] 68))).drew
  have BB := Lib.hid ((Below.refl _ w).alloc (Nat.le_refl _) (.cells #[.int .i64 col, .int .i64 num] 68))
  have KP : Hid (∀ w4, Below (w.alloc (.cells #[.int .i64 col, .int .i64 num] 68)).heap.size (w.alloc (.cells #[.int .i64 col, .int .i64 num] 68)) w4 → w4.cell? ⟨w.heap.size, 0, none⟩ = some (.int .i64 col) ∧ w4.cell? ⟨w.heap.size, 1, none⟩ = some (.int .i64 num)) := fun w4 b4 => by
    have hq := fun o => b4.cell (p := ⟨w.heap.size, o, none⟩) (by simp)
    exact ⟨(hq 0).trans ((cell_of_row _ _ _ _ _ _ (heap_alloc_new w _)).trans rfl), (hq 1).trans ((cell_of_row _ _ _ _ _ _ (heap_alloc_new w _)).trans rfl)⟩
  obtain ⟨u0, u1⟩ := KP.out _ (Below.refl _ _)
  go_enter Tryd.func40, Tryd.ntmps40
  go_wp2_with fail
  go_region_held3 (fun w' => w'.cell? ⟨w.heap.size, 0, none⟩ = some (.int .i64 col) ∧ w'.cell? ⟨w.heap.size, 1, none⟩ = some (.int .i64 num))
    (first | exact KP.out _ D4 | exact KP.out _ D3 | go_keep)
    (first
      | (go_at_call 49; have := D3; refine (NG.out _ ⟨by omega, by omega⟩ _ (BB.out.trans (D3.mono (by simp)))).mono ?_; rintro e w4 ⟨rfl, b4⟩; have D4 := below_step D3 (Nat.le_refl _) b4)
      | (go_at_call 49; refine (NG.out _ ⟨by omega, by omega⟩ _ (BB.out.trans (D0.out.mono (by simp)))).mono ?_; rintro e w3 ⟨rfl, b3⟩; have D3 := below_step D0.out (Nat.le_refl _) b3))
  all_goals
    have B4 := Lib.hid (BB.out.trans (D4.mono (by simp)))
    go_wp2_with fail
    go_ret
    exact ⟨_, 3, rfl, ownS_lit (W := w4) (xs := [⟨#[106, 111, 105, 110]⟩, numT col, numT num]) rfl B4.out.size (by simp), B4.out.alloc B4.out.size _⟩
end Go.Proofs.YtfpbhedophlnkaaDoor
