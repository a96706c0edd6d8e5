/-
  Contracts of impl.opWord, literalWord, kindWords: a node's words in memory of the call's own. For every node that is one.
-/
import Derived.Test.YtfpbhedophlnkaaDoorNdT
import Derived.Test.YtfpbhedophlnkaaDoorRdG
import Derived.Test.YtfpbhedophlnkaaDoorITab
import Derived.Test.YtfpbhedophlnkaaDoorAppS
import Derived.Test.YtfpbhedophlnkaaDoorINode
import Derived.Deep.RegionHeld3
namespace Go.Proofs.YtfpbhedophlnkaaDoor
open Go.RowKit
set_option linter.unusedSimpArgs false
set_option linter.unusedVariables false

theorem ownS_lit {W : World} {base bn : Nat} {xs : List ByteArray} (hbn : bn = W.heap.size) (hb : base ≤ W.heap.size) (hl : xs.length ≤ 100) : OwnS (W.alloc (.cells (xs.map Value.string).toArray 9)) base (some ⟨bn, 0, none⟩) xs.length xs := by
  subst hbn
  have h := World.ownsRow_lit (base := base) (e := 9) (size := 1) W (xs.map Value.string).toArray xs.length hb (by unfold maxLen; omega) (by simp)
  simpa [OwnS] using h
theorem cell_one_w (w : World) (y : ByteArray) (t : TypeId) : ∀ i, i < [y].length → (w.alloc (.cells #[.string y] t)).cell? ⟨w.heap.size, i, none⟩ = some (.string ([y].getD i ByteArray.empty)) := by
  intro i hi
  obtain rfl : i = 0 := by simp at hi; omega
  rw [World.cell?_alloc_new]; rfl
theorem ret_strW {X Y : ByteArray} (h : X = Y) : Ending.returned (.string X) = .returned (.string Y) := by rw [h]
set_option maxRecDepth 100000 in
theorem opWord_any (op : Int) (w : World) (h : 0 ≤ op ∧ op ≤ 3) : Calls Tryd.prog 50 #[.int .i64 op] w fun e w' => e = .returned (.string (opB op)) ∧ Below w.heap.size w w' := by
  have hc : op = 0 ∨ op = 1 ∨ op = 2 ∨ op = 3 := by omega
  have f0 : ∀ W, (Instr.index 101 (.agg #[.string ⟨#[61]⟩, .string ⟨#[60]⟩, .string ⟨#[62]⟩, .string ⟨#[110, 111, 110, 101]⟩]) (.int .i64 0)).run Tryd.prog W = .ok (.string ⟨#[61]⟩) W := fun W => by kernel_rfl
  have f1 : ∀ W, (Instr.index 101 (.agg #[.string ⟨#[61]⟩, .string ⟨#[60]⟩, .string ⟨#[62]⟩, .string ⟨#[110, 111, 110, 101]⟩]) (.int .i64 1)).run Tryd.prog W = .ok (.string ⟨#[60]⟩) W := fun W => by kernel_rfl
  have f2 : ∀ W, (Instr.index 101 (.agg #[.string ⟨#[61]⟩, .string ⟨#[60]⟩, .string ⟨#[62]⟩, .string ⟨#[110, 111, 110, 101]⟩]) (.int .i64 2)).run Tryd.prog W = .ok (.string ⟨#[62]⟩) W := fun W => by kernel_rfl
  have f3 : ∀ W, (Instr.index 101 (.agg #[.string ⟨#[61]⟩, .string ⟨#[60]⟩, .string ⟨#[62]⟩, .string ⟨#[110, 111, 110, 101]⟩]) (.int .i64 3)).run Tryd.prog W = .ok (.string ⟨#[110, 111, 110, 101]⟩) W := fun W => by kernel_rfl
  rcases hc with rfl | rfl | rfl | rfl
  all_goals
    go_enter Tryd.func50, Tryd.ntmps50
    go_wp2_with fail
    go_ret
    exact ⟨rfl, Below.refl _ _⟩
set_option maxRecDepth 100000 in
theorem literalWord_any (num : Int) (slot : Bool) (w : World) (h0 : -1000000 ≤ num) (h1 : num ≤ 1000000) (hg : GTab w) :
    Calls Tryd.prog 51 #[.int .i64 num, .bool slot] w fun e w' => e = .returned (.string (litB slot num)) ∧ Below w.heap.size w w' := by
  have NA := Lib.hid (itoaT_any num w (by omega) (by omega) hg)
  have hsz := numT_size (x := num) (by omega) (by omega)
  have LB : Hid (litB slot num = if slot then ⟨#[36]⟩ ++ numT num else numT num) := rfl
  clear hg
  generalize litB slot num = L at LB ⊢
  generalize numT num = X at NA hsz LB
  have e1 : ¬ (9223372036854775807 < 1 + X.size) := by omega
  cases slot
  all_goals
    go_enter Tryd.func51, Tryd.ntmps51
    go_wp2_with fail
    refine NA.out.mono ?_
    rintro e w1 ⟨rfl, b1⟩
    go_wp2_with fail
    go_ret
    exact ⟨ret_strW LB.out.symm, b1⟩

set_option maxRecDepth 100000 in
set_option maxHeartbeats 1600000 in
theorem kindWords0 (name : ByteArray) (col op num : Int) (slot : Bool) (cols : List Int) (a : Option Addr) (c : Nat) (w : World) (hb : nodeB ⟨0, name, col, op, num, slot, cols⟩ = true) (h : Rd w .i64 a cols) (hg : GTab w) :
    Calls Tryd.prog 40 #[kindV ⟨0, name, col, op, num, slot, cols⟩ a c] w (MadeS w (ndB ⟨0, name, col, op, num, slot, cols⟩)) := by
  obtain ⟨_, hnm, hcol, hop, hnum, hcl, hcs⟩ := nums_of_nodeB hb
  simp only at hnm hcol hop hnum hcl hcs
  have G := Lib.hid hg; clear hg hb
  simp only [kindV, ndB, Int.reduceEq, if_false, if_true]
  have f0 := Tryd.as_scanNode_scanNode
  clear h
  go_enter Tryd.func40, Tryd.ntmps40
  go_wp2_with fail
  go_ret
  exact ⟨_, 2, rfl, ownS_lit (W := (w.alloc (.cells #[.string name] 62))) (xs := [⟨#[115, 99, 97, 110]⟩, name]) (by simp) (by simp) (by simp), ((Below.refl _ w).alloc (Nat.le_refl _) _).alloc (by simp) _⟩

set_option maxRecDepth 100000 in
set_option maxHeartbeats 1600000 in
theorem kindWords4 (name : ByteArray) (col op num : Int) (slot : Bool) (cols : List Int) (a : Option Addr) (c : Nat) (w : World) (hb : nodeB ⟨4, name, col, op, num, slot, cols⟩ = true) (h : Rd w .i64 a cols) (hg : GTab w) :
    Calls Tryd.prog 40 #[kindV ⟨4, name, col, op, num, slot, cols⟩ a c] w (MadeS w (ndB ⟨4, name, col, op, num, slot, cols⟩)) := by
  obtain ⟨_, hnm, hcol, hop, hnum, hcl, hcs⟩ := nums_of_nodeB hb
  simp only at hnm hcol hop hnum hcl hcs
  have G := Lib.hid hg; clear hg hb
  simp only [kindV, ndB, Int.reduceEq, if_false, if_true]
  have f0 := Tryd.as_bothNode_scanNode
  have f1 := Tryd.as_bothNode_filterNode
  have f2 := Tryd.as_bothNode_keepNode
  have f3 := Tryd.as_bothNode_joinNode
  have f4 := Tryd.as_bothNode_bothNode
  clear h
  go_enter Tryd.func40, Tryd.ntmps40
  go_wp2_with fail
  go_ret
  exact ⟨_, 1, rfl, ownS_lit (W := (w.alloc (.cells #[] 70))) (xs := [⟨#[98, 111, 116, 104]⟩]) (by simp) (by simp) (by simp), ((Below.refl _ w).alloc (Nat.le_refl _) _).alloc (by simp) _⟩

set_option maxRecDepth 100000 in
set_option maxHeartbeats 1600000 in
theorem kindWords7 (name : ByteArray) (col op num : Int) (slot : Bool) (cols : List Int) (a : Option Addr) (c : Nat) (w : World) (hb : nodeB ⟨7, name, col, op, num, slot, cols⟩ = true) (h : Rd w .i64 a cols) (hg : GTab w) :
    Calls Tryd.prog 40 #[kindV ⟨7, name, col, op, num, slot, cols⟩ a c] w (MadeS w (ndB ⟨7, name, col, op, num, slot, cols⟩)) := by
  obtain ⟨_, hnm, hcol, hop, hnum, hcl, hcs⟩ := nums_of_nodeB hb
  simp only at hnm hcol hop hnum hcl hcs
  have G := Lib.hid hg; clear hg hb
  simp only [kindV, ndB, Int.reduceEq, if_false, if_true]
  have f0 := Tryd.as_onceNode_scanNode
  have f1 := Tryd.as_onceNode_filterNode
  have f2 := Tryd.as_onceNode_keepNode
  have f3 := Tryd.as_onceNode_joinNode
  have f4 := Tryd.as_onceNode_bothNode
  have f5 := Tryd.as_onceNode_sortNode
  have f6 := Tryd.as_onceNode_limitNode
  have f7 := Tryd.as_onceNode_onceNode
  clear h
  go_enter Tryd.func40, Tryd.ntmps40
  go_wp2_with fail
  go_ret
  exact ⟨_, 1, rfl, ownS_lit (W := (w.alloc (.cells #[] 75))) (xs := [⟨#[111, 110, 99, 101]⟩]) (by simp) (by simp) (by simp), ((Below.refl _ w).alloc (Nat.le_refl _) _).alloc (by simp) _⟩

set_option maxRecDepth 100000 in
set_option maxHeartbeats 1600000 in
theorem kindWords5 (name : ByteArray) (col op num : Int) (slot : Bool) (cols : List Int) (a : Option Addr) (c : Nat) (w : World) (hb : nodeB ⟨5, name, col, op, num, slot, cols⟩ = true) (h : Rd w .i64 a cols) (hg : GTab w) :
    Calls Tryd.prog 40 #[kindV ⟨5, name, col, op, num, slot, cols⟩ a c] w (MadeS w (ndB ⟨5, name, col, op, num, slot, cols⟩)) := by
  obtain ⟨_, hnm, hcol, hop, hnum, hcl, hcs⟩ := nums_of_nodeB hb
  simp only at hnm hcol hop hnum hcl hcs
  have G := Lib.hid hg; clear hg hb
  simp only [kindV, ndB, Int.reduceEq, if_false, if_true]
  have f0 := Tryd.as_sortNode_scanNode
  have f1 := Tryd.as_sortNode_filterNode
  have f2 := Tryd.as_sortNode_keepNode
  have f3 := Tryd.as_sortNode_joinNode
  have f4 := Tryd.as_sortNode_bothNode
  have f5 := Tryd.as_sortNode_sortNode
  clear h
  have NA := Lib.hid (itoaT_any col _ (by omega) (by omega) (gtab_below G.out ((Below.refl _ w).alloc (Nat.le_refl _) (.cells #[.int .i64 col] 72))))
  generalize numT col = X at NA ⊢
  go_enter Tryd.func40, Tryd.ntmps40
  go_wp2_with fail
  refine NA.out.mono ?_
  rintro e w1 ⟨rfl, b1⟩
  have B1 := Lib.hid (((Below.refl _ w).alloc (Nat.le_refl _) _).trans (b1.mono (by simp)))
  clear b1
  go_wp2_with fail
  go_ret
  exact ⟨_, 2, rfl, ownS_lit (W := w1) (xs := [⟨#[115, 111, 114, 116]⟩, X]) rfl B1.out.size (by simp), B1.out.alloc B1.out.size _⟩

set_option maxRecDepth 100000 in
set_option maxHeartbeats 1600000 in
theorem kindWords6 (name : ByteArray) (col op num : Int) (slot : Bool) (cols : List Int) (a : Option Addr) (c : Nat) (w : World) (hb : nodeB ⟨6, name, col, op, num, slot, cols⟩ = true) (h : Rd w .i64 a cols) (hg : GTab w) :
    Calls Tryd.prog 40 #[kindV ⟨6, name, col, op, num, slot, cols⟩ a c] w (MadeS w (ndB ⟨6, name, col, op, num, slot, cols⟩)) := by
  obtain ⟨_, hnm, hcol, hop, hnum, hcl, hcs⟩ := nums_of_nodeB hb
  simp only at hnm hcol hop hnum hcl hcs
  have G := Lib.hid hg; clear hg hb
  simp only [kindV, ndB, Int.reduceEq, if_false, if_true]
  have f0 := Tryd.as_limitNode_scanNode
  have f1 := Tryd.as_limitNode_filterNode
  have f2 := Tryd.as_limitNode_keepNode
  have f3 := Tryd.as_limitNode_joinNode
  have f4 := Tryd.as_limitNode_bothNode
  have f5 := Tryd.as_limitNode_sortNode
  have f6 := Tryd.as_limitNode_limitNode
  clear h
  have NA := Lib.hid (literalWord_any num slot _ hnum.1 hnum.2 (gtab_below G.out ((Below.refl _ w).alloc (Nat.le_refl _) (.cells #[.int .i64 num, .bool slot] 74))))
  generalize litB slot num = X at NA ⊢
  go_enter Tryd.func40, Tryd.ntmps40
  go_wp2_with fail
  refine NA.out.mono ?_
  rintro e w1 ⟨rfl, b1⟩
  have B1 := Lib.hid (((Below.refl _ w).alloc (Nat.le_refl _) _).trans (b1.mono (by simp)))
  clear b1
  go_wp2_with fail
  go_ret
  exact ⟨_, 2, rfl, ownS_lit (W := w1) (xs := [⟨#[108, 105, 109, 105, 116]⟩, X]) rfl B1.out.size (by simp), B1.out.alloc B1.out.size _⟩
end Go.Proofs.YtfpbhedophlnkaaDoor
