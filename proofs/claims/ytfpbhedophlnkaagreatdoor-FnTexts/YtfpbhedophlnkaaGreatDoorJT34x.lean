/-
  strconv.Itoa at every number: what it asks of the library's table. No walk. Contracts of impl.opWord, literalWord, kindWords: a node's words in memory of the call's own. For every node that is one. Contract of impl.kindWords at further kinds. For every node that is one. Contract of impl.kindWords at further kinds. For every node that is one.
-/
import Derived.Test.YtfpbhedophlnkaaGreatDoorJT5x
import Derived.Test.YtfpbhedophlnkaaGreatDoorShelf7
import Derived.Test.YtfpbhedophlnkaaGreatDoorJT6x
import Derived.Test.YtfpbhedophlnkaaGreatDoorJT9x
import Derived.Test.YtfpbhedophlnkaaGreatDoorJT19x
import Derived.Test.YtfpbhedophlnkaaGreatDoorJT28x
import Derived.Deep.RegionHeld3
namespace Go.Proofs.YtfpbhedophlnkaaGreatDoor
open Go.RowKit Go.Shelf
set_option linter.unusedSimpArgs false
set_option linter.unusedVariables false

/-- What the walk asks of the library's table. -/
def GTab (w : World) : Prop := Lib.TabIs Tryz.prog w "internal/strconv.uint64pow10" .u64 Lib.pow10Tab
theorem gtab_below {w w' : World} (h : GTab w) (hb : Below w.heap.size w w') : GTab w' := by
  unfold GTab Lib.TabIs at h ⊢
  unfold World.var? at h ⊢
  cases hg : Tryz.prog.globalNamed "internal/strconv.uint64pow10" with
  | none => simp [hg] at h
  | some g =>
    simp only [hg, Option.bind_some] at h ⊢
    by_cases hlt : g < w.heap.size
    · rw [hb.block g hlt]
      exact h
    · have hn : w.heap[g]? = none := Array.getElem?_eq_none (by omega)
      simp [hn] at h
theorem grow_belowT (w : World) (k : Nat) (os : Array Obj) : Below w.heap.size w (Sort.grow (w.drewN k) os) :=
  ⟨rfl, rfl, rfl, by simp [Sort.grow, World.drewN], fun i hi => by show (w.heap ++ os)[i]? = _; rw [Array.getElem?_append_left hi]⟩
theorem itoaT_any (x : Int) (w : World) (h0 : -9223372036854775808 ≤ x) (h1 : x ≤ 9223372036854775807) (hg : GTab w) :
    Calls Tryz.prog 83 #[.int .i64 x] w fun e w' => e = .returned (.string (numT x)) ∧ Below w.heap.size w w' :=
  (Any.strconv_Itoa Tryz.laysT171 x h0 h1 w hg).mono fun e w' ⟨he, k, os, hw⟩ => ⟨he, hw ▸ grow_belowT _ _ _⟩
end Go.Proofs.YtfpbhedophlnkaaGreatDoor
namespace Go.Proofs.YtfpbhedophlnkaaGreatDoor
open Go.RowKit
set_option linter.unusedSimpArgs false
set_option linter.unusedVariables false

theorem ownS_lit {W : World} {base bn : Nat} {xs : List ByteArray} (hbn : bn = W.heap.size) (hb : base ≤ W.heap.size) (hl : xs.length ≤ 100) : OwnS (W.alloc (.cells (xs.map Value.string).toArray 9)) base (some ⟨bn, 0, none⟩) xs.length xs := by
  subst hbn
  have h := World.ownsRow_lit (base := base) (e := 9) (size := 1) W (xs.map Value.string).toArray xs.length hb (by unfold maxLen; omega) (by simp)
  simpa [OwnS] using h
theorem cell_one_w (w : World) (y : ByteArray) (t : TypeId) : ∀ i, i < [y].length → (w.alloc (.cells #[.string y] t)).cell? ⟨w.heap.size, i, none⟩ = some (.string ([y].getD i ByteArray.empty)) := by
  intro i hi
  obtain rfl : i = 0 := by simp at hi; omega
  rw [World.cell?_alloc_new]; rfl
theorem ret_strW {X Y : ByteArray} (h : X = Y) : Ending.returned (.string X) = .returned (.string Y) := by rw [h]
set_option maxRecDepth 100000 in
theorem opWord_any (op : Int) (w : World) (h : 0 ≤ op ∧ op ≤ 3) : Calls Tryz.prog 289 #[.int .i64 op] w fun e w' => e = .returned (.string (opB op)) ∧ Below w.heap.size w w' := by
  have hc : op = 0 ∨ op = 1 ∨ op = 2 ∨ op = 3 := by omega
  have f0 : ∀ W, (Instr.index 343 (.agg #[.string ⟨#[61]⟩, .string ⟨#[60]⟩, .string ⟨#[62]⟩, .string ⟨#[110, 111, 110, 101]⟩]) (.int .i64 0)).run Tryz.prog W = .ok (.string ⟨#[61]⟩) W := fun W => by kernel_rfl
  have f1 : ∀ W, (Instr.index 343 (.agg #[.string ⟨#[61]⟩, .string ⟨#[60]⟩, .string ⟨#[62]⟩, .string ⟨#[110, 111, 110, 101]⟩]) (.int .i64 1)).run Tryz.prog W = .ok (.string ⟨#[60]⟩) W := fun W => by kernel_rfl
  have f2 : ∀ W, (Instr.index 343 (.agg #[.string ⟨#[61]⟩, .string ⟨#[60]⟩, .string ⟨#[62]⟩, .string ⟨#[110, 111, 110, 101]⟩]) (.int .i64 2)).run Tryz.prog W = .ok (.string ⟨#[62]⟩) W := fun W => by kernel_rfl
  have f3 : ∀ W, (Instr.index 343 (.agg #[.string ⟨#[61]⟩, .string ⟨#[60]⟩, .string ⟨#[62]⟩, .string ⟨#[110, 111, 110, 101]⟩]) (.int .i64 3)).run Tryz.prog W = .ok (.string ⟨#[110, 111, 110, 101]⟩) W := fun W => by kernel_rfl
  rcases hc with rfl | rfl | rfl | rfl
  all_goals
    go_enter Tryz.func289, Tryz.ntmps289
    go_wp2_with fail
    go_ret
    exact ⟨rfl, Below.refl _ _⟩
set_option maxRecDepth 100000 in
theorem literalWord_any (num : Int) (slot : Bool) (w : World) (h0 : -1000000 ≤ num) (h1 : num ≤ 1000000) (hg : GTab w) :
    Calls Tryz.prog 290 #[.int .i64 num, .bool slot] w fun e w' => e = .returned (.string (litB slot num)) ∧ Below w.heap.size w w' := by
  have NA := Lib.hid (itoaT_any num w (by omega) (by omega) hg)
  have hsz := numT_size (x := num) (by omega) (by omega)
  have LB : Hid (litB slot num = if slot then ⟨#[36]⟩ ++ numT num else numT num) := rfl
  clear hg
  generalize litB slot num = L at LB ⊢
  generalize numT num = X at NA hsz LB
  have e1 : ¬ (9223372036854775807 < 1 + X.size) := by omega
  cases slot
  all_goals
    go_enter Tryz.func290, Tryz.ntmps290
    go_wp2_with fail
    refine NA.out.mono ?_
    rintro e w1 ⟨rfl, b1⟩
    go_wp2_with fail
    go_ret
    exact ⟨ret_strW LB.out.symm, b1⟩

set_option maxRecDepth 100000 in
set_option maxHeartbeats 1600000 in
theorem kindWords0 (name : ByteArray) (col op num : Int) (slot : Bool) (cols : List Int) (a : Option Addr) (c : Nat) (w : World) (hb : nodeB ⟨0, name, col, op, num, slot, cols⟩ = true) (h : Rd w .i64 a cols) (hg : GTab w) :
    Calls Tryz.prog 247 #[kindV ⟨0, name, col, op, num, slot, cols⟩ a c] w (MadeS w (ndB ⟨0, name, col, op, num, slot, cols⟩)) := by
  obtain ⟨_, hnm, hcol, hop, hnum, hcl, hcs⟩ := nums_of_nodeB hb
  simp only at hnm hcol hop hnum hcl hcs
  have G := Lib.hid hg; clear hg hb
  simp only [kindV, ndB, Int.reduceEq, if_false, if_true]
  have f0 := Tryz.as_scanNode_scanNode
  clear h
  go_enter Tryz.func247, Tryz.ntmps247
  go_wp2_with fail
  go_ret
  exact ⟨_, 2, rfl, ownS_lit (W := (w.alloc (.cells #[.string name] 234))) (xs := [⟨#[115, 99, 97, 110]⟩, name]) (by simp) (by simp) (by simp), ((Below.refl _ w).alloc (Nat.le_refl _) _).alloc (by simp) _⟩

set_option maxRecDepth 100000 in
set_option maxHeartbeats 1600000 in
theorem kindWords4 (name : ByteArray) (col op num : Int) (slot : Bool) (cols : List Int) (a : Option Addr) (c : Nat) (w : World) (hb : nodeB ⟨4, name, col, op, num, slot, cols⟩ = true) (h : Rd w .i64 a cols) (hg : GTab w) :
    Calls Tryz.prog 247 #[kindV ⟨4, name, col, op, num, slot, cols⟩ a c] w (MadeS w (ndB ⟨4, name, col, op, num, slot, cols⟩)) := by
  obtain ⟨_, hnm, hcol, hop, hnum, hcl, hcs⟩ := nums_of_nodeB hb
  simp only at hnm hcol hop hnum hcl hcs
  have G := Lib.hid hg; clear hg hb
  simp only [kindV, ndB, Int.reduceEq, if_false, if_true]
  have f0 := Tryz.as_bothNode_scanNode
  have f1 := Tryz.as_bothNode_filterNode
  have f2 := Tryz.as_bothNode_keepNode
  have f3 := Tryz.as_bothNode_joinNode
  have f4 := Tryz.as_bothNode_bothNode
  clear h
  go_enter Tryz.func247, Tryz.ntmps247
  go_wp2_with fail
  go_ret
  exact ⟨_, 1, rfl, ownS_lit (W := (w.alloc (.cells #[] 230))) (xs := [⟨#[98, 111, 116, 104]⟩]) (by simp) (by simp) (by simp), ((Below.refl _ w).alloc (Nat.le_refl _) _).alloc (by simp) _⟩

set_option maxRecDepth 100000 in
set_option maxHeartbeats 1600000 in
theorem kindWords7 (name : ByteArray) (col op num : Int) (slot : Bool) (cols : List Int) (a : Option Addr) (c : Nat) (w : World) (hb : nodeB ⟨7, name, col, op, num, slot, cols⟩ = true) (h : Rd w .i64 a cols) (hg : GTab w) :
    Calls Tryz.prog 247 #[kindV ⟨7, name, col, op, num, slot, cols⟩ a c] w (MadeS w (ndB ⟨7, name, col, op, num, slot, cols⟩)) := by
  obtain ⟨_, hnm, hcol, hop, hnum, hcl, hcs⟩ := nums_of_nodeB hb
  simp only at hnm hcol hop hnum hcl hcs
  have G := Lib.hid hg; clear hg hb
  simp only [kindV, ndB, Int.reduceEq, if_false, if_true]
  have f0 := Tryz.as_onceNode_scanNode
  have f1 := Tryz.as_onceNode_filterNode
  have f2 := Tryz.as_onceNode_keepNode
  have f3 := Tryz.as_onceNode_joinNode
  have f4 := Tryz.as_onceNode_bothNode
  have f5 := Tryz.as_onceNode_sortNode
  have f6 := Tryz.as_onceNode_limitNode
  have f7 := Tryz.as_onceNode_onceNode
  clear h
  go_enter Tryz.func247, Tryz.ntmps247
  go_wp2_with fail
  go_ret
  exact ⟨_, 1, rfl, ownS_lit (W := (w.alloc (.cells #[] 259))) (xs := [⟨#[111, 110, 99, 101]⟩]) (by simp) (by simp) (by simp), ((Below.refl _ w).alloc (Nat.le_refl _) _).alloc (by simp) _⟩

set_option maxRecDepth 100000 in
set_option maxHeartbeats 1600000 in
theorem kindWords5 (name : ByteArray) (col op num : Int) (slot : Bool) (cols : List Int) (a : Option Addr) (c : Nat) (w : World) (hb : nodeB ⟨5, name, col, op, num, slot, cols⟩ = true) (h : Rd w .i64 a cols) (hg : GTab w) :
    Calls Tryz.prog 247 #[kindV ⟨5, name, col, op, num, slot, cols⟩ a c] w (MadeS w (ndB ⟨5, name, col, op, num, slot, cols⟩)) := by
  obtain ⟨_, hnm, hcol, hop, hnum, hcl, hcs⟩ := nums_of_nodeB hb
  simp only at hnm hcol hop hnum hcl hcs
  have G := Lib.hid hg; clear hg hb
  simp only [kindV, ndB, Int.reduceEq, if_false, if_true]
  have f0 := Tryz.as_sortNode_scanNode
  have f1 := Tryz.as_sortNode_filterNode
  have f2 := Tryz.as_sortNode_keepNode
  have f3 := Tryz.as_sortNode_joinNode
  have f4 := Tryz.as_sortNode_bothNode
  have f5 := Tryz.as_sortNode_sortNode
  clear h
  have NA := Lib.hid (itoaT_any col _ (by omega) (by omega) (gtab_below G.out ((Below.refl _ w).alloc (Nat.le_refl _) (.cells #[.int .i64 col] 232))))
  generalize numT col = X at NA ⊢
  go_enter Tryz.func247, Tryz.ntmps247
  go_wp2_with fail
  refine NA.out.mono ?_
  rintro e w1 ⟨rfl, b1⟩
  have B1 := Lib.hid (((Below.refl _ w).alloc (Nat.le_refl _) _).trans (b1.mono (by simp)))
  clear b1
  go_wp2_with fail
  go_ret
  exact ⟨_, 2, rfl, ownS_lit (W := w1) (xs := [⟨#[115, 111, 114, 116]⟩, X]) rfl B1.out.size (by simp), B1.out.alloc B1.out.size _⟩

set_option maxRecDepth 100000 in
set_option maxHeartbeats 1600000 in
theorem kindWords6 (name : ByteArray) (col op num : Int) (slot : Bool) (cols : List Int) (a : Option Addr) (c : Nat) (w : World) (hb : nodeB ⟨6, name, col, op, num, slot, cols⟩ = true) (h : Rd w .i64 a cols) (hg : GTab w) :
    Calls Tryz.prog 247 #[kindV ⟨6, name, col, op, num, slot, cols⟩ a c] w (MadeS w (ndB ⟨6, name, col, op, num, slot, cols⟩)) := by
  obtain ⟨_, hnm, hcol, hop, hnum, hcl, hcs⟩ := nums_of_nodeB hb
  simp only at hnm hcol hop hnum hcl hcs
  have G := Lib.hid hg; clear hg hb
  simp only [kindV, ndB, Int.reduceEq, if_false, if_true]
  have f0 := Tryz.as_limitNode_scanNode
  have f1 := Tryz.as_limitNode_filterNode
  have f2 := Tryz.as_limitNode_keepNode
  have f3 := Tryz.as_limitNode_joinNode
  have f4 := Tryz.as_limitNode_bothNode
  have f5 := Tryz.as_limitNode_sortNode
  have f6 := Tryz.as_limitNode_limitNode
  clear h
  have NA := Lib.hid (literalWord_any num slot _ hnum.1 hnum.2 (gtab_below G.out ((Below.refl _ w).alloc (Nat.le_refl _) (.cells #[.int .i64 num, .bool slot] 258))))
  generalize litB slot num = X at NA ⊢
  go_enter Tryz.func247, Tryz.ntmps247
  go_wp2_with fail
  refine NA.out.mono ?_
  rintro e w1 ⟨rfl, b1⟩
  have B1 := Lib.hid (((Below.refl _ w).alloc (Nat.le_refl _) _).trans (b1.mono (by simp)))
  clear b1
  go_wp2_with fail
  go_ret
  exact ⟨_, 2, rfl, ownS_lit (W := w1) (xs := [⟨#[108, 105, 109, 105, 116]⟩, X]) rfl B1.out.size (by simp), B1.out.alloc B1.out.size _⟩
end Go.Proofs.YtfpbhedophlnkaaGreatDoor
namespace Go.Proofs.YtfpbhedophlnkaaGreatDoor
open Go.RowKit
set_option linter.unusedSimpArgs false
set_option linter.unusedVariables false

set_option maxRecDepth 100000 in
set_option maxHeartbeats 1600000 in
theorem kindWords1n (name : ByteArray) (col op num : Int) (slot : Bool) (cols : List Int) (a : Option Addr) (c : Nat) (w : World) (hb : nodeB ⟨1, name, col, op, num, slot, cols⟩ = true) (ho : op = 3) (h : Rd w .i64 a cols) (hg : GTab w) :
    Calls Tryz.prog 247 #[kindV ⟨1, name, col, op, num, slot, cols⟩ a c] w (MadeS w (ndB ⟨1, name, col, op, num, slot, cols⟩)) := by
  obtain ⟨_, hnm, hcol, hop, hnum, hcl, hcs⟩ := nums_of_nodeB hb
  simp only at hnm hcol hop hnum hcl hcs
  have G := Lib.hid hg; clear hg hb
  simp only [kindV, ndB, Int.reduceEq, if_false, if_true]
  rw [if_pos ho]
  have ho' : (op != 3) = false := by simp [ho]
  clear ho
  have f0 := Tryz.as_filterNode_scanNode
  have f1 := Tryz.as_filterNode_filterNode
  clear h
  have NA := Lib.hid (fun W (hb : Below w.heap.size w W) => itoaT_any col W (by omega) (by omega) (gtab_below G.out hb))
  have NB := Lib.hid (fun W => opWord_any op W hop)
  have NL := Lib.hid (fun W (hb : Below w.heap.size w W) => literalWord_any num slot W hnum.1 hnum.2 (gtab_below G.out hb))
  generalize numT col = X at *
  generalize opB op = Y at *
  generalize litB slot num = Z at *
  have D0 := Lib.hid (Below.refl (w.alloc (.cells #[.int .i64 col, .int .i64 op, .int .i64 num, .bool slot] 223)).heap.size (w.alloc (.cells #[.int .i64 col, .int .i64 op, .int .i64 num, .bool slot] 223))).drew
  have BB := Lib.hid ((Below.refl _ w).alloc (Nat.le_refl _) (.cells #[.int .i64 col, .int .i64 op, .int .i64 num, .bool slot] 223))
  have KP : Hid (∀ w4, Below (w.alloc (.cells #[.int .i64 col, .int .i64 op, .int .i64 num, .bool slot] 223)).heap.size (w.alloc (.cells #[.int .i64 col, .int .i64 op, .int .i64 num, .bool slot] 223)) w4 → w4.cell? ⟨w.heap.size, 0, none⟩ = some (.int .i64 col) ∧ w4.cell? ⟨w.heap.size, 1, none⟩ = some (.int .i64 op) ∧ w4.cell? ⟨w.heap.size, 2, none⟩ = some (.int .i64 num) ∧ w4.cell? ⟨w.heap.size, 3, none⟩ = some (.bool slot)) := fun w4 b4 => by
    have hq := fun o => b4.cell (p := ⟨w.heap.size, o, none⟩) (by simp)
    exact ⟨(hq 0).trans ((cell_of_row _ _ _ _ _ _ (heap_alloc_new w _)).trans rfl), (hq 1).trans ((cell_of_row _ _ _ _ _ _ (heap_alloc_new w _)).trans rfl), (hq 2).trans ((cell_of_row _ _ _ _ _ _ (heap_alloc_new w _)).trans rfl), (hq 3).trans ((cell_of_row _ _ _ _ _ _ (heap_alloc_new w _)).trans rfl)⟩
  obtain ⟨u0, u1, u2, u3⟩ := KP.out _ (Below.refl _ _)
  go_enter Tryz.func247, Tryz.ntmps247
  go_wp2_with fail
  go_region_held3 (fun w' => w'.cell? ⟨w.heap.size, 0, none⟩ = some (.int .i64 col) ∧ w'.cell? ⟨w.heap.size, 1, none⟩ = some (.int .i64 op) ∧ w'.cell? ⟨w.heap.size, 2, none⟩ = some (.int .i64 num) ∧ w'.cell? ⟨w.heap.size, 3, none⟩ = some (.bool slot))
    (first | exact KP.out _ D5 | exact KP.out _ D4 | exact KP.out _ D3 | go_keep)
    (first
      | (go_at_call 83; have := D3; refine (NA.out _ (BB.out.trans (D3.mono (by simp)))).mono ?_; rintro e w4 ⟨rfl, b4⟩; have D4 := below_step D3 (Nat.le_refl _) b4; have D5 := D4.alloc (by have := D4.size; omega) (.cells #[.string ⟨#[102, 105, 108, 116, 101, 114]⟩, .string X, .string Y] 9))
      | (go_at_call 83; refine (NA.out _ (BB.out.trans (D0.out.mono (by simp)))).mono ?_; rintro e w3 ⟨rfl, b3⟩; have D3 := below_step D0.out (Nat.le_refl _) b3)
      | (go_at_call 289; have := D3; refine (NB.out _).mono ?_; rintro e w4 ⟨rfl, b4⟩; have D4 := below_step D3 (Nat.le_refl _) b4; have D5 := D4.alloc (by have := D4.size; omega) (.cells #[.string ⟨#[102, 105, 108, 116, 101, 114]⟩, .string X, .string Y] 9))
      | (go_at_call 289; refine (NB.out _).mono ?_; rintro e w3 ⟨rfl, b3⟩; have D3 := below_step D0.out (Nat.le_refl _) b3))
  all_goals
    have B4 := Lib.hid (BB.out.trans (D4.mono (by simp)))
    have D5' := Lib.hid D5
    have O5 := Lib.hid (ownS_lit (W := w4) (xs := [⟨#[102, 105, 108, 116, 101, 114]⟩, X, Y]) rfl B4.out.size (by simp))
    have B5 := Lib.hid (B4.out.alloc B4.out.size (.cells #[.string ⟨#[102, 105, 108, 116, 101, 114]⟩, .string X, .string Y] 9))
    obtain ⟨u0, u1, u2, u3⟩ := KP.out _ D5'.out
    clear D3 D4 D5
    go_wp2_with fail
    go_ret
    exact ⟨_, 3, rfl, O5.out, B5.out⟩

set_option maxRecDepth 100000 in
set_option maxHeartbeats 1600000 in
theorem kindWords1 (name : ByteArray) (col op num : Int) (slot : Bool) (cols : List Int) (a : Option Addr) (c : Nat) (w : World) (hb : nodeB ⟨1, name, col, op, num, slot, cols⟩ = true) (ho : op ≠ 3) (h : Rd w .i64 a cols) (hg : GTab w) :
    Calls Tryz.prog 247 #[kindV ⟨1, name, col, op, num, slot, cols⟩ a c] w (MadeS w (ndB ⟨1, name, col, op, num, slot, cols⟩)) := by
  obtain ⟨_, hnm, hcol, hop, hnum, hcl, hcs⟩ := nums_of_nodeB hb
  simp only at hnm hcol hop hnum hcl hcs
  have G := Lib.hid hg; clear hg hb
  simp only [kindV, ndB, Int.reduceEq, if_false, if_true]
  rw [if_neg ho]
  have ho' : (op != 3) = true := by simp [ho]
  clear ho
  have f0 := Tryz.as_filterNode_scanNode
  have f1 := Tryz.as_filterNode_filterNode
  clear h
  have NA := Lib.hid (fun W (hb : Below w.heap.size w W) => itoaT_any col W (by omega) (by omega) (gtab_below G.out hb))
  have NB := Lib.hid (fun W => opWord_any op W hop)
  have NL := Lib.hid (fun W (hb : Below w.heap.size w W) => literalWord_any num slot W hnum.1 hnum.2 (gtab_below G.out hb))
  generalize numT col = X at *
  generalize opB op = Y at *
  generalize litB slot num = Z at *
  have D0 := Lib.hid (Below.refl (w.alloc (.cells #[.int .i64 col, .int .i64 op, .int .i64 num, .bool slot] 223)).heap.size (w.alloc (.cells #[.int .i64 col, .int .i64 op, .int .i64 num, .bool slot] 223))).drew
  have BB := Lib.hid ((Below.refl _ w).alloc (Nat.le_refl _) (.cells #[.int .i64 col, .int .i64 op, .int .i64 num, .bool slot] 223))
  have KP : Hid (∀ w4, Below (w.alloc (.cells #[.int .i64 col, .int .i64 op, .int .i64 num, .bool slot] 223)).heap.size (w.alloc (.cells #[.int .i64 col, .int .i64 op, .int .i64 num, .bool slot] 223)) w4 → w4.cell? ⟨w.heap.size, 0, none⟩ = some (.int .i64 col) ∧ w4.cell? ⟨w.heap.size, 1, none⟩ = some (.int .i64 op) ∧ w4.cell? ⟨w.heap.size, 2, none⟩ = some (.int .i64 num) ∧ w4.cell? ⟨w.heap.size, 3, none⟩ = some (.bool slot)) := fun w4 b4 => by
    have hq := fun o => b4.cell (p := ⟨w.heap.size, o, none⟩) (by simp)
    exact ⟨(hq 0).trans ((cell_of_row _ _ _ _ _ _ (heap_alloc_new w _)).trans rfl), (hq 1).trans ((cell_of_row _ _ _ _ _ _ (heap_alloc_new w _)).trans rfl), (hq 2).trans ((cell_of_row _ _ _ _ _ _ (heap_alloc_new w _)).trans rfl), (hq 3).trans ((cell_of_row _ _ _ _ _ _ (heap_alloc_new w _)).trans rfl)⟩
  obtain ⟨u0, u1, u2, u3⟩ := KP.out _ (Below.refl _ _)
  go_enter Tryz.func247, Tryz.ntmps247
  go_wp2_with fail
  go_region_held3 (fun w' => w'.cell? ⟨w.heap.size, 0, none⟩ = some (.int .i64 col) ∧ w'.cell? ⟨w.heap.size, 1, none⟩ = some (.int .i64 op) ∧ w'.cell? ⟨w.heap.size, 2, none⟩ = some (.int .i64 num) ∧ w'.cell? ⟨w.heap.size, 3, none⟩ = some (.bool slot))
    (first | exact KP.out _ D5 | exact KP.out _ D4 | exact KP.out _ D3 | go_keep)
    (first
      | (go_at_call 83; have := D3; refine (NA.out _ (BB.out.trans (D3.mono (by simp)))).mono ?_; rintro e w4 ⟨rfl, b4⟩; have D4 := below_step D3 (Nat.le_refl _) b4; have D5 := D4.alloc (by have := D4.size; omega) (.cells #[.string ⟨#[102, 105, 108, 116, 101, 114]⟩, .string X, .string Y] 9))
      | (go_at_call 83; refine (NA.out _ (BB.out.trans (D0.out.mono (by simp)))).mono ?_; rintro e w3 ⟨rfl, b3⟩; have D3 := below_step D0.out (Nat.le_refl _) b3)
      | (go_at_call 289; have := D3; refine (NB.out _).mono ?_; rintro e w4 ⟨rfl, b4⟩; have D4 := below_step D3 (Nat.le_refl _) b4; have D5 := D4.alloc (by have := D4.size; omega) (.cells #[.string ⟨#[102, 105, 108, 116, 101, 114]⟩, .string X, .string Y] 9))
      | (go_at_call 289; refine (NB.out _).mono ?_; rintro e w3 ⟨rfl, b3⟩; have D3 := below_step D0.out (Nat.le_refl _) b3))
  all_goals
    have B4 := Lib.hid (BB.out.trans (D4.mono (by simp)))
    have D5' := Lib.hid D5
    have O5 := Lib.hid (ownS_lit (W := w4) (xs := [⟨#[102, 105, 108, 116, 101, 114]⟩, X, Y]) rfl B4.out.size (by simp))
    have B5 := Lib.hid (B4.out.alloc B4.out.size (.cells #[.string ⟨#[102, 105, 108, 116, 101, 114]⟩, .string X, .string Y] 9))
    obtain ⟨u0, u1, u2, u3⟩ := KP.out _ D5'.out
    clear D3 D4 D5
    go_wp2_with fail
    refine (NL.out _ B5.out).mono ?_
    rintro e w6 ⟨rfl, b6⟩
    have B6 := Lib.hid (below_step B5.out (Nat.le_refl _) b6)
    have O6 := Lib.hid (O5.out.below b6)
    clear b6
    go_wp2_with (at_builtin; refine wpList_appendSs _ rfl (.tmp 35) (.tmp 41) 70 rfl w.heap.size Tryz.underlying70 Tryz.infoStr (some ⟨w4.heap.size, 0, none⟩) 3 3 [⟨#[102, 105, 108, 116, 101, 114]⟩, X, Y] rfl rfl (O6.out.alloc _) w6.heap.size 1 1 [Z] rfl rfl (cell_one_w _ _ _) (by simp) (by have := B6.out.size; simp; omega) ?_; intro ao2 c2 w7 o7 g7; have b7 := below_appS B6.out O6.out g7; have O7 := Lib.hid o7; have B7 := Lib.hid b7; clear o7 g7 b7)
    go_ret
    exact ⟨ao2, c2, rfl, O7.out, B7.out⟩

set_option maxRecDepth 100000 in
set_option maxHeartbeats 1600000 in
theorem kindWords3 (name : ByteArray) (col op num : Int) (slot : Bool) (cols : List Int) (a : Option Addr) (c : Nat) (w : World) (hb : nodeB ⟨3, name, col, op, num, slot, cols⟩ = true) (h : Rd w .i64 a cols) (hg : GTab w) :
    Calls Tryz.prog 247 #[kindV ⟨3, name, col, op, num, slot, cols⟩ a c] w (MadeS w (ndB ⟨3, name, col, op, num, slot, cols⟩)) := by
  obtain ⟨_, hnm, hcol, hop, hnum, hcl, hcs⟩ := nums_of_nodeB hb
  simp only at hnm hcol hop hnum hcl hcs
  have G := Lib.hid hg; clear hg hb
  simp only [kindV, ndB, Int.reduceEq, if_false, if_true]
  have f0 := Tryz.as_joinNode_scanNode
  have f1 := Tryz.as_joinNode_filterNode
  have f2 := Tryz.as_joinNode_keepNode
  have f3 := Tryz.as_joinNode_joinNode
  clear h
  have NG := Lib.hid (fun (x : Int) (hx : -1000000 ≤ x ∧ x ≤ 1000000) W (hb : Below w.heap.size w W) => itoaT_any x W (by omega) (by omega) (gtab_below G.out hb))
  have D0 := Lib.hid (Below.refl (w.alloc (.cells #[.int .i64 col, .int .i64 num] 228)).heap.size (w.alloc (.cells #[.int .i64 col, .int .i64 num] 228))).drew
  have BB := Lib.hid ((Below.refl _ w).alloc (Nat.le_refl _) (.cells #[.int .i64 col, .int .i64 num] 228))
  have KP : Hid (∀ w4, Below (w.alloc (.cells #[.int .i64 col, .int .i64 num] 228)).heap.size (w.alloc (.cells #[.int .i64 col, .int .i64 num] 228)) w4 → w4.cell? ⟨w.heap.size, 0, none⟩ = some (.int .i64 col) ∧ w4.cell? ⟨w.heap.size, 1, none⟩ = some (.int .i64 num)) := fun w4 b4 => by
    have hq := fun o => b4.cell (p := ⟨w.heap.size, o, none⟩) (by simp)
    exact ⟨(hq 0).trans ((cell_of_row _ _ _ _ _ _ (heap_alloc_new w _)).trans rfl), (hq 1).trans ((cell_of_row _ _ _ _ _ _ (heap_alloc_new w _)).trans rfl)⟩
  obtain ⟨u0, u1⟩ := KP.out _ (Below.refl _ _)
  go_enter Tryz.func247, Tryz.ntmps247
  go_wp2_with fail
  go_region_held3 (fun w' => w'.cell? ⟨w.heap.size, 0, none⟩ = some (.int .i64 col) ∧ w'.cell? ⟨w.heap.size, 1, none⟩ = some (.int .i64 num))
    (first | exact KP.out _ D4 | exact KP.out _ D3 | go_keep)
    (first
      | (go_at_call 83; have := D3; refine (NG.out _ ⟨by omega, by omega⟩ _ (BB.out.trans (D3.mono (by simp)))).mono ?_; rintro e w4 ⟨rfl, b4⟩; have D4 := below_step D3 (Nat.le_refl _) b4)
      | (go_at_call 83; refine (NG.out _ ⟨by omega, by omega⟩ _ (BB.out.trans (D0.out.mono (by simp)))).mono ?_; rintro e w3 ⟨rfl, b3⟩; have D3 := below_step D0.out (Nat.le_refl _) b3))
  all_goals
    have B4 := Lib.hid (BB.out.trans (D4.mono (by simp)))
    go_wp2_with fail
    go_ret
    exact ⟨_, 3, rfl, ownS_lit (W := w4) (xs := [⟨#[106, 111, 105, 110]⟩, numT col, numT num]) rfl B4.out.size (by simp), B4.out.alloc B4.out.size _⟩
end Go.Proofs.YtfpbhedophlnkaaGreatDoor
namespace Go.Proofs.YtfpbhedophlnkaaGreatDoor
open Go.RowKit
set_option linter.unusedSimpArgs false
set_option linter.unusedVariables false

set_option maxRecDepth 100000 in
set_option maxHeartbeats 1600000 in
theorem kindWords2 (name : ByteArray) (col op num : Int) (slot : Bool) (cols : List Int) (a : Option Addr) (c : Nat) (w : World) (hb : nodeB ⟨2, name, col, op, num, slot, cols⟩ = true) (h : Rd w .i64 a cols) (hg : GTab w) :
    Calls Tryz.prog 247 #[kindV ⟨2, name, col, op, num, slot, cols⟩ a c] w (MadeS w (ndB ⟨2, name, col, op, num, slot, cols⟩)) := by
  obtain ⟨_, hnm, hcol, hop, hnum, hcl, hcs⟩ := nums_of_nodeB hb
  simp only at hnm hcol hop hnum hcl hcs
  have G := Lib.hid hg; clear hg hb
  simp only [kindV, ndB, Int.reduceEq, if_false, if_true]
  have f0 := Tryz.as_keepNode_scanNode
  have f1 := Tryz.as_keepNode_filterNode
  have f2 := Tryz.as_keepNode_keepNode
  have H := Lib.hid h; clear h
  have NA := Lib.hid (itoaT_any (cols.length : Int) (w.alloc (.cells #[.slice a cols.length c] 226)) (by omega) (by omega) (gtab_below G.out ((Below.refl _ w).alloc (Nat.le_refl _) (.cells #[.slice a cols.length c] 226))))
  have NB := Lib.hid (fun (x : Int) (hx : x ∈ cols) W (hb : Below w.heap.size w W) => itoaT_any x W (by have := hcs x hx; omega) (by have := hcs x hx; omega) (gtab_below G.out hb))
  generalize numT (cols.length : Int) = X at NA ⊢
  clear hcs
  go_enter Tryz.func247, Tryz.ntmps247
  go_wp2_with fail
  refine NA.out.mono ?_
  rintro e w1 ⟨rfl, b1⟩
  have B1 := Lib.hid (((Below.refl _ w).alloc (Nat.le_refl _) _).trans (b1.mono (by simp)))
  have C1 := Lib.hid b1
  have O1 := Lib.hid (ownS_lit (W := w1) (xs := [⟨#[107, 101, 101, 112]⟩, X]) rfl B1.out.size (by simp))
  have c1 : w1.cell? ⟨w.heap.size, 0, none⟩ = some (.slice a cols.length c) := (b1.cell (p := ⟨w.heap.size, 0, none⟩) (by simp)).trans ((cell_of_row _ _ _ _ _ _ (heap_alloc_new w _)).trans rfl)
  have z1 : w.heap.size < w1.heap.size := by have := b1.size; simp at this; omega
  clear b1
  go_wp2_with fail
  go_loopw [7, 55] (fun s i wr => ∃ (j n cc : Nat) (ao : Option Addr), j ≤ cols.length ∧ i = .int .i64 j ∧ s = .slice ao n cc ∧ n = ([⟨#[107, 101, 101, 112]⟩, X] ++ (cols.take j).map numT).length ∧ OwnS wr w.heap.size ao cc ([⟨#[107, 101, 101, 112]⟩, X] ++ (cols.take j).map numT) ∧ Below w.heap.size w wr) (fun _ i _ => cols.length - (intOf i).toNat)
  case atStart => exact ⟨0, 2, 2, _, Nat.zero_le _, rfl, rfl, rfl, by simpa using O1.out, B1.out.alloc B1.out.size _⟩
  case round =>
    obtain ⟨j, n, cc, ao, hj, rfl, rfl, hn, ho, hbw⟩ := hrel
    have HN := Lib.hid hn; have HO := Lib.hid ho; have HBW := Lib.hid hbw
    clear hn ho
    by_cases hlt : j < cols.length
    · have i1 : (j : Int) < (cols.length : Int) := by omega
      obtain ⟨b, off, x, rfl, hx, cx⟩ := (H.out.below hbw).get hlt
      have NX := Lib.hid (NB.out x (List.mem_of_getElem? hx))
      have TK := Lib.hid (show [⟨#[107, 101, 101, 112]⟩, X] ++ (cols.take (j + 1)).map numT = [⟨#[107, 101, 101, 112]⟩, X] ++ (cols.take j).map numT ++ [numT x] by rw [List.take_add_one, hx]; simp)
      clear hx hbw
      generalize numT x = Y at NX TK
      obtain ⟨acc, hacc⟩ : ∃ acc, acc = [⟨#[107, 101, 101, 112]⟩, X] ++ (cols.take j).map numT := ⟨_, rfl⟩
      have hal : acc.length ≤ 100 := by rw [hacc]; simp; omega
      rw [← hacc] at HN HO TK
      clear hacc
      go_wp2_with fail
      refine (NX.out _ HBW.out).mono ?_
      rintro e w5 ⟨rfl, b5⟩
      have B5 := Lib.hid (below_step HBW.out (Nat.le_refl _) b5)
      have O5 := Lib.hid (HO.out.below b5)
      clear b5
      go_wp2_with (at_builtin; refine wpList_appendSs _ rfl (.tmp 59) (.tmp 62) 70 rfl w.heap.size Tryz.underlying70 Tryz.infoStr ao cc n acc rfl HN.out (O5.out.alloc _) w5.heap.size 1 1 [Y] rfl rfl (cell_one_w _ _ _) (by simp; omega) (by have := B5.out.size; simp; omega) ?_; intro ao2 c2 w7 o7 g7; have b7 := below_appS B5.out O5.out g7; have O7 := Lib.hid o7; have B7 := Lib.hid b7; clear o7 g7 b7)
      go_roundw
      case rel => exact ⟨j + 1, _, c2, ao2, by omega, by go_num, rfl, by rw [TK.out]; simp, by rw [TK.out]; exact O7.out, B7.out⟩
      case measure => simp [intOf]; omega
    · obtain rfl : j = cols.length := by omega
      clear hbw
      have HN2 := Lib.hid (show n = ([⟨#[107, 101, 101, 112]⟩, X] ++ cols.map numT).length by have := HN.out; rwa [List.take_length] at this)
      have HO2 := Lib.hid (show OwnS wr w.heap.size ao cc ([⟨#[107, 101, 101, 112]⟩, X] ++ cols.map numT) by have := HO.out; rwa [List.take_length] at this)
      clear HN HO
      go_wp2_with fail
      go_ret
      exact ⟨ao, cc, by rw [HN2.out]; rfl, HO2.out, HBW.out⟩
end Go.Proofs.YtfpbhedophlnkaaGreatDoor
