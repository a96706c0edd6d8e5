/-
  Contracts of impl.putFields: what stands behind a node's kind, in memory of the call's own. For every node.
-/
import Derived.Test.YtcegekkhlfpgfaaIPutE
namespace Go.Proofs.Ytcegekkhlfpgfaa
open Go.RowKit
set_option linter.unusedSimpArgs false
set_option linter.unusedVariables false

set_option maxRecDepth 100000 in
set_option maxHeartbeats 1600000 in
theorem putFields0 (name : ByteArray) (col op num : Int) (slot : Bool) (cols : List Int) (a : Option Addr) (c : Nat) (w : World) (h : Rd w .i64 a cols) (hl : cols.length ≤ maxLen) (hs : name.size ≤ maxLen) :
    Calls Try.prog 42 #[kindV ⟨0, name, col, op, num, slot, cols⟩ a c] w (Made w 5 .u8 (fieldL ⟨0, name, col, op, num, slot, cols⟩)) := by
  simp only [kindV, fieldL, Int.reduceEq, if_false, if_true]
  have f0 := Try.as_scanNode_scanNode
  have PF : Hid (∀ w : World, Calls Try.prog 57 #[.string name] w (Made w 5 .u8 (putW name))) := fun w => implPutWord_any _ w hs
  obtain ⟨f, hf⟩ : ∃ f, f = putW name := ⟨_, rfl⟩
  rw [← hf] at PF ⊢
  clear hf h
  go_enter Try.func42, Try.ntmps42
  go_wp2_with fail
  refine (PF.out _).mono ?_
  intro e w2 hm
  have HM := Lib.hid (made_up ((Below.refl _ w).alloc (Nat.le_refl _) _) hm)
  clear hm
  obtain ⟨a2, c2, rfl, o2, b2⟩ := HM.out
  clear o2 b2
  go_wp2_with fail
  go_ret
  exact HM.out

set_option maxRecDepth 100000 in
set_option maxHeartbeats 1600000 in
theorem putFields1 (name : ByteArray) (col op num : Int) (slot : Bool) (cols : List Int) (a : Option Addr) (c : Nat) (w : World) (h : Rd w .i64 a cols) (hl : cols.length ≤ maxLen) (hs : name.size ≤ maxLen) :
    Calls Try.prog 42 #[kindV ⟨1, name, col, op, num, slot, cols⟩ a c] w (Made w 5 .u8 (fieldL ⟨1, name, col, op, num, slot, cols⟩)) := by
  simp only [kindV, fieldL, Int.reduceEq, if_false, if_true]
  have f0 := Try.as_filterNode_scanNode
  have f1 := Try.as_filterNode_filterNode
  have FL := Lib.hid (fun w => flagOf_any slot w)
  obtain ⟨fl, hfl⟩ : ∃ fl, fl = flagI slot := ⟨_, rfl⟩
  rw [← hfl] at FL ⊢
  clear hfl h
  have u0 : (w.alloc (.cells #[.int .i64 col, .int .i64 op, .int .i64 num, .bool slot] 91)).cell? ⟨w.heap.size, 0, none⟩ = some (.int .i64 col) := (cell_of_row _ _ _ _ _ _ (heap_alloc_new w _)).trans rfl
  have u1 : (w.alloc (.cells #[.int .i64 col, .int .i64 op, .int .i64 num, .bool slot] 91)).cell? ⟨w.heap.size, 1, none⟩ = some (.int .i64 op) := (cell_of_row _ _ _ _ _ _ (heap_alloc_new w _)).trans rfl
  have u3 : (w.alloc (.cells #[.int .i64 col, .int .i64 op, .int .i64 num, .bool slot] 91)).cell? ⟨w.heap.size, 3, none⟩ = some (.bool slot) := (cell_of_row _ _ _ _ _ _ (heap_alloc_new w _)).trans rfl
  have u2 : (w.alloc (.cells #[.int .i64 col, .int .i64 op, .int .i64 num, .bool slot] 91)).cell? ⟨w.heap.size, 2, none⟩ = some (.int .i64 num) := (cell_of_row _ _ _ _ _ _ (heap_alloc_new w _)).trans rfl
  have LP := Lib.hid (putEach_last [col, op, fl, num] (w.alloc (.cells #[.int .i64 col, .int .i64 op, .int .i64 num, .bool slot] 91)).drew (w.heap.size + 1) (by simp) (by simp) (by simp))
  obtain ⟨f, hf⟩ : ∃ f, f = ([col, op, fl, num] : List Int).flatMap putN := ⟨_, rfl⟩
  rw [← hf] at LP ⊢
  clear hf
  have BB : Hid (Below w.heap.size w ((w.alloc (.cells #[.int .i64 col, .int .i64 op, .int .i64 num, .bool slot] 91)).drew.alloc (.cells (([col, op, fl, num] : List Int).map (Value.int .i64)).toArray 3))) := Lib.hid ((((Below.refl _ w).alloc (Nat.le_refl _) _).drew).alloc (by simp) _)
  have KP : Hid (∀ w4, Below ((w.alloc (.cells #[.int .i64 col, .int .i64 op, .int .i64 num, .bool slot] 91)).drew.alloc (.cells (([col, op, fl, num] : List Int).map (Value.int .i64)).toArray 3)).heap.size ((w.alloc (.cells #[.int .i64 col, .int .i64 op, .int .i64 num, .bool slot] 91)).drew.alloc (.cells (([col, op, fl, num] : List Int).map (Value.int .i64)).toArray 3)) w4 → w4.cell? ⟨w.heap.size, 0, none⟩ = some (.int .i64 col) ∧ w4.cell? ⟨w.heap.size, 1, none⟩ = some (.int .i64 op) ∧ w4.cell? ⟨w.heap.size, 3, none⟩ = some (.bool slot) ∧ w4.cell? ⟨w.heap.size, 2, none⟩ = some (.int .i64 num)) := fun w4 b4 => by
    have hB := below_step (((Below.refl _ (w.alloc (.cells #[.int .i64 col, .int .i64 op, .int .i64 num, .bool slot] 91))).drew).alloc (by simp) (.cells (([col, op, fl, num] : List Int).map (Value.int .i64)).toArray 3)) (Nat.le_refl _) b4
    have hq := fun o => hB.cell (p := ⟨w.heap.size, o, none⟩) (by simp)
    exact ⟨(hq 0).trans ((cell_of_row _ _ _ _ _ _ (heap_alloc_new w _)).trans rfl), (hq 1).trans ((cell_of_row _ _ _ _ _ _ (heap_alloc_new w _)).trans rfl), (hq 3).trans ((cell_of_row _ _ _ _ _ _ (heap_alloc_new w _)).trans rfl), (hq 2).trans ((cell_of_row _ _ _ _ _ _ (heap_alloc_new w _)).trans rfl)⟩
  go_enter Try.func42, Try.ntmps42
  go_wp2_with fail
  go_region_held3 (fun w' => w'.cell? ⟨w.heap.size, 0, none⟩ = some (.int .i64 col) ∧ w'.cell? ⟨w.heap.size, 1, none⟩ = some (.int .i64 op) ∧ w'.cell? ⟨w.heap.size, 3, none⟩ = some (.bool slot) ∧ w'.cell? ⟨w.heap.size, 2, none⟩ = some (.int .i64 num)) (first | go_keep | exact KP.out _ b4)
    (first
      | (go_at_call 68; refine (FL.out _).mono ?_; rintro e w' ⟨rfl, rfl⟩)
      | (go_at_call 67; refine LP.out.mono ?_; rintro e w4 ⟨a4, c4, rfl, o4, b4⟩))
  all_goals
    have HM := Lib.hid (made_up BB.out ⟨a4, c4, rfl, o4, b4⟩)
    clear o4 b4
    go_wp2_with fail
    go_ret
    exact HM.out

set_option maxRecDepth 100000 in
set_option maxHeartbeats 1600000 in
theorem putFields2 (name : ByteArray) (col op num : Int) (slot : Bool) (cols : List Int) (a : Option Addr) (c : Nat) (w : World) (h : Rd w .i64 a cols) (hl : cols.length ≤ maxLen) (hs : name.size ≤ maxLen) :
    Calls Try.prog 42 #[kindV ⟨2, name, col, op, num, slot, cols⟩ a c] w (Made w 5 .u8 (fieldL ⟨2, name, col, op, num, slot, cols⟩)) := by
  simp only [kindV, fieldL, Int.reduceEq, if_false, if_true]
  have f0 := Try.as_keepNode_scanNode
  have f1 := Try.as_keepNode_filterNode
  have f2 := Try.as_keepNode_keepNode
  have PF : Hid (∀ w : World, Rd w .i64 a cols → Calls Try.prog 69 #[.slice a cols.length c] w (Made w 5 .u8 (putNs cols))) := fun w h => implPutNums_any a c cols w h hl
  obtain ⟨f, hf⟩ : ∃ f, f = putNs cols := ⟨_, rfl⟩
  rw [← hf] at PF ⊢
  have H := Lib.hid h
  clear hf h
  go_enter Try.func42, Try.ntmps42
  go_wp2_with fail
  refine (PF.out _ (H.out.below ((Below.refl _ w).alloc (Nat.le_refl _) _))).mono ?_
  intro e w2 hm
  have HM := Lib.hid (made_up ((Below.refl _ w).alloc (Nat.le_refl _) _) hm)
  clear hm
  obtain ⟨a2, c2, rfl, o2, b2⟩ := HM.out
  clear o2 b2
  go_wp2_with fail
  go_ret
  exact HM.out

set_option maxRecDepth 100000 in
set_option maxHeartbeats 1600000 in
theorem putFields3 (name : ByteArray) (col op num : Int) (slot : Bool) (cols : List Int) (a : Option Addr) (c : Nat) (w : World) (h : Rd w .i64 a cols) (hl : cols.length ≤ maxLen) (hs : name.size ≤ maxLen) :
    Calls Try.prog 42 #[kindV ⟨3, name, col, op, num, slot, cols⟩ a c] w (Made w 5 .u8 (fieldL ⟨3, name, col, op, num, slot, cols⟩)) := by
  simp only [kindV, fieldL, Int.reduceEq, if_false, if_true]
  have f0 := Try.as_joinNode_scanNode
  have f1 := Try.as_joinNode_filterNode
  have f2 := Try.as_joinNode_keepNode
  have f3 := Try.as_joinNode_joinNode
  have LP := Lib.hid (putEach_last [col, num] (w.alloc (.cells #[.int .i64 col, .int .i64 num] 96)) (w.heap.size + 1) (by simp) (by simp) (by simp))
  obtain ⟨f, hf⟩ : ∃ f, f = ([col, num] : List Int).flatMap putN := ⟨_, rfl⟩
  rw [← hf] at LP ⊢
  have BB := Lib.hid (((Below.refl _ w).alloc (Nat.le_refl _) (.cells #[.int .i64 col, .int .i64 num] 96)).alloc (by simp) (.cells (([col, num] : List Int).map (Value.int .i64)).toArray 3))
  clear hf h
  go_enter Try.func42, Try.ntmps42
  go_wp2_with fail
  refine LP.out.mono ?_
  intro e w2 hm
  have HM := Lib.hid (made_up BB.out hm)
  clear hm
  obtain ⟨a2, c2, rfl, o2, b2⟩ := HM.out
  clear o2 b2
  go_wp2_with fail
  go_ret
  exact HM.out

set_option maxRecDepth 100000 in
set_option maxHeartbeats 1600000 in
theorem putFields4 (name : ByteArray) (col op num : Int) (slot : Bool) (cols : List Int) (a : Option Addr) (c : Nat) (w : World) (h : Rd w .i64 a cols) (hl : cols.length ≤ maxLen) (hs : name.size ≤ maxLen) :
    Calls Try.prog 42 #[kindV ⟨4, name, col, op, num, slot, cols⟩ a c] w (Made w 5 .u8 (fieldL ⟨4, name, col, op, num, slot, cols⟩)) := by
  simp only [kindV, fieldL, Int.reduceEq, if_false, if_true]
  have f0 := Try.as_bothNode_scanNode
  have f1 := Try.as_bothNode_filterNode
  have f2 := Try.as_bothNode_keepNode
  have f3 := Try.as_bothNode_joinNode
  have f4 := Try.as_bothNode_sortNode
  have f5 := Try.as_bothNode_limitNode
  go_enter Try.func42, Try.ntmps42
  go_wp2_with fail
  go_ret
  exact ⟨none, 0, rfl, Own.none_, Below.refl _ _⟩

set_option maxRecDepth 100000 in
set_option maxHeartbeats 1600000 in
theorem putFields5 (name : ByteArray) (col op num : Int) (slot : Bool) (cols : List Int) (a : Option Addr) (c : Nat) (w : World) (h : Rd w .i64 a cols) (hl : cols.length ≤ maxLen) (hs : name.size ≤ maxLen) :
    Calls Try.prog 42 #[kindV ⟨5, name, col, op, num, slot, cols⟩ a c] w (Made w 5 .u8 (fieldL ⟨5, name, col, op, num, slot, cols⟩)) := by
  simp only [kindV, fieldL, Int.reduceEq, if_false, if_true]
  have f0 := Try.as_sortNode_scanNode
  have f1 := Try.as_sortNode_filterNode
  have f2 := Try.as_sortNode_keepNode
  have f3 := Try.as_sortNode_joinNode
  have f4 := Try.as_sortNode_sortNode
  have LP := Lib.hid (putEach_last [col] (w.alloc (.cells #[.int .i64 col] 98)) (w.heap.size + 1) (by simp) (by simp) (by simp))
  obtain ⟨f, hf⟩ : ∃ f, f = ([col] : List Int).flatMap putN := ⟨_, rfl⟩
  rw [← hf] at LP ⊢
  have BB := Lib.hid (((Below.refl _ w).alloc (Nat.le_refl _) (.cells #[.int .i64 col] 98)).alloc (by simp) (.cells (([col] : List Int).map (Value.int .i64)).toArray 3))
  clear hf h
  go_enter Try.func42, Try.ntmps42
  go_wp2_with fail
  refine LP.out.mono ?_
  intro e w2 hm
  have HM := Lib.hid (made_up BB.out hm)
  clear hm
  obtain ⟨a2, c2, rfl, o2, b2⟩ := HM.out
  clear o2 b2
  go_wp2_with fail
  go_ret
  exact HM.out

set_option maxRecDepth 100000 in
set_option maxHeartbeats 1600000 in
theorem putFields6 (name : ByteArray) (col op num : Int) (slot : Bool) (cols : List Int) (a : Option Addr) (c : Nat) (w : World) (h : Rd w .i64 a cols) (hl : cols.length ≤ maxLen) (hs : name.size ≤ maxLen) :
    Calls Try.prog 42 #[kindV ⟨6, name, col, op, num, slot, cols⟩ a c] w (Made w 5 .u8 (fieldL ⟨6, name, col, op, num, slot, cols⟩)) := by
  simp only [kindV, fieldL, Int.reduceEq, if_false, if_true]
  have f0 := Try.as_limitNode_scanNode
  have f1 := Try.as_limitNode_filterNode
  have f2 := Try.as_limitNode_keepNode
  have f3 := Try.as_limitNode_joinNode
  have f4 := Try.as_limitNode_sortNode
  have f5 := Try.as_limitNode_limitNode
  have FL := Lib.hid (fun w => flagOf_any slot w)
  obtain ⟨fl, hfl⟩ : ∃ fl, fl = flagI slot := ⟨_, rfl⟩
  rw [← hfl] at FL ⊢
  clear hfl h
  have u1 : (w.alloc (.cells #[.int .i64 num, .bool slot] 100)).cell? ⟨w.heap.size, 1, none⟩ = some (.bool slot) := (cell_of_row _ _ _ _ _ _ (heap_alloc_new w _)).trans rfl
  have u0 : (w.alloc (.cells #[.int .i64 num, .bool slot] 100)).cell? ⟨w.heap.size, 0, none⟩ = some (.int .i64 num) := (cell_of_row _ _ _ _ _ _ (heap_alloc_new w _)).trans rfl
  have LP := Lib.hid (putEach_last [fl, num] (w.alloc (.cells #[.int .i64 num, .bool slot] 100)).drew (w.heap.size + 1) (by simp) (by simp) (by simp))
  obtain ⟨f, hf⟩ : ∃ f, f = ([fl, num] : List Int).flatMap putN := ⟨_, rfl⟩
  rw [← hf] at LP ⊢
  clear hf
  have BB : Hid (Below w.heap.size w ((w.alloc (.cells #[.int .i64 num, .bool slot] 100)).drew.alloc (.cells (([fl, num] : List Int).map (Value.int .i64)).toArray 3))) := Lib.hid ((((Below.refl _ w).alloc (Nat.le_refl _) _).drew).alloc (by simp) _)
  have KP : Hid (∀ w4, Below ((w.alloc (.cells #[.int .i64 num, .bool slot] 100)).drew.alloc (.cells (([fl, num] : List Int).map (Value.int .i64)).toArray 3)).heap.size ((w.alloc (.cells #[.int .i64 num, .bool slot] 100)).drew.alloc (.cells (([fl, num] : List Int).map (Value.int .i64)).toArray 3)) w4 → w4.cell? ⟨w.heap.size, 1, none⟩ = some (.bool slot) ∧ w4.cell? ⟨w.heap.size, 0, none⟩ = some (.int .i64 num)) := fun w4 b4 => by
    have hB := below_step (((Below.refl _ (w.alloc (.cells #[.int .i64 num, .bool slot] 100))).drew).alloc (by simp) (.cells (([fl, num] : List Int).map (Value.int .i64)).toArray 3)) (Nat.le_refl _) b4
    have hq := fun o => hB.cell (p := ⟨w.heap.size, o, none⟩) (by simp)
    exact ⟨(hq 1).trans ((cell_of_row _ _ _ _ _ _ (heap_alloc_new w _)).trans rfl), (hq 0).trans ((cell_of_row _ _ _ _ _ _ (heap_alloc_new w _)).trans rfl)⟩
  go_enter Try.func42, Try.ntmps42
  go_wp2_with fail
  go_region_held3 (fun w' => w'.cell? ⟨w.heap.size, 1, none⟩ = some (.bool slot) ∧ w'.cell? ⟨w.heap.size, 0, none⟩ = some (.int .i64 num)) (first | go_keep | exact KP.out _ b4)
    (first
      | (go_at_call 68; refine (FL.out _).mono ?_; rintro e w' ⟨rfl, rfl⟩)
      | (go_at_call 67; refine LP.out.mono ?_; rintro e w4 ⟨a4, c4, rfl, o4, b4⟩))
  all_goals
    have HM := Lib.hid (made_up BB.out ⟨a4, c4, rfl, o4, b4⟩)
    clear o4 b4
    go_wp2_with fail
    go_ret
    exact HM.out

set_option maxRecDepth 100000 in
set_option maxHeartbeats 1600000 in
theorem putFields7 (name : ByteArray) (col op num : Int) (slot : Bool) (cols : List Int) (a : Option Addr) (c : Nat) (w : World) (h : Rd w .i64 a cols) (hl : cols.length ≤ maxLen) (hs : name.size ≤ maxLen) :
    Calls Try.prog 42 #[kindV ⟨7, name, col, op, num, slot, cols⟩ a c] w (Made w 5 .u8 (fieldL ⟨7, name, col, op, num, slot, cols⟩)) := by
  simp only [kindV, fieldL, Int.reduceEq, if_false, if_true]
  have f0 := Try.as_onceNode_scanNode
  have f1 := Try.as_onceNode_filterNode
  have f2 := Try.as_onceNode_keepNode
  have f3 := Try.as_onceNode_joinNode
  have f4 := Try.as_onceNode_sortNode
  have f5 := Try.as_onceNode_limitNode
  go_enter Try.func42, Try.ntmps42
  go_wp2_with fail
  go_ret
  exact ⟨none, 0, rfl, Own.none_, Below.refl _ _⟩

theorem putFields_any (n : Nd) (hk : 0 ≤ n.kind ∧ n.kind ≤ 7) (a : Option Addr) (c : Nat) (w : World) (h : Rd w .i64 a n.cols) (hl : n.cols.length ≤ maxLen) (hs : n.name.size ≤ maxLen) :
    Calls Try.prog 42 #[kindV n a c] w (Made w 5 .u8 (fieldL n)) := by
  obtain ⟨k, name, col, op, num, slot, cols⟩ := n
  have hc : k = 0 ∨ k = 1 ∨ k = 2 ∨ k = 3 ∨ k = 4 ∨ k = 5 ∨ k = 6 ∨ k = 7 := by simp only at hk; omega
  rcases hc with rfl | rfl | rfl | rfl | rfl | rfl | rfl | rfl
  · exact putFields0 name col op num slot cols a c w h hl hs
  · exact putFields1 name col op num slot cols a c w h hl hs
  · exact putFields2 name col op num slot cols a c w h hl hs
  · exact putFields3 name col op num slot cols a c w h hl hs
  · exact putFields4 name col op num slot cols a c w h hl hs
  · exact putFields5 name col op num slot cols a c w h hl hs
  · exact putFields6 name col op num slot cols a c w h hl hs
  · exact putFields7 name col op num slot cols a c w h hl hs
end Go.Proofs.Ytcegekkhlfpgfaa
