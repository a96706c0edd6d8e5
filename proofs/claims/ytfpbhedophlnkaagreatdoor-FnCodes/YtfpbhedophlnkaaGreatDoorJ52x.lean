/-
  Contracts of impl.putFields: what stands behind a node's kind, in memory of the call's own. For every node. Contract of impl.PutNode: the node's bytes in memory of the call's own; nothing where it is none. For every node. A slice of one slice of bytes, made in place. No program, no walk.
-/
import Derived.Test.YtfpbhedophlnkaaGreatDoorJ51x
import Derived.Test.YtfpbhedophlnkaaGreatDoorJ50x
namespace Go.Proofs.YtfpbhedophlnkaaGreatDoor
open Go.RowKit
set_option linter.unusedSimpArgs false
set_option linter.unusedVariables false

set_option maxRecDepth 100000 in
set_option maxHeartbeats 1600000 in
theorem putFields0 (name : ByteArray) (col op num : Int) (slot : Bool) (cols : List Int) (a : Option Addr) (c : Nat) (w : World) (h : Rd w .i64 a cols) (hl : cols.length ≤ maxLen) (hs : name.size ≤ maxLen) :
    Calls Tryz.prog 195 #[kindV ⟨0, name, col, op, num, slot, cols⟩ a c] w (Made w 5 .u8 (fieldL ⟨0, name, col, op, num, slot, cols⟩)) := by
  simp only [kindV, fieldL, Int.reduceEq, if_false, if_true]
  have f0 := Tryz.as_scanNode_scanNode
  have PF : Hid (∀ w : World, Calls Tryz.prog 89 #[.string name] w (Made w 5 .u8 (putW name))) := fun w => implPutWord_any _ w hs
  obtain ⟨f, hf⟩ : ∃ f, f = putW name := ⟨_, rfl⟩
  rw [← hf] at PF ⊢
  clear hf h
  go_enter Tryz.func195, Tryz.ntmps195
  go_wp2_with fail
  refine (PF.out _).mono ?_
  intro e w2 hm
  have HM := Lib.hid (made_up ((Below.refl _ w).alloc (Nat.le_refl _) _) hm)
  clear hm
  obtain ⟨a2, c2, rfl, o2, b2⟩ := HM.out
  clear o2 b2
  go_wp2_with fail
  go_ret
  exact HM.out

set_option maxRecDepth 100000 in
set_option maxHeartbeats 1600000 in
theorem putFields1 (name : ByteArray) (col op num : Int) (slot : Bool) (cols : List Int) (a : Option Addr) (c : Nat) (w : World) (h : Rd w .i64 a cols) (hl : cols.length ≤ maxLen) (hs : name.size ≤ maxLen) :
    Calls Tryz.prog 195 #[kindV ⟨1, name, col, op, num, slot, cols⟩ a c] w (Made w 5 .u8 (fieldL ⟨1, name, col, op, num, slot, cols⟩)) := by
  simp only [kindV, fieldL, Int.reduceEq, if_false, if_true]
  have f0 := Tryz.as_filterNode_scanNode
  have f1 := Tryz.as_filterNode_filterNode
  have FL := Lib.hid (fun w => flagOf_any slot w)
  obtain ⟨fl, hfl⟩ : ∃ fl, fl = flagI slot := ⟨_, rfl⟩
  rw [← hfl] at FL ⊢
  clear hfl h
  have u0 : (w.alloc (.cells #[.int .i64 col, .int .i64 op, .int .i64 num, .bool slot] 223)).cell? ⟨w.heap.size, 0, none⟩ = some (.int .i64 col) := (cell_of_row _ _ _ _ _ _ (heap_alloc_new w _)).trans rfl
  have u1 : (w.alloc (.cells #[.int .i64 col, .int .i64 op, .int .i64 num, .bool slot] 223)).cell? ⟨w.heap.size, 1, none⟩ = some (.int .i64 op) := (cell_of_row _ _ _ _ _ _ (heap_alloc_new w _)).trans rfl
  have u3 : (w.alloc (.cells #[.int .i64 col, .int .i64 op, .int .i64 num, .bool slot] 223)).cell? ⟨w.heap.size, 3, none⟩ = some (.bool slot) := (cell_of_row _ _ _ _ _ _ (heap_alloc_new w _)).trans rfl
  have u2 : (w.alloc (.cells #[.int .i64 col, .int .i64 op, .int .i64 num, .bool slot] 223)).cell? ⟨w.heap.size, 2, none⟩ = some (.int .i64 num) := (cell_of_row _ _ _ _ _ _ (heap_alloc_new w _)).trans rfl
  have LP := Lib.hid (putEach_last [col, op, fl, num] (w.alloc (.cells #[.int .i64 col, .int .i64 op, .int .i64 num, .bool slot] 223)).drew (w.heap.size + 1) (by simp) (by simp) (by simp))
  obtain ⟨f, hf⟩ : ∃ f, f = ([col, op, fl, num] : List Int).flatMap putN := ⟨_, rfl⟩
  rw [← hf] at LP ⊢
  clear hf
  have BB : Hid (Below w.heap.size w ((w.alloc (.cells #[.int .i64 col, .int .i64 op, .int .i64 num, .bool slot] 223)).drew.alloc (.cells (([col, op, fl, num] : List Int).map (Value.int .i64)).toArray 3))) := Lib.hid ((((Below.refl _ w).alloc (Nat.le_refl _) _).drew).alloc (by simp) _)
  have KP : Hid (∀ w4, Below ((w.alloc (.cells #[.int .i64 col, .int .i64 op, .int .i64 num, .bool slot] 223)).drew.alloc (.cells (([col, op, fl, num] : List Int).map (Value.int .i64)).toArray 3)).heap.size ((w.alloc (.cells #[.int .i64 col, .int .i64 op, .int .i64 num, .bool slot] 223)).drew.alloc (.cells (([col, op, fl, num] : List Int).map (Value.int .i64)).toArray 3)) w4 → w4.cell? ⟨w.heap.size, 0, none⟩ = some (.int .i64 col) ∧ w4.cell? ⟨w.heap.size, 1, none⟩ = some (.int .i64 op) ∧ w4.cell? ⟨w.heap.size, 3, none⟩ = some (.bool slot) ∧ w4.cell? ⟨w.heap.size, 2, none⟩ = some (.int .i64 num)) := fun w4 b4 => by
    have hB := below_step (((Below.refl _ (w.alloc (.cells #[.int .i64 col, .int .i64 op, .int .i64 num, .bool slot] 223))).drew).alloc (by simp) (.cells (([col, op, fl, num] : List Int).map (Value.int .i64)).toArray 3)) (Nat.le_refl _) b4
    have hq := fun o => hB.cell (p := ⟨w.heap.size, o, none⟩) (by simp)
    exact ⟨(hq 0).trans ((cell_of_row _ _ _ _ _ _ (heap_alloc_new w _)).trans rfl), (hq 1).trans ((cell_of_row _ _ _ _ _ _ (heap_alloc_new w _)).trans rfl), (hq 3).trans ((cell_of_row _ _ _ _ _ _ (heap_alloc_new w _)).trans rfl), (hq 2).trans ((cell_of_row _ _ _ _ _ _ (heap_alloc_new w _)).trans rfl)⟩
  go_enter Tryz.func195, Tryz.ntmps195
  go_wp2_with fail
  go_region_held3 (fun w' => w'.cell? ⟨w.heap.size, 0, none⟩ = some (.int .i64 col) ∧ w'.cell? ⟨w.heap.size, 1, none⟩ = some (.int .i64 op) ∧ w'.cell? ⟨w.heap.size, 3, none⟩ = some (.bool slot) ∧ w'.cell? ⟨w.heap.size, 2, none⟩ = some (.int .i64 num)) (first | go_keep | exact KP.out _ b4)
    (first
      | (go_at_call 243; refine (FL.out _).mono ?_; rintro e w' ⟨rfl, rfl⟩)
      | (go_at_call 242; refine LP.out.mono ?_; rintro e w4 ⟨a4, c4, rfl, o4, b4⟩))
  all_goals
    have HM := Lib.hid (made_up BB.out ⟨a4, c4, rfl, o4, b4⟩)
    clear o4 b4
    go_wp2_with fail
    go_ret
    exact HM.out

set_option maxRecDepth 100000 in
set_option maxHeartbeats 1600000 in
theorem putFields2 (name : ByteArray) (col op num : Int) (slot : Bool) (cols : List Int) (a : Option Addr) (c : Nat) (w : World) (h : Rd w .i64 a cols) (hl : cols.length ≤ maxLen) (hs : name.size ≤ maxLen) :
    Calls Tryz.prog 195 #[kindV ⟨2, name, col, op, num, slot, cols⟩ a c] w (Made w 5 .u8 (fieldL ⟨2, name, col, op, num, slot, cols⟩)) := by
  simp only [kindV, fieldL, Int.reduceEq, if_false, if_true]
  have f0 := Tryz.as_keepNode_scanNode
  have f1 := Tryz.as_keepNode_filterNode
  have f2 := Tryz.as_keepNode_keepNode
  have PF : Hid (∀ w : World, Rd w .i64 a cols → Calls Tryz.prog 244 #[.slice a cols.length c] w (Made w 5 .u8 (putNs cols))) := fun w h => implPutNums_any a c cols w h hl
  obtain ⟨f, hf⟩ : ∃ f, f = putNs cols := ⟨_, rfl⟩
  rw [← hf] at PF ⊢
  have H := Lib.hid h
  clear hf h
  go_enter Tryz.func195, Tryz.ntmps195
  go_wp2_with fail
  refine (PF.out _ (H.out.below ((Below.refl _ w).alloc (Nat.le_refl _) _))).mono ?_
  intro e w2 hm
  have HM := Lib.hid (made_up ((Below.refl _ w).alloc (Nat.le_refl _) _) hm)
  clear hm
  obtain ⟨a2, c2, rfl, o2, b2⟩ := HM.out
  clear o2 b2
  go_wp2_with fail
  go_ret
  exact HM.out

set_option maxRecDepth 100000 in
set_option maxHeartbeats 1600000 in
theorem putFields3 (name : ByteArray) (col op num : Int) (slot : Bool) (cols : List Int) (a : Option Addr) (c : Nat) (w : World) (h : Rd w .i64 a cols) (hl : cols.length ≤ maxLen) (hs : name.size ≤ maxLen) :
    Calls Tryz.prog 195 #[kindV ⟨3, name, col, op, num, slot, cols⟩ a c] w (Made w 5 .u8 (fieldL ⟨3, name, col, op, num, slot, cols⟩)) := by
  simp only [kindV, fieldL, Int.reduceEq, if_false, if_true]
  have f0 := Tryz.as_joinNode_scanNode
  have f1 := Tryz.as_joinNode_filterNode
  have f2 := Tryz.as_joinNode_keepNode
  have f3 := Tryz.as_joinNode_joinNode
  have LP := Lib.hid (putEach_last [col, num] (w.alloc (.cells #[.int .i64 col, .int .i64 num] 228)) (w.heap.size + 1) (by simp) (by simp) (by simp))
  obtain ⟨f, hf⟩ : ∃ f, f = ([col, num] : List Int).flatMap putN := ⟨_, rfl⟩
  rw [← hf] at LP ⊢
  have BB := Lib.hid (((Below.refl _ w).alloc (Nat.le_refl _) (.cells #[.int .i64 col, .int .i64 num] 228)).alloc (by simp) (.cells (([col, num] : List Int).map (Value.int .i64)).toArray 3))
  clear hf h
  go_enter Tryz.func195, Tryz.ntmps195
  go_wp2_with fail
  refine LP.out.mono ?_
  intro e w2 hm
  have HM := Lib.hid (made_up BB.out hm)
  clear hm
  obtain ⟨a2, c2, rfl, o2, b2⟩ := HM.out
  clear o2 b2
  go_wp2_with fail
  go_ret
  exact HM.out

set_option maxRecDepth 100000 in
set_option maxHeartbeats 1600000 in
theorem putFields4 (name : ByteArray) (col op num : Int) (slot : Bool) (cols : List Int) (a : Option Addr) (c : Nat) (w : World) (h : Rd w .i64 a cols) (hl : cols.length ≤ maxLen) (hs : name.size ≤ maxLen) :
    Calls Tryz.prog 195 #[kindV ⟨4, name, col, op, num, slot, cols⟩ a c] w (Made w 5 .u8 (fieldL ⟨4, name, col, op, num, slot, cols⟩)) := by
  simp only [kindV, fieldL, Int.reduceEq, if_false, if_true]
  have f0 := Tryz.as_bothNode_scanNode
  have f1 := Tryz.as_bothNode_filterNode
  have f2 := Tryz.as_bothNode_keepNode
  have f3 := Tryz.as_bothNode_joinNode
  have f4 := Tryz.as_bothNode_sortNode
  have f5 := Tryz.as_bothNode_limitNode
  go_enter Tryz.func195, Tryz.ntmps195
  go_wp2_with fail
  go_ret
  exact ⟨none, 0, rfl, Own.none_, Below.refl _ _⟩

set_option maxRecDepth 100000 in
set_option maxHeartbeats 1600000 in
theorem putFields5 (name : ByteArray) (col op num : Int) (slot : Bool) (cols : List Int) (a : Option Addr) (c : Nat) (w : World) (h : Rd w .i64 a cols) (hl : cols.length ≤ maxLen) (hs : name.size ≤ maxLen) :
    Calls Tryz.prog 195 #[kindV ⟨5, name, col, op, num, slot, cols⟩ a c] w (Made w 5 .u8 (fieldL ⟨5, name, col, op, num, slot, cols⟩)) := by
  simp only [kindV, fieldL, Int.reduceEq, if_false, if_true]
  have f0 := Tryz.as_sortNode_scanNode
  have f1 := Tryz.as_sortNode_filterNode
  have f2 := Tryz.as_sortNode_keepNode
  have f3 := Tryz.as_sortNode_joinNode
  have f4 := Tryz.as_sortNode_sortNode
  have LP := Lib.hid (putEach_last [col] (w.alloc (.cells #[.int .i64 col] 232)) (w.heap.size + 1) (by simp) (by simp) (by simp))
  obtain ⟨f, hf⟩ : ∃ f, f = ([col] : List Int).flatMap putN := ⟨_, rfl⟩
  rw [← hf] at LP ⊢
  have BB := Lib.hid (((Below.refl _ w).alloc (Nat.le_refl _) (.cells #[.int .i64 col] 232)).alloc (by simp) (.cells (([col] : List Int).map (Value.int .i64)).toArray 3))
  clear hf h
  go_enter Tryz.func195, Tryz.ntmps195
  go_wp2_with fail
  refine LP.out.mono ?_
  intro e w2 hm
  have HM := Lib.hid (made_up BB.out hm)
  clear hm
  obtain ⟨a2, c2, rfl, o2, b2⟩ := HM.out
  clear o2 b2
  go_wp2_with fail
  go_ret
  exact HM.out

set_option maxRecDepth 100000 in
set_option maxHeartbeats 1600000 in
theorem putFields6 (name : ByteArray) (col op num : Int) (slot : Bool) (cols : List Int) (a : Option Addr) (c : Nat) (w : World) (h : Rd w .i64 a cols) (hl : cols.length ≤ maxLen) (hs : name.size ≤ maxLen) :
    Calls Tryz.prog 195 #[kindV ⟨6, name, col, op, num, slot, cols⟩ a c] w (Made w 5 .u8 (fieldL ⟨6, name, col, op, num, slot, cols⟩)) := by
  simp only [kindV, fieldL, Int.reduceEq, if_false, if_true]
  have f0 := Tryz.as_limitNode_scanNode
  have f1 := Tryz.as_limitNode_filterNode
  have f2 := Tryz.as_limitNode_keepNode
  have f3 := Tryz.as_limitNode_joinNode
  have f4 := Tryz.as_limitNode_sortNode
  have f5 := Tryz.as_limitNode_limitNode
  have FL := Lib.hid (fun w => flagOf_any slot w)
  obtain ⟨fl, hfl⟩ : ∃ fl, fl = flagI slot := ⟨_, rfl⟩
  rw [← hfl] at FL ⊢
  clear hfl h
  have u1 : (w.alloc (.cells #[.int .i64 num, .bool slot] 258)).cell? ⟨w.heap.size, 1, none⟩ = some (.bool slot) := (cell_of_row _ _ _ _ _ _ (heap_alloc_new w _)).trans rfl
  have u0 : (w.alloc (.cells #[.int .i64 num, .bool slot] 258)).cell? ⟨w.heap.size, 0, none⟩ = some (.int .i64 num) := (cell_of_row _ _ _ _ _ _ (heap_alloc_new w _)).trans rfl
  have LP := Lib.hid (putEach_last [fl, num] (w.alloc (.cells #[.int .i64 num, .bool slot] 258)).drew (w.heap.size + 1) (by simp) (by simp) (by simp))
  obtain ⟨f, hf⟩ : ∃ f, f = ([fl, num] : List Int).flatMap putN := ⟨_, rfl⟩
  rw [← hf] at LP ⊢
  clear hf
  have BB : Hid (Below w.heap.size w ((w.alloc (.cells #[.int .i64 num, .bool slot] 258)).drew.alloc (.cells (([fl, num] : List Int).map (Value.int .i64)).toArray 3))) := Lib.hid ((((Below.refl _ w).alloc (Nat.le_refl _) _).drew).alloc (by simp) _)
  have KP : Hid (∀ w4, Below ((w.alloc (.cells #[.int .i64 num, .bool slot] 258)).drew.alloc (.cells (([fl, num] : List Int).map (Value.int .i64)).toArray 3)).heap.size ((w.alloc (.cells #[.int .i64 num, .bool slot] 258)).drew.alloc (.cells (([fl, num] : List Int).map (Value.int .i64)).toArray 3)) w4 → w4.cell? ⟨w.heap.size, 1, none⟩ = some (.bool slot) ∧ w4.cell? ⟨w.heap.size, 0, none⟩ = some (.int .i64 num)) := fun w4 b4 => by
    have hB := below_step (((Below.refl _ (w.alloc (.cells #[.int .i64 num, .bool slot] 258))).drew).alloc (by simp) (.cells (([fl, num] : List Int).map (Value.int .i64)).toArray 3)) (Nat.le_refl _) b4
    have hq := fun o => hB.cell (p := ⟨w.heap.size, o, none⟩) (by simp)
    exact ⟨(hq 1).trans ((cell_of_row _ _ _ _ _ _ (heap_alloc_new w _)).trans rfl), (hq 0).trans ((cell_of_row _ _ _ _ _ _ (heap_alloc_new w _)).trans rfl)⟩
  go_enter Tryz.func195, Tryz.ntmps195
  go_wp2_with fail
  go_region_held3 (fun w' => w'.cell? ⟨w.heap.size, 1, none⟩ = some (.bool slot) ∧ w'.cell? ⟨w.heap.size, 0, none⟩ = some (.int .i64 num)) (first | go_keep | exact KP.out _ b4)
    (first
      | (go_at_call 243; refine (FL.out _).mono ?_; rintro e w' ⟨rfl, rfl⟩)
      | (go_at_call 242; refine LP.out.mono ?_; rintro e w4 ⟨a4, c4, rfl, o4, b4⟩))
  all_goals
    have HM := Lib.hid (made_up BB.out ⟨a4, c4, rfl, o4, b4⟩)
    clear o4 b4
    go_wp2_with fail
    go_ret
    exact HM.out

set_option maxRecDepth 100000 in
set_option maxHeartbeats 1600000 in
theorem putFields7 (name : ByteArray) (col op num : Int) (slot : Bool) (cols : List Int) (a : Option Addr) (c : Nat) (w : World) (h : Rd w .i64 a cols) (hl : cols.length ≤ maxLen) (hs : name.size ≤ maxLen) :
    Calls Tryz.prog 195 #[kindV ⟨7, name, col, op, num, slot, cols⟩ a c] w (Made w 5 .u8 (fieldL ⟨7, name, col, op, num, slot, cols⟩)) := by
  simp only [kindV, fieldL, Int.reduceEq, if_false, if_true]
  have f0 := Tryz.as_onceNode_scanNode
  have f1 := Tryz.as_onceNode_filterNode
  have f2 := Tryz.as_onceNode_keepNode
  have f3 := Tryz.as_onceNode_joinNode
  have f4 := Tryz.as_onceNode_sortNode
  have f5 := Tryz.as_onceNode_limitNode
  go_enter Tryz.func195, Tryz.ntmps195
  go_wp2_with fail
  go_ret
  exact ⟨none, 0, rfl, Own.none_, Below.refl _ _⟩

theorem putFields_any (n : Nd) (hk : 0 ≤ n.kind ∧ n.kind ≤ 7) (a : Option Addr) (c : Nat) (w : World) (h : Rd w .i64 a n.cols) (hl : n.cols.length ≤ maxLen) (hs : n.name.size ≤ maxLen) :
    Calls Tryz.prog 195 #[kindV n a c] w (Made w 5 .u8 (fieldL n)) := by
  obtain ⟨k, name, col, op, num, slot, cols⟩ := n
  have hc : k = 0 ∨ k = 1 ∨ k = 2 ∨ k = 3 ∨ k = 4 ∨ k = 5 ∨ k = 6 ∨ k = 7 := by simp only at hk; omega
  rcases hc with rfl | rfl | rfl | rfl | rfl | rfl | rfl | rfl
  · exact putFields0 name col op num slot cols a c w h hl hs
  · exact putFields1 name col op num slot cols a c w h hl hs
  · exact putFields2 name col op num slot cols a c w h hl hs
  · exact putFields3 name col op num slot cols a c w h hl hs
  · exact putFields4 name col op num slot cols a c w h hl hs
  · exact putFields5 name col op num slot cols a c w h hl hs
  · exact putFields6 name col op num slot cols a c w h hl hs
  · exact putFields7 name col op num slot cols a c w h hl hs
end Go.Proofs.YtfpbhedophlnkaaGreatDoor
namespace Go.Proofs.YtfpbhedophlnkaaGreatDoor
open Go.RowKit
set_option linter.unusedSimpArgs false
set_option linter.unusedVariables false

theorem bhd_two (W : World) (bn : Nat) (hbn : bn = W.heap.size) (a3 : Option Addr) (c3 : Nat) (q : List Int) (a5 : Option Addr) (c5 : Nat) (f : List Int) (h3 : Rd W .u8 a3 q) (h5 : Rd W .u8 a5 f) (hq : q.length ≤ 100) (hf : f.length ≤ 1000) :
    Calls Tryz.prog 91 #[.slice (some ⟨bn, 0, none⟩) 2 2] (W.alloc (.cells #[.slice a3 q.length c3, .slice a5 f.length c5] 22)) (Made (W.alloc (.cells #[.slice a3 q.length c3, .slice a5 f.length c5] 22)) 5 .u8 (q ++ f)) := by
  subst hbn
  have hb : Below W.heap.size W (W.alloc (.cells #[.slice a3 q.length c3, .slice a5 f.length c5] 22)) := (Below.refl _ _).alloc (Nat.le_refl _) _
  have e : [q, f].flatten = q ++ f := by simp
  have := bhd_any (some ⟨W.heap.size, 0, none⟩) 2 2 [q, f] (W.alloc (.cells #[.slice a3 q.length c3, .slice a5 f.length c5] 22)) (.inr ⟨W.heap.size, 0, rfl, fun i l hi => ?_⟩) rfl (by simp) (by simp; omega)
  · rw [e] at this; exact this
  · match i, hi with
    | 0, hi => cases hi; exact ⟨a3, c3, by rw [World.cell?_alloc_new]; rfl, h3.below hb⟩
    | 1, hi => cases hi; exact ⟨a5, c5, by rw [World.cell?_alloc_new]; rfl, h5.below hb⟩

theorem implPutNode_no (n : Nd) (a : Option Addr) (c : Nat) (w : World) (hb : nodeB n = false) (h : Rd w .i64 a n.cols) (hm : n.cols.length ≤ 17592186044416) (hs : n.name.size ≤ maxLen) :
    Calls Tryz.prog 117 #[.agg #[.int .i64 n.kind, .string n.name, .int .i64 n.col, .int .i64 n.op, .int .i64 n.num, .bool n.slot, .slice a n.cols.length c]] w (Made w 5 .u8 (putNd n)) := by
  rw [putNd_no hb]
  have NK := Lib.hid (fun w h => implNodeOk_any n a c w h hm hs)
  have H := Lib.hid h; have HB := Lib.hid hb; clear h hb
  go_enter Tryz.func117, Tryz.ntmps117
  go_wp2_with fail
  refine (NK.out _ (H.out.below ((Below.refl _ w).alloc (Nat.le_refl _) _))).mono ?_
  rintro e w1 ⟨rfl, b1⟩
  rw [HB.out]
  have B1 := Lib.hid (((Below.refl _ w).alloc (Nat.le_refl _) _).trans (b1.mono (by simp)))
  clear b1
  go_wp2_with fail
  go_ret
  exact ⟨none, 0, rfl, Own.none_, B1.out⟩

set_option maxRecDepth 100000 in
set_option maxHeartbeats 1600000 in
theorem implPutNode_yes (n : Nd) (a : Option Addr) (c : Nat) (w : World) (hb : nodeB n = true) (h : Rd w .i64 a n.cols) (hm : n.cols.length ≤ 17592186044416) (hs : n.name.size ≤ maxLen) :
    Calls Tryz.prog 117 #[.agg #[.int .i64 n.kind, .string n.name, .int .i64 n.col, .int .i64 n.op, .int .i64 n.num, .bool n.slot, .slice a n.cols.length c]] w (Made w 5 .u8 (putNd n)) := by
  have hkk := kind_of_nodeB hb
  have hl : n.cols.length ≤ maxLen := by unfold maxLen; omega
  have hfl := fieldL_len (cols_of_nodeC hb)
  have NK := Lib.hid (fun w h => implNodeOk_any n a c w h hm hs)
  have PF := Lib.hid (fun w h => putFields_any n hkk a c w h hl hs)
  obtain ⟨f, hf⟩ : ∃ f, f = fieldL n := ⟨_, rfl⟩
  obtain ⟨q, hq⟩ : ∃ q, q = putN n.kind := ⟨_, rfl⟩
  have HR : Hid (putNd n = q ++ f) := by show _ = _; rw [putNd_yes hb, hq, hf]
  have PK : Hid (∀ w : World, Calls Tryz.prog 88 #[.int .i64 n.kind] w (Made w 5 .u8 q)) := by rw [hq]; exact fun w => implPutNum_any _ w
  have hql : q.length ≤ 3 := by rw [hq]; exact putN_len _
  rw [← hf] at PF hfl
  obtain ⟨k, name, col, op, num, slot, cols⟩ := n
  simp only at *
  have HB := Lib.hid hb; have H := Lib.hid h
  clear hf hq hb h hkk
  obtain ⟨row, hrow⟩ : ∃ row : Array Value, row = #[.int .i64 k, .string name, .int .i64 col, .int .i64 op, .int .i64 num, .bool slot, .slice a cols.length c] := ⟨_, rfl⟩
  have KP : Hid (∀ w4, Below (w.alloc (.cells #[.int .i64 k, .string name, .int .i64 col, .int .i64 op, .int .i64 num, .bool slot, .slice a cols.length c] 92)).heap.size (w.alloc (.cells #[.int .i64 k, .string name, .int .i64 col, .int .i64 op, .int .i64 num, .bool slot, .slice a cols.length c] 92)) w4 →
      w4.cell? ⟨w.heap.size, 0, none⟩ = some (.int .i64 k) ∧ w4.cell? ⟨w.heap.size, 1, none⟩ = some (.string name) ∧ w4.cell? ⟨w.heap.size, 2, none⟩ = some (.int .i64 col) ∧ w4.cell? ⟨w.heap.size, 3, none⟩ = some (.int .i64 op) ∧ w4.cell? ⟨w.heap.size, 4, none⟩ = some (.int .i64 num) ∧ w4.cell? ⟨w.heap.size, 5, none⟩ = some (.bool slot) ∧ w4.cell? ⟨w.heap.size, 6, none⟩ = some (.slice a cols.length c)) := fun w4 b4 => by
    have hq := fun o => b4.cell (p := ⟨w.heap.size, o, none⟩) (by simp)
    exact ⟨(hq 0).trans ((cell_of_row _ _ _ _ _ _ (heap_alloc_new w _)).trans rfl), (hq 1).trans ((cell_of_row _ _ _ _ _ _ (heap_alloc_new w _)).trans rfl), (hq 2).trans ((cell_of_row _ _ _ _ _ _ (heap_alloc_new w _)).trans rfl), (hq 3).trans ((cell_of_row _ _ _ _ _ _ (heap_alloc_new w _)).trans rfl), (hq 4).trans ((cell_of_row _ _ _ _ _ _ (heap_alloc_new w _)).trans rfl), (hq 5).trans ((cell_of_row _ _ _ _ _ _ (heap_alloc_new w _)).trans rfl), (hq 6).trans ((cell_of_row _ _ _ _ _ _ (heap_alloc_new w _)).trans rfl)⟩
  clear hrow row
  go_enter Tryz.func117, Tryz.ntmps117
  go_wp2_with fail
  refine (NK.out _ (H.out.below ((Below.refl _ w).alloc (Nat.le_refl _) _))).mono ?_
  rintro e w1 ⟨rfl, b1⟩
  rw [HB.out]
  have C1 := Lib.hid b1
  have C2 := Lib.hid b1.drew
  have PF2 : Hid (∀ W, Below (w.alloc (.cells #[.int .i64 k, .string name, .int .i64 col, .int .i64 op, .int .i64 num, .bool slot, .slice a cols.length c] 92)).heap.size (w.alloc (.cells #[.int .i64 k, .string name, .int .i64 col, .int .i64 op, .int .i64 num, .bool slot, .slice a cols.length c] 92)) W → Calls Tryz.prog 195 #[kindV ⟨k, name, col, op, num, slot, cols⟩ a c] W (Made W 5 .u8 f)) :=
    fun W hW => PF.out W (H.out.below (((Below.refl _ w).alloc (Nat.le_refl _) _).trans (hW.mono (by simp))))
  obtain ⟨u0, u1, u2, u3, u4, u5, u6⟩ := KP.out _ b1
  clear b1
  go_wp2_with fail
  go_region_held3 (fun w' => w'.cell? ⟨w.heap.size, 0, none⟩ = some (.int .i64 k) ∧ w'.cell? ⟨w.heap.size, 1, none⟩ = some (.string name) ∧ w'.cell? ⟨w.heap.size, 2, none⟩ = some (.int .i64 col) ∧ w'.cell? ⟨w.heap.size, 3, none⟩ = some (.int .i64 op) ∧ w'.cell? ⟨w.heap.size, 4, none⟩ = some (.int .i64 num) ∧ w'.cell? ⟨w.heap.size, 5, none⟩ = some (.bool slot) ∧ w'.cell? ⟨w.heap.size, 6, none⟩ = some (.slice a cols.length c))
    (first | exact KP.out _ D6 | exact KP.out _ (D5.alloc (by have := D5.size; omega) _) | exact KP.out _ D5 | exact KP.out _ D4 | exact KP.out _ D3 | go_keep)
    (first
      | (go_at_call 88; refine (PK.out _).mono ?_; rintro e w3 ⟨a3, c3, rfl, o3, b3⟩; have D3 := below_step C2.out (Nat.le_refl _) b3)
      | (go_at_call 196; refine (kindOf_any ⟨k, name, col, op, num, slot, cols⟩ a c _).mono ?_; rintro e w4 ⟨rfl, b4⟩; have D4 := below_step D3 (Nat.le_refl _) b4)
      | (go_at_call 195; refine (PF2.out _ D4).mono ?_; rintro e w5 ⟨a5, c5, rfl, o5, b5⟩; have D5 := below_step D4 (Nat.le_refl _) b5)
      | (go_at_call 91; refine (bhd_two w5 _ rfl a3 c3 q a5 c5 f ((o3.below b4).below b5).rd o5.rd (by omega) (by omega)).mono ?_; rintro e w6 ⟨a6, c6, rfl, o6, b6⟩; have D6 := below_step (D5.alloc (by have := D5.size; omega) (.cells #[.slice a3 q.length c3, .slice a5 f.length c5] 22)) (Nat.le_refl _) b6))
  all_goals
    have hz5 := D5.size
    have O6 := Lib.hid (o6.base_le (base' := w.heap.size) (by simp at hz5 ⊢; omega))
    have B6 := Lib.hid (((Below.refl _ w).alloc (Nat.le_refl _) (.cells #[.int .i64 k, .string name, .int .i64 col, .int .i64 op, .int .i64 num, .bool slot, .slice a cols.length c] 92)).trans (D6.mono (by simp)))
    clear o6 b6 D6 D5 D4 D3 o5 b5 b4 o3 b3 hz5
    go_wp2_with fail
    go_ret
    refine ⟨a6, c6, ?_, ?_, B6.out⟩
    · rw [HR.out]; exact ret_slice (by simp)
    · rw [HR.out]; exact O6.out

theorem implPutNode_any (n : Nd) (a : Option Addr) (c : Nat) (w : World) (h : Rd w .i64 a n.cols) (hm : n.cols.length ≤ 17592186044416) (hs : n.name.size ≤ maxLen) :
    Calls Tryz.prog 117 #[.agg #[.int .i64 n.kind, .string n.name, .int .i64 n.col, .int .i64 n.op, .int .i64 n.num, .bool n.slot, .slice a n.cols.length c]] w (Made w 5 .u8 (putNd n)) := by
  cases hb : nodeB n with
  | false => exact implPutNode_no n a c w hb h hm hs
  | true => exact implPutNode_yes n a c w hb h hm hs
end Go.Proofs.YtfpbhedophlnkaaGreatDoor
namespace Go.Proofs.YtfpbhedophlnkaaGreatDoor
open Go.RowKit
set_option linter.unusedSimpArgs false
set_option linter.unusedVariables false

theorem ownB_one {w : World} {base : Nat} {a : Option Addr} {c : Nat} {l : List Int} (h : Own w base 5 .u8 a c l) (hb : base ≤ w.heap.size) : OwnB (w.alloc (.cells #[.slice a l.length c] 22)) base (some ⟨w.heap.size, 0, none⟩) 1 [l] := by
  refine ⟨[.slice a l.length c], ⟨rfl, .inr ⟨w.heap.size, 1, _, rfl, hb, heap_alloc_new w _, Nat.le_refl _, by unfold maxLen; omega, rfl, rfl⟩⟩, rfl, fun i m hi => ?_⟩
  match i, hi with
  | 0, hi => cases hi; exact ⟨a, c, rfl, h.alloc _⟩

end Go.Proofs.YtfpbhedophlnkaaGreatDoor
