/-
  Contracts of spec.l05Put, spec.l05Flag and spec.PutNode: the node's bytes in memory of the call's own; nothing where it is none. For every node.
-/
import Derived.Test.YtfpbhedophlnkaaGreatDoorJ14x
import Derived.Test.YtfpbhedophlnkaaGreatDoorJ20x
import Derived.Test.YtfpbhedophlnkaaGreatDoorJ37x
import Derived.Deep.RegionWith
import Derived.StillTailTactics
import Derived.Deep.RegionHeld3
namespace Go.Proofs.YtfpbhedophlnkaaGreatDoor
open Go.RowKit
set_option linter.unusedSimpArgs false
set_option linter.unusedVariables false

theorem row_rd (w : World) (t : TypeId) (l : List Int) : Rd (w.alloc (.cells (l.map (Value.int .i64)).toArray t)) .i64 (some ⟨w.heap.size, 0, none⟩) l := by
  refine .inr ⟨w.heap.size, 0, rfl, fun i hi => ?_⟩
  rw [Nat.zero_add, cell_of_row _ _ _ _ _ _ (heap_alloc_new w _)]
  simp [hi, List.getD_eq_getElem?_getD]

def LpRel (w wr : World) (B : Nat) (l0 l : List Int) (v i : Value) : Prop :=
  ∃ (ao : Option Addr) (c n j : Nat), v = .slice ao n c ∧ i = .int .i64 j ∧ n = (l0 ++ (l.take j).flatMap putN).length ∧ j ≤ l.length ∧ Own wr B 5 .u8 ao c (l0 ++ (l.take j).flatMap putN) ∧ Below w.heap.size w wr
def PutP (B : Nat) (l : List Int) (w : World) (e : Ending) (w' : World) : Prop :=
  ∃ ao c, e = .returned (.slice ao l.length c) ∧ Own w' B 5 .u8 ao c l ∧ Below w.heap.size w w'

set_option maxRecDepth 100000 in
set_option maxHeartbeats 1600000 in
theorem l05Put_any (B : Nat) (a0 : Option Addr) (d0 n0 : Nat) (l0 : List Int) (b d n : Nat) (l : List Int) (w : World) (h0 : Own w B 5 .u8 a0 d0 l0) (hn0 : n0 = l0.length) (hB : B ≤ w.heap.size)
    (h : Rd w .i64 (some ⟨b, 0, none⟩) l) (hn : n = l.length) (hl : l.length ≤ 10) (hl0 : l0.length ≤ 10) (hpos : 0 < l.length) :
    Calls Tryz.prog 191 #[.slice a0 n0 d0, .slice (some ⟨b, 0, none⟩) n d] w (PutP B (l0 ++ l.flatMap putN) w) := by
  subst hn0; subst hn
  have H0 := Lib.hid h0; have H := Lib.hid h; clear h0 h
  go_enter Tryz.func191, Tryz.ntmps191
  go_wp2_with fail
  go_loopw [0, 5] (fun v i wr => LpRel w wr B l0 l v i) (fun _ i _ => l.length - (intOf i).toNat)
  case atStart => exact ⟨_, _, _, 0, rfl, rfl, by simp, Nat.zero_le _, by simpa using H0.out, Below.refl _ _⟩
  case round =>
    obtain ⟨ao, c, n, j, rfl, rfl, hnn, hj, ho, hb⟩ := hrel
    have hfl := flat_len (l.take j)
    have htl : (l.take j).length ≤ l.length := by simp; omega
    obtain ⟨acc, hacc⟩ : ∃ acc, acc = l0 ++ (l.take j).flatMap putN := ⟨_, rfl⟩
    have hal : acc.length ≤ 40 := by rw [hacc, List.length_append]; omega
    rw [← hacc] at ho hnn
    clear hfl htl
    have HNN := Lib.hid hnn; have HACC := Lib.hid hacc; have HO := Lib.hid ho; have HB := Lib.hid hb; clear hnn hacc ho hb
    by_cases hlt : j < l.length
    · obtain ⟨b', off', heq, hc⟩ : ∃ b' off', (some ⟨b, 0, none⟩ : Option Addr) = some ⟨b', off', none⟩ ∧ ∀ i, i < l.length → wr.cell? ⟨b', off' + i, none⟩ = some (.int .i64 (l.getD i 0)) := by
        rcases H.out.below HB.out with rfl | h'
        · simp at hlt
        · exact h'
      simp only [Option.some.injEq, Addr.mk.injEq, and_true] at heq
      obtain ⟨rfl, rfl⟩ := heq
      obtain ⟨z, _, _, hcz, ht⟩ := Rd.at_ hc hlt
      rw [Nat.zero_add] at hcz
      have HT := Lib.hid ht; clear ht hc
      obtain ⟨q, hq⟩ : ∃ q, q = putN z := ⟨_, rfl⟩
      have hql : q.length ≤ 3 := by rw [hq]; exact putN_len z
      have PZ : Hid (∀ w : World, Calls Tryz.prog 113 #[.int .i64 z] w (Made w 5 .u8 q)) := by rw [hq]; exact fun w => specPutNum_any _ w
      have HQ := Lib.hid hq; clear hq
      go_wp2_with fail
      refine (PZ.out _).mono ?_
      rintro e w2 ⟨a2, c2, rfl, o2, b2⟩
      have O2 := Lib.hid o2; have B2 := Lib.hid b2; clear o2 b2
      have J : Hid (Calls Tryz.prog 114 #[.slice ao n c, .slice a2 q.length c2] w2 (Made w2 5 .u8 (acc ++ q))) := by
        rw [HNN.out]; exact l01Join_any _ _ _ _ _ _ _ (HO.out.below B2.out).rd O2.out.rd (by omega)
      go_wp2_with fail
      refine J.out.mono ?_
      rintro e w3 ⟨a3, c3, rfl, o3, b3⟩
      have O3 := Lib.hid o3; have B3 := Lib.hid b3; clear o3 b3 J
      go_wp2_with fail
      go_roundw
      case rel =>
        have e1 : acc ++ q = l0 ++ (l.take (j + 1)).flatMap putN := by rw [HT.out, HACC.out, HQ.out]; simp [List.flatMap_append]
        have hB' := below_step (below_step HB.out (Nat.le_refl _) B2.out) (Nat.le_refl _) B3.out
        refine ⟨a3, c3, _, j + 1, rfl, by go_num, by rw [← e1]; simp, by omega, ?_, hB'⟩
        rw [← e1]
        exact O3.out.base_le (Nat.le_trans hB (Nat.le_trans HB.out.size B2.out.size))
      case measure => simp [intOf]; omega
    · have e : acc = l0 ++ l.flatMap putN := by rw [HACC.out, List.take_of_length_le (by omega)]
      have HEQ := Lib.hid e; clear e
      go_wp2_with fail
      go_ret
      refine ⟨ao, c, ?_, ?_, HB.out⟩
      · rw [← HEQ.out, HNN.out]; rfl
      · rw [← HEQ.out]; exact HO.out

theorem l05Put_last (B : Nat) (a0 : Option Addr) (d0 : Nat) (l0 l : List Int) (W : World) (h0 : Own W B 5 .u8 a0 d0 l0) (hB : B ≤ W.heap.size) (hl : l.length ≤ 10) (hl0 : l0.length ≤ 10) (hpos : 0 < l.length) :
    Calls Tryz.prog 191 #[.slice a0 l0.length d0, .slice (some ⟨W.heap.size, 0, none⟩) l.length l.length] (W.alloc (.cells (l.map (Value.int .i64)).toArray 3)) (PutP B (l0 ++ l.flatMap putN) (W.alloc (.cells (l.map (Value.int .i64)).toArray 3))) :=
  l05Put_any B a0 d0 _ l0 W.heap.size l.length l.length l _ (h0.alloc _) rfl (by simp; omega) (row_rd W 3 l) rfl hl hl0 hpos

theorem l05Flag_any (b : Bool) (w : World) : Calls Tryz.prog 192 #[.bool b] w fun e w' => e = .returned (.int .i64 (flagI b)) ∧ w = w' := by
  cases b
  all_goals
    go_enter Tryz.func192, Tryz.ntmps192
    go_wp2
    go_ret
    exact ⟨rfl, rfl⟩

theorem l05Flag_still (b : Bool) (w : World) : Calls Tryz.prog 192 #[.bool b] w fun e w' => e = .returned (.int .i64 (flagI b)) ∧ w' = w :=
  (l05Flag_any b w).mono fun _ _ h => ⟨h.1, h.2.symm⟩

theorem specPutNode_no (n : Nd) (a : Option Addr) (c : Nat) (w : World) (hb : nodeB n = false) (h : Rd w .i64 a n.cols) (hl : n.cols.length ≤ maxLen) (hs : n.name.size ≤ maxLen) :
    Calls Tryz.prog 115 #[.agg #[.int .i64 n.kind, .string n.name, .int .i64 n.col, .int .i64 n.op, .int .i64 n.num, .bool n.slot, .slice a n.cols.length c]] w (Made w 5 .u8 (putNd n)) := by
  rw [putNd_no hb]
  have NK := Lib.hid (fun w h => specNodeOk_any n a c w h hl hs)
  have H := Lib.hid h; have HB := Lib.hid hb; clear h hb
  go_enter Tryz.func115, Tryz.ntmps115
  go_wp2_with fail
  refine (NK.out _ (H.out.below ((Below.refl _ w).alloc (Nat.le_refl _) _))).mono ?_
  rintro e w1 ⟨rfl, b1⟩
  rw [HB.out]
  have B1 := Lib.hid (((Below.refl _ w).alloc (Nat.le_refl _) _).trans (b1.mono (by simp)))
  clear b1
  go_wp2_with fail
  go_ret
  exact ⟨none, 0, rfl, Own.none_, B1.out⟩

set_option maxRecDepth 100000 in
set_option maxHeartbeats 1600000 in
theorem specPutNode0 (name : ByteArray) (col op num : Int) (slot : Bool) (cols : List Int) (a : Option Addr) (c : Nat) (w : World) (hb : nodeB ⟨0, name, col, op, num, slot, cols⟩ = true) (h : Rd w .i64 a cols) (hl : cols.length ≤ maxLen) (hs : name.size ≤ maxLen) :
    Calls Tryz.prog 115 #[.agg #[.int .i64 0, .string name, .int .i64 col, .int .i64 op, .int .i64 num, .bool slot, .slice a cols.length c]] w (Made w 5 .u8 (putNd ⟨0, name, col, op, num, slot, cols⟩)) := by
  have NK := Lib.hid (fun w h => specNodeOk_any ⟨0, name, col, op, num, slot, cols⟩ a c w h hl hs)
  obtain ⟨r, hr⟩ : ∃ r, r = putNd ⟨0, name, col, op, num, slot, cols⟩ := ⟨_, rfl⟩
  obtain ⟨q, hq⟩ : ∃ q, q = putN 0 := ⟨_, rfl⟩
  have PK : Hid (∀ w : World, Calls Tryz.prog 113 #[.int .i64 0] w (Made w 5 .u8 q)) := by rw [hq]; exact fun w => specPutNum_any _ w
  have hql : q.length ≤ 3 := by rw [hq]; exact putN_len _
  rw [← hr]
  have HR : Hid (r = q ++ fieldL ⟨0, name, col, op, num, slot, cols⟩) := by show _ = _; rw [hr, hq, putNd_yes hb]
  have H := Lib.hid h; have HB := Lib.hid hb
  clear h hb hr hq
  obtain ⟨f, hf⟩ : ∃ f, f = putW name := ⟨_, rfl⟩
  have PF : Hid (∀ w : World, Calls Tryz.prog 190 #[.string name] w (Made w 5 .u8 f)) := by rw [hf]; exact fun w => specPutWord_any _ w hs
  have hfl : f.length ≤ 15 := by rw [hf]; exact putW_len _
  have HF : Hid (r = q ++ f) := by show _ = _; rw [HR.out, hf]; simp [fieldL]
  clear hf HR
  go_enter Tryz.func115, Tryz.ntmps115
  go_wp2_with fail
  refine (NK.out _ (H.out.below ((Below.refl _ w).alloc (Nat.le_refl _) _))).mono ?_
  rintro e w1 ⟨rfl, b1⟩
  rw [HB.out]
  have hq1 := fun o => b1.cell (p := ⟨w.heap.size, o, none⟩) (by simp)
  have B1 := Lib.hid (((Below.refl _ w).alloc (Nat.le_refl _) _).trans (b1.mono (by simp)))
  have C1 := Lib.hid b1
  clear b1
  go_wp2_with fail
  refine (PK.out _).mono ?_
  rintro e w2 ⟨a2, c2, rfl, o2, b2⟩
  have B2 := Lib.hid (below_step B1.out (Nat.le_refl _) b2)
  have C2 := Lib.hid (below_step C1.out (Nat.le_refl _) b2)
  have hq2 := fun o => C2.out.cell (p := ⟨w.heap.size, o, none⟩) (by simp)
  have O2 := Lib.hid (o2.base_le B1.out.size)
  clear o2 b2 hq1
  go_wp2_with fail
  refine (PF.out _).mono ?_
  rintro e w3 ⟨a3, c3, rfl, o3, b3⟩
  have B3 := Lib.hid (below_step B2.out (Nat.le_refl _) b3)
  have O2' := Lib.hid (O2.out.below b3)
  have O3 := Lib.hid o3
  clear o3 b3
  go_wp2_with fail
  refine (l01Join_any _ _ _ _ _ _ _ O2'.out.rd O3.out.rd (by omega)).mono ?_
  rintro e w4 ⟨a4, c4, rfl, o4, b4⟩
  have B4 := Lib.hid (below_step B3.out (Nat.le_refl _) b4)
  have O4 := Lib.hid (o4.base_le B3.out.size)
  clear o4 b4
  go_wp2_with fail
  go_ret
  refine ⟨a4, c4, ?_, ?_, B4.out⟩
  · rw [HF.out]; exact ret_slice (by simp)
  · rw [HF.out]; exact O4.out

set_option maxRecDepth 100000 in
set_option maxHeartbeats 1600000 in
theorem specPutNode1 (name : ByteArray) (col op num : Int) (slot : Bool) (cols : List Int) (a : Option Addr) (c : Nat) (w : World) (hb : nodeB ⟨1, name, col, op, num, slot, cols⟩ = true) (h : Rd w .i64 a cols) (hl : cols.length ≤ maxLen) (hs : name.size ≤ maxLen) :
    Calls Tryz.prog 115 #[.agg #[.int .i64 1, .string name, .int .i64 col, .int .i64 op, .int .i64 num, .bool slot, .slice a cols.length c]] w (Made w 5 .u8 (putNd ⟨1, name, col, op, num, slot, cols⟩)) := by
  have NK := Lib.hid (fun w h => specNodeOk_any ⟨1, name, col, op, num, slot, cols⟩ a c w h hl hs)
  obtain ⟨r, hr⟩ : ∃ r, r = putNd ⟨1, name, col, op, num, slot, cols⟩ := ⟨_, rfl⟩
  obtain ⟨q, hq⟩ : ∃ q, q = putN 1 := ⟨_, rfl⟩
  have PK : Hid (∀ w : World, Calls Tryz.prog 113 #[.int .i64 1] w (Made w 5 .u8 q)) := by rw [hq]; exact fun w => specPutNum_any _ w
  have hql : q.length ≤ 3 := by rw [hq]; exact putN_len _
  rw [← hr]
  have HR : Hid (r = q ++ fieldL ⟨1, name, col, op, num, slot, cols⟩) := by show _ = _; rw [hr, hq, putNd_yes hb]
  have H := Lib.hid h; have HB := Lib.hid hb
  clear h hb hr hq
  have HF : Hid (r = q ++ [col, op, flagI slot, num].flatMap putN) := by show _ = _; rw [HR.out]; simp [fieldL]
  clear HR
  have FL := Lib.hid (fun w => l05Flag_still slot w)
  obtain ⟨fl, hfl⟩ : ∃ fl, fl = flagI slot := ⟨_, rfl⟩
  rw [← hfl] at FL HF
  clear hfl
  go_enter Tryz.func115, Tryz.ntmps115
  go_wp2_with fail
  refine (NK.out _ (H.out.below ((Below.refl _ w).alloc (Nat.le_refl _) _))).mono ?_
  rintro e w1 ⟨rfl, b1⟩
  rw [HB.out]
  have hq1 := fun o => b1.cell (p := ⟨w.heap.size, o, none⟩) (by simp)
  have B1 := Lib.hid (((Below.refl _ w).alloc (Nat.le_refl _) _).trans (b1.mono (by simp)))
  have C1 := Lib.hid b1
  clear b1
  go_wp2_with fail
  refine (PK.out _).mono ?_
  rintro e w2 ⟨a2, c2, rfl, o2, b2⟩
  have B2 := Lib.hid (below_step B1.out (Nat.le_refl _) b2)
  have C2 := Lib.hid (below_step C1.out (Nat.le_refl _) b2)
  have hq2 := fun o => C2.out.cell (p := ⟨w.heap.size, o, none⟩) (by simp)
  have O2 := Lib.hid (o2.base_le B1.out.size)
  clear o2 b2 hq1
  go_wp2_with fail
  have u2 : w2.cell? ⟨w.heap.size, 2, none⟩ = some (.int .i64 col) := (hq2 2).trans ((cell_of_row _ _ _ _ _ _ (heap_alloc_new w _)).trans rfl)
  have u3 : w2.cell? ⟨w.heap.size, 3, none⟩ = some (.int .i64 op) := (hq2 3).trans ((cell_of_row _ _ _ _ _ _ (heap_alloc_new w _)).trans rfl)
  have u5 : w2.cell? ⟨w.heap.size, 5, none⟩ = some (.bool slot) := (hq2 5).trans ((cell_of_row _ _ _ _ _ _ (heap_alloc_new w _)).trans rfl)
  have u4 : w2.cell? ⟨w.heap.size, 4, none⟩ = some (.int .i64 num) := (hq2 4).trans ((cell_of_row _ _ _ _ _ _ (heap_alloc_new w _)).trans rfl)
  have hz2 := B2.out.size
  have LP := Lib.hid (l05Put_last w.heap.size a2 c2 q [col, op, fl, num] w2.drew (O2.out.below (Below.refl _ w2).drew) (by have := B2.out.size; simp; omega) (by simp) (by omega) (by simp))
  have BD := Lib.hid (below_step B2.out (Nat.le_refl _) (Below.refl _ w2).drew)
  have KP : Hid (∀ w4, Below (w2.drew.alloc (.cells (([col, op, fl, num] : List Int).map (Value.int .i64)).toArray 3)).heap.size (w2.drew.alloc (.cells (([col, op, fl, num] : List Int).map (Value.int .i64)).toArray 3)) w4 → w4.cell? ⟨w.heap.size, 2, none⟩ = some (.int .i64 col) ∧ w4.cell? ⟨w.heap.size, 3, none⟩ = some (.int .i64 op) ∧ w4.cell? ⟨w.heap.size, 5, none⟩ = some (.bool slot) ∧ w4.cell? ⟨w.heap.size, 4, none⟩ = some (.int .i64 num)) := fun w4 b4 => by
    have hB := below_step (below_step C2.out (Nat.le_refl _) (((Below.refl _ w2).drew).alloc (by simp) (.cells (([col, op, fl, num] : List Int).map (Value.int .i64)).toArray 3))) (Nat.le_refl _) b4
    have hq := fun o => hB.cell (p := ⟨w.heap.size, o, none⟩) (by simp)
    exact ⟨(hq 2).trans ((cell_of_row _ _ _ _ _ _ (heap_alloc_new w _)).trans rfl), (hq 3).trans ((cell_of_row _ _ _ _ _ _ (heap_alloc_new w _)).trans rfl), (hq 5).trans ((cell_of_row _ _ _ _ _ _ (heap_alloc_new w _)).trans rfl), (hq 4).trans ((cell_of_row _ _ _ _ _ _ (heap_alloc_new w _)).trans rfl)⟩
  clear hq2
  go_region_held3 (fun w' => w'.cell? ⟨w.heap.size, 2, none⟩ = some (.int .i64 col) ∧ w'.cell? ⟨w.heap.size, 3, none⟩ = some (.int .i64 op) ∧ w'.cell? ⟨w.heap.size, 5, none⟩ = some (.bool slot) ∧ w'.cell? ⟨w.heap.size, 4, none⟩ = some (.int .i64 num)) (first | go_keep | exact KP.out _ b4)
    (first
      | (go_at_call 192; refine (FL.out _).mono ?_; rintro e w' ⟨rfl, rfl⟩)
      | (go_at_call 191; refine LP.out.mono ?_; rintro e w4 ⟨a4, c4, rfl, o4, b4⟩))
  all_goals
    have B4 := Lib.hid (below_step (BD.out.alloc BD.out.size _) (Nat.le_refl _) b4)
    have O4 := Lib.hid o4
    clear o4 b4
    go_wp2_with fail
    go_ret
    refine ⟨a4, c4, ?_, ?_, B4.out⟩
    · rw [HF.out]; exact ret_slice (by simp)
    · rw [HF.out]; exact O4.out

set_option maxRecDepth 100000 in
set_option maxHeartbeats 1600000 in
theorem specPutNode2 (name : ByteArray) (col op num : Int) (slot : Bool) (cols : List Int) (a : Option Addr) (c : Nat) (w : World) (hb : nodeB ⟨2, name, col, op, num, slot, cols⟩ = true) (h : Rd w .i64 a cols) (hl : cols.length ≤ maxLen) (hs : name.size ≤ maxLen) :
    Calls Tryz.prog 115 #[.agg #[.int .i64 2, .string name, .int .i64 col, .int .i64 op, .int .i64 num, .bool slot, .slice a cols.length c]] w (Made w 5 .u8 (putNd ⟨2, name, col, op, num, slot, cols⟩)) := by
  have NK := Lib.hid (fun w h => specNodeOk_any ⟨2, name, col, op, num, slot, cols⟩ a c w h hl hs)
  obtain ⟨r, hr⟩ : ∃ r, r = putNd ⟨2, name, col, op, num, slot, cols⟩ := ⟨_, rfl⟩
  obtain ⟨q, hq⟩ : ∃ q, q = putN 2 := ⟨_, rfl⟩
  have PK : Hid (∀ w : World, Calls Tryz.prog 113 #[.int .i64 2] w (Made w 5 .u8 q)) := by rw [hq]; exact fun w => specPutNum_any _ w
  have hql : q.length ≤ 3 := by rw [hq]; exact putN_len _
  rw [← hr]
  have HR : Hid (r = q ++ fieldL ⟨2, name, col, op, num, slot, cols⟩) := by show _ = _; rw [hr, hq, putNd_yes hb]
  have H := Lib.hid h; have HB := Lib.hid hb
  clear h hb hr hq
  obtain ⟨f, hf⟩ : ∃ f, f = putNs cols := ⟨_, rfl⟩
  have PF : Hid (∀ w : World, Rd w .i64 a cols → Calls Tryz.prog 193 #[.slice a cols.length c] w (Made w 5 .u8 f)) := by rw [hf]; exact fun w h => specPutNums_any a c cols w h hl
  have hfl : f.length ≤ 903 := by rw [hf]; exact putNs_len _
  have HF : Hid (r = q ++ f) := by show _ = _; rw [HR.out, hf]; simp [fieldL]
  clear hf HR
  go_enter Tryz.func115, Tryz.ntmps115
  go_wp2_with fail
  refine (NK.out _ (H.out.below ((Below.refl _ w).alloc (Nat.le_refl _) _))).mono ?_
  rintro e w1 ⟨rfl, b1⟩
  rw [HB.out]
  have hq1 := fun o => b1.cell (p := ⟨w.heap.size, o, none⟩) (by simp)
  have B1 := Lib.hid (((Below.refl _ w).alloc (Nat.le_refl _) _).trans (b1.mono (by simp)))
  have C1 := Lib.hid b1
  clear b1
  go_wp2_with fail
  refine (PK.out _).mono ?_
  rintro e w2 ⟨a2, c2, rfl, o2, b2⟩
  have B2 := Lib.hid (below_step B1.out (Nat.le_refl _) b2)
  have C2 := Lib.hid (below_step C1.out (Nat.le_refl _) b2)
  have hq2 := fun o => C2.out.cell (p := ⟨w.heap.size, o, none⟩) (by simp)
  have O2 := Lib.hid (o2.base_le B1.out.size)
  clear o2 b2 hq1
  go_wp2_with fail
  refine (PF.out _ (H.out.below B2.out)).mono ?_
  rintro e w3 ⟨a3, c3, rfl, o3, b3⟩
  have B3 := Lib.hid (below_step B2.out (Nat.le_refl _) b3)
  have O2' := Lib.hid (O2.out.below b3)
  have O3 := Lib.hid o3
  clear o3 b3
  go_wp2_with fail
  refine (l01Join_any _ _ _ _ _ _ _ O2'.out.rd O3.out.rd (by omega)).mono ?_
  rintro e w4 ⟨a4, c4, rfl, o4, b4⟩
  have B4 := Lib.hid (below_step B3.out (Nat.le_refl _) b4)
  have O4 := Lib.hid (o4.base_le B3.out.size)
  clear o4 b4
  go_wp2_with fail
  go_ret
  refine ⟨a4, c4, ?_, ?_, B4.out⟩
  · rw [HF.out]; exact ret_slice (by simp)
  · rw [HF.out]; exact O4.out

set_option maxRecDepth 100000 in
set_option maxHeartbeats 1600000 in
theorem specPutNode3 (name : ByteArray) (col op num : Int) (slot : Bool) (cols : List Int) (a : Option Addr) (c : Nat) (w : World) (hb : nodeB ⟨3, name, col, op, num, slot, cols⟩ = true) (h : Rd w .i64 a cols) (hl : cols.length ≤ maxLen) (hs : name.size ≤ maxLen) :
    Calls Tryz.prog 115 #[.agg #[.int .i64 3, .string name, .int .i64 col, .int .i64 op, .int .i64 num, .bool slot, .slice a cols.length c]] w (Made w 5 .u8 (putNd ⟨3, name, col, op, num, slot, cols⟩)) := by
  have NK := Lib.hid (fun w h => specNodeOk_any ⟨3, name, col, op, num, slot, cols⟩ a c w h hl hs)
  obtain ⟨r, hr⟩ : ∃ r, r = putNd ⟨3, name, col, op, num, slot, cols⟩ := ⟨_, rfl⟩
  obtain ⟨q, hq⟩ : ∃ q, q = putN 3 := ⟨_, rfl⟩
  have PK : Hid (∀ w : World, Calls Tryz.prog 113 #[.int .i64 3] w (Made w 5 .u8 q)) := by rw [hq]; exact fun w => specPutNum_any _ w
  have hql : q.length ≤ 3 := by rw [hq]; exact putN_len _
  rw [← hr]
  have HR : Hid (r = q ++ fieldL ⟨3, name, col, op, num, slot, cols⟩) := by show _ = _; rw [hr, hq, putNd_yes hb]
  have H := Lib.hid h; have HB := Lib.hid hb
  clear h hb hr hq
  have HF : Hid (r = q ++ [col, num].flatMap putN) := by show _ = _; rw [HR.out]; simp [fieldL]
  clear HR
  go_enter Tryz.func115, Tryz.ntmps115
  go_wp2_with fail
  refine (NK.out _ (H.out.below ((Below.refl _ w).alloc (Nat.le_refl _) _))).mono ?_
  rintro e w1 ⟨rfl, b1⟩
  rw [HB.out]
  have hq1 := fun o => b1.cell (p := ⟨w.heap.size, o, none⟩) (by simp)
  have B1 := Lib.hid (((Below.refl _ w).alloc (Nat.le_refl _) _).trans (b1.mono (by simp)))
  have C1 := Lib.hid b1
  clear b1
  go_wp2_with fail
  refine (PK.out _).mono ?_
  rintro e w2 ⟨a2, c2, rfl, o2, b2⟩
  have B2 := Lib.hid (below_step B1.out (Nat.le_refl _) b2)
  have C2 := Lib.hid (below_step C1.out (Nat.le_refl _) b2)
  have hq2 := fun o => C2.out.cell (p := ⟨w.heap.size, o, none⟩) (by simp)
  have O2 := Lib.hid (o2.base_le B1.out.size)
  clear o2 b2 hq1
  go_wp2_with fail
  refine (l05Put_any w.heap.size a2 c2 _ q w2.heap.size 2 2 [col, num] (w2.alloc (.cells #[.int .i64 col, .int .i64 num] 3)) (O2.out.alloc _) rfl (by have := B2.out.size; simp; omega) (row_rd w2 3 [col, num]) rfl (by simp) (by omega) (by simp)).mono ?_
  rintro e w4 ⟨a4, c4, rfl, o4, b4⟩
  have B4 := Lib.hid (below_step (B2.out.alloc B2.out.size _) (Nat.le_refl _) b4)
  have O4 := Lib.hid o4
  clear o4 b4
  go_wp2_with fail
  go_ret
  refine ⟨a4, c4, ?_, ?_, B4.out⟩
  · rw [HF.out]; exact ret_slice (by simp)
  · rw [HF.out]; exact O4.out

set_option maxRecDepth 100000 in
set_option maxHeartbeats 1600000 in
theorem specPutNode4 (name : ByteArray) (col op num : Int) (slot : Bool) (cols : List Int) (a : Option Addr) (c : Nat) (w : World) (hb : nodeB ⟨4, name, col, op, num, slot, cols⟩ = true) (h : Rd w .i64 a cols) (hl : cols.length ≤ maxLen) (hs : name.size ≤ maxLen) :
    Calls Tryz.prog 115 #[.agg #[.int .i64 4, .string name, .int .i64 col, .int .i64 op, .int .i64 num, .bool slot, .slice a cols.length c]] w (Made w 5 .u8 (putNd ⟨4, name, col, op, num, slot, cols⟩)) := by
  have NK := Lib.hid (fun w h => specNodeOk_any ⟨4, name, col, op, num, slot, cols⟩ a c w h hl hs)
  obtain ⟨r, hr⟩ : ∃ r, r = putNd ⟨4, name, col, op, num, slot, cols⟩ := ⟨_, rfl⟩
  obtain ⟨q, hq⟩ : ∃ q, q = putN 4 := ⟨_, rfl⟩
  have PK : Hid (∀ w : World, Calls Tryz.prog 113 #[.int .i64 4] w (Made w 5 .u8 q)) := by rw [hq]; exact fun w => specPutNum_any _ w
  have hql : q.length ≤ 3 := by rw [hq]; exact putN_len _
  rw [← hr]
  have HR : Hid (r = q ++ fieldL ⟨4, name, col, op, num, slot, cols⟩) := by show _ = _; rw [hr, hq, putNd_yes hb]
  have H := Lib.hid h; have HB := Lib.hid hb
  clear h hb hr hq
  have HF : Hid (r = q) := by show _ = _; rw [HR.out]; simp [fieldL]
  clear HR
  go_enter Tryz.func115, Tryz.ntmps115
  go_wp2_with fail
  refine (NK.out _ (H.out.below ((Below.refl _ w).alloc (Nat.le_refl _) _))).mono ?_
  rintro e w1 ⟨rfl, b1⟩
  rw [HB.out]
  have hq1 := fun o => b1.cell (p := ⟨w.heap.size, o, none⟩) (by simp)
  have B1 := Lib.hid (((Below.refl _ w).alloc (Nat.le_refl _) _).trans (b1.mono (by simp)))
  have C1 := Lib.hid b1
  clear b1
  go_wp2_with fail
  refine (PK.out _).mono ?_
  rintro e w2 ⟨a2, c2, rfl, o2, b2⟩
  have B2 := Lib.hid (below_step B1.out (Nat.le_refl _) b2)
  have C2 := Lib.hid (below_step C1.out (Nat.le_refl _) b2)
  have hq2 := fun o => C2.out.cell (p := ⟨w.heap.size, o, none⟩) (by simp)
  have O2 := Lib.hid (o2.base_le B1.out.size)
  clear o2 b2 hq1
  go_wp2_with fail
  go_ret
  refine ⟨a2, c2, ?_, ?_, B2.out⟩
  · rw [HF.out]; rfl
  · rw [HF.out]; exact O2.out

set_option maxRecDepth 100000 in
set_option maxHeartbeats 1600000 in
theorem specPutNode5 (name : ByteArray) (col op num : Int) (slot : Bool) (cols : List Int) (a : Option Addr) (c : Nat) (w : World) (hb : nodeB ⟨5, name, col, op, num, slot, cols⟩ = true) (h : Rd w .i64 a cols) (hl : cols.length ≤ maxLen) (hs : name.size ≤ maxLen) :
    Calls Tryz.prog 115 #[.agg #[.int .i64 5, .string name, .int .i64 col, .int .i64 op, .int .i64 num, .bool slot, .slice a cols.length c]] w (Made w 5 .u8 (putNd ⟨5, name, col, op, num, slot, cols⟩)) := by
  have NK := Lib.hid (fun w h => specNodeOk_any ⟨5, name, col, op, num, slot, cols⟩ a c w h hl hs)
  obtain ⟨r, hr⟩ : ∃ r, r = putNd ⟨5, name, col, op, num, slot, cols⟩ := ⟨_, rfl⟩
  obtain ⟨q, hq⟩ : ∃ q, q = putN 5 := ⟨_, rfl⟩
  have PK : Hid (∀ w : World, Calls Tryz.prog 113 #[.int .i64 5] w (Made w 5 .u8 q)) := by rw [hq]; exact fun w => specPutNum_any _ w
  have hql : q.length ≤ 3 := by rw [hq]; exact putN_len _
  rw [← hr]
  have HR : Hid (r = q ++ fieldL ⟨5, name, col, op, num, slot, cols⟩) := by show _ = _; rw [hr, hq, putNd_yes hb]
  have H := Lib.hid h; have HB := Lib.hid hb
  clear h hb hr hq
  have HF : Hid (r = q ++ [col].flatMap putN) := by show _ = _; rw [HR.out]; simp [fieldL]
  clear HR
  go_enter Tryz.func115, Tryz.ntmps115
  go_wp2_with fail
  refine (NK.out _ (H.out.below ((Below.refl _ w).alloc (Nat.le_refl _) _))).mono ?_
  rintro e w1 ⟨rfl, b1⟩
  rw [HB.out]
  have hq1 := fun o => b1.cell (p := ⟨w.heap.size, o, none⟩) (by simp)
  have B1 := Lib.hid (((Below.refl _ w).alloc (Nat.le_refl _) _).trans (b1.mono (by simp)))
  have C1 := Lib.hid b1
  clear b1
  go_wp2_with fail
  refine (PK.out _).mono ?_
  rintro e w2 ⟨a2, c2, rfl, o2, b2⟩
  have B2 := Lib.hid (below_step B1.out (Nat.le_refl _) b2)
  have C2 := Lib.hid (below_step C1.out (Nat.le_refl _) b2)
  have hq2 := fun o => C2.out.cell (p := ⟨w.heap.size, o, none⟩) (by simp)
  have O2 := Lib.hid (o2.base_le B1.out.size)
  clear o2 b2 hq1
  go_wp2_with fail
  refine (l05Put_any w.heap.size a2 c2 _ q w2.heap.size 1 1 [col] (w2.alloc (.cells #[.int .i64 col] 3)) (O2.out.alloc _) rfl (by have := B2.out.size; simp; omega) (row_rd w2 3 [col]) rfl (by simp) (by omega) (by simp)).mono ?_
  rintro e w4 ⟨a4, c4, rfl, o4, b4⟩
  have B4 := Lib.hid (below_step (B2.out.alloc B2.out.size _) (Nat.le_refl _) b4)
  have O4 := Lib.hid o4
  clear o4 b4
  go_wp2_with fail
  go_ret
  refine ⟨a4, c4, ?_, ?_, B4.out⟩
  · rw [HF.out]; exact ret_slice (by simp)
  · rw [HF.out]; exact O4.out

set_option maxRecDepth 100000 in
set_option maxHeartbeats 1600000 in
theorem specPutNode6 (name : ByteArray) (col op num : Int) (slot : Bool) (cols : List Int) (a : Option Addr) (c : Nat) (w : World) (hb : nodeB ⟨6, name, col, op, num, slot, cols⟩ = true) (h : Rd w .i64 a cols) (hl : cols.length ≤ maxLen) (hs : name.size ≤ maxLen) :
    Calls Tryz.prog 115 #[.agg #[.int .i64 6, .string name, .int .i64 col, .int .i64 op, .int .i64 num, .bool slot, .slice a cols.length c]] w (Made w 5 .u8 (putNd ⟨6, name, col, op, num, slot, cols⟩)) := by
  have NK := Lib.hid (fun w h => specNodeOk_any ⟨6, name, col, op, num, slot, cols⟩ a c w h hl hs)
  obtain ⟨r, hr⟩ : ∃ r, r = putNd ⟨6, name, col, op, num, slot, cols⟩ := ⟨_, rfl⟩
  obtain ⟨q, hq⟩ : ∃ q, q = putN 6 := ⟨_, rfl⟩
  have PK : Hid (∀ w : World, Calls Tryz.prog 113 #[.int .i64 6] w (Made w 5 .u8 q)) := by rw [hq]; exact fun w => specPutNum_any _ w
  have hql : q.length ≤ 3 := by rw [hq]; exact putN_len _
  rw [← hr]
  have HR : Hid (r = q ++ fieldL ⟨6, name, col, op, num, slot, cols⟩) := by show _ = _; rw [hr, hq, putNd_yes hb]
  have H := Lib.hid h; have HB := Lib.hid hb
  clear h hb hr hq
  have HF : Hid (r = q ++ [flagI slot, num].flatMap putN) := by show _ = _; rw [HR.out]; simp [fieldL]
  clear HR
  have FL := Lib.hid (fun w => l05Flag_still slot w)
  obtain ⟨fl, hfl⟩ : ∃ fl, fl = flagI slot := ⟨_, rfl⟩
  rw [← hfl] at FL HF
  clear hfl
  go_enter Tryz.func115, Tryz.ntmps115
  go_wp2_with fail
  refine (NK.out _ (H.out.below ((Below.refl _ w).alloc (Nat.le_refl _) _))).mono ?_
  rintro e w1 ⟨rfl, b1⟩
  rw [HB.out]
  have hq1 := fun o => b1.cell (p := ⟨w.heap.size, o, none⟩) (by simp)
  have B1 := Lib.hid (((Below.refl _ w).alloc (Nat.le_refl _) _).trans (b1.mono (by simp)))
  have C1 := Lib.hid b1
  clear b1
  go_wp2_with fail
  refine (PK.out _).mono ?_
  rintro e w2 ⟨a2, c2, rfl, o2, b2⟩
  have B2 := Lib.hid (below_step B1.out (Nat.le_refl _) b2)
  have C2 := Lib.hid (below_step C1.out (Nat.le_refl _) b2)
  have hq2 := fun o => C2.out.cell (p := ⟨w.heap.size, o, none⟩) (by simp)
  have O2 := Lib.hid (o2.base_le B1.out.size)
  clear o2 b2 hq1
  go_wp2_with fail
  have u5 : w2.cell? ⟨w.heap.size, 5, none⟩ = some (.bool slot) := (hq2 5).trans ((cell_of_row _ _ _ _ _ _ (heap_alloc_new w _)).trans rfl)
  have u4 : w2.cell? ⟨w.heap.size, 4, none⟩ = some (.int .i64 num) := (hq2 4).trans ((cell_of_row _ _ _ _ _ _ (heap_alloc_new w _)).trans rfl)
  have hz2 := B2.out.size
  have LP := Lib.hid (l05Put_last w.heap.size a2 c2 q [fl, num] w2.drew (O2.out.below (Below.refl _ w2).drew) (by have := B2.out.size; simp; omega) (by simp) (by omega) (by simp))
  have BD := Lib.hid (below_step B2.out (Nat.le_refl _) (Below.refl _ w2).drew)
  have KP : Hid (∀ w4, Below (w2.drew.alloc (.cells (([fl, num] : List Int).map (Value.int .i64)).toArray 3)).heap.size (w2.drew.alloc (.cells (([fl, num] : List Int).map (Value.int .i64)).toArray 3)) w4 → w4.cell? ⟨w.heap.size, 5, none⟩ = some (.bool slot) ∧ w4.cell? ⟨w.heap.size, 4, none⟩ = some (.int .i64 num)) := fun w4 b4 => by
    have hB := below_step (below_step C2.out (Nat.le_refl _) (((Below.refl _ w2).drew).alloc (by simp) (.cells (([fl, num] : List Int).map (Value.int .i64)).toArray 3))) (Nat.le_refl _) b4
    have hq := fun o => hB.cell (p := ⟨w.heap.size, o, none⟩) (by simp)
    exact ⟨(hq 5).trans ((cell_of_row _ _ _ _ _ _ (heap_alloc_new w _)).trans rfl), (hq 4).trans ((cell_of_row _ _ _ _ _ _ (heap_alloc_new w _)).trans rfl)⟩
  clear hq2
  go_region_held3 (fun w' => w'.cell? ⟨w.heap.size, 5, none⟩ = some (.bool slot) ∧ w'.cell? ⟨w.heap.size, 4, none⟩ = some (.int .i64 num)) (first | go_keep | exact KP.out _ b4)
    (first
      | (go_at_call 192; refine (FL.out _).mono ?_; rintro e w' ⟨rfl, rfl⟩)
      | (go_at_call 191; refine LP.out.mono ?_; rintro e w4 ⟨a4, c4, rfl, o4, b4⟩))
  all_goals
    have B4 := Lib.hid (below_step (BD.out.alloc BD.out.size _) (Nat.le_refl _) b4)
    have O4 := Lib.hid o4
    clear o4 b4
    go_wp2_with fail
    go_ret
    refine ⟨a4, c4, ?_, ?_, B4.out⟩
    · rw [HF.out]; exact ret_slice (by simp)
    · rw [HF.out]; exact O4.out

set_option maxRecDepth 100000 in
set_option maxHeartbeats 1600000 in
theorem specPutNode7 (name : ByteArray) (col op num : Int) (slot : Bool) (cols : List Int) (a : Option Addr) (c : Nat) (w : World) (hb : nodeB ⟨7, name, col, op, num, slot, cols⟩ = true) (h : Rd w .i64 a cols) (hl : cols.length ≤ maxLen) (hs : name.size ≤ maxLen) :
    Calls Tryz.prog 115 #[.agg #[.int .i64 7, .string name, .int .i64 col, .int .i64 op, .int .i64 num, .bool slot, .slice a cols.length c]] w (Made w 5 .u8 (putNd ⟨7, name, col, op, num, slot, cols⟩)) := by
  have NK := Lib.hid (fun w h => specNodeOk_any ⟨7, name, col, op, num, slot, cols⟩ a c w h hl hs)
  obtain ⟨r, hr⟩ : ∃ r, r = putNd ⟨7, name, col, op, num, slot, cols⟩ := ⟨_, rfl⟩
  obtain ⟨q, hq⟩ : ∃ q, q = putN 7 := ⟨_, rfl⟩
  have PK : Hid (∀ w : World, Calls Tryz.prog 113 #[.int .i64 7] w (Made w 5 .u8 q)) := by rw [hq]; exact fun w => specPutNum_any _ w
  have hql : q.length ≤ 3 := by rw [hq]; exact putN_len _
  rw [← hr]
  have HR : Hid (r = q ++ fieldL ⟨7, name, col, op, num, slot, cols⟩) := by show _ = _; rw [hr, hq, putNd_yes hb]
  have H := Lib.hid h; have HB := Lib.hid hb
  clear h hb hr hq
  have HF : Hid (r = q) := by show _ = _; rw [HR.out]; simp [fieldL]
  clear HR
  go_enter Tryz.func115, Tryz.ntmps115
  go_wp2_with fail
  refine (NK.out _ (H.out.below ((Below.refl _ w).alloc (Nat.le_refl _) _))).mono ?_
  rintro e w1 ⟨rfl, b1⟩
  rw [HB.out]
  have hq1 := fun o => b1.cell (p := ⟨w.heap.size, o, none⟩) (by simp)
  have B1 := Lib.hid (((Below.refl _ w).alloc (Nat.le_refl _) _).trans (b1.mono (by simp)))
  have C1 := Lib.hid b1
  clear b1
  go_wp2_with fail
  refine (PK.out _).mono ?_
  rintro e w2 ⟨a2, c2, rfl, o2, b2⟩
  have B2 := Lib.hid (below_step B1.out (Nat.le_refl _) b2)
  have C2 := Lib.hid (below_step C1.out (Nat.le_refl _) b2)
  have hq2 := fun o => C2.out.cell (p := ⟨w.heap.size, o, none⟩) (by simp)
  have O2 := Lib.hid (o2.base_le B1.out.size)
  clear o2 b2 hq1
  go_wp2_with fail
  go_ret
  refine ⟨a2, c2, ?_, ?_, B2.out⟩
  · rw [HF.out]; rfl
  · rw [HF.out]; exact O2.out

theorem specPutNode_any (n : Nd) (a : Option Addr) (c : Nat) (w : World) (h : Rd w .i64 a n.cols) (hl : n.cols.length ≤ maxLen) (hs : n.name.size ≤ maxLen) :
    Calls Tryz.prog 115 #[.agg #[.int .i64 n.kind, .string n.name, .int .i64 n.col, .int .i64 n.op, .int .i64 n.num, .bool n.slot, .slice a n.cols.length c]] w (Made w 5 .u8 (putNd n)) := by
  cases hb : nodeB n with
  | false => exact specPutNode_no n a c w hb h hl hs
  | true =>
    have hk := kind_of_nodeB hb
    obtain ⟨k, name, col, op, num, slot, cols⟩ := n
    have hc : k = 0 ∨ k = 1 ∨ k = 2 ∨ k = 3 ∨ k = 4 ∨ k = 5 ∨ k = 6 ∨ k = 7 := by simp only at hk; omega
    rcases hc with rfl | rfl | rfl | rfl | rfl | rfl | rfl | rfl
    · exact specPutNode0 name col op num slot cols a c w hb h hl hs
    · exact specPutNode1 name col op num slot cols a c w hb h hl hs
    · exact specPutNode2 name col op num slot cols a c w hb h hl hs
    · exact specPutNode3 name col op num slot cols a c w hb h hl hs
    · exact specPutNode4 name col op num slot cols a c w hb h hl hs
    · exact specPutNode5 name col op num slot cols a c w hb h hl hs
    · exact specPutNode6 name col op num slot cols a c w hb h hl hs
    · exact specPutNode7 name col op num slot cols a c w hb h hl hs
end Go.Proofs.YtfpbhedophlnkaaGreatDoor
