/-
  Contract of the program's reader of what stands behind a node's kind. For every slice of bytes and every kind.
-/
import Derived.Test.YtfpbhedophlnkaaGreatDoorKT2
import Derived.Test.YtfpbhedophlnkaaGreatDoorKH
namespace Go.Proofs.YtfpbhedophlnkaaGreatDoor
open Go.RowKit
set_option linter.unusedSimpArgs false
set_option linter.unusedVariables false

def TookNd (n : Nd) (R : Nat) (b : Option Addr) (d : Nat) (l : List Int) (s : Option Int) (w : World) (e : Ending) (w' : World) : Prop :=
  ∃ a c, e = .returned (.agg #[.int .i64 n.kind, .string n.name, .int .i64 n.col, .int .i64 n.op, .int .i64 n.num, .bool n.slot, .slice a n.cols.length c]) ∧ Own w' w.heap.size 3 .i64 a c n.cols ∧ Rdr w' R b d l s ∧ w.grownBy w' (some R)
def Z0 : Array Value := #[.int .i64 0, .string ⟨#[]⟩, .int .i64 0, .int .i64 0, .int .i64 0, .bool false, .slice none 0 0]
def WF (w : World) (k : Int) : World := (w.alloc (.cells #[.int .i64 0, .string ⟨#[]⟩, .int .i64 0, .int .i64 0, .int .i64 0, .bool false, .slice none 0 0] 92)).alloc (.cells #[.int .i64 k, .string ⟨#[]⟩, .int .i64 0, .int .i64 0, .int .i64 0, .bool false, .slice none 0 0] 92)
theorem WF_below (w : World) (k : Int) : Below w.heap.size w (WF w k) := ((Below.refl _ w).alloc (Nat.le_refl _) _).alloc (by simp) _
theorem WF_size (w : World) (k : Int) : (WF w k).heap.size = w.heap.size + 2 := by simp [WF]

set_option maxRecDepth 100000 in
set_option maxHeartbeats 1600000 in
theorem rFields0 (R : Nat) (b : Option Addr) (d : Nat) (l : List Int) (s : Option Int) (w : World) (h : Rdr w R b d l s) :
    Calls Tryz.prog 197 #[.pointer (some ⟨R, 0, none⟩), .int .i64 0] w (TookNd (fieldR l 0 s).1 R b d l (fieldR l 0 s).2 w) := by
  have T1 := Lib.hid (fun W (h : Rdr W R b d l s) => rWord_any R b d l s W h)
  obtain ⟨⟨x1, s1⟩, hx1⟩ : ∃ r, r = wordR l s := ⟨_, rfl⟩
  rw [← hx1] at T1
  have FR : fieldR l 0 s = (⟨0, x1, 0, 0, 0, false, []⟩, s1) := by simp [fieldR, ← hx1]
  rw [FR]
  clear FR hx1
  have hR := h.lt
  have HBT := Lib.hid h.bytes
  have H := Lib.hid (h.below (WF_below w 0))
  have z0 := WF_size w 0
  clear h
  unfold WF at H z0
  go_enter Tryz.func197, Tryz.ntmps197
  go_wp2_with fail
  refine (T1.out _ H.out).mono ?_
  rintro e w1 ⟨rfl, h1, g1⟩
  have H1 := Lib.hid h1; have G1 := Lib.hid g1
  clear h1 g1
  obtain ⟨hc0, hf0⟩ := gcell G1.out (X := w.heap.size) (by omega) (by omega)
  obtain ⟨hc1, hf1⟩ := gcell G1.out (X := w.heap.size + 1) (by omega) (by omega)
  have GW := Lib.hid (below_grownBy (WF_below w 0) (show (WF w 0).grownBy w1 (some R) from G1.out))
  go_wp2_with fail
  refine bodyPost_ret (v := .agg #[.int .i64 0, .string x1, .int .i64 0, .int .i64 0, .int .i64 0, .bool false, .slice none 0 0]) (by simp [results, Tryz.results197, go_sem, hc0]) rfl ⟨none, 0, rfl, Own.none_, H1.out.belowB hR HBT.out ?_, grownBy_belowB GW.out ?_⟩
  all_goals
    repeat (refine Below.setCell ?_ (by simp; try omega) _)
    exact Below.refl _ _

set_option maxRecDepth 100000 in
set_option maxHeartbeats 1600000 in
theorem rFields1 (R : Nat) (b : Option Addr) (d : Nat) (l : List Int) (s : Option Int) (w : World) (h : Rdr w R b d l s) :
    Calls Tryz.prog 197 #[.pointer (some ⟨R, 0, none⟩), .int .i64 1] w (TookNd (fieldR l 1 s).1 R b d l (fieldR l 1 s).2 w) := by
  have T1 := Lib.hid (fun W (h : Rdr W R b d l s) => rNum_any R b d l s W h)
  obtain ⟨⟨x1, s1⟩, hx1⟩ : ∃ r, r = numR l s := ⟨_, rfl⟩
  rw [← hx1] at T1
  have T2 := Lib.hid (fun W (h : Rdr W R b d l s1) => rNum_any R b d l s1 W h)
  obtain ⟨⟨x2, s2⟩, hx2⟩ : ∃ r, r = numR l s1 := ⟨_, rfl⟩
  rw [← hx2] at T2
  have T3 := Lib.hid (fun W (h : Rdr W R b d l s2) => rFlag_any R b d l s2 W h)
  obtain ⟨⟨x3, s3⟩, hx3⟩ : ∃ r, r = flagR l s2 := ⟨_, rfl⟩
  rw [← hx3] at T3
  have T4 := Lib.hid (fun W (h : Rdr W R b d l s3) => rNum_any R b d l s3 W h)
  obtain ⟨⟨x4, s4⟩, hx4⟩ : ∃ r, r = numR l s3 := ⟨_, rfl⟩
  rw [← hx4] at T4
  have FR : fieldR l 1 s = (⟨1, ⟨#[]⟩, x1, x2, x4, x3, []⟩, s4) := by simp [fieldR, ← hx1, ← hx2, ← hx3, ← hx4]
  rw [FR]
  clear FR hx1 hx2 hx3 hx4
  have hR := h.lt
  have HBT := Lib.hid h.bytes
  have H := Lib.hid (h.below (WF_below w 1))
  have z0 := WF_size w 1
  clear h
  unfold WF at H z0
  go_enter Tryz.func197, Tryz.ntmps197
  go_wp2_with fail
  refine (T1.out _ H.out).mono ?_
  rintro e w1 ⟨rfl, h1, g1⟩
  have H1 := Lib.hid h1; have G1 := Lib.hid g1
  clear h1 g1
  go_wp2_with fail
  refine (T2.out _ H1.out).mono ?_
  rintro e w2 ⟨rfl, h2, g2⟩
  have H2 := Lib.hid h2; have G2 := Lib.hid (grownBy_trans G1.out g2)
  clear h2 g2
  go_wp2_with fail
  refine (T3.out _ H2.out).mono ?_
  rintro e w3 ⟨rfl, h3, g3⟩
  have H3 := Lib.hid h3; have G3 := Lib.hid (grownBy_trans G2.out g3)
  clear h3 g3
  go_wp2_with fail
  refine (T4.out _ H3.out).mono ?_
  rintro e w4 ⟨rfl, h4, g4⟩
  have H4 := Lib.hid h4; have G4 := Lib.hid (grownBy_trans G3.out g4)
  clear h4 g4
  obtain ⟨hc0, hf0⟩ := gcell G4.out (X := w.heap.size) (by omega) (by omega)
  obtain ⟨hc1, hf1⟩ := gcell G4.out (X := w.heap.size + 1) (by omega) (by omega)
  have GW := Lib.hid (below_grownBy (WF_below w 1) (show (WF w 1).grownBy w4 (some R) from G4.out))
  go_wp2_with fail
  refine bodyPost_ret (v := .agg #[.int .i64 1, .string ⟨#[]⟩, .int .i64 x1, .int .i64 x2, .int .i64 x4, .bool x3, .slice none 0 0]) (by simp [results, Tryz.results197, go_sem, hc0]) rfl ⟨none, 0, rfl, Own.none_, H4.out.belowB hR HBT.out ?_, grownBy_belowB GW.out ?_⟩
  all_goals
    repeat (refine Below.setCell ?_ (by simp; try omega) _)
    exact Below.refl _ _

set_option maxRecDepth 100000 in
set_option maxHeartbeats 1600000 in
theorem rFields2 (R : Nat) (b : Option Addr) (d : Nat) (l : List Int) (s : Option Int) (w : World) (h : Rdr w R b d l s) :
    Calls Tryz.prog 197 #[.pointer (some ⟨R, 0, none⟩), .int .i64 2] w (TookNd (fieldR l 2 s).1 R b d l (fieldR l 2 s).2 w) := by
  have T1 := Lib.hid (fun W (h : Rdr W R b d l s) => rList_any R b d l s W h)
  obtain ⟨⟨x1, s1⟩, hx1⟩ : ∃ r, r = listR l s := ⟨_, rfl⟩
  rw [← hx1] at T1
  have FR : fieldR l 2 s = (⟨2, ⟨#[]⟩, 0, 0, 0, false, x1⟩, s1) := by simp [fieldR, ← hx1]
  rw [FR]
  clear FR hx1
  have hR := h.lt
  have HBT := Lib.hid h.bytes
  have H := Lib.hid (h.below (WF_below w 2))
  have z0 := WF_size w 2
  clear h
  unfold WF at H z0
  go_enter Tryz.func197, Tryz.ntmps197
  go_wp2_with fail
  refine (T1.out _ H.out).mono ?_
  rintro e w1 ⟨ao, co, rfl, ho, h1, g1⟩
  have H1 := Lib.hid h1; have G1 := Lib.hid g1
  clear h1 g1
  have HO := Lib.hid ho; clear ho
  have HOL := Lib.hid (fun x hx => (HO.out.lt x hx).1)
  obtain ⟨hc0, hf0⟩ := gcell G1.out (X := w.heap.size) (by omega) (by omega)
  obtain ⟨hc1, hf1⟩ := gcell G1.out (X := w.heap.size + 1) (by omega) (by omega)
  have GW := Lib.hid (below_grownBy (WF_below w 2) (show (WF w 2).grownBy w1 (some R) from G1.out))
  go_wp2_with fail
  refine bodyPost_ret (v := .agg #[.int .i64 2, .string ⟨#[]⟩, .int .i64 0, .int .i64 0, .int .i64 0, .bool false, .slice ao x1.length co]) (by simp [results, Tryz.results197, go_sem, hc0]) rfl ⟨ao, co, rfl, ?_, H1.out.belowB hR HBT.out ?_, grownBy_belowB GW.out ?_⟩
  · refine Own.base_le (base := w.heap.size + 1 + 1) ?_ (by omega)
    repeat (refine Own.far ?_ (fun x hx => by have := HOL.out x hx; simp at this ⊢; omega) _)
    exact HO.out.base_le (by simp)
  all_goals
    repeat (refine Below.setCell ?_ (by simp; try omega) _)
    exact Below.refl _ _

set_option maxRecDepth 100000 in
set_option maxHeartbeats 1600000 in
theorem rFields3 (R : Nat) (b : Option Addr) (d : Nat) (l : List Int) (s : Option Int) (w : World) (h : Rdr w R b d l s) :
    Calls Tryz.prog 197 #[.pointer (some ⟨R, 0, none⟩), .int .i64 3] w (TookNd (fieldR l 3 s).1 R b d l (fieldR l 3 s).2 w) := by
  have T1 := Lib.hid (fun W (h : Rdr W R b d l s) => rNum_any R b d l s W h)
  obtain ⟨⟨x1, s1⟩, hx1⟩ : ∃ r, r = numR l s := ⟨_, rfl⟩
  rw [← hx1] at T1
  have T2 := Lib.hid (fun W (h : Rdr W R b d l s1) => rNum_any R b d l s1 W h)
  obtain ⟨⟨x2, s2⟩, hx2⟩ : ∃ r, r = numR l s1 := ⟨_, rfl⟩
  rw [← hx2] at T2
  have FR : fieldR l 3 s = (⟨3, ⟨#[]⟩, x1, 0, x2, false, []⟩, s2) := by simp [fieldR, ← hx1, ← hx2]
  rw [FR]
  clear FR hx1 hx2
  have hR := h.lt
  have HBT := Lib.hid h.bytes
  have H := Lib.hid (h.below (WF_below w 3))
  have z0 := WF_size w 3
  clear h
  unfold WF at H z0
  go_enter Tryz.func197, Tryz.ntmps197
  go_wp2_with fail
  refine (T1.out _ H.out).mono ?_
  rintro e w1 ⟨rfl, h1, g1⟩
  have H1 := Lib.hid h1; have G1 := Lib.hid g1
  clear h1 g1
  go_wp2_with fail
  refine (T2.out _ H1.out).mono ?_
  rintro e w2 ⟨rfl, h2, g2⟩
  have H2 := Lib.hid h2; have G2 := Lib.hid (grownBy_trans G1.out g2)
  clear h2 g2
  obtain ⟨hc0, hf0⟩ := gcell G2.out (X := w.heap.size) (by omega) (by omega)
  obtain ⟨hc1, hf1⟩ := gcell G2.out (X := w.heap.size + 1) (by omega) (by omega)
  have GW := Lib.hid (below_grownBy (WF_below w 3) (show (WF w 3).grownBy w2 (some R) from G2.out))
  go_wp2_with fail
  refine bodyPost_ret (v := .agg #[.int .i64 3, .string ⟨#[]⟩, .int .i64 x1, .int .i64 0, .int .i64 x2, .bool false, .slice none 0 0]) (by simp [results, Tryz.results197, go_sem, hc0]) rfl ⟨none, 0, rfl, Own.none_, H2.out.belowB hR HBT.out ?_, grownBy_belowB GW.out ?_⟩
  all_goals
    repeat (refine Below.setCell ?_ (by simp; try omega) _)
    exact Below.refl _ _

set_option maxRecDepth 100000 in
set_option maxHeartbeats 1600000 in
theorem rFields5 (R : Nat) (b : Option Addr) (d : Nat) (l : List Int) (s : Option Int) (w : World) (h : Rdr w R b d l s) :
    Calls Tryz.prog 197 #[.pointer (some ⟨R, 0, none⟩), .int .i64 5] w (TookNd (fieldR l 5 s).1 R b d l (fieldR l 5 s).2 w) := by
  have T1 := Lib.hid (fun W (h : Rdr W R b d l s) => rNum_any R b d l s W h)
  obtain ⟨⟨x1, s1⟩, hx1⟩ : ∃ r, r = numR l s := ⟨_, rfl⟩
  rw [← hx1] at T1
  have FR : fieldR l 5 s = (⟨5, ⟨#[]⟩, x1, 0, 0, false, []⟩, s1) := by simp [fieldR, ← hx1]
  rw [FR]
  clear FR hx1
  have hR := h.lt
  have HBT := Lib.hid h.bytes
  have H := Lib.hid (h.below (WF_below w 5))
  have z0 := WF_size w 5
  clear h
  unfold WF at H z0
  go_enter Tryz.func197, Tryz.ntmps197
  go_wp2_with fail
  refine (T1.out _ H.out).mono ?_
  rintro e w1 ⟨rfl, h1, g1⟩
  have H1 := Lib.hid h1; have G1 := Lib.hid g1
  clear h1 g1
  obtain ⟨hc0, hf0⟩ := gcell G1.out (X := w.heap.size) (by omega) (by omega)
  obtain ⟨hc1, hf1⟩ := gcell G1.out (X := w.heap.size + 1) (by omega) (by omega)
  have GW := Lib.hid (below_grownBy (WF_below w 5) (show (WF w 5).grownBy w1 (some R) from G1.out))
  go_wp2_with fail
  refine bodyPost_ret (v := .agg #[.int .i64 5, .string ⟨#[]⟩, .int .i64 x1, .int .i64 0, .int .i64 0, .bool false, .slice none 0 0]) (by simp [results, Tryz.results197, go_sem, hc0]) rfl ⟨none, 0, rfl, Own.none_, H1.out.belowB hR HBT.out ?_, grownBy_belowB GW.out ?_⟩
  all_goals
    repeat (refine Below.setCell ?_ (by simp; try omega) _)
    exact Below.refl _ _

set_option maxRecDepth 100000 in
set_option maxHeartbeats 1600000 in
theorem rFields6 (R : Nat) (b : Option Addr) (d : Nat) (l : List Int) (s : Option Int) (w : World) (h : Rdr w R b d l s) :
    Calls Tryz.prog 197 #[.pointer (some ⟨R, 0, none⟩), .int .i64 6] w (TookNd (fieldR l 6 s).1 R b d l (fieldR l 6 s).2 w) := by
  have T1 := Lib.hid (fun W (h : Rdr W R b d l s) => rFlag_any R b d l s W h)
  obtain ⟨⟨x1, s1⟩, hx1⟩ : ∃ r, r = flagR l s := ⟨_, rfl⟩
  rw [← hx1] at T1
  have T2 := Lib.hid (fun W (h : Rdr W R b d l s1) => rNum_any R b d l s1 W h)
  obtain ⟨⟨x2, s2⟩, hx2⟩ : ∃ r, r = numR l s1 := ⟨_, rfl⟩
  rw [← hx2] at T2
  have FR : fieldR l 6 s = (⟨6, ⟨#[]⟩, 0, 0, x2, x1, []⟩, s2) := by simp [fieldR, ← hx1, ← hx2]
  rw [FR]
  clear FR hx1 hx2
  have hR := h.lt
  have HBT := Lib.hid h.bytes
  have H := Lib.hid (h.below (WF_below w 6))
  have z0 := WF_size w 6
  clear h
  unfold WF at H z0
  go_enter Tryz.func197, Tryz.ntmps197
  go_wp2_with fail
  refine (T1.out _ H.out).mono ?_
  rintro e w1 ⟨rfl, h1, g1⟩
  have H1 := Lib.hid h1; have G1 := Lib.hid g1
  clear h1 g1
  go_wp2_with fail
  refine (T2.out _ H1.out).mono ?_
  rintro e w2 ⟨rfl, h2, g2⟩
  have H2 := Lib.hid h2; have G2 := Lib.hid (grownBy_trans G1.out g2)
  clear h2 g2
  obtain ⟨hc0, hf0⟩ := gcell G2.out (X := w.heap.size) (by omega) (by omega)
  obtain ⟨hc1, hf1⟩ := gcell G2.out (X := w.heap.size + 1) (by omega) (by omega)
  have GW := Lib.hid (below_grownBy (WF_below w 6) (show (WF w 6).grownBy w2 (some R) from G2.out))
  go_wp2_with fail
  refine bodyPost_ret (v := .agg #[.int .i64 6, .string ⟨#[]⟩, .int .i64 0, .int .i64 0, .int .i64 x2, .bool x1, .slice none 0 0]) (by simp [results, Tryz.results197, go_sem, hc0]) rfl ⟨none, 0, rfl, Own.none_, H2.out.belowB hR HBT.out ?_, grownBy_belowB GW.out ?_⟩
  all_goals
    repeat (refine Below.setCell ?_ (by simp; try omega) _)
    exact Below.refl _ _

theorem fieldR_out {k : Int} (h : k = 4 ∨ k = 7 ∨ k < 0 ∨ 7 < k) (l : List Int) (s : Option Int) : fieldR l k s = (⟨k, ⟨#[]⟩, 0, 0, 0, false, []⟩, s) := by
  unfold fieldR
  rw [if_neg (by omega), if_neg (by omega), if_neg (by omega), if_neg (by omega), if_neg (by omega), if_neg (by omega)]
set_option maxRecDepth 100000 in
set_option maxHeartbeats 1600000 in
theorem rFieldsOut (k : Int) (hk : k = 4 ∨ k = 7 ∨ k < 0 ∨ 7 < k) (R : Nat) (b : Option Addr) (d : Nat) (l : List Int) (s : Option Int) (w : World) (h : Rdr w R b d l s) :
    Calls Tryz.prog 197 #[.pointer (some ⟨R, 0, none⟩), .int .i64 k] w (TookNd (fieldR l k s).1 R b d l (fieldR l k s).2 w) := by
  rw [fieldR_out hk]
  have HW := Lib.hid h
  have h0 : (k == 0) = false := beq_eq_false_iff_ne.2 (by omega)
  have h1 : (k == 1) = false := beq_eq_false_iff_ne.2 (by omega)
  have h2 : (k == 2) = false := beq_eq_false_iff_ne.2 (by omega)
  have h3 : (k == 3) = false := beq_eq_false_iff_ne.2 (by omega)
  have h5 : (k == 5) = false := beq_eq_false_iff_ne.2 (by omega)
  have h6 : (k == 6) = false := beq_eq_false_iff_ne.2 (by omega)
  clear h hk
  go_enter Tryz.func197, Tryz.ntmps197
  go_wp2_with fail
  refine bodyPost_ret (v := .agg #[.int .i64 k, .string ⟨#[]⟩, .int .i64 0, .int .i64 0, .int .i64 0, .bool false, .slice none 0 0]) (by simp [results, Tryz.results197, go_sem]) rfl ⟨none, 0, rfl, Own.none_, HW.out.below ?_, grownBy_below (World.grownBy.refl _ _) ?_⟩
  all_goals exact ((Below.refl _ w).alloc (Nat.le_refl _) _).alloc (by simp) _

theorem rFields_any (k : Int) (R : Nat) (b : Option Addr) (d : Nat) (l : List Int) (s : Option Int) (w : World) (h : Rdr w R b d l s) :
    Calls Tryz.prog 197 #[.pointer (some ⟨R, 0, none⟩), .int .i64 k] w (TookNd (fieldR l k s).1 R b d l (fieldR l k s).2 w) := by
  have hc : k = 0 ∨ k = 1 ∨ k = 2 ∨ k = 3 ∨ k = 5 ∨ k = 6 ∨ (k = 4 ∨ k = 7 ∨ k < 0 ∨ 7 < k) := by omega
  rcases hc with rfl | rfl | rfl | rfl | rfl | rfl | hk
  · exact rFields0 R b d l s w h
  · exact rFields1 R b d l s w h
  · exact rFields2 R b d l s w h
  · exact rFields3 R b d l s w h
  · exact rFields5 R b d l s w h
  · exact rFields6 R b d l s w h
  · exact rFieldsOut k hk R b d l s w h
end Go.Proofs.YtfpbhedophlnkaaGreatDoor
