/-
  Contract of the program's reader of what stands behind a node's kind. For every slice of bytes and every kind. Contract of the program's reader of a node. For every slice of bytes and every place.
-/
import Derived.Test.YtfpbhedophlnkaaGreatDoorJ41x
import Derived.Test.YtfpbhedophlnkaaGreatDoorJ17x
import Derived.Test.YtfpbhedophlnkaaGreatDoorJ42x
import Derived.Test.YtfpbhedophlnkaaGreatDoorJ13x
import Derived.Test.YtfpbhedophlnkaaGreatDoorJ25x
namespace Go.Proofs.YtfpbhedophlnkaaGreatDoor
open Go.RowKit
set_option linter.unusedSimpArgs false
set_option linter.unusedVariables false

def TookNd (n : Nd) (R : Nat) (b : Option Addr) (d : Nat) (l : List Int) (s : Option Int) (w : World) (e : Ending) (w' : World) : Prop :=
  ∃ a c, e = .returned (.agg #[.int .i64 n.kind, .string n.name, .int .i64 n.col, .int .i64 n.op, .int .i64 n.num, .bool n.slot, .slice a n.cols.length c]) ∧ Own w' w.heap.size 3 .i64 a c n.cols ∧ Rdr w' R b d l s ∧ w.grownBy w' (some R)
def Z0 : Array Value := #[.int .i64 0, .string ⟨#[]⟩, .int .i64 0, .int .i64 0, .int .i64 0, .bool false, .slice none 0 0]
def WF (w : World) (k : Int) : World := (w.alloc (.cells #[.int .i64 0, .string ⟨#[]⟩, .int .i64 0, .int .i64 0, .int .i64 0, .bool false, .slice none 0 0] 92)).alloc (.cells #[.int .i64 k, .string ⟨#[]⟩, .int .i64 0, .int .i64 0, .int .i64 0, .bool false, .slice none 0 0] 92)
theorem WF_below (w : World) (k : Int) : Below w.heap.size w (WF w k) := ((Below.refl _ w).alloc (Nat.le_refl _) _).alloc (by simp) _
theorem WF_size (w : World) (k : Int) : (WF w k).heap.size = w.heap.size + 2 := by simp [WF]

set_option maxRecDepth 100000 in
set_option maxHeartbeats 1600000 in
theorem rFields0 (R : Nat) (b : Option Addr) (d : Nat) (l : List Int) (s : Option Int) (w : World) (h : Rdr w R b d l s) :
    Calls Tryz.prog 197 #[.pointer (some ⟨R, 0, none⟩), .int .i64 0] w (TookNd (fieldR l 0 s).1 R b d l (fieldR l 0 s).2 w) := by
  have T1 := Lib.hid (fun W (h : Rdr W R b d l s) => rWord_any R b d l s W h)
  obtain ⟨⟨x1, s1⟩, hx1⟩ : ∃ r, r = wordR l s := ⟨_, rfl⟩
  rw [← hx1] at T1
  have FR : fieldR l 0 s = (⟨0, x1, 0, 0, 0, false, []⟩, s1) := by simp [fieldR, ← hx1]
  rw [FR]
  clear FR hx1
  have hR := h.lt
  have HBT := Lib.hid h.bytes
  have H := Lib.hid (h.below (WF_below w 0))
  have z0 := WF_size w 0
  clear h
  unfold WF at H z0
  go_enter Tryz.func197, Tryz.ntmps197
  go_wp2_with fail
  refine (T1.out _ H.out).mono ?_
  rintro e w1 ⟨rfl, h1, g1⟩
  have H1 := Lib.hid h1; have G1 := Lib.hid g1
  clear h1 g1
  obtain ⟨hc0, hf0⟩ := gcell G1.out (X := w.heap.size) (by omega) (by omega)
  obtain ⟨hc1, hf1⟩ := gcell G1.out (X := w.heap.size + 1) (by omega) (by omega)
  have GW := Lib.hid (below_grownBy (WF_below w 0) (show (WF w 0).grownBy w1 (some R) from G1.out))
  go_wp2_with fail
  refine bodyPost_ret (v := .agg #[.int .i64 0, .string x1, .int .i64 0, .int .i64 0, .int .i64 0, .bool false, .slice none 0 0]) (by simp [results, Tryz.results197, go_sem, hc0]) rfl ⟨none, 0, rfl, Own.none_, H1.out.belowB hR HBT.out ?_, grownBy_belowB GW.out ?_⟩
  all_goals
    repeat (refine Below.setCell ?_ (by simp; try omega) _)
    exact Below.refl _ _

set_option maxRecDepth 100000 in
set_option maxHeartbeats 1600000 in
theorem rFields1 (R : Nat) (b : Option Addr) (d : Nat) (l : List Int) (s : Option Int) (w : World) (h : Rdr w R b d l s) :
    Calls Tryz.prog 197 #[.pointer (some ⟨R, 0, none⟩), .int .i64 1] w (TookNd (fieldR l 1 s).1 R b d l (fieldR l 1 s).2 w) := by
  have T1 := Lib.hid (fun W (h : Rdr W R b d l s) => rNum_any R b d l s W h)
  obtain ⟨⟨x1, s1⟩, hx1⟩ : ∃ r, r = numR l s := ⟨_, rfl⟩
  rw [← hx1] at T1
  have T2 := Lib.hid (fun W (h : Rdr W R b d l s1) => rNum_any R b d l s1 W h)
  obtain ⟨⟨x2, s2⟩, hx2⟩ : ∃ r, r = numR l s1 := ⟨_, rfl⟩
  rw [← hx2] at T2
  have T3 := Lib.hid (fun W (h : Rdr W R b d l s2) => rFlag_any R b d l s2 W h)
  obtain ⟨⟨x3, s3⟩, hx3⟩ : ∃ r, r = flagR l s2 := ⟨_, rfl⟩
  rw [← hx3] at T3
  have T4 := Lib.hid (fun W (h : Rdr W R b d l s3) => rNum_any R b d l s3 W h)
  obtain ⟨⟨x4, s4⟩, hx4⟩ : ∃ r, r = numR l s3 := ⟨_, rfl⟩
  rw [← hx4] at T4
  have FR : fieldR l 1 s = (⟨1, ⟨#[]⟩, x1, x2, x4, x3, []⟩, s4) := by simp [fieldR, ← hx1, ← hx2, ← hx3, ← hx4]
  rw [FR]
  clear FR hx1 hx2 hx3 hx4
  have hR := h.lt
  have HBT := Lib.hid h.bytes
  have H := Lib.hid (h.below (WF_below w 1))
  have z0 := WF_size w 1
  clear h
  unfold WF at H z0
  go_enter Tryz.func197, Tryz.ntmps197
  go_wp2_with fail
  refine (T1.out _ H.out).mono ?_
  rintro e w1 ⟨rfl, h1, g1⟩
  have H1 := Lib.hid h1; have G1 := Lib.hid g1
  clear h1 g1
  go_wp2_with fail
  refine (T2.out _ H1.out).mono ?_
  rintro e w2 ⟨rfl, h2, g2⟩
  have H2 := Lib.hid h2; have G2 := Lib.hid (grownBy_trans G1.out g2)
  clear h2 g2
  go_wp2_with fail
  refine (T3.out _ H2.out).mono ?_
  rintro e w3 ⟨rfl, h3, g3⟩
  have H3 := Lib.hid h3; have G3 := Lib.hid (grownBy_trans G2.out g3)
  clear h3 g3
  go_wp2_with fail
  refine (T4.out _ H3.out).mono ?_
  rintro e w4 ⟨rfl, h4, g4⟩
  have H4 := Lib.hid h4; have G4 := Lib.hid (grownBy_trans G3.out g4)
  clear h4 g4
  obtain ⟨hc0, hf0⟩ := gcell G4.out (X := w.heap.size) (by omega) (by omega)
  obtain ⟨hc1, hf1⟩ := gcell G4.out (X := w.heap.size + 1) (by omega) (by omega)
  have GW := Lib.hid (below_grownBy (WF_below w 1) (show (WF w 1).grownBy w4 (some R) from G4.out))
  go_wp2_with fail
  refine bodyPost_ret (v := .agg #[.int .i64 1, .string ⟨#[]⟩, .int .i64 x1, .int .i64 x2, .int .i64 x4, .bool x3, .slice none 0 0]) (by simp [results, Tryz.results197, go_sem, hc0]) rfl ⟨none, 0, rfl, Own.none_, H4.out.belowB hR HBT.out ?_, grownBy_belowB GW.out ?_⟩
  all_goals
    repeat (refine Below.setCell ?_ (by simp; try omega) _)
    exact Below.refl _ _

set_option maxRecDepth 100000 in
set_option maxHeartbeats 1600000 in
theorem rFields2 (R : Nat) (b : Option Addr) (d : Nat) (l : List Int) (s : Option Int) (w : World) (h : Rdr w R b d l s) :
    Calls Tryz.prog 197 #[.pointer (some ⟨R, 0, none⟩), .int .i64 2] w (TookNd (fieldR l 2 s).1 R b d l (fieldR l 2 s).2 w) := by
  have T1 := Lib.hid (fun W (h : Rdr W R b d l s) => rList_any R b d l s W h)
  obtain ⟨⟨x1, s1⟩, hx1⟩ : ∃ r, r = listR l s := ⟨_, rfl⟩
  rw [← hx1] at T1
  have FR : fieldR l 2 s = (⟨2, ⟨#[]⟩, 0, 0, 0, false, x1⟩, s1) := by simp [fieldR, ← hx1]
  rw [FR]
  clear FR hx1
  have hR := h.lt
  have HBT := Lib.hid h.bytes
  have H := Lib.hid (h.below (WF_below w 2))
  have z0 := WF_size w 2
  clear h
  unfold WF at H z0
  go_enter Tryz.func197, Tryz.ntmps197
  go_wp2_with fail
  refine (T1.out _ H.out).mono ?_
  rintro e w1 ⟨ao, co, rfl, ho, h1, g1⟩
  have H1 := Lib.hid h1; have G1 := Lib.hid g1
  clear h1 g1
  have HO := Lib.hid ho; clear ho
  have HOL := Lib.hid (fun x hx => (HO.out.lt x hx).1)
  obtain ⟨hc0, hf0⟩ := gcell G1.out (X := w.heap.size) (by omega) (by omega)
  obtain ⟨hc1, hf1⟩ := gcell G1.out (X := w.heap.size + 1) (by omega) (by omega)
  have GW := Lib.hid (below_grownBy (WF_below w 2) (show (WF w 2).grownBy w1 (some R) from G1.out))
  go_wp2_with fail
  refine bodyPost_ret (v := .agg #[.int .i64 2, .string ⟨#[]⟩, .int .i64 0, .int .i64 0, .int .i64 0, .bool false, .slice ao x1.length co]) (by simp [results, Tryz.results197, go_sem, hc0]) rfl ⟨ao, co, rfl, ?_, H1.out.belowB hR HBT.out ?_, grownBy_belowB GW.out ?_⟩
  · refine Own.base_le (base := w.heap.size + 1 + 1) ?_ (by omega)
    repeat (refine Own.far ?_ (fun x hx => by have := HOL.out x hx; simp at this ⊢; omega) _)
    exact HO.out.base_le (by simp)
  all_goals
    repeat (refine Below.setCell ?_ (by simp; try omega) _)
    exact Below.refl _ _

set_option maxRecDepth 100000 in
set_option maxHeartbeats 1600000 in
theorem rFields3 (R : Nat) (b : Option Addr) (d : Nat) (l : List Int) (s : Option Int) (w : World) (h : Rdr w R b d l s) :
    Calls Tryz.prog 197 #[.pointer (some ⟨R, 0, none⟩), .int .i64 3] w (TookNd (fieldR l 3 s).1 R b d l (fieldR l 3 s).2 w) := by
  have T1 := Lib.hid (fun W (h : Rdr W R b d l s) => rNum_any R b d l s W h)
  obtain ⟨⟨x1, s1⟩, hx1⟩ : ∃ r, r = numR l s := ⟨_, rfl⟩
  rw [← hx1] at T1
  have T2 := Lib.hid (fun W (h : Rdr W R b d l s1) => rNum_any R b d l s1 W h)
  obtain ⟨⟨x2, s2⟩, hx2⟩ : ∃ r, r = numR l s1 := ⟨_, rfl⟩
  rw [← hx2] at T2
  have FR : fieldR l 3 s = (⟨3, ⟨#[]⟩, x1, 0, x2, false, []⟩, s2) := by simp [fieldR, ← hx1, ← hx2]
  rw [FR]
  clear FR hx1 hx2
  have hR := h.lt
  have HBT := Lib.hid h.bytes
  have H := Lib.hid (h.below (WF_below w 3))
  have z0 := WF_size w 3
  clear h
  unfold WF at H z0
  go_enter Tryz.func197, Tryz.ntmps197
  go_wp2_with fail
  refine (T1.out _ H.out).mono ?_
  rintro e w1 ⟨rfl, h1, g1⟩
  have H1 := Lib.hid h1; have G1 := Lib.hid g1
  clear h1 g1
  go_wp2_with fail
  refine (T2.out _ H1.out).mono ?_
  rintro e w2 ⟨rfl, h2, g2⟩
  have H2 := Lib.hid h2; have G2 := Lib.hid (grownBy_trans G1.out g2)
  clear h2 g2
  obtain ⟨hc0, hf0⟩ := gcell G2.out (X := w.heap.size) (by omega) (by omega)
  obtain ⟨hc1, hf1⟩ := gcell G2.out (X := w.heap.size + 1) (by omega) (by omega)
  have GW := Lib.hid (below_grownBy (WF_below w 3) (show (WF w 3).grownBy w2 (some R) from G2.out))
  go_wp2_with fail
  refine bodyPost_ret (v := .agg #[.int .i64 3, .string ⟨#[]⟩, .int .i64 x1, .int .i64 0, .int .i64 x2, .bool false, .slice none 0 0]) (by simp [results, Tryz.results197, go_sem, hc0]) rfl ⟨none, 0, rfl, Own.none_, H2.out.belowB hR HBT.out ?_, grownBy_belowB GW.out ?_⟩
  all_goals
    repeat (refine Below.setCell ?_ (by simp; try omega) _)
    exact Below.refl _ _

set_option maxRecDepth 100000 in
set_option maxHeartbeats 1600000 in
theorem rFields5 (R : Nat) (b : Option Addr) (d : Nat) (l : List Int) (s : Option Int) (w : World) (h : Rdr w R b d l s) :
    Calls Tryz.prog 197 #[.pointer (some ⟨R, 0, none⟩), .int .i64 5] w (TookNd (fieldR l 5 s).1 R b d l (fieldR l 5 s).2 w) := by
  have T1 := Lib.hid (fun W (h : Rdr W R b d l s) => rNum_any R b d l s W h)
  obtain ⟨⟨x1, s1⟩, hx1⟩ : ∃ r, r = numR l s := ⟨_, rfl⟩
  rw [← hx1] at T1
  have FR : fieldR l 5 s = (⟨5, ⟨#[]⟩, x1, 0, 0, false, []⟩, s1) := by simp [fieldR, ← hx1]
  rw [FR]
  clear FR hx1
  have hR := h.lt
  have HBT := Lib.hid h.bytes
  have H := Lib.hid (h.below (WF_below w 5))
  have z0 := WF_size w 5
  clear h
  unfold WF at H z0
  go_enter Tryz.func197, Tryz.ntmps197
  go_wp2_with fail
  refine (T1.out _ H.out).mono ?_
  rintro e w1 ⟨rfl, h1, g1⟩
  have H1 := Lib.hid h1; have G1 := Lib.hid g1
  clear h1 g1
  obtain ⟨hc0, hf0⟩ := gcell G1.out (X := w.heap.size) (by omega) (by omega)
  obtain ⟨hc1, hf1⟩ := gcell G1.out (X := w.heap.size + 1) (by omega) (by omega)
  have GW := Lib.hid (below_grownBy (WF_below w 5) (show (WF w 5).grownBy w1 (some R) from G1.out))
  go_wp2_with fail
  refine bodyPost_ret (v := .agg #[.int .i64 5, .string ⟨#[]⟩, .int .i64 x1, .int .i64 0, .int .i64 0, .bool false, .slice none 0 0]) (by simp [results, Tryz.results197, go_sem, hc0]) rfl ⟨none, 0, rfl, Own.none_, H1.out.belowB hR HBT.out ?_, grownBy_belowB GW.out ?_⟩
  all_goals
    repeat (refine Below.setCell ?_ (by simp; try omega) _)
    exact Below.refl _ _

set_option maxRecDepth 100000 in
set_option maxHeartbeats 1600000 in
theorem rFields6 (R : Nat) (b : Option Addr) (d : Nat) (l : List Int) (s : Option Int) (w : World) (h : Rdr w R b d l s) :
    Calls Tryz.prog 197 #[.pointer (some ⟨R, 0, none⟩), .int .i64 6] w (TookNd (fieldR l 6 s).1 R b d l (fieldR l 6 s).2 w) := by
  have T1 := Lib.hid (fun W (h : Rdr W R b d l s) => rFlag_any R b d l s W h)
  obtain ⟨⟨x1, s1⟩, hx1⟩ : ∃ r, r = flagR l s := ⟨_, rfl⟩
  rw [← hx1] at T1
  have T2 := Lib.hid (fun W (h : Rdr W R b d l s1) => rNum_any R b d l s1 W h)
  obtain ⟨⟨x2, s2⟩, hx2⟩ : ∃ r, r = numR l s1 := ⟨_, rfl⟩
  rw [← hx2] at T2
  have FR : fieldR l 6 s = (⟨6, ⟨#[]⟩, 0, 0, x2, x1, []⟩, s2) := by simp [fieldR, ← hx1, ← hx2]
  rw [FR]
  clear FR hx1 hx2
  have hR := h.lt
  have HBT := Lib.hid h.bytes
  have H := Lib.hid (h.below (WF_below w 6))
  have z0 := WF_size w 6
  clear h
  unfold WF at H z0
  go_enter Tryz.func197, Tryz.ntmps197
  go_wp2_with fail
  refine (T1.out _ H.out).mono ?_
  rintro e w1 ⟨rfl, h1, g1⟩
  have H1 := Lib.hid h1; have G1 := Lib.hid g1
  clear h1 g1
  go_wp2_with fail
  refine (T2.out _ H1.out).mono ?_
  rintro e w2 ⟨rfl, h2, g2⟩
  have H2 := Lib.hid h2; have G2 := Lib.hid (grownBy_trans G1.out g2)
  clear h2 g2
  obtain ⟨hc0, hf0⟩ := gcell G2.out (X := w.heap.size) (by omega) (by omega)
  obtain ⟨hc1, hf1⟩ := gcell G2.out (X := w.heap.size + 1) (by omega) (by omega)
  have GW := Lib.hid (below_grownBy (WF_below w 6) (show (WF w 6).grownBy w2 (some R) from G2.out))
  go_wp2_with fail
  refine bodyPost_ret (v := .agg #[.int .i64 6, .string ⟨#[]⟩, .int .i64 0, .int .i64 0, .int .i64 x2, .bool x1, .slice none 0 0]) (by simp [results, Tryz.results197, go_sem, hc0]) rfl ⟨none, 0, rfl, Own.none_, H2.out.belowB hR HBT.out ?_, grownBy_belowB GW.out ?_⟩
  all_goals
    repeat (refine Below.setCell ?_ (by simp; try omega) _)
    exact Below.refl _ _

theorem fieldR_out {k : Int} (h : k = 4 ∨ k = 7 ∨ k < 0 ∨ 7 < k) (l : List Int) (s : Option Int) : fieldR l k s = (⟨k, ⟨#[]⟩, 0, 0, 0, false, []⟩, s) := by
  unfold fieldR
  rw [if_neg (by omega), if_neg (by omega), if_neg (by omega), if_neg (by omega), if_neg (by omega), if_neg (by omega)]
set_option maxRecDepth 100000 in
set_option maxHeartbeats 1600000 in
theorem rFieldsOut (k : Int) (hk : k = 4 ∨ k = 7 ∨ k < 0 ∨ 7 < k) (R : Nat) (b : Option Addr) (d : Nat) (l : List Int) (s : Option Int) (w : World) (h : Rdr w R b d l s) :
    Calls Tryz.prog 197 #[.pointer (some ⟨R, 0, none⟩), .int .i64 k] w (TookNd (fieldR l k s).1 R b d l (fieldR l k s).2 w) := by
  rw [fieldR_out hk]
  have HW := Lib.hid h
  have h0 : (k == 0) = false := beq_eq_false_iff_ne.2 (by omega)
  have h1 : (k == 1) = false := beq_eq_false_iff_ne.2 (by omega)
  have h2 : (k == 2) = false := beq_eq_false_iff_ne.2 (by omega)
  have h3 : (k == 3) = false := beq_eq_false_iff_ne.2 (by omega)
  have h5 : (k == 5) = false := beq_eq_false_iff_ne.2 (by omega)
  have h6 : (k == 6) = false := beq_eq_false_iff_ne.2 (by omega)
  clear h hk
  go_enter Tryz.func197, Tryz.ntmps197
  go_wp2_with fail
  refine bodyPost_ret (v := .agg #[.int .i64 k, .string ⟨#[]⟩, .int .i64 0, .int .i64 0, .int .i64 0, .bool false, .slice none 0 0]) (by simp [results, Tryz.results197, go_sem]) rfl ⟨none, 0, rfl, Own.none_, HW.out.below ?_, grownBy_below (World.grownBy.refl _ _) ?_⟩
  all_goals exact ((Below.refl _ w).alloc (Nat.le_refl _) _).alloc (by simp) _

theorem rFields_any (k : Int) (R : Nat) (b : Option Addr) (d : Nat) (l : List Int) (s : Option Int) (w : World) (h : Rdr w R b d l s) :
    Calls Tryz.prog 197 #[.pointer (some ⟨R, 0, none⟩), .int .i64 k] w (TookNd (fieldR l k s).1 R b d l (fieldR l k s).2 w) := by
  have hc : k = 0 ∨ k = 1 ∨ k = 2 ∨ k = 3 ∨ k = 5 ∨ k = 6 ∨ (k = 4 ∨ k = 7 ∨ k < 0 ∨ 7 < k) := by omega
  rcases hc with rfl | rfl | rfl | rfl | rfl | rfl | hk
  · exact rFields0 R b d l s w h
  · exact rFields1 R b d l s w h
  · exact rFields2 R b d l s w h
  · exact rFields3 R b d l s w h
  · exact rFields5 R b d l s w h
  · exact rFields6 R b d l s w h
  · exact rFieldsOut k hk R b d l s w h
end Go.Proofs.YtfpbhedophlnkaaGreatDoor
namespace Go.Proofs.YtfpbhedophlnkaaGreatDoor
open Go.RowKit
set_option linter.unusedSimpArgs false
set_option linter.unusedVariables false

theorem Rdr.by_ {w : World} {R d : Nat} {b : Option Addr} {l : List Int} {s : Option Int} (h : Rdr w R b d l s) : By l := by
  obtain ⟨p, er, hh, hp, he, hr, hby, hd, hne⟩ := h; exact hby

set_option maxRecDepth 100000 in
set_option maxHeartbeats 3200000 in
theorem rNode_any (R : Nat) (b : Option Addr) (d : Nat) (l : List Int) (s : Option Int) (w : World) (h : Rdr w R b d l s) :
    Calls Tryz.prog 121 #[.pointer (some ⟨R, 0, none⟩)] w (TookNd (nodeR l s).1 R b d l (nodeR l s).2 w) := by
  have hby := h.by_
  have T1 := Lib.hid (fun W (h : Rdr W R b d l s) => rNum_any R b d l s W h)
  have NR : Hid (nodeR l s = ((fieldR l (numR l s).1 (numR l s).2).1, if nodeB (fieldR l (numR l s).1 (numR l s).2).1 then (fieldR l (numR l s).1 (numR l s).2).2 else none)) := rfl
  obtain ⟨⟨x1, s1⟩, hx1⟩ : ∃ r, r = numR l s := ⟨_, rfl⟩
  rw [← hx1] at T1 NR
  simp only at NR
  have T2 := Lib.hid (fun W (h : Rdr W R b d l s1) => rFields_any x1 R b d l s1 W h)
  have hcl := fieldR_cols hby x1 s1
  have hnm := fieldR_name l x1 s1
  obtain ⟨⟨n, s2⟩, hx2⟩ : ∃ r, r = fieldR l x1 s1 := ⟨_, rfl⟩
  rw [← hx2] at T2 NR hcl hnm
  simp only at NR hcl hnm
  obtain ⟨rr, hrr⟩ : ∃ rr, rr = nodeR l s := ⟨_, rfl⟩
  rw [← hrr] at NR ⊢
  clear hx1 hx2 hrr hby
  have hR := h.lt
  have HBT := Lib.hid h.bytes
  have NK := Lib.hid (fun a c W h => implNodeOk_any n a c W h (by omega) (by unfold maxLen; omega))
  obtain ⟨p0, er0, hh0, _⟩ := id h
  have c1 : w.cell? ⟨R, 1, none⟩ = some (.int .i64 p0) := cell_of_row w R 1 _ _ _ hh0
  have H := Lib.hid (h.below ((Below.refl _ w).alloc (Nat.le_refl _) (.cells #[.int .i64 0, .string ⟨#[]⟩, .int .i64 0, .int .i64 0, .int .i64 0, .bool false, .slice none 0 0] 92)))
  clear h hh0
  obtain ⟨k, name, col, op, num, slot, cols⟩ := n
  simp only at *
  go_enter Tryz.func121, Tryz.ntmps121
  go_wp2_with fail
  refine (T1.out _ H.out).mono ?_
  rintro e w1 ⟨rfl, h1, g1⟩
  have H1 := Lib.hid h1; have G1 := Lib.hid g1
  clear h1 g1
  go_wp2_with fail
  refine (T2.out _ H1.out).mono ?_
  rintro e w2 ⟨a, c, rfl, ho, h2, g2⟩
  have H2 := Lib.hid h2; have G2 := Lib.hid (grownBy_trans G1.out g2); have HO := Lib.hid ho
  have hz1 := G1.out.size
  have hz2 := g2.size
  have zR2 : R < w2.heap.size := by have := G2.out.size; simp at this; omega
  have zX2 : w.heap.size < w2.heap.size := by have := G2.out.size; simp at this; omega
  have z0 : (w.alloc (.cells #[.int .i64 0, .string ⟨#[]⟩, .int .i64 0, .int .i64 0, .int .i64 0, .bool false, .slice none 0 0] 92)).heap.size = w.heap.size + 1 := by simp
  have HOL := Lib.hid (fun x hx => (ho.lt x hx).1)
  clear h2 g2 ho
  obtain ⟨hc0, hf0⟩ := gcell G2.out (X := w.heap.size) (by omega) (by omega)
  obtain ⟨p2, er, hh2, hp2, he2, hr2, hby2, hd2, hne2⟩ := H2.out
  have d2 : w2.cell? ⟨R, 2, none⟩ = some er := cell_of_row w2 R 2 _ _ _ hh2
  have e2 : w2.frozen? ⟨R, 2, none⟩ = false := by simp [World.frozen?, hh2]
  have HH := Lib.hid hh2; have HP := Lib.hid hp2; have HE := Lib.hid he2; have HRD := Lib.hid hr2; have HBY := Lib.hid hby2; have HD := Lib.hid hd2; have HNE := Lib.hid hne2
  have GW := Lib.hid (below_grownBy ((Below.refl _ w).alloc (Nat.le_refl _) _) G2.out)
  clear hh2 hp2 he2 hr2 hby2 hd2 hne2
  have y0 : w2.cell? ⟨w.heap.size, 0, none⟩ = some (.int .i64 0) := (hc0 0).trans ((cell_of_row _ _ _ _ _ _ (heap_alloc_new w _)).trans rfl)
  have y1 : w2.cell? ⟨w.heap.size, 1, none⟩ = some (.string ⟨#[]⟩) := (hc0 1).trans ((cell_of_row _ _ _ _ _ _ (heap_alloc_new w _)).trans rfl)
  have y2 : w2.cell? ⟨w.heap.size, 2, none⟩ = some (.int .i64 0) := (hc0 2).trans ((cell_of_row _ _ _ _ _ _ (heap_alloc_new w _)).trans rfl)
  have y3 : w2.cell? ⟨w.heap.size, 3, none⟩ = some (.int .i64 0) := (hc0 3).trans ((cell_of_row _ _ _ _ _ _ (heap_alloc_new w _)).trans rfl)
  have y4 : w2.cell? ⟨w.heap.size, 4, none⟩ = some (.int .i64 0) := (hc0 4).trans ((cell_of_row _ _ _ _ _ _ (heap_alloc_new w _)).trans rfl)
  have y5 : w2.cell? ⟨w.heap.size, 5, none⟩ = some (.bool false) := (hc0 5).trans ((cell_of_row _ _ _ _ _ _ (heap_alloc_new w _)).trans rfl)
  have y6 : w2.cell? ⟨w.heap.size, 6, none⟩ = some (.slice none 0 0) := (hc0 6).trans ((cell_of_row _ _ _ _ _ _ (heap_alloc_new w _)).trans rfl)
  have r0 : ¬ (R = w.heap.size) := by omega
  have r0' : ¬ (w.heap.size = R) := by omega
  have r1 : ¬ (R = w2.heap.size) := by omega
  have r1' : ¬ (w2.heap.size = R) := by omega
  have x0 : ¬ (w.heap.size = w2.heap.size) := by omega
  have x0' : ¬ (w2.heap.size = w.heap.size) := by omega
  rcases HE.out with ⟨hs, rfl⟩ | ⟨hs, k1, k2, rfl⟩
  · go_wp2_with fail
    refine (NK.out a c _ (HO.out.rd.below ((Below.refl _ w2).alloc (Nat.le_refl _) _))).mono ?_
    rintro e w4 ⟨rfl, b4⟩
    have F4 : Below w2.heap.size w2 w4 := ((Below.refl _ w2).alloc (Nat.le_refl _) (.cells #[.int .i64 k, .string name, .int .i64 col, .int .i64 op, .int .i64 num, .bool slot, .slice a cols.length c] 92)).trans (b4.mono (by simp))
    have q0 : w4.cell? ⟨w.heap.size, 0, none⟩ = some (.int .i64 0) := (F4.cell (p := ⟨w.heap.size, 0, none⟩) zX2).trans y0
    have x0c : w4.cell? ⟨w2.heap.size, 0, none⟩ = some (.int .i64 k) := (b4.cell (p := ⟨w2.heap.size, 0, none⟩) (by simp)).trans ((cell_of_row _ _ _ _ _ _ (heap_alloc_new w2 _)).trans rfl)
    have q1 : w4.cell? ⟨w.heap.size, 1, none⟩ = some (.string ⟨#[]⟩) := (F4.cell (p := ⟨w.heap.size, 1, none⟩) zX2).trans y1
    have x1c : w4.cell? ⟨w2.heap.size, 1, none⟩ = some (.string name) := (b4.cell (p := ⟨w2.heap.size, 1, none⟩) (by simp)).trans ((cell_of_row _ _ _ _ _ _ (heap_alloc_new w2 _)).trans rfl)
    have q2 : w4.cell? ⟨w.heap.size, 2, none⟩ = some (.int .i64 0) := (F4.cell (p := ⟨w.heap.size, 2, none⟩) zX2).trans y2
    have x2c : w4.cell? ⟨w2.heap.size, 2, none⟩ = some (.int .i64 col) := (b4.cell (p := ⟨w2.heap.size, 2, none⟩) (by simp)).trans ((cell_of_row _ _ _ _ _ _ (heap_alloc_new w2 _)).trans rfl)
    have q3 : w4.cell? ⟨w.heap.size, 3, none⟩ = some (.int .i64 0) := (F4.cell (p := ⟨w.heap.size, 3, none⟩) zX2).trans y3
    have x3c : w4.cell? ⟨w2.heap.size, 3, none⟩ = some (.int .i64 op) := (b4.cell (p := ⟨w2.heap.size, 3, none⟩) (by simp)).trans ((cell_of_row _ _ _ _ _ _ (heap_alloc_new w2 _)).trans rfl)
    have q4 : w4.cell? ⟨w.heap.size, 4, none⟩ = some (.int .i64 0) := (F4.cell (p := ⟨w.heap.size, 4, none⟩) zX2).trans y4
    have x4c : w4.cell? ⟨w2.heap.size, 4, none⟩ = some (.int .i64 num) := (b4.cell (p := ⟨w2.heap.size, 4, none⟩) (by simp)).trans ((cell_of_row _ _ _ _ _ _ (heap_alloc_new w2 _)).trans rfl)
    have q5 : w4.cell? ⟨w.heap.size, 5, none⟩ = some (.bool false) := (F4.cell (p := ⟨w.heap.size, 5, none⟩) zX2).trans y5
    have x5c : w4.cell? ⟨w2.heap.size, 5, none⟩ = some (.bool slot) := (b4.cell (p := ⟨w2.heap.size, 5, none⟩) (by simp)).trans ((cell_of_row _ _ _ _ _ _ (heap_alloc_new w2 _)).trans rfl)
    have q6 : w4.cell? ⟨w.heap.size, 6, none⟩ = some (.slice none 0 0) := (F4.cell (p := ⟨w.heap.size, 6, none⟩) zX2).trans y6
    have x6c : w4.cell? ⟨w2.heap.size, 6, none⟩ = some (.slice a cols.length c) := (b4.cell (p := ⟨w2.heap.size, 6, none⟩) (by simp)).trans ((cell_of_row _ _ _ _ _ _ (heap_alloc_new w2 _)).trans rfl)
    have m0 : ∀ o, w4.frozen? ⟨w.heap.size, o, none⟩ = false := fun o => (F4.frozen (p := ⟨w.heap.size, o, none⟩) zX2).trans ((hf0 o).trans (by have hh := heap_alloc_new w (.cells #[.int .i64 0, .string ⟨#[]⟩, .int .i64 0, .int .i64 0, .int .i64 0, .bool false, .slice none 0 0] 92); simp only [World.frozen?, hh]; simp))
    have m2 : w4.frozen? ⟨R, 2, none⟩ = false := (F4.frozen (p := ⟨R, 2, none⟩) zR2).trans e2
    have d4 := (F4.cell (p := ⟨R, 2, none⟩) zR2).trans d2
    have hh4 := (F4.block R zR2).trans HH.out
    have O4 := Lib.hid (HO.out.below F4)
    have G4 := Lib.hid (grownBy_belowB GW.out (F4.mono (Nat.le_of_lt zX2)))
    have H4 := Lib.hid (H2.out.belowB (B := w2.heap.size) zR2 (fun a ha hl => Nat.lt_trans (HBT.out a ha hl) zX2) F4)
    have R4 := Lib.hid (rdr_set2 (k1 := 5) (k2 := p0) hh4 (HRD.out.below F4) HBY.out HD.out HNE.out HP.out)
    have S4 := Lib.hid (grown_set G4.out 2 (.iface 200 (.agg #[.int .i64 5, .int .i64 p0])))
    clear b4 F4 hh4 hc0 hf0
    cases hnb : nodeB ⟨k, name, col, op, num, slot, cols⟩ with
    | true =>
      have E : Hid (rr = (⟨k, name, col, op, num, slot, cols⟩, s2)) := by show _ = _; rw [NR.out, hnb]; rfl
      go_wp2_with fail
      rw [E.out]
      refine bodyPost_ret (v := .agg #[.int .i64 k, .string name, .int .i64 col, .int .i64 op, .int .i64 num, .bool slot, .slice a cols.length c]) (by simp [results, Tryz.results121, go_sem, q0, q1, q2, q3, q4, q5, q6]) rfl ⟨a, c, rfl, ?_, H4.out.belowB hR HBT.out ?_, grownBy_belowB G4.out ?_⟩
      · refine Own.base_le (base := w.heap.size + 1) ?_ (by omega)
        repeat (refine Own.far ?_ (fun x hx => by have := HOL.out x hx; simp at this ⊢; omega) _)
        exact O4.out.base_le (by omega)
      all_goals
        repeat (refine Below.setCell ?_ (by simp; try omega) _)
        exact Below.refl _ _
    | false =>
      have E : Hid (rr = (⟨k, name, col, op, num, slot, cols⟩, none)) := by show _ = _; rw [NR.out, hnb]; rfl
      go_wp2_with fail
      rw [E.out]
      refine bodyPost_ret (v := .agg #[.int .i64 k, .string name, .int .i64 col, .int .i64 op, .int .i64 num, .bool slot, .slice a cols.length c]) (by simp [results, Tryz.results121, go_sem, q0, q1, q2, q3, q4, q5, q6, r0, r0']) rfl ⟨a, c, rfl, ?_, R4.out.belowB hR HBT.out ?_, grownBy_belowB S4.out ?_⟩
      · refine Own.base_le (base := w.heap.size + 1) ?_ (by omega)
        repeat (refine Own.far ?_ (fun x hx => by have := HOL.out x hx; simp at this ⊢; omega) _)
        exact O4.out.base_le (by omega)
      all_goals
        iterate 7 (refine Below.setCell ?_ (by simp) _)
        exact Below.refl _ _
  · have E : Hid (rr = (⟨k, name, col, op, num, slot, cols⟩, none)) := by show _ = _; rw [NR.out, hs]; simp
    have H3 : Hid (Rdr w2 R b d l none) := by have := H2.out; rw [hs] at this; exact this
    go_wp2_with fail
    rw [E.out]
    refine bodyPost_ret (v := .agg #[.int .i64 k, .string name, .int .i64 col, .int .i64 op, .int .i64 num, .bool slot, .slice a cols.length c]) (by simp [results, Tryz.results121, go_sem, y0, y1, y2, y3, y4, y5, y6, zX2]) rfl ⟨a, c, rfl, ?_, H3.out.belowB hR HBT.out ?_, grownBy_belowB GW.out ?_⟩
    · refine Own.base_le (base := w.heap.size + 1) ?_ (by omega)
      refine Own.alloc ?_ _
      repeat (refine Own.far ?_ (fun x hx => by have := HOL.out x hx; simp at this ⊢; omega) _)
      exact HO.out.base_le (by omega)
    all_goals
      refine Below.alloc ?_ (by simp; omega) _
      repeat (refine Below.setCell ?_ (by simp; try omega) _)
      exact Below.refl _ _
end Go.Proofs.YtfpbhedophlnkaaGreatDoor
