/-
  Contract of spec.TakeNode at every place. For every slice of bytes and every place.
-/
import Derived.Test.YtfpbhedophlnkaaGreatDoorJ42x
import Derived.Test.YtfpbhedophlnkaaGreatDoorJ20x
import Derived.Test.YtfpbhedophlnkaaGreatDoorJ10x
import Derived.Test.YtfpbhedophlnkaaGreatDoorSTk
import Derived.Test.YtfpbhedophlnkaaGreatDoorJ47x
import Derived.Test.YtfpbhedophlnkaaGreatDoorSTk2
import Derived.BigRegion
namespace Go.Proofs.YtfpbhedophlnkaaGreatDoor
open Go.RowKit
set_option linter.unusedSimpArgs false
set_option linter.unusedVariables false

set_option maxRecDepth 100000 in
set_option maxHeartbeats 3200000 in
theorem specTakeOut (k : Int) (hko : k = 4 ∨ k = 7 ∨ k < 0 ∨ 7 < k) (b : Option Addr) (d : Nat) (l : List Int) (at_ p : Int) (w : World) (h : Rd w .u8 b l) (hby : By l) (hl : l.length ≤ maxLen) (hd : l.length ≤ d) (hd2 : d ≤ maxLen) (ha : at_ ≤ 9223372036854775807) (hk : numR l (some at_) = (k, some p)) :
    Calls Tryz.prog 127 #[.slice b l.length d, .int .i64 at_] w (TookNm (takeNd l at_) w) := by
  have TN : Hid (takeNd l at_ = if nodeB ⟨k, ⟨#[]⟩, 0, 0, 0, false, []⟩ = true then (⟨k, ⟨#[]⟩, 0, 0, 0, false, []⟩, p) else (zeroNd, -1)) := by
    show _ = _
    unfold takeNd nodeR
    rw [hk]
    have hf : fieldR l k (some p) = (⟨k, ⟨#[]⟩, 0, 0, 0, false, []⟩, some p) := by
      unfold fieldR
      rw [if_neg (by omega), if_neg (by omega), if_neg (by omega), if_neg (by omega), if_neg (by omega), if_neg (by omega)]
    simp only
    rw [hf]
    simp only
    by_cases hn : nodeB ⟨k, ⟨#[]⟩, 0, 0, 0, false, []⟩ = true
    · simp only [if_pos hn]
    · simp only [if_neg hn]
  have NK := Lib.hid (fun W => specNodeOk_any ⟨k, ⟨#[]⟩, 0, 0, 0, false, []⟩ none 0 W (.inl rfl) (by simp) (Nat.zero_le maxLen))
  have h0 : (k == 0) = false := beq_eq_false_iff_ne.2 (by omega)
  have h1' : (k == 1) = false := beq_eq_false_iff_ne.2 (by omega)
  have h2 : (k == 2) = false := beq_eq_false_iff_ne.2 (by omega)
  have h3 : (k == 3) = false := beq_eq_false_iff_ne.2 (by omega)
  have h5 : (k == 5) = false := beq_eq_false_iff_ne.2 (by omega)
  have h6 : (k == 6) = false := beq_eq_false_iff_ne.2 (by omega)
  have T0 := Lib.hid (fun W R (h : Srd W R b d l (some at_)) => l05Next_any R b d l (some at_) W h)
  rw [hk] at T0
  obtain ⟨rr, hrr⟩ : ∃ rr, rr = takeNd l at_ := ⟨_, rfl⟩
  rw [← hrr] at TN ⊢
  have hbb : ∀ a, b = some a → l ≠ [] → a.block < w.heap.size := rd_lt h
  have H0 := Lib.hid (srd_new (d := d) h hby hl ha)
  have HR := Lib.hid h
  clear hk hrr h
  unfold WS at H0
  go_enter Tryz.func127, Tryz.ntmps127
  go_wp2_with fail
  refine (T0.out _ _ H0.out).mono ?_
  rintro e w1 ⟨rfl, h1, g1⟩
  obtain ⟨p1, f1, hh, hp1, he1, hr1, hby1, hd1, hne1⟩ := id h1
  obtain ⟨rfl, rfl⟩ : p1 = p ∧ f1 = false := by
    rcases he1 with ⟨hs, hf⟩ | ⟨hs, _⟩
    · injection hs with hs; exact ⟨hs.symm, hf⟩
    · cases hs
  have c1 : w1.cell? ⟨w.heap.size + 1, 1, none⟩ = some (.int .i64 p1) := cell_of_row w1 _ 1 _ _ _ hh
  have c2 : w1.cell? ⟨w.heap.size + 1, 2, none⟩ = some (.bool false) := cell_of_row w1 _ 2 _ _ _ hh
  have fR : ∀ o, w1.frozen? ⟨w.heap.size + 1, o, none⟩ = false := fun o => by simp only [World.frozen?, hh]; simp
  have zz : w1.heap.size ≠ w.heap.size + 1 := by have := lt_of_block hh; omega
  have zy : ¬ (w.heap.size + 1 = w1.heap.size) := fun e => zz e.symm
  have z1 : w.heap.size + 2 ≤ w1.heap.size := by have := g1.size; simp at this; omega
  have zl : w.heap.size + 1 < w1.heap.size := by omega
  have zk : w.heap.size < w1.heap.size := by omega
  have z0 : ¬ (w1.heap.size = w.heap.size) := by omega
  have z0' : ¬ (w.heap.size = w1.heap.size) := by omega
  have BA := Lib.hid (below_ws g1)
  obtain ⟨hz0, hy0⟩ := gcell g1 (X := w.heap.size) (by simp; omega) (by omega)
  have H1 := Lib.hid h1
  have BB0 := Lib.hid (BA.out.alloc BA.out.size (.cells #[.int .i64 k, .string ⟨#[]⟩, .int .i64 0, .int .i64 0, .int .i64 0, .bool false, .slice none 0 0] 92))
  clear hh he1 hr1 hby1 hd1 hne1 g1 h1 H0 T0
  have X00 : (w1.alloc (.cells #[.int .i64 k, .string ⟨#[]⟩, .int .i64 0, .int .i64 0, .int .i64 0, .bool false, .slice none 0 0] 92)).cell? ⟨w1.heap.size, 0, none⟩ = some (.int .i64 k) := (cell_of_row _ _ _ _ _ _ (heap_alloc_new w1 _)).trans rfl
  have X01 : (w1.alloc (.cells #[.int .i64 k, .string ⟨#[]⟩, .int .i64 0, .int .i64 0, .int .i64 0, .bool false, .slice none 0 0] 92)).cell? ⟨w1.heap.size, 1, none⟩ = some (.string ⟨#[]⟩) := (cell_of_row _ _ _ _ _ _ (heap_alloc_new w1 _)).trans rfl
  have X02 : (w1.alloc (.cells #[.int .i64 k, .string ⟨#[]⟩, .int .i64 0, .int .i64 0, .int .i64 0, .bool false, .slice none 0 0] 92)).cell? ⟨w1.heap.size, 2, none⟩ = some (.int .i64 0) := (cell_of_row _ _ _ _ _ _ (heap_alloc_new w1 _)).trans rfl
  have X03 : (w1.alloc (.cells #[.int .i64 k, .string ⟨#[]⟩, .int .i64 0, .int .i64 0, .int .i64 0, .bool false, .slice none 0 0] 92)).cell? ⟨w1.heap.size, 3, none⟩ = some (.int .i64 0) := (cell_of_row _ _ _ _ _ _ (heap_alloc_new w1 _)).trans rfl
  have X04 : (w1.alloc (.cells #[.int .i64 k, .string ⟨#[]⟩, .int .i64 0, .int .i64 0, .int .i64 0, .bool false, .slice none 0 0] 92)).cell? ⟨w1.heap.size, 4, none⟩ = some (.int .i64 0) := (cell_of_row _ _ _ _ _ _ (heap_alloc_new w1 _)).trans rfl
  have X05 : (w1.alloc (.cells #[.int .i64 k, .string ⟨#[]⟩, .int .i64 0, .int .i64 0, .int .i64 0, .bool false, .slice none 0 0] 92)).cell? ⟨w1.heap.size, 5, none⟩ = some (.bool false) := (cell_of_row _ _ _ _ _ _ (heap_alloc_new w1 _)).trans rfl
  have X06 : (w1.alloc (.cells #[.int .i64 k, .string ⟨#[]⟩, .int .i64 0, .int .i64 0, .int .i64 0, .bool false, .slice none 0 0] 92)).cell? ⟨w1.heap.size, 6, none⟩ = some (.slice none 0 0) := (cell_of_row _ _ _ _ _ _ (heap_alloc_new w1 _)).trans rfl
  have Y00 : (w1.alloc (.cells #[.int .i64 k, .string ⟨#[]⟩, .int .i64 0, .int .i64 0, .int .i64 0, .bool false, .slice none 0 0] 92)).cell? ⟨w.heap.size, 0, none⟩ = some (.int .i64 0) := (((Below.refl _ w1).alloc (Nat.le_refl _) _).cell (p := ⟨w.heap.size, 0, none⟩) zk).trans ((hz0 0).trans (ws_zero w b l.length d at_ 0 _ rfl))
  have Y01 : (w1.alloc (.cells #[.int .i64 k, .string ⟨#[]⟩, .int .i64 0, .int .i64 0, .int .i64 0, .bool false, .slice none 0 0] 92)).cell? ⟨w.heap.size, 1, none⟩ = some (.string ⟨#[]⟩) := (((Below.refl _ w1).alloc (Nat.le_refl _) _).cell (p := ⟨w.heap.size, 1, none⟩) zk).trans ((hz0 1).trans (ws_zero w b l.length d at_ 1 _ rfl))
  have Y02 : (w1.alloc (.cells #[.int .i64 k, .string ⟨#[]⟩, .int .i64 0, .int .i64 0, .int .i64 0, .bool false, .slice none 0 0] 92)).cell? ⟨w.heap.size, 2, none⟩ = some (.int .i64 0) := (((Below.refl _ w1).alloc (Nat.le_refl _) _).cell (p := ⟨w.heap.size, 2, none⟩) zk).trans ((hz0 2).trans (ws_zero w b l.length d at_ 2 _ rfl))
  have Y03 : (w1.alloc (.cells #[.int .i64 k, .string ⟨#[]⟩, .int .i64 0, .int .i64 0, .int .i64 0, .bool false, .slice none 0 0] 92)).cell? ⟨w.heap.size, 3, none⟩ = some (.int .i64 0) := (((Below.refl _ w1).alloc (Nat.le_refl _) _).cell (p := ⟨w.heap.size, 3, none⟩) zk).trans ((hz0 3).trans (ws_zero w b l.length d at_ 3 _ rfl))
  have Y04 : (w1.alloc (.cells #[.int .i64 k, .string ⟨#[]⟩, .int .i64 0, .int .i64 0, .int .i64 0, .bool false, .slice none 0 0] 92)).cell? ⟨w.heap.size, 4, none⟩ = some (.int .i64 0) := (((Below.refl _ w1).alloc (Nat.le_refl _) _).cell (p := ⟨w.heap.size, 4, none⟩) zk).trans ((hz0 4).trans (ws_zero w b l.length d at_ 4 _ rfl))
  have Y05 : (w1.alloc (.cells #[.int .i64 k, .string ⟨#[]⟩, .int .i64 0, .int .i64 0, .int .i64 0, .bool false, .slice none 0 0] 92)).cell? ⟨w.heap.size, 5, none⟩ = some (.bool false) := (((Below.refl _ w1).alloc (Nat.le_refl _) _).cell (p := ⟨w.heap.size, 5, none⟩) zk).trans ((hz0 5).trans (ws_zero w b l.length d at_ 5 _ rfl))
  have Y06 : (w1.alloc (.cells #[.int .i64 k, .string ⟨#[]⟩, .int .i64 0, .int .i64 0, .int .i64 0, .bool false, .slice none 0 0] 92)).cell? ⟨w.heap.size, 6, none⟩ = some (.slice none 0 0) := (((Below.refl _ w1).alloc (Nat.le_refl _) _).cell (p := ⟨w.heap.size, 6, none⟩) zk).trans ((hz0 6).trans (ws_zero w b l.length d at_ 6 _ rfl))
  have W00 : w1.cell? ⟨w.heap.size, 0, none⟩ = some (.int .i64 0) := (hz0 0).trans (ws_zero w b l.length d at_ 0 _ rfl)
  have W01 : w1.cell? ⟨w.heap.size, 1, none⟩ = some (.string ⟨#[]⟩) := (hz0 1).trans (ws_zero w b l.length d at_ 1 _ rfl)
  have W02 : w1.cell? ⟨w.heap.size, 2, none⟩ = some (.int .i64 0) := (hz0 2).trans (ws_zero w b l.length d at_ 2 _ rfl)
  have W03 : w1.cell? ⟨w.heap.size, 3, none⟩ = some (.int .i64 0) := (hz0 3).trans (ws_zero w b l.length d at_ 3 _ rfl)
  have W04 : w1.cell? ⟨w.heap.size, 4, none⟩ = some (.int .i64 0) := (hz0 4).trans (ws_zero w b l.length d at_ 4 _ rfl)
  have W05 : w1.cell? ⟨w.heap.size, 5, none⟩ = some (.bool false) := (hz0 5).trans (ws_zero w b l.length d at_ 5 _ rfl)
  have W06 : w1.cell? ⟨w.heap.size, 6, none⟩ = some (.slice none 0 0) := (hz0 6).trans (ws_zero w b l.length d at_ 6 _ rfl)
  go_wp2_with fail
  refine (NK.out _).mono ?_
  rintro e v' ⟨rfl, bv⟩
  have zv : w1.heap.size < v'.heap.size := by have := bv.size; simp at this; omega
  obtain ⟨hb, hbf⟩ := bcell bv
  have BV := Lib.hid (below_step BB0.out (Nat.le_refl _) bv)
  have A1 := Lib.hid (((Below.refl _ w1).alloc (Nat.le_refl _) (.cells #[.int .i64 k, .string ⟨#[]⟩, .int .i64 0, .int .i64 0, .int .i64 0, .bool false, .slice none 0 0] 92)).trans (bv.mono (by simp)))
  have PV : v'.cell? ⟨w.heap.size + 1, 1, none⟩ = some (.int .i64 p1) := (A1.out.cell (p := ⟨w.heap.size + 1, 1, none⟩) zl).trans c1
  have FZ : ∀ o, v'.frozen? ⟨w.heap.size, o, none⟩ = false := fun o => (A1.out.frozen (p := ⟨w.heap.size, o, none⟩) zk).trans ((hy0 o).trans (ws_fz w b l.length d at_ o))
  clear bv
  have YV0 : v'.cell? ⟨w.heap.size, 0, none⟩ = some (.int .i64 0) := (A1.out.cell (p := ⟨w.heap.size, 0, none⟩) zk).trans W00
  have XV0 : v'.cell? ⟨w1.heap.size, 0, none⟩ = some (.int .i64 k) := (hb _ 0 (by simp)).trans X00
  have YV1 : v'.cell? ⟨w.heap.size, 1, none⟩ = some (.string ⟨#[]⟩) := (A1.out.cell (p := ⟨w.heap.size, 1, none⟩) zk).trans W01
  have XV1 : v'.cell? ⟨w1.heap.size, 1, none⟩ = some (.string ⟨#[]⟩) := (hb _ 1 (by simp)).trans X01
  have YV2 : v'.cell? ⟨w.heap.size, 2, none⟩ = some (.int .i64 0) := (A1.out.cell (p := ⟨w.heap.size, 2, none⟩) zk).trans W02
  have XV2 : v'.cell? ⟨w1.heap.size, 2, none⟩ = some (.int .i64 0) := (hb _ 2 (by simp)).trans X02
  have YV3 : v'.cell? ⟨w.heap.size, 3, none⟩ = some (.int .i64 0) := (A1.out.cell (p := ⟨w.heap.size, 3, none⟩) zk).trans W03
  have XV3 : v'.cell? ⟨w1.heap.size, 3, none⟩ = some (.int .i64 0) := (hb _ 3 (by simp)).trans X03
  have YV4 : v'.cell? ⟨w.heap.size, 4, none⟩ = some (.int .i64 0) := (A1.out.cell (p := ⟨w.heap.size, 4, none⟩) zk).trans W04
  have XV4 : v'.cell? ⟨w1.heap.size, 4, none⟩ = some (.int .i64 0) := (hb _ 4 (by simp)).trans X04
  have YV5 : v'.cell? ⟨w.heap.size, 5, none⟩ = some (.bool false) := (A1.out.cell (p := ⟨w.heap.size, 5, none⟩) zk).trans W05
  have XV5 : v'.cell? ⟨w1.heap.size, 5, none⟩ = some (.bool false) := (hb _ 5 (by simp)).trans X05
  have YV6 : v'.cell? ⟨w.heap.size, 6, none⟩ = some (.slice none 0 0) := (A1.out.cell (p := ⟨w.heap.size, 6, none⟩) zk).trans W06
  have XV6 : v'.cell? ⟨w1.heap.size, 6, none⟩ = some (.slice none 0 0) := (hb _ 6 (by simp)).trans X06
  clear hb hbf NK X00 Y00 W00 X01 Y01 W01 X02 Y02 W02 X03 Y03 W03 X04 Y04 W04 X05 Y05 W05 X06 Y06 W06 hz0 hy0
  cases hnb : nodeB ⟨k, ⟨#[]⟩, 0, 0, 0, false, []⟩ with
  | false =>
    have E : Hid (rr = (zeroNd, -1)) := by show _ = _; rw [TN.out, if_neg (by rw [hnb]; simp)]
    go_wp2_with fail
    rw [E.out]
    refine bodyPost_ret (v := .tuple #[.agg #[.int .i64 0, .string ⟨#[]⟩, .int .i64 0, .int .i64 0, .int .i64 0, .bool false, .slice none 0 0], .int .i64 (-1)]) (by simp [results, Tryz.results127, go_sem, YV0, YV1, YV2, YV3, YV4, YV5, YV6]) rfl ⟨none, 0, rfl, Own.none_, ?_⟩
    repeat (refine Below.setCell ?_ (by simp; try omega) _)
    exact BV.out
  | true =>
    have E : Hid (rr = (⟨k, ⟨#[]⟩, 0, 0, 0, false, []⟩, p1)) := by show _ = _; rw [TN.out, if_pos hnb]
    go_wp2_with fail
    go_region
    all_goals
      go_wp2_with fail
      rw [E.out]
      refine bodyPost_ret (v := .tuple #[.agg #[.int .i64 k, .string ⟨#[]⟩, .int .i64 0, .int .i64 0, .int .i64 0, .bool false, .slice none 0 0], .int .i64 p1]) (by simp [results, Tryz.results127, go_sem, YV0, YV1, YV2, YV3, YV4, YV5, YV6]) rfl ⟨none, 0, rfl, Own.none_, ?_⟩
      refine Below.drew ?_
      repeat (refine Below.setCell ?_ (by simp; try omega) _)
      exact BV.out

set_option maxRecDepth 100000 in
set_option maxHeartbeats 3200000 in
theorem specTakeNone (k : Int) (b : Option Addr) (d : Nat) (l : List Int) (at_ : Int) (w : World) (h : Rd w .u8 b l) (hby : By l) (hl : l.length ≤ maxLen) (hd : l.length ≤ d) (hd2 : d ≤ maxLen) (ha : at_ ≤ 9223372036854775807) (hk : numR l (some at_) = (k, none)) :
    Calls Tryz.prog 127 #[.slice b l.length d, .int .i64 at_] w (TookNm (takeNd l at_) w) := by
  have E : Hid (takeNd l at_ = (zeroNd, -1)) := by
    show _ = _
    unfold takeNd nodeR
    rw [hk]
    simp only [fieldR_none]
    simp
  have T0 := Lib.hid (fun W R (h : Srd W R b d l (some at_)) => l05Next_any R b d l (some at_) W h)
  rw [hk] at T0
  rw [E.out]
  have H0 := Lib.hid (srd_new (d := d) h hby hl ha)
  clear hk h E
  unfold WS at H0
  go_enter Tryz.func127, Tryz.ntmps127
  go_wp2_with fail
  refine (T0.out _ _ H0.out).mono ?_
  rintro e w1 ⟨rfl, h1, g1⟩
  obtain ⟨p1, f1, hh, hp1, he1, hr1, hby1, hd1, hne1⟩ := id h1
  obtain rfl : f1 = true := by
    rcases he1 with ⟨hs, hf⟩ | ⟨_, hf⟩
    · cases hs
    · exact hf
  have c2 : w1.cell? ⟨w.heap.size + 1, 2, none⟩ = some (.bool true) := cell_of_row w1 _ 2 _ _ _ hh
  have z1 : w.heap.size + 2 ≤ w1.heap.size := by have := g1.size; simp at this; omega
  have zl : w.heap.size + 1 < w1.heap.size := by omega
  have zk : w.heap.size < w1.heap.size := by omega
  have z0 : ¬ (w1.heap.size = w.heap.size) := by omega
  have z0' : ¬ (w.heap.size = w1.heap.size) := by omega
  have BA := Lib.hid (below_ws g1)
  obtain ⟨hz0, hy0⟩ := gcell g1 (X := w.heap.size) (by simp; omega) (by omega)
  clear hh he1 hr1 hby1 hd1 hne1 g1 h1 H0 T0
  have W00 : w1.cell? ⟨w.heap.size, 0, none⟩ = some (.int .i64 0) := (hz0 0).trans (ws_zero w b l.length d at_ 0 _ rfl)
  have W01 : w1.cell? ⟨w.heap.size, 1, none⟩ = some (.string ⟨#[]⟩) := (hz0 1).trans (ws_zero w b l.length d at_ 1 _ rfl)
  have W02 : w1.cell? ⟨w.heap.size, 2, none⟩ = some (.int .i64 0) := (hz0 2).trans (ws_zero w b l.length d at_ 2 _ rfl)
  have W03 : w1.cell? ⟨w.heap.size, 3, none⟩ = some (.int .i64 0) := (hz0 3).trans (ws_zero w b l.length d at_ 3 _ rfl)
  have W04 : w1.cell? ⟨w.heap.size, 4, none⟩ = some (.int .i64 0) := (hz0 4).trans (ws_zero w b l.length d at_ 4 _ rfl)
  have W05 : w1.cell? ⟨w.heap.size, 5, none⟩ = some (.bool false) := (hz0 5).trans (ws_zero w b l.length d at_ 5 _ rfl)
  have W06 : w1.cell? ⟨w.heap.size, 6, none⟩ = some (.slice none 0 0) := (hz0 6).trans (ws_zero w b l.length d at_ 6 _ rfl)
  go_wp2_with fail
  refine bodyPost_ret (v := .tuple #[.agg #[.int .i64 0, .string ⟨#[]⟩, .int .i64 0, .int .i64 0, .int .i64 0, .bool false, .slice none 0 0], .int .i64 (-1)]) (by simp [results, Tryz.results127, go_sem, W00, W01, W02, W03, W04, W05, W06, zk, zl]) rfl ⟨none, 0, rfl, Own.none_, ?_⟩
  refine Below.alloc ?_ (by simp; omega) _
  repeat (refine Below.setCell ?_ (by simp; try omega) _)
  exact BA.out

theorem specTakeNode_any (b : Option Addr) (d : Nat) (l : List Int) (at_ : Int) (w : World) (h : Rd w .u8 b l) (hby : By l) (hl : l.length ≤ maxLen) (hd : l.length ≤ d) (hd2 : d ≤ maxLen) (ha : at_ ≤ 9223372036854775807) :
    Calls Tryz.prog 127 #[.slice b l.length d, .int .i64 at_] w (TookNm (takeNd l at_) w) := by
  obtain ⟨⟨k, s⟩, hk⟩ : ∃ r, r = numR l (some at_) := ⟨_, rfl⟩
  cases s with
  | none => exact specTakeNone k b d l at_ w h hby hl hd hd2 ha hk.symm
  | some p =>
    have hc : k = 0 ∨ k = 1 ∨ k = 2 ∨ k = 3 ∨ k = 5 ∨ k = 6 ∨ (k = 4 ∨ k = 7 ∨ k < 0 ∨ 7 < k) := by omega
    rcases hc with rfl | rfl | rfl | rfl | rfl | rfl | hko
    · exact specTake0 b d l at_ p w h hby hl hd hd2 ha hk.symm
    · exact specTake1 b d l at_ p w h hby hl hd hd2 ha hk.symm
    · exact specTake2 b d l at_ p w h hby hl hd hd2 ha hk.symm
    · exact specTake3 b d l at_ p w h hby hl hd hd2 ha hk.symm
    · exact specTake5 b d l at_ p w h hby hl hd hd2 ha hk.symm
    · exact specTake6 b d l at_ p w h hby hl hd hd2 ha hk.symm
    · exact specTakeOut k hko b d l at_ p w h hby hl hd hd2 ha hk.symm
end Go.Proofs.YtfpbhedophlnkaaGreatDoor
