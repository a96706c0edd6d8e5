/-
  Contract of spec.TakeNode. For every slice of bytes and every place.
-/
import Derived.Test.YtfpbhedophlnkaaGreatDoorJ42x
import Derived.Test.YtfpbhedophlnkaaGreatDoorJ20x
import Derived.Test.YtfpbhedophlnkaaGreatDoorJ10x
import Derived.BigRegion
namespace Go.Proofs.YtfpbhedophlnkaaGreatDoor
open Go.RowKit
set_option linter.unusedSimpArgs false
set_option linter.unusedVariables false

set_option maxRecDepth 100000 in
set_option maxHeartbeats 3200000 in
theorem specTake1 (b : Option Addr) (d : Nat) (l : List Int) (at_ p : Int) (w : World) (h : Rd w .u8 b l) (hby : By l) (hl : l.length ≤ maxLen) (hd : l.length ≤ d) (hd2 : d ≤ maxLen) (ha : at_ ≤ 9223372036854775807) (hk : numR l (some at_) = (1, some p)) :
    Calls Tryz.prog 127 #[.slice b l.length d, .int .i64 at_] w (TookNm (takeNd l at_) w) := by
  have T0 := Lib.hid (fun W R (h : Srd W R b d l (some at_)) => l05Next_any R b d l (some at_) W h)
  rw [hk] at T0
  have T1 := Lib.hid (fun W R (h : Srd W R b d l (some p)) => l05Next_any R b d l (some p) W h)
  obtain ⟨⟨x1, s1⟩, hx1⟩ : ∃ r, r = numR l (some p) := ⟨_, rfl⟩
  rw [← hx1] at T1
  have T2 := Lib.hid (fun W R (h : Srd W R b d l (s1)) => l05Next_any R b d l (s1) W h)
  obtain ⟨⟨x2, s2⟩, hx2⟩ : ∃ r, r = numR l (s1) := ⟨_, rfl⟩
  rw [← hx2] at T2
  have T3 := Lib.hid (fun W R (h : Srd W R b d l (s2)) => l05Slot_any R b d l (s2) W h)
  obtain ⟨⟨x3, s3⟩, hx3⟩ : ∃ r, r = flagR l (s2) := ⟨_, rfl⟩
  rw [← hx3] at T3
  have T4 := Lib.hid (fun W R (h : Srd W R b d l (s3)) => l05Next_any R b d l (s3) W h)
  obtain ⟨⟨x4, s4⟩, hx4⟩ : ∃ r, r = numR l (s3) := ⟨_, rfl⟩
  rw [← hx4] at T4
  have FR : fieldR l 1 (some p) = (⟨1, ⟨#[]⟩, x1, x2, x4, x3, []⟩, s4) := by simp [fieldR, ← hx1, ← hx2, ← hx3, ← hx4]
  have TN : Hid (takeNd l at_ = match (if nodeB ⟨1, ⟨#[]⟩, x1, x2, x4, x3, []⟩ then s4 else none) with | none => (zeroNd, -1) | some q => (⟨1, ⟨#[]⟩, x1, x2, x4, x3, []⟩, q)) := by
    show _ = _
    unfold takeNd nodeR
    rw [hk]
    simp only
    rw [FR]
    rfl
  obtain ⟨rr, hrr⟩ : ∃ rr, rr = takeNd l at_ := ⟨_, rfl⟩
  rw [← hrr] at TN ⊢
  have hbb : ∀ a, b = some a → l ≠ [] → a.block < w.heap.size := rd_lt h
  have H0 := Lib.hid (srd_new (d := d) h hby hl ha)
  have NK := Lib.hid (fun W => specNodeOk_any ⟨1, ⟨#[]⟩, x1, x2, x4, x3, []⟩ none 0 W (.inl rfl) (by simp) (Nat.zero_le maxLen))
  clear FR hk hrr h hby hx1 hx2 hx3 hx4
  unfold WS at H0
  go_enter Tryz.func127, Tryz.ntmps127
  go_wp2_with fail
  refine (T0.out _ _ H0.out).mono ?_
  rintro e w1 ⟨rfl, h1, g1⟩
  obtain ⟨p1, f1, hh, hp1, he1, hr1, hby1, hd1, hne1⟩ := id h1
  obtain ⟨rfl, rfl⟩ : p1 = p ∧ f1 = false := by
    rcases he1 with ⟨hs, hf⟩ | ⟨hs, _⟩
    · injection hs with hs; exact ⟨hs.symm, hf⟩
    · cases hs
  have c2 : w1.cell? ⟨w.heap.size + 1, 2, none⟩ = some (.bool false) := cell_of_row w1 _ 2 _ _ _ hh
  have zz : w1.heap.size ≠ w.heap.size + 1 := by have := lt_of_block hh; omega
  have zy : ¬ (w.heap.size + 1 = w1.heap.size) := fun e => zz e.symm
  have z1 : w.heap.size + 2 ≤ w1.heap.size := by have := g1.size; simp at this; omega
  have zl : w.heap.size + 1 < w1.heap.size := by omega
  have zk : w.heap.size < w1.heap.size := by omega
  have z0 : ¬ (w1.heap.size = w.heap.size) := by omega
  have z0' : ¬ (w.heap.size = w1.heap.size) := by omega
  have G1 := Lib.hid g1
  have BA := Lib.hid (below_ws g1)
  obtain ⟨hz0, hy0⟩ := gcell g1 (X := w.heap.size) (by simp; omega) (by omega)
  have H1 := Lib.hid h1
  have BB0 := Lib.hid (BA.out.alloc BA.out.size (.cells #[.int .i64 1, .string ⟨#[]⟩, .int .i64 0, .int .i64 0, .int .i64 0, .bool false, .slice none 0 0] 92))
  clear hh he1 hr1 hby1 hd1 hne1 g1 h1
  have X00 : (w1.alloc (.cells #[.int .i64 1, .string ⟨#[]⟩, .int .i64 0, .int .i64 0, .int .i64 0, .bool false, .slice none 0 0] 92)).cell? ⟨w1.heap.size, 0, none⟩ = some (.int .i64 1) := (cell_of_row _ _ _ _ _ _ (heap_alloc_new w1 _)).trans rfl
  have X01 : (w1.alloc (.cells #[.int .i64 1, .string ⟨#[]⟩, .int .i64 0, .int .i64 0, .int .i64 0, .bool false, .slice none 0 0] 92)).cell? ⟨w1.heap.size, 1, none⟩ = some (.string ⟨#[]⟩) := (cell_of_row _ _ _ _ _ _ (heap_alloc_new w1 _)).trans rfl
  have X02 : (w1.alloc (.cells #[.int .i64 1, .string ⟨#[]⟩, .int .i64 0, .int .i64 0, .int .i64 0, .bool false, .slice none 0 0] 92)).cell? ⟨w1.heap.size, 2, none⟩ = some (.int .i64 0) := (cell_of_row _ _ _ _ _ _ (heap_alloc_new w1 _)).trans rfl
  have X03 : (w1.alloc (.cells #[.int .i64 1, .string ⟨#[]⟩, .int .i64 0, .int .i64 0, .int .i64 0, .bool false, .slice none 0 0] 92)).cell? ⟨w1.heap.size, 3, none⟩ = some (.int .i64 0) := (cell_of_row _ _ _ _ _ _ (heap_alloc_new w1 _)).trans rfl
  have X04 : (w1.alloc (.cells #[.int .i64 1, .string ⟨#[]⟩, .int .i64 0, .int .i64 0, .int .i64 0, .bool false, .slice none 0 0] 92)).cell? ⟨w1.heap.size, 4, none⟩ = some (.int .i64 0) := (cell_of_row _ _ _ _ _ _ (heap_alloc_new w1 _)).trans rfl
  have X05 : (w1.alloc (.cells #[.int .i64 1, .string ⟨#[]⟩, .int .i64 0, .int .i64 0, .int .i64 0, .bool false, .slice none 0 0] 92)).cell? ⟨w1.heap.size, 5, none⟩ = some (.bool false) := (cell_of_row _ _ _ _ _ _ (heap_alloc_new w1 _)).trans rfl
  have X06 : (w1.alloc (.cells #[.int .i64 1, .string ⟨#[]⟩, .int .i64 0, .int .i64 0, .int .i64 0, .bool false, .slice none 0 0] 92)).cell? ⟨w1.heap.size, 6, none⟩ = some (.slice none 0 0) := (cell_of_row _ _ _ _ _ _ (heap_alloc_new w1 _)).trans rfl
  have Y00 : (w1.alloc (.cells #[.int .i64 1, .string ⟨#[]⟩, .int .i64 0, .int .i64 0, .int .i64 0, .bool false, .slice none 0 0] 92)).cell? ⟨w.heap.size, 0, none⟩ = some (.int .i64 0) := (((Below.refl _ w1).alloc (Nat.le_refl _) _).cell (p := ⟨w.heap.size, 0, none⟩) zk).trans ((hz0 0).trans (ws_zero w b l.length d at_ 0 _ rfl))
  have Y01 : (w1.alloc (.cells #[.int .i64 1, .string ⟨#[]⟩, .int .i64 0, .int .i64 0, .int .i64 0, .bool false, .slice none 0 0] 92)).cell? ⟨w.heap.size, 1, none⟩ = some (.string ⟨#[]⟩) := (((Below.refl _ w1).alloc (Nat.le_refl _) _).cell (p := ⟨w.heap.size, 1, none⟩) zk).trans ((hz0 1).trans (ws_zero w b l.length d at_ 1 _ rfl))
  have Y02 : (w1.alloc (.cells #[.int .i64 1, .string ⟨#[]⟩, .int .i64 0, .int .i64 0, .int .i64 0, .bool false, .slice none 0 0] 92)).cell? ⟨w.heap.size, 2, none⟩ = some (.int .i64 0) := (((Below.refl _ w1).alloc (Nat.le_refl _) _).cell (p := ⟨w.heap.size, 2, none⟩) zk).trans ((hz0 2).trans (ws_zero w b l.length d at_ 2 _ rfl))
  have Y03 : (w1.alloc (.cells #[.int .i64 1, .string ⟨#[]⟩, .int .i64 0, .int .i64 0, .int .i64 0, .bool false, .slice none 0 0] 92)).cell? ⟨w.heap.size, 3, none⟩ = some (.int .i64 0) := (((Below.refl _ w1).alloc (Nat.le_refl _) _).cell (p := ⟨w.heap.size, 3, none⟩) zk).trans ((hz0 3).trans (ws_zero w b l.length d at_ 3 _ rfl))
  have Y04 : (w1.alloc (.cells #[.int .i64 1, .string ⟨#[]⟩, .int .i64 0, .int .i64 0, .int .i64 0, .bool false, .slice none 0 0] 92)).cell? ⟨w.heap.size, 4, none⟩ = some (.int .i64 0) := (((Below.refl _ w1).alloc (Nat.le_refl _) _).cell (p := ⟨w.heap.size, 4, none⟩) zk).trans ((hz0 4).trans (ws_zero w b l.length d at_ 4 _ rfl))
  have Y05 : (w1.alloc (.cells #[.int .i64 1, .string ⟨#[]⟩, .int .i64 0, .int .i64 0, .int .i64 0, .bool false, .slice none 0 0] 92)).cell? ⟨w.heap.size, 5, none⟩ = some (.bool false) := (((Below.refl _ w1).alloc (Nat.le_refl _) _).cell (p := ⟨w.heap.size, 5, none⟩) zk).trans ((hz0 5).trans (ws_zero w b l.length d at_ 5 _ rfl))
  have Y06 : (w1.alloc (.cells #[.int .i64 1, .string ⟨#[]⟩, .int .i64 0, .int .i64 0, .int .i64 0, .bool false, .slice none 0 0] 92)).cell? ⟨w.heap.size, 6, none⟩ = some (.slice none 0 0) := (((Below.refl _ w1).alloc (Nat.le_refl _) _).cell (p := ⟨w.heap.size, 6, none⟩) zk).trans ((hz0 6).trans (ws_zero w b l.length d at_ 6 _ rfl))
  have K1 := Lib.hid (H1.out.below ((Below.refl _ w1).alloc (Nat.le_refl _) (.cells #[.int .i64 1, .string ⟨#[]⟩, .int .i64 0, .int .i64 0, .int .i64 0, .bool false, .slice none 0 0] 92)))
  have B1 := Lib.hid (((Below.refl _ w1).alloc (Nat.le_refl _) (.cells #[.int .i64 1, .string ⟨#[]⟩, .int .i64 0, .int .i64 0, .int .i64 0, .bool false, .slice none 0 0] 92)).mono z1)
  go_wp2_with fail
  refine (T1.out _ _ K1.out).mono ?_
  rintro e v1 ⟨rfl, h1, g1⟩
  obtain ⟨hc1, hf1⟩ := gcell g1 (X := w1.heap.size) (by first | (simp; done) | (simp; omega)) zz
  obtain ⟨hzc1, hyc1⟩ := gcell g1 (X := w.heap.size) (by first | (simp; done) | (simp; omega)) (by omega)
  have K2 := Lib.hid (h1.belowB (w' := v1.setCell ⟨w1.heap.size, 2, none⟩ (.int .i64 x1)) (B := w.heap.size + 2) (by omega) (fun a ha hl => Nat.lt_of_lt_of_le (hbb a ha hl) (by omega)) ((Below.refl _ _).setCell (by exact z1) _))
  have X10 : (v1.setCell ⟨w1.heap.size, 2, none⟩ (.int .i64 x1)).cell? ⟨w1.heap.size, 0, none⟩ = some (.int .i64 1) := (World.cell?_setCell_other _ _ _ _ (by simp)).trans ((hc1 0).trans X00)
  have X11 : (v1.setCell ⟨w1.heap.size, 2, none⟩ (.int .i64 x1)).cell? ⟨w1.heap.size, 1, none⟩ = some (.string ⟨#[]⟩) := (World.cell?_setCell_other _ _ _ _ (by simp)).trans ((hc1 1).trans X01)
  have X12 : (v1.setCell ⟨w1.heap.size, 2, none⟩ (.int .i64 x1)).cell? ⟨w1.heap.size, 2, none⟩ = some (.int .i64 x1) := World.cell?_setCell_same _ _ _ ((hc1 2).trans X02)
  have X13 : (v1.setCell ⟨w1.heap.size, 2, none⟩ (.int .i64 x1)).cell? ⟨w1.heap.size, 3, none⟩ = some (.int .i64 0) := (World.cell?_setCell_other _ _ _ _ (by simp)).trans ((hc1 3).trans X03)
  have X14 : (v1.setCell ⟨w1.heap.size, 2, none⟩ (.int .i64 x1)).cell? ⟨w1.heap.size, 4, none⟩ = some (.int .i64 0) := (World.cell?_setCell_other _ _ _ _ (by simp)).trans ((hc1 4).trans X04)
  have X15 : (v1.setCell ⟨w1.heap.size, 2, none⟩ (.int .i64 x1)).cell? ⟨w1.heap.size, 5, none⟩ = some (.bool false) := (World.cell?_setCell_other _ _ _ _ (by simp)).trans ((hc1 5).trans X05)
  have X16 : (v1.setCell ⟨w1.heap.size, 2, none⟩ (.int .i64 x1)).cell? ⟨w1.heap.size, 6, none⟩ = some (.slice none 0 0) := (World.cell?_setCell_other _ _ _ _ (by simp)).trans ((hc1 6).trans X06)
  have Y10 : (v1.setCell ⟨w1.heap.size, 2, none⟩ (.int .i64 x1)).cell? ⟨w.heap.size, 0, none⟩ = some (.int .i64 0) := (World.cell?_setCell_other _ _ _ _ (fun e => absurd (congrArg Addr.block e) z0)).trans ((hzc1 0).trans Y00)
  have Y11 : (v1.setCell ⟨w1.heap.size, 2, none⟩ (.int .i64 x1)).cell? ⟨w.heap.size, 1, none⟩ = some (.string ⟨#[]⟩) := (World.cell?_setCell_other _ _ _ _ (fun e => absurd (congrArg Addr.block e) z0)).trans ((hzc1 1).trans Y01)
  have Y12 : (v1.setCell ⟨w1.heap.size, 2, none⟩ (.int .i64 x1)).cell? ⟨w.heap.size, 2, none⟩ = some (.int .i64 0) := (World.cell?_setCell_other _ _ _ _ (fun e => absurd (congrArg Addr.block e) z0)).trans ((hzc1 2).trans Y02)
  have Y13 : (v1.setCell ⟨w1.heap.size, 2, none⟩ (.int .i64 x1)).cell? ⟨w.heap.size, 3, none⟩ = some (.int .i64 0) := (World.cell?_setCell_other _ _ _ _ (fun e => absurd (congrArg Addr.block e) z0)).trans ((hzc1 3).trans Y03)
  have Y14 : (v1.setCell ⟨w1.heap.size, 2, none⟩ (.int .i64 x1)).cell? ⟨w.heap.size, 4, none⟩ = some (.int .i64 0) := (World.cell?_setCell_other _ _ _ _ (fun e => absurd (congrArg Addr.block e) z0)).trans ((hzc1 4).trans Y04)
  have Y15 : (v1.setCell ⟨w1.heap.size, 2, none⟩ (.int .i64 x1)).cell? ⟨w.heap.size, 5, none⟩ = some (.bool false) := (World.cell?_setCell_other _ _ _ _ (fun e => absurd (congrArg Addr.block e) z0)).trans ((hzc1 5).trans Y05)
  have Y16 : (v1.setCell ⟨w1.heap.size, 2, none⟩ (.int .i64 x1)).cell? ⟨w.heap.size, 6, none⟩ = some (.slice none 0 0) := (World.cell?_setCell_other _ _ _ _ (fun e => absurd (congrArg Addr.block e) z0)).trans ((hzc1 6).trans Y06)
  clear X00 Y00 X01 Y01 X02 Y02 X03 Y03 X04 Y04 X05 Y05 X06 Y06
  have J1 := Lib.hid h1
  have zs1 : w1.heap.size < v1.heap.size := by have := g1.size; simp at this; omega
  have BR1 := Lib.hid (BB0.out.grown g1 BB0.out.size (by intro g hg; cases hg; omega))
  have BB1 := Lib.hid (BR1.out.setCell (p := ⟨w1.heap.size, 2, none⟩) (by show w.heap.size ≤ w1.heap.size; omega) (.int .i64 x1))
  clear h1 g1
  go_wp2_with fail
  refine (T2.out _ _ K2.out).mono ?_
  rintro e v2 ⟨rfl, h2, g2⟩
  obtain ⟨hc2, hf2⟩ := gcell g2 (X := w1.heap.size) (by first | (simp; done) | (simp; omega)) zz
  obtain ⟨hzc2, hyc2⟩ := gcell g2 (X := w.heap.size) (by first | (simp; done) | (simp; omega)) (by omega)
  have K3 := Lib.hid (h2.belowB (w' := v2.setCell ⟨w1.heap.size, 3, none⟩ (.int .i64 x2)) (B := w.heap.size + 2) (by omega) (fun a ha hl => Nat.lt_of_lt_of_le (hbb a ha hl) (by omega)) ((Below.refl _ _).setCell (by exact z1) _))
  have X20 : (v2.setCell ⟨w1.heap.size, 3, none⟩ (.int .i64 x2)).cell? ⟨w1.heap.size, 0, none⟩ = some (.int .i64 1) := (World.cell?_setCell_other _ _ _ _ (by simp)).trans ((hc2 0).trans X10)
  have X21 : (v2.setCell ⟨w1.heap.size, 3, none⟩ (.int .i64 x2)).cell? ⟨w1.heap.size, 1, none⟩ = some (.string ⟨#[]⟩) := (World.cell?_setCell_other _ _ _ _ (by simp)).trans ((hc2 1).trans X11)
  have X22 : (v2.setCell ⟨w1.heap.size, 3, none⟩ (.int .i64 x2)).cell? ⟨w1.heap.size, 2, none⟩ = some (.int .i64 x1) := (World.cell?_setCell_other _ _ _ _ (by simp)).trans ((hc2 2).trans X12)
  have X23 : (v2.setCell ⟨w1.heap.size, 3, none⟩ (.int .i64 x2)).cell? ⟨w1.heap.size, 3, none⟩ = some (.int .i64 x2) := World.cell?_setCell_same _ _ _ ((hc2 3).trans X13)
  have X24 : (v2.setCell ⟨w1.heap.size, 3, none⟩ (.int .i64 x2)).cell? ⟨w1.heap.size, 4, none⟩ = some (.int .i64 0) := (World.cell?_setCell_other _ _ _ _ (by simp)).trans ((hc2 4).trans X14)
  have X25 : (v2.setCell ⟨w1.heap.size, 3, none⟩ (.int .i64 x2)).cell? ⟨w1.heap.size, 5, none⟩ = some (.bool false) := (World.cell?_setCell_other _ _ _ _ (by simp)).trans ((hc2 5).trans X15)
  have X26 : (v2.setCell ⟨w1.heap.size, 3, none⟩ (.int .i64 x2)).cell? ⟨w1.heap.size, 6, none⟩ = some (.slice none 0 0) := (World.cell?_setCell_other _ _ _ _ (by simp)).trans ((hc2 6).trans X16)
  have Y20 : (v2.setCell ⟨w1.heap.size, 3, none⟩ (.int .i64 x2)).cell? ⟨w.heap.size, 0, none⟩ = some (.int .i64 0) := (World.cell?_setCell_other _ _ _ _ (fun e => absurd (congrArg Addr.block e) z0)).trans ((hzc2 0).trans Y10)
  have Y21 : (v2.setCell ⟨w1.heap.size, 3, none⟩ (.int .i64 x2)).cell? ⟨w.heap.size, 1, none⟩ = some (.string ⟨#[]⟩) := (World.cell?_setCell_other _ _ _ _ (fun e => absurd (congrArg Addr.block e) z0)).trans ((hzc2 1).trans Y11)
  have Y22 : (v2.setCell ⟨w1.heap.size, 3, none⟩ (.int .i64 x2)).cell? ⟨w.heap.size, 2, none⟩ = some (.int .i64 0) := (World.cell?_setCell_other _ _ _ _ (fun e => absurd (congrArg Addr.block e) z0)).trans ((hzc2 2).trans Y12)
  have Y23 : (v2.setCell ⟨w1.heap.size, 3, none⟩ (.int .i64 x2)).cell? ⟨w.heap.size, 3, none⟩ = some (.int .i64 0) := (World.cell?_setCell_other _ _ _ _ (fun e => absurd (congrArg Addr.block e) z0)).trans ((hzc2 3).trans Y13)
  have Y24 : (v2.setCell ⟨w1.heap.size, 3, none⟩ (.int .i64 x2)).cell? ⟨w.heap.size, 4, none⟩ = some (.int .i64 0) := (World.cell?_setCell_other _ _ _ _ (fun e => absurd (congrArg Addr.block e) z0)).trans ((hzc2 4).trans Y14)
  have Y25 : (v2.setCell ⟨w1.heap.size, 3, none⟩ (.int .i64 x2)).cell? ⟨w.heap.size, 5, none⟩ = some (.bool false) := (World.cell?_setCell_other _ _ _ _ (fun e => absurd (congrArg Addr.block e) z0)).trans ((hzc2 5).trans Y15)
  have Y26 : (v2.setCell ⟨w1.heap.size, 3, none⟩ (.int .i64 x2)).cell? ⟨w.heap.size, 6, none⟩ = some (.slice none 0 0) := (World.cell?_setCell_other _ _ _ _ (fun e => absurd (congrArg Addr.block e) z0)).trans ((hzc2 6).trans Y16)
  clear X10 Y10 X11 Y11 X12 Y12 X13 Y13 X14 Y14 X15 Y15 X16 Y16
  have J2 := Lib.hid h2
  have zs2 : w1.heap.size < v2.heap.size := by have := g2.size; simp at this; omega
  have BR2 := Lib.hid (BB1.out.grown g2 BB1.out.size (by intro g hg; cases hg; omega))
  have BB2 := Lib.hid (BR2.out.setCell (p := ⟨w1.heap.size, 3, none⟩) (by show w.heap.size ≤ w1.heap.size; omega) (.int .i64 x2))
  clear h2 g2
  go_wp2_with fail
  refine (T3.out _ _ K3.out).mono ?_
  rintro e v3 ⟨rfl, h3, g3⟩
  obtain ⟨hc3, hf3⟩ := gcell g3 (X := w1.heap.size) (by first | (simp; done) | (simp; omega)) zz
  obtain ⟨hzc3, hyc3⟩ := gcell g3 (X := w.heap.size) (by first | (simp; done) | (simp; omega)) (by omega)
  have K4 := Lib.hid (h3.belowB (w' := v3.setCell ⟨w1.heap.size, 5, none⟩ (.bool x3)) (B := w.heap.size + 2) (by omega) (fun a ha hl => Nat.lt_of_lt_of_le (hbb a ha hl) (by omega)) ((Below.refl _ _).setCell (by exact z1) _))
  have X30 : (v3.setCell ⟨w1.heap.size, 5, none⟩ (.bool x3)).cell? ⟨w1.heap.size, 0, none⟩ = some (.int .i64 1) := (World.cell?_setCell_other _ _ _ _ (by simp)).trans ((hc3 0).trans X20)
  have X31 : (v3.setCell ⟨w1.heap.size, 5, none⟩ (.bool x3)).cell? ⟨w1.heap.size, 1, none⟩ = some (.string ⟨#[]⟩) := (World.cell?_setCell_other _ _ _ _ (by simp)).trans ((hc3 1).trans X21)
  have X32 : (v3.setCell ⟨w1.heap.size, 5, none⟩ (.bool x3)).cell? ⟨w1.heap.size, 2, none⟩ = some (.int .i64 x1) := (World.cell?_setCell_other _ _ _ _ (by simp)).trans ((hc3 2).trans X22)
  have X33 : (v3.setCell ⟨w1.heap.size, 5, none⟩ (.bool x3)).cell? ⟨w1.heap.size, 3, none⟩ = some (.int .i64 x2) := (World.cell?_setCell_other _ _ _ _ (by simp)).trans ((hc3 3).trans X23)
  have X34 : (v3.setCell ⟨w1.heap.size, 5, none⟩ (.bool x3)).cell? ⟨w1.heap.size, 4, none⟩ = some (.int .i64 0) := (World.cell?_setCell_other _ _ _ _ (by simp)).trans ((hc3 4).trans X24)
  have X35 : (v3.setCell ⟨w1.heap.size, 5, none⟩ (.bool x3)).cell? ⟨w1.heap.size, 5, none⟩ = some (.bool x3) := World.cell?_setCell_same _ _ _ ((hc3 5).trans X25)
  have X36 : (v3.setCell ⟨w1.heap.size, 5, none⟩ (.bool x3)).cell? ⟨w1.heap.size, 6, none⟩ = some (.slice none 0 0) := (World.cell?_setCell_other _ _ _ _ (by simp)).trans ((hc3 6).trans X26)
  have Y30 : (v3.setCell ⟨w1.heap.size, 5, none⟩ (.bool x3)).cell? ⟨w.heap.size, 0, none⟩ = some (.int .i64 0) := (World.cell?_setCell_other _ _ _ _ (fun e => absurd (congrArg Addr.block e) z0)).trans ((hzc3 0).trans Y20)
  have Y31 : (v3.setCell ⟨w1.heap.size, 5, none⟩ (.bool x3)).cell? ⟨w.heap.size, 1, none⟩ = some (.string ⟨#[]⟩) := (World.cell?_setCell_other _ _ _ _ (fun e => absurd (congrArg Addr.block e) z0)).trans ((hzc3 1).trans Y21)
  have Y32 : (v3.setCell ⟨w1.heap.size, 5, none⟩ (.bool x3)).cell? ⟨w.heap.size, 2, none⟩ = some (.int .i64 0) := (World.cell?_setCell_other _ _ _ _ (fun e => absurd (congrArg Addr.block e) z0)).trans ((hzc3 2).trans Y22)
  have Y33 : (v3.setCell ⟨w1.heap.size, 5, none⟩ (.bool x3)).cell? ⟨w.heap.size, 3, none⟩ = some (.int .i64 0) := (World.cell?_setCell_other _ _ _ _ (fun e => absurd (congrArg Addr.block e) z0)).trans ((hzc3 3).trans Y23)
  have Y34 : (v3.setCell ⟨w1.heap.size, 5, none⟩ (.bool x3)).cell? ⟨w.heap.size, 4, none⟩ = some (.int .i64 0) := (World.cell?_setCell_other _ _ _ _ (fun e => absurd (congrArg Addr.block e) z0)).trans ((hzc3 4).trans Y24)
  have Y35 : (v3.setCell ⟨w1.heap.size, 5, none⟩ (.bool x3)).cell? ⟨w.heap.size, 5, none⟩ = some (.bool false) := (World.cell?_setCell_other _ _ _ _ (fun e => absurd (congrArg Addr.block e) z0)).trans ((hzc3 5).trans Y25)
  have Y36 : (v3.setCell ⟨w1.heap.size, 5, none⟩ (.bool x3)).cell? ⟨w.heap.size, 6, none⟩ = some (.slice none 0 0) := (World.cell?_setCell_other _ _ _ _ (fun e => absurd (congrArg Addr.block e) z0)).trans ((hzc3 6).trans Y26)
  clear X20 Y20 X21 Y21 X22 Y22 X23 Y23 X24 Y24 X25 Y25 X26 Y26
  have J3 := Lib.hid h3
  have zs3 : w1.heap.size < v3.heap.size := by have := g3.size; simp at this; omega
  have BR3 := Lib.hid (BB2.out.grown g3 BB2.out.size (by intro g hg; cases hg; omega))
  have BB3 := Lib.hid (BR3.out.setCell (p := ⟨w1.heap.size, 5, none⟩) (by show w.heap.size ≤ w1.heap.size; omega) (.bool x3))
  clear h3 g3
  go_wp2_with fail
  refine (T4.out _ _ K4.out).mono ?_
  rintro e v4 ⟨rfl, h4, g4⟩
  obtain ⟨hc4, hf4⟩ := gcell g4 (X := w1.heap.size) (by first | (simp; done) | (simp; omega)) zz
  obtain ⟨hzc4, hyc4⟩ := gcell g4 (X := w.heap.size) (by first | (simp; done) | (simp; omega)) (by omega)
  have K5 := Lib.hid (h4.belowB (w' := v4.setCell ⟨w1.heap.size, 4, none⟩ (.int .i64 x4)) (B := w.heap.size + 2) (by omega) (fun a ha hl => Nat.lt_of_lt_of_le (hbb a ha hl) (by omega)) ((Below.refl _ _).setCell (by exact z1) _))
  have X40 : (v4.setCell ⟨w1.heap.size, 4, none⟩ (.int .i64 x4)).cell? ⟨w1.heap.size, 0, none⟩ = some (.int .i64 1) := (World.cell?_setCell_other _ _ _ _ (by simp)).trans ((hc4 0).trans X30)
  have X41 : (v4.setCell ⟨w1.heap.size, 4, none⟩ (.int .i64 x4)).cell? ⟨w1.heap.size, 1, none⟩ = some (.string ⟨#[]⟩) := (World.cell?_setCell_other _ _ _ _ (by simp)).trans ((hc4 1).trans X31)
  have X42 : (v4.setCell ⟨w1.heap.size, 4, none⟩ (.int .i64 x4)).cell? ⟨w1.heap.size, 2, none⟩ = some (.int .i64 x1) := (World.cell?_setCell_other _ _ _ _ (by simp)).trans ((hc4 2).trans X32)
  have X43 : (v4.setCell ⟨w1.heap.size, 4, none⟩ (.int .i64 x4)).cell? ⟨w1.heap.size, 3, none⟩ = some (.int .i64 x2) := (World.cell?_setCell_other _ _ _ _ (by simp)).trans ((hc4 3).trans X33)
  have X44 : (v4.setCell ⟨w1.heap.size, 4, none⟩ (.int .i64 x4)).cell? ⟨w1.heap.size, 4, none⟩ = some (.int .i64 x4) := World.cell?_setCell_same _ _ _ ((hc4 4).trans X34)
  have X45 : (v4.setCell ⟨w1.heap.size, 4, none⟩ (.int .i64 x4)).cell? ⟨w1.heap.size, 5, none⟩ = some (.bool x3) := (World.cell?_setCell_other _ _ _ _ (by simp)).trans ((hc4 5).trans X35)
  have X46 : (v4.setCell ⟨w1.heap.size, 4, none⟩ (.int .i64 x4)).cell? ⟨w1.heap.size, 6, none⟩ = some (.slice none 0 0) := (World.cell?_setCell_other _ _ _ _ (by simp)).trans ((hc4 6).trans X36)
  have Y40 : (v4.setCell ⟨w1.heap.size, 4, none⟩ (.int .i64 x4)).cell? ⟨w.heap.size, 0, none⟩ = some (.int .i64 0) := (World.cell?_setCell_other _ _ _ _ (fun e => absurd (congrArg Addr.block e) z0)).trans ((hzc4 0).trans Y30)
  have Y41 : (v4.setCell ⟨w1.heap.size, 4, none⟩ (.int .i64 x4)).cell? ⟨w.heap.size, 1, none⟩ = some (.string ⟨#[]⟩) := (World.cell?_setCell_other _ _ _ _ (fun e => absurd (congrArg Addr.block e) z0)).trans ((hzc4 1).trans Y31)
  have Y42 : (v4.setCell ⟨w1.heap.size, 4, none⟩ (.int .i64 x4)).cell? ⟨w.heap.size, 2, none⟩ = some (.int .i64 0) := (World.cell?_setCell_other _ _ _ _ (fun e => absurd (congrArg Addr.block e) z0)).trans ((hzc4 2).trans Y32)
  have Y43 : (v4.setCell ⟨w1.heap.size, 4, none⟩ (.int .i64 x4)).cell? ⟨w.heap.size, 3, none⟩ = some (.int .i64 0) := (World.cell?_setCell_other _ _ _ _ (fun e => absurd (congrArg Addr.block e) z0)).trans ((hzc4 3).trans Y33)
  have Y44 : (v4.setCell ⟨w1.heap.size, 4, none⟩ (.int .i64 x4)).cell? ⟨w.heap.size, 4, none⟩ = some (.int .i64 0) := (World.cell?_setCell_other _ _ _ _ (fun e => absurd (congrArg Addr.block e) z0)).trans ((hzc4 4).trans Y34)
  have Y45 : (v4.setCell ⟨w1.heap.size, 4, none⟩ (.int .i64 x4)).cell? ⟨w.heap.size, 5, none⟩ = some (.bool false) := (World.cell?_setCell_other _ _ _ _ (fun e => absurd (congrArg Addr.block e) z0)).trans ((hzc4 5).trans Y35)
  have Y46 : (v4.setCell ⟨w1.heap.size, 4, none⟩ (.int .i64 x4)).cell? ⟨w.heap.size, 6, none⟩ = some (.slice none 0 0) := (World.cell?_setCell_other _ _ _ _ (fun e => absurd (congrArg Addr.block e) z0)).trans ((hzc4 6).trans Y36)
  clear X30 Y30 X31 Y31 X32 Y32 X33 Y33 X34 Y34 X35 Y35 X36 Y36
  have J4 := Lib.hid h4
  have zs4 : w1.heap.size < v4.heap.size := by have := g4.size; simp at this; omega
  have BR4 := Lib.hid (BB3.out.grown g4 BB3.out.size (by intro g hg; cases hg; omega))
  have BB4 := Lib.hid (BR4.out.setCell (p := ⟨w1.heap.size, 4, none⟩) (by show w.heap.size ≤ w1.heap.size; omega) (.int .i64 x4))
  clear h4 g4
  obtain ⟨pn, fn, hh, hpn, hen, _⟩ := J4.out
  have d1 : v4.cell? ⟨w.heap.size + 1, 1, none⟩ = some (.int .i64 pn) := cell_of_row v4 _ 1 _ _ _ hh
  have d2 : v4.cell? ⟨w.heap.size + 1, 2, none⟩ = some (.bool fn) := cell_of_row v4 _ 2 _ _ _ hh
  have HE := Lib.hid hen
  clear hh hen
  have zv : w.heap.size < v4.heap.size := by omega
  have zv1 : w.heap.size + 1 < v4.heap.size := by omega
  have zx : w1.heap.size < v4.heap.size := by omega
  rcases HE.out with ⟨hs, rfl⟩ | ⟨hs, rfl⟩
  · go_wp2_with fail
    refine (NK.out _).mono ?_
    rintro e v' ⟨rfl, bv⟩
    obtain ⟨hb, hbf⟩ := bcell bv
    have BV := Lib.hid (below_step BB4.out (Nat.le_refl _) bv)
    clear bv
    have YV0 : v'.cell? ⟨w.heap.size, 0, none⟩ = some (.int .i64 0) := (hb _ 0 (by simp; exact zv)).trans Y40
    have XV0 : v'.cell? ⟨w1.heap.size, 0, none⟩ = some (.int .i64 1) := (hb _ 0 (by simp; exact zx)).trans X40
    have YV1 : v'.cell? ⟨w.heap.size, 1, none⟩ = some (.string ⟨#[]⟩) := (hb _ 1 (by simp; exact zv)).trans Y41
    have XV1 : v'.cell? ⟨w1.heap.size, 1, none⟩ = some (.string ⟨#[]⟩) := (hb _ 1 (by simp; exact zx)).trans X41
    have YV2 : v'.cell? ⟨w.heap.size, 2, none⟩ = some (.int .i64 0) := (hb _ 2 (by simp; exact zv)).trans Y42
    have XV2 : v'.cell? ⟨w1.heap.size, 2, none⟩ = some (.int .i64 x1) := (hb _ 2 (by simp; exact zx)).trans X42
    have YV3 : v'.cell? ⟨w.heap.size, 3, none⟩ = some (.int .i64 0) := (hb _ 3 (by simp; exact zv)).trans Y43
    have XV3 : v'.cell? ⟨w1.heap.size, 3, none⟩ = some (.int .i64 x2) := (hb _ 3 (by simp; exact zx)).trans X43
    have YV4 : v'.cell? ⟨w.heap.size, 4, none⟩ = some (.int .i64 0) := (hb _ 4 (by simp; exact zv)).trans Y44
    have XV4 : v'.cell? ⟨w1.heap.size, 4, none⟩ = some (.int .i64 x4) := (hb _ 4 (by simp; exact zx)).trans X44
    have YV5 : v'.cell? ⟨w.heap.size, 5, none⟩ = some (.bool false) := (hb _ 5 (by simp; exact zv)).trans Y45
    have XV5 : v'.cell? ⟨w1.heap.size, 5, none⟩ = some (.bool x3) := (hb _ 5 (by simp; exact zx)).trans X45
    have YV6 : v'.cell? ⟨w.heap.size, 6, none⟩ = some (.slice none 0 0) := (hb _ 6 (by simp; exact zv)).trans Y46
    have XV6 : v'.cell? ⟨w1.heap.size, 6, none⟩ = some (.slice none 0 0) := (hb _ 6 (by simp; exact zx)).trans X46
    have PV : v'.cell? ⟨w.heap.size + 1, 1, none⟩ = some (.int .i64 pn) := (hb _ 1 (by simp; exact zv1)).trans ((World.cell?_setCell_other _ _ _ _ (fun e => absurd (congrArg Addr.block e) zz)).trans d1)
    cases hnb : nodeB ⟨1, ⟨#[]⟩, x1, x2, x4, x3, []⟩ with
    | false =>
      have E : Hid (rr = (zeroNd, -1)) := by show _ = _; rw [TN.out, hnb]; rfl
      go_wp2_with fail
      rw [E.out]
      refine bodyPost_ret (v := .tuple #[.agg #[.int .i64 0, .string ⟨#[]⟩, .int .i64 0, .int .i64 0, .int .i64 0, .bool false, .slice none 0 0], .int .i64 (-1)]) (by simp [results, Tryz.results127, go_sem, YV0, YV1, YV2, YV3, YV4, YV5, YV6]) rfl ⟨none, 0, rfl, Own.none_, ?_⟩
      repeat (refine Below.setCell ?_ (by simp; try omega) _)
      exact BV.out
    | true =>
      have E : Hid (rr = (⟨1, ⟨#[]⟩, x1, x2, x4, x3, []⟩, pn)) := by show _ = _; rw [TN.out, hnb, hs]; rfl
      go_wp2_with fail
      clear hb NK HE X40 Y40 X41 Y41 X42 Y42 X43 Y43 X44 Y44 X45 Y45 X46 Y46
      have FZ := fun o => hbf w.heap.size o (by simp; exact zv)
      go_region
      all_goals
        go_wp2_with fail
        rw [E.out]
        refine bodyPost_ret (v := .tuple #[.agg #[.int .i64 1, .string ⟨#[]⟩, .int .i64 x1, .int .i64 x2, .int .i64 x4, .bool x3, .slice none 0 0], .int .i64 pn]) (by simp [results, Tryz.results127, go_sem, YV0, YV1, YV2, YV3, YV4, YV5, YV6]) rfl ⟨none, 0, rfl, Own.none_, ?_⟩
        refine Below.drew ?_
        repeat (refine Below.setCell ?_ (by simp; try omega) _)
        exact BV.out
  · have E : Hid (rr = (zeroNd, -1)) := by show _ = _; rw [TN.out, hs]; simp
    go_wp2_with fail
    rw [E.out]
    refine bodyPost_ret (v := .tuple #[.agg #[.int .i64 0, .string ⟨#[]⟩, .int .i64 0, .int .i64 0, .int .i64 0, .bool false, .slice none 0 0], .int .i64 (-1)]) (by simp [results, Tryz.results127, go_sem, Y40, Y41, Y42, Y43, Y44, Y45, Y46]) rfl ⟨none, 0, rfl, Own.none_, ?_⟩
    repeat (refine Below.setCell ?_ (by simp; try omega) _)
    exact BR4.out

set_option maxRecDepth 100000 in
set_option maxHeartbeats 3200000 in
theorem specTake3 (b : Option Addr) (d : Nat) (l : List Int) (at_ p : Int) (w : World) (h : Rd w .u8 b l) (hby : By l) (hl : l.length ≤ maxLen) (hd : l.length ≤ d) (hd2 : d ≤ maxLen) (ha : at_ ≤ 9223372036854775807) (hk : numR l (some at_) = (3, some p)) :
    Calls Tryz.prog 127 #[.slice b l.length d, .int .i64 at_] w (TookNm (takeNd l at_) w) := by
  have T0 := Lib.hid (fun W R (h : Srd W R b d l (some at_)) => l05Next_any R b d l (some at_) W h)
  rw [hk] at T0
  have T1 := Lib.hid (fun W R (h : Srd W R b d l (some p)) => l05Next_any R b d l (some p) W h)
  obtain ⟨⟨x1, s1⟩, hx1⟩ : ∃ r, r = numR l (some p) := ⟨_, rfl⟩
  rw [← hx1] at T1
  have T2 := Lib.hid (fun W R (h : Srd W R b d l (s1)) => l05Next_any R b d l (s1) W h)
  obtain ⟨⟨x2, s2⟩, hx2⟩ : ∃ r, r = numR l (s1) := ⟨_, rfl⟩
  rw [← hx2] at T2
  have FR : fieldR l 3 (some p) = (⟨3, ⟨#[]⟩, x1, 0, x2, false, []⟩, s2) := by simp [fieldR, ← hx1, ← hx2]
  have TN : Hid (takeNd l at_ = match (if nodeB ⟨3, ⟨#[]⟩, x1, 0, x2, false, []⟩ then s2 else none) with | none => (zeroNd, -1) | some q => (⟨3, ⟨#[]⟩, x1, 0, x2, false, []⟩, q)) := by
    show _ = _
    unfold takeNd nodeR
    rw [hk]
    simp only
    rw [FR]
    rfl
  obtain ⟨rr, hrr⟩ : ∃ rr, rr = takeNd l at_ := ⟨_, rfl⟩
  rw [← hrr] at TN ⊢
  have hbb : ∀ a, b = some a → l ≠ [] → a.block < w.heap.size := rd_lt h
  have H0 := Lib.hid (srd_new (d := d) h hby hl ha)
  have NK := Lib.hid (fun W => specNodeOk_any ⟨3, ⟨#[]⟩, x1, 0, x2, false, []⟩ none 0 W (.inl rfl) (by simp) (Nat.zero_le maxLen))
  clear FR hk hrr h hby hx1 hx2
  unfold WS at H0
  go_enter Tryz.func127, Tryz.ntmps127
  go_wp2_with fail
  refine (T0.out _ _ H0.out).mono ?_
  rintro e w1 ⟨rfl, h1, g1⟩
  obtain ⟨p1, f1, hh, hp1, he1, hr1, hby1, hd1, hne1⟩ := id h1
  obtain ⟨rfl, rfl⟩ : p1 = p ∧ f1 = false := by
    rcases he1 with ⟨hs, hf⟩ | ⟨hs, _⟩
    · injection hs with hs; exact ⟨hs.symm, hf⟩
    · cases hs
  have c2 : w1.cell? ⟨w.heap.size + 1, 2, none⟩ = some (.bool false) := cell_of_row w1 _ 2 _ _ _ hh
  have zz : w1.heap.size ≠ w.heap.size + 1 := by have := lt_of_block hh; omega
  have zy : ¬ (w.heap.size + 1 = w1.heap.size) := fun e => zz e.symm
  have z1 : w.heap.size + 2 ≤ w1.heap.size := by have := g1.size; simp at this; omega
  have zl : w.heap.size + 1 < w1.heap.size := by omega
  have zk : w.heap.size < w1.heap.size := by omega
  have z0 : ¬ (w1.heap.size = w.heap.size) := by omega
  have z0' : ¬ (w.heap.size = w1.heap.size) := by omega
  have G1 := Lib.hid g1
  have BA := Lib.hid (below_ws g1)
  obtain ⟨hz0, hy0⟩ := gcell g1 (X := w.heap.size) (by simp; omega) (by omega)
  have H1 := Lib.hid h1
  have BB0 := Lib.hid (BA.out.alloc BA.out.size (.cells #[.int .i64 3, .string ⟨#[]⟩, .int .i64 0, .int .i64 0, .int .i64 0, .bool false, .slice none 0 0] 92))
  clear hh he1 hr1 hby1 hd1 hne1 g1 h1
  have X00 : (w1.alloc (.cells #[.int .i64 3, .string ⟨#[]⟩, .int .i64 0, .int .i64 0, .int .i64 0, .bool false, .slice none 0 0] 92)).cell? ⟨w1.heap.size, 0, none⟩ = some (.int .i64 3) := (cell_of_row _ _ _ _ _ _ (heap_alloc_new w1 _)).trans rfl
  have X01 : (w1.alloc (.cells #[.int .i64 3, .string ⟨#[]⟩, .int .i64 0, .int .i64 0, .int .i64 0, .bool false, .slice none 0 0] 92)).cell? ⟨w1.heap.size, 1, none⟩ = some (.string ⟨#[]⟩) := (cell_of_row _ _ _ _ _ _ (heap_alloc_new w1 _)).trans rfl
  have X02 : (w1.alloc (.cells #[.int .i64 3, .string ⟨#[]⟩, .int .i64 0, .int .i64 0, .int .i64 0, .bool false, .slice none 0 0] 92)).cell? ⟨w1.heap.size, 2, none⟩ = some (.int .i64 0) := (cell_of_row _ _ _ _ _ _ (heap_alloc_new w1 _)).trans rfl
  have X03 : (w1.alloc (.cells #[.int .i64 3, .string ⟨#[]⟩, .int .i64 0, .int .i64 0, .int .i64 0, .bool false, .slice none 0 0] 92)).cell? ⟨w1.heap.size, 3, none⟩ = some (.int .i64 0) := (cell_of_row _ _ _ _ _ _ (heap_alloc_new w1 _)).trans rfl
  have X04 : (w1.alloc (.cells #[.int .i64 3, .string ⟨#[]⟩, .int .i64 0, .int .i64 0, .int .i64 0, .bool false, .slice none 0 0] 92)).cell? ⟨w1.heap.size, 4, none⟩ = some (.int .i64 0) := (cell_of_row _ _ _ _ _ _ (heap_alloc_new w1 _)).trans rfl
  have X05 : (w1.alloc (.cells #[.int .i64 3, .string ⟨#[]⟩, .int .i64 0, .int .i64 0, .int .i64 0, .bool false, .slice none 0 0] 92)).cell? ⟨w1.heap.size, 5, none⟩ = some (.bool false) := (cell_of_row _ _ _ _ _ _ (heap_alloc_new w1 _)).trans rfl
  have X06 : (w1.alloc (.cells #[.int .i64 3, .string ⟨#[]⟩, .int .i64 0, .int .i64 0, .int .i64 0, .bool false, .slice none 0 0] 92)).cell? ⟨w1.heap.size, 6, none⟩ = some (.slice none 0 0) := (cell_of_row _ _ _ _ _ _ (heap_alloc_new w1 _)).trans rfl
  have Y00 : (w1.alloc (.cells #[.int .i64 3, .string ⟨#[]⟩, .int .i64 0, .int .i64 0, .int .i64 0, .bool false, .slice none 0 0] 92)).cell? ⟨w.heap.size, 0, none⟩ = some (.int .i64 0) := (((Below.refl _ w1).alloc (Nat.le_refl _) _).cell (p := ⟨w.heap.size, 0, none⟩) zk).trans ((hz0 0).trans (ws_zero w b l.length d at_ 0 _ rfl))
  have Y01 : (w1.alloc (.cells #[.int .i64 3, .string ⟨#[]⟩, .int .i64 0, .int .i64 0, .int .i64 0, .bool false, .slice none 0 0] 92)).cell? ⟨w.heap.size, 1, none⟩ = some (.string ⟨#[]⟩) := (((Below.refl _ w1).alloc (Nat.le_refl _) _).cell (p := ⟨w.heap.size, 1, none⟩) zk).trans ((hz0 1).trans (ws_zero w b l.length d at_ 1 _ rfl))
  have Y02 : (w1.alloc (.cells #[.int .i64 3, .string ⟨#[]⟩, .int .i64 0, .int .i64 0, .int .i64 0, .bool false, .slice none 0 0] 92)).cell? ⟨w.heap.size, 2, none⟩ = some (.int .i64 0) := (((Below.refl _ w1).alloc (Nat.le_refl _) _).cell (p := ⟨w.heap.size, 2, none⟩) zk).trans ((hz0 2).trans (ws_zero w b l.length d at_ 2 _ rfl))
  have Y03 : (w1.alloc (.cells #[.int .i64 3, .string ⟨#[]⟩, .int .i64 0, .int .i64 0, .int .i64 0, .bool false, .slice none 0 0] 92)).cell? ⟨w.heap.size, 3, none⟩ = some (.int .i64 0) := (((Below.refl _ w1).alloc (Nat.le_refl _) _).cell (p := ⟨w.heap.size, 3, none⟩) zk).trans ((hz0 3).trans (ws_zero w b l.length d at_ 3 _ rfl))
  have Y04 : (w1.alloc (.cells #[.int .i64 3, .string ⟨#[]⟩, .int .i64 0, .int .i64 0, .int .i64 0, .bool false, .slice none 0 0] 92)).cell? ⟨w.heap.size, 4, none⟩ = some (.int .i64 0) := (((Below.refl _ w1).alloc (Nat.le_refl _) _).cell (p := ⟨w.heap.size, 4, none⟩) zk).trans ((hz0 4).trans (ws_zero w b l.length d at_ 4 _ rfl))
  have Y05 : (w1.alloc (.cells #[.int .i64 3, .string ⟨#[]⟩, .int .i64 0, .int .i64 0, .int .i64 0, .bool false, .slice none 0 0] 92)).cell? ⟨w.heap.size, 5, none⟩ = some (.bool false) := (((Below.refl _ w1).alloc (Nat.le_refl _) _).cell (p := ⟨w.heap.size, 5, none⟩) zk).trans ((hz0 5).trans (ws_zero w b l.length d at_ 5 _ rfl))
  have Y06 : (w1.alloc (.cells #[.int .i64 3, .string ⟨#[]⟩, .int .i64 0, .int .i64 0, .int .i64 0, .bool false, .slice none 0 0] 92)).cell? ⟨w.heap.size, 6, none⟩ = some (.slice none 0 0) := (((Below.refl _ w1).alloc (Nat.le_refl _) _).cell (p := ⟨w.heap.size, 6, none⟩) zk).trans ((hz0 6).trans (ws_zero w b l.length d at_ 6 _ rfl))
  have K1 := Lib.hid (H1.out.below ((Below.refl _ w1).alloc (Nat.le_refl _) (.cells #[.int .i64 3, .string ⟨#[]⟩, .int .i64 0, .int .i64 0, .int .i64 0, .bool false, .slice none 0 0] 92)))
  have B1 := Lib.hid (((Below.refl _ w1).alloc (Nat.le_refl _) (.cells #[.int .i64 3, .string ⟨#[]⟩, .int .i64 0, .int .i64 0, .int .i64 0, .bool false, .slice none 0 0] 92)).mono z1)
  go_wp2_with fail
  refine (T1.out _ _ K1.out).mono ?_
  rintro e v1 ⟨rfl, h1, g1⟩
  obtain ⟨hc1, hf1⟩ := gcell g1 (X := w1.heap.size) (by first | (simp; done) | (simp; omega)) zz
  obtain ⟨hzc1, hyc1⟩ := gcell g1 (X := w.heap.size) (by first | (simp; done) | (simp; omega)) (by omega)
  have K2 := Lib.hid (h1.belowB (w' := v1.setCell ⟨w1.heap.size, 2, none⟩ (.int .i64 x1)) (B := w.heap.size + 2) (by omega) (fun a ha hl => Nat.lt_of_lt_of_le (hbb a ha hl) (by omega)) ((Below.refl _ _).setCell (by exact z1) _))
  have X10 : (v1.setCell ⟨w1.heap.size, 2, none⟩ (.int .i64 x1)).cell? ⟨w1.heap.size, 0, none⟩ = some (.int .i64 3) := (World.cell?_setCell_other _ _ _ _ (by simp)).trans ((hc1 0).trans X00)
  have X11 : (v1.setCell ⟨w1.heap.size, 2, none⟩ (.int .i64 x1)).cell? ⟨w1.heap.size, 1, none⟩ = some (.string ⟨#[]⟩) := (World.cell?_setCell_other _ _ _ _ (by simp)).trans ((hc1 1).trans X01)
  have X12 : (v1.setCell ⟨w1.heap.size, 2, none⟩ (.int .i64 x1)).cell? ⟨w1.heap.size, 2, none⟩ = some (.int .i64 x1) := World.cell?_setCell_same _ _ _ ((hc1 2).trans X02)
  have X13 : (v1.setCell ⟨w1.heap.size, 2, none⟩ (.int .i64 x1)).cell? ⟨w1.heap.size, 3, none⟩ = some (.int .i64 0) := (World.cell?_setCell_other _ _ _ _ (by simp)).trans ((hc1 3).trans X03)
  have X14 : (v1.setCell ⟨w1.heap.size, 2, none⟩ (.int .i64 x1)).cell? ⟨w1.heap.size, 4, none⟩ = some (.int .i64 0) := (World.cell?_setCell_other _ _ _ _ (by simp)).trans ((hc1 4).trans X04)
  have X15 : (v1.setCell ⟨w1.heap.size, 2, none⟩ (.int .i64 x1)).cell? ⟨w1.heap.size, 5, none⟩ = some (.bool false) := (World.cell?_setCell_other _ _ _ _ (by simp)).trans ((hc1 5).trans X05)
  have X16 : (v1.setCell ⟨w1.heap.size, 2, none⟩ (.int .i64 x1)).cell? ⟨w1.heap.size, 6, none⟩ = some (.slice none 0 0) := (World.cell?_setCell_other _ _ _ _ (by simp)).trans ((hc1 6).trans X06)
  have Y10 : (v1.setCell ⟨w1.heap.size, 2, none⟩ (.int .i64 x1)).cell? ⟨w.heap.size, 0, none⟩ = some (.int .i64 0) := (World.cell?_setCell_other _ _ _ _ (fun e => absurd (congrArg Addr.block e) z0)).trans ((hzc1 0).trans Y00)
  have Y11 : (v1.setCell ⟨w1.heap.size, 2, none⟩ (.int .i64 x1)).cell? ⟨w.heap.size, 1, none⟩ = some (.string ⟨#[]⟩) := (World.cell?_setCell_other _ _ _ _ (fun e => absurd (congrArg Addr.block e) z0)).trans ((hzc1 1).trans Y01)
  have Y12 : (v1.setCell ⟨w1.heap.size, 2, none⟩ (.int .i64 x1)).cell? ⟨w.heap.size, 2, none⟩ = some (.int .i64 0) := (World.cell?_setCell_other _ _ _ _ (fun e => absurd (congrArg Addr.block e) z0)).trans ((hzc1 2).trans Y02)
  have Y13 : (v1.setCell ⟨w1.heap.size, 2, none⟩ (.int .i64 x1)).cell? ⟨w.heap.size, 3, none⟩ = some (.int .i64 0) := (World.cell?_setCell_other _ _ _ _ (fun e => absurd (congrArg Addr.block e) z0)).trans ((hzc1 3).trans Y03)
  have Y14 : (v1.setCell ⟨w1.heap.size, 2, none⟩ (.int .i64 x1)).cell? ⟨w.heap.size, 4, none⟩ = some (.int .i64 0) := (World.cell?_setCell_other _ _ _ _ (fun e => absurd (congrArg Addr.block e) z0)).trans ((hzc1 4).trans Y04)
  have Y15 : (v1.setCell ⟨w1.heap.size, 2, none⟩ (.int .i64 x1)).cell? ⟨w.heap.size, 5, none⟩ = some (.bool false) := (World.cell?_setCell_other _ _ _ _ (fun e => absurd (congrArg Addr.block e) z0)).trans ((hzc1 5).trans Y05)
  have Y16 : (v1.setCell ⟨w1.heap.size, 2, none⟩ (.int .i64 x1)).cell? ⟨w.heap.size, 6, none⟩ = some (.slice none 0 0) := (World.cell?_setCell_other _ _ _ _ (fun e => absurd (congrArg Addr.block e) z0)).trans ((hzc1 6).trans Y06)
  clear X00 Y00 X01 Y01 X02 Y02 X03 Y03 X04 Y04 X05 Y05 X06 Y06
  have J1 := Lib.hid h1
  have zs1 : w1.heap.size < v1.heap.size := by have := g1.size; simp at this; omega
  have BR1 := Lib.hid (BB0.out.grown g1 BB0.out.size (by intro g hg; cases hg; omega))
  have BB1 := Lib.hid (BR1.out.setCell (p := ⟨w1.heap.size, 2, none⟩) (by show w.heap.size ≤ w1.heap.size; omega) (.int .i64 x1))
  clear h1 g1
  go_wp2_with fail
  refine (T2.out _ _ K2.out).mono ?_
  rintro e v2 ⟨rfl, h2, g2⟩
  obtain ⟨hc2, hf2⟩ := gcell g2 (X := w1.heap.size) (by first | (simp; done) | (simp; omega)) zz
  obtain ⟨hzc2, hyc2⟩ := gcell g2 (X := w.heap.size) (by first | (simp; done) | (simp; omega)) (by omega)
  have K3 := Lib.hid (h2.belowB (w' := v2.setCell ⟨w1.heap.size, 4, none⟩ (.int .i64 x2)) (B := w.heap.size + 2) (by omega) (fun a ha hl => Nat.lt_of_lt_of_le (hbb a ha hl) (by omega)) ((Below.refl _ _).setCell (by exact z1) _))
  have X20 : (v2.setCell ⟨w1.heap.size, 4, none⟩ (.int .i64 x2)).cell? ⟨w1.heap.size, 0, none⟩ = some (.int .i64 3) := (World.cell?_setCell_other _ _ _ _ (by simp)).trans ((hc2 0).trans X10)
  have X21 : (v2.setCell ⟨w1.heap.size, 4, none⟩ (.int .i64 x2)).cell? ⟨w1.heap.size, 1, none⟩ = some (.string ⟨#[]⟩) := (World.cell?_setCell_other _ _ _ _ (by simp)).trans ((hc2 1).trans X11)
  have X22 : (v2.setCell ⟨w1.heap.size, 4, none⟩ (.int .i64 x2)).cell? ⟨w1.heap.size, 2, none⟩ = some (.int .i64 x1) := (World.cell?_setCell_other _ _ _ _ (by simp)).trans ((hc2 2).trans X12)
  have X23 : (v2.setCell ⟨w1.heap.size, 4, none⟩ (.int .i64 x2)).cell? ⟨w1.heap.size, 3, none⟩ = some (.int .i64 0) := (World.cell?_setCell_other _ _ _ _ (by simp)).trans ((hc2 3).trans X13)
  have X24 : (v2.setCell ⟨w1.heap.size, 4, none⟩ (.int .i64 x2)).cell? ⟨w1.heap.size, 4, none⟩ = some (.int .i64 x2) := World.cell?_setCell_same _ _ _ ((hc2 4).trans X14)
  have X25 : (v2.setCell ⟨w1.heap.size, 4, none⟩ (.int .i64 x2)).cell? ⟨w1.heap.size, 5, none⟩ = some (.bool false) := (World.cell?_setCell_other _ _ _ _ (by simp)).trans ((hc2 5).trans X15)
  have X26 : (v2.setCell ⟨w1.heap.size, 4, none⟩ (.int .i64 x2)).cell? ⟨w1.heap.size, 6, none⟩ = some (.slice none 0 0) := (World.cell?_setCell_other _ _ _ _ (by simp)).trans ((hc2 6).trans X16)
  have Y20 : (v2.setCell ⟨w1.heap.size, 4, none⟩ (.int .i64 x2)).cell? ⟨w.heap.size, 0, none⟩ = some (.int .i64 0) := (World.cell?_setCell_other _ _ _ _ (fun e => absurd (congrArg Addr.block e) z0)).trans ((hzc2 0).trans Y10)
  have Y21 : (v2.setCell ⟨w1.heap.size, 4, none⟩ (.int .i64 x2)).cell? ⟨w.heap.size, 1, none⟩ = some (.string ⟨#[]⟩) := (World.cell?_setCell_other _ _ _ _ (fun e => absurd (congrArg Addr.block e) z0)).trans ((hzc2 1).trans Y11)
  have Y22 : (v2.setCell ⟨w1.heap.size, 4, none⟩ (.int .i64 x2)).cell? ⟨w.heap.size, 2, none⟩ = some (.int .i64 0) := (World.cell?_setCell_other _ _ _ _ (fun e => absurd (congrArg Addr.block e) z0)).trans ((hzc2 2).trans Y12)
  have Y23 : (v2.setCell ⟨w1.heap.size, 4, none⟩ (.int .i64 x2)).cell? ⟨w.heap.size, 3, none⟩ = some (.int .i64 0) := (World.cell?_setCell_other _ _ _ _ (fun e => absurd (congrArg Addr.block e) z0)).trans ((hzc2 3).trans Y13)
  have Y24 : (v2.setCell ⟨w1.heap.size, 4, none⟩ (.int .i64 x2)).cell? ⟨w.heap.size, 4, none⟩ = some (.int .i64 0) := (World.cell?_setCell_other _ _ _ _ (fun e => absurd (congrArg Addr.block e) z0)).trans ((hzc2 4).trans Y14)
  have Y25 : (v2.setCell ⟨w1.heap.size, 4, none⟩ (.int .i64 x2)).cell? ⟨w.heap.size, 5, none⟩ = some (.bool false) := (World.cell?_setCell_other _ _ _ _ (fun e => absurd (congrArg Addr.block e) z0)).trans ((hzc2 5).trans Y15)
  have Y26 : (v2.setCell ⟨w1.heap.size, 4, none⟩ (.int .i64 x2)).cell? ⟨w.heap.size, 6, none⟩ = some (.slice none 0 0) := (World.cell?_setCell_other _ _ _ _ (fun e => absurd (congrArg Addr.block e) z0)).trans ((hzc2 6).trans Y16)
  clear X10 Y10 X11 Y11 X12 Y12 X13 Y13 X14 Y14 X15 Y15 X16 Y16
  have J2 := Lib.hid h2
  have zs2 : w1.heap.size < v2.heap.size := by have := g2.size; simp at this; omega
  have BR2 := Lib.hid (BB1.out.grown g2 BB1.out.size (by intro g hg; cases hg; omega))
  have BB2 := Lib.hid (BR2.out.setCell (p := ⟨w1.heap.size, 4, none⟩) (by show w.heap.size ≤ w1.heap.size; omega) (.int .i64 x2))
  clear h2 g2
  obtain ⟨pn, fn, hh, hpn, hen, _⟩ := J2.out
  have d1 : v2.cell? ⟨w.heap.size + 1, 1, none⟩ = some (.int .i64 pn) := cell_of_row v2 _ 1 _ _ _ hh
  have d2 : v2.cell? ⟨w.heap.size + 1, 2, none⟩ = some (.bool fn) := cell_of_row v2 _ 2 _ _ _ hh
  have HE := Lib.hid hen
  clear hh hen
  have zv : w.heap.size < v2.heap.size := by omega
  have zv1 : w.heap.size + 1 < v2.heap.size := by omega
  have zx : w1.heap.size < v2.heap.size := by omega
  rcases HE.out with ⟨hs, rfl⟩ | ⟨hs, rfl⟩
  · go_wp2_with fail
    refine (NK.out _).mono ?_
    rintro e v' ⟨rfl, bv⟩
    obtain ⟨hb, hbf⟩ := bcell bv
    have BV := Lib.hid (below_step BB2.out (Nat.le_refl _) bv)
    clear bv
    have YV0 : v'.cell? ⟨w.heap.size, 0, none⟩ = some (.int .i64 0) := (hb _ 0 (by simp; exact zv)).trans Y20
    have XV0 : v'.cell? ⟨w1.heap.size, 0, none⟩ = some (.int .i64 3) := (hb _ 0 (by simp; exact zx)).trans X20
    have YV1 : v'.cell? ⟨w.heap.size, 1, none⟩ = some (.string ⟨#[]⟩) := (hb _ 1 (by simp; exact zv)).trans Y21
    have XV1 : v'.cell? ⟨w1.heap.size, 1, none⟩ = some (.string ⟨#[]⟩) := (hb _ 1 (by simp; exact zx)).trans X21
    have YV2 : v'.cell? ⟨w.heap.size, 2, none⟩ = some (.int .i64 0) := (hb _ 2 (by simp; exact zv)).trans Y22
    have XV2 : v'.cell? ⟨w1.heap.size, 2, none⟩ = some (.int .i64 x1) := (hb _ 2 (by simp; exact zx)).trans X22
    have YV3 : v'.cell? ⟨w.heap.size, 3, none⟩ = some (.int .i64 0) := (hb _ 3 (by simp; exact zv)).trans Y23
    have XV3 : v'.cell? ⟨w1.heap.size, 3, none⟩ = some (.int .i64 0) := (hb _ 3 (by simp; exact zx)).trans X23
    have YV4 : v'.cell? ⟨w.heap.size, 4, none⟩ = some (.int .i64 0) := (hb _ 4 (by simp; exact zv)).trans Y24
    have XV4 : v'.cell? ⟨w1.heap.size, 4, none⟩ = some (.int .i64 x2) := (hb _ 4 (by simp; exact zx)).trans X24
    have YV5 : v'.cell? ⟨w.heap.size, 5, none⟩ = some (.bool false) := (hb _ 5 (by simp; exact zv)).trans Y25
    have XV5 : v'.cell? ⟨w1.heap.size, 5, none⟩ = some (.bool false) := (hb _ 5 (by simp; exact zx)).trans X25
    have YV6 : v'.cell? ⟨w.heap.size, 6, none⟩ = some (.slice none 0 0) := (hb _ 6 (by simp; exact zv)).trans Y26
    have XV6 : v'.cell? ⟨w1.heap.size, 6, none⟩ = some (.slice none 0 0) := (hb _ 6 (by simp; exact zx)).trans X26
    have PV : v'.cell? ⟨w.heap.size + 1, 1, none⟩ = some (.int .i64 pn) := (hb _ 1 (by simp; exact zv1)).trans ((World.cell?_setCell_other _ _ _ _ (fun e => absurd (congrArg Addr.block e) zz)).trans d1)
    cases hnb : nodeB ⟨3, ⟨#[]⟩, x1, 0, x2, false, []⟩ with
    | false =>
      have E : Hid (rr = (zeroNd, -1)) := by show _ = _; rw [TN.out, hnb]; rfl
      go_wp2_with fail
      rw [E.out]
      refine bodyPost_ret (v := .tuple #[.agg #[.int .i64 0, .string ⟨#[]⟩, .int .i64 0, .int .i64 0, .int .i64 0, .bool false, .slice none 0 0], .int .i64 (-1)]) (by simp [results, Tryz.results127, go_sem, YV0, YV1, YV2, YV3, YV4, YV5, YV6]) rfl ⟨none, 0, rfl, Own.none_, ?_⟩
      repeat (refine Below.setCell ?_ (by simp; try omega) _)
      exact BV.out
    | true =>
      have E : Hid (rr = (⟨3, ⟨#[]⟩, x1, 0, x2, false, []⟩, pn)) := by show _ = _; rw [TN.out, hnb, hs]; rfl
      go_wp2_with fail
      clear hb NK HE X20 Y20 X21 Y21 X22 Y22 X23 Y23 X24 Y24 X25 Y25 X26 Y26
      have FZ := fun o => hbf w.heap.size o (by simp; exact zv)
      go_region
      all_goals
        go_wp2_with fail
        rw [E.out]
        refine bodyPost_ret (v := .tuple #[.agg #[.int .i64 3, .string ⟨#[]⟩, .int .i64 x1, .int .i64 0, .int .i64 x2, .bool false, .slice none 0 0], .int .i64 pn]) (by simp [results, Tryz.results127, go_sem, YV0, YV1, YV2, YV3, YV4, YV5, YV6]) rfl ⟨none, 0, rfl, Own.none_, ?_⟩
        refine Below.drew ?_
        repeat (refine Below.setCell ?_ (by simp; try omega) _)
        exact BV.out
  · have E : Hid (rr = (zeroNd, -1)) := by show _ = _; rw [TN.out, hs]; simp
    go_wp2_with fail
    rw [E.out]
    refine bodyPost_ret (v := .tuple #[.agg #[.int .i64 0, .string ⟨#[]⟩, .int .i64 0, .int .i64 0, .int .i64 0, .bool false, .slice none 0 0], .int .i64 (-1)]) (by simp [results, Tryz.results127, go_sem, Y20, Y21, Y22, Y23, Y24, Y25, Y26]) rfl ⟨none, 0, rfl, Own.none_, ?_⟩
    repeat (refine Below.setCell ?_ (by simp; try omega) _)
    exact BR2.out

set_option maxRecDepth 100000 in
set_option maxHeartbeats 3200000 in
theorem specTake5 (b : Option Addr) (d : Nat) (l : List Int) (at_ p : Int) (w : World) (h : Rd w .u8 b l) (hby : By l) (hl : l.length ≤ maxLen) (hd : l.length ≤ d) (hd2 : d ≤ maxLen) (ha : at_ ≤ 9223372036854775807) (hk : numR l (some at_) = (5, some p)) :
    Calls Tryz.prog 127 #[.slice b l.length d, .int .i64 at_] w (TookNm (takeNd l at_) w) := by
  have T0 := Lib.hid (fun W R (h : Srd W R b d l (some at_)) => l05Next_any R b d l (some at_) W h)
  rw [hk] at T0
  have T1 := Lib.hid (fun W R (h : Srd W R b d l (some p)) => l05Next_any R b d l (some p) W h)
  obtain ⟨⟨x1, s1⟩, hx1⟩ : ∃ r, r = numR l (some p) := ⟨_, rfl⟩
  rw [← hx1] at T1
  have FR : fieldR l 5 (some p) = (⟨5, ⟨#[]⟩, x1, 0, 0, false, []⟩, s1) := by simp [fieldR, ← hx1]
  have TN : Hid (takeNd l at_ = match (if nodeB ⟨5, ⟨#[]⟩, x1, 0, 0, false, []⟩ then s1 else none) with | none => (zeroNd, -1) | some q => (⟨5, ⟨#[]⟩, x1, 0, 0, false, []⟩, q)) := by
    show _ = _
    unfold takeNd nodeR
    rw [hk]
    simp only
    rw [FR]
    rfl
  obtain ⟨rr, hrr⟩ : ∃ rr, rr = takeNd l at_ := ⟨_, rfl⟩
  rw [← hrr] at TN ⊢
  have hbb : ∀ a, b = some a → l ≠ [] → a.block < w.heap.size := rd_lt h
  have H0 := Lib.hid (srd_new (d := d) h hby hl ha)
  have NK := Lib.hid (fun W => specNodeOk_any ⟨5, ⟨#[]⟩, x1, 0, 0, false, []⟩ none 0 W (.inl rfl) (by simp) (Nat.zero_le maxLen))
  clear FR hk hrr h hby hx1
  unfold WS at H0
  go_enter Tryz.func127, Tryz.ntmps127
  go_wp2_with fail
  refine (T0.out _ _ H0.out).mono ?_
  rintro e w1 ⟨rfl, h1, g1⟩
  obtain ⟨p1, f1, hh, hp1, he1, hr1, hby1, hd1, hne1⟩ := id h1
  obtain ⟨rfl, rfl⟩ : p1 = p ∧ f1 = false := by
    rcases he1 with ⟨hs, hf⟩ | ⟨hs, _⟩
    · injection hs with hs; exact ⟨hs.symm, hf⟩
    · cases hs
  have c2 : w1.cell? ⟨w.heap.size + 1, 2, none⟩ = some (.bool false) := cell_of_row w1 _ 2 _ _ _ hh
  have zz : w1.heap.size ≠ w.heap.size + 1 := by have := lt_of_block hh; omega
  have zy : ¬ (w.heap.size + 1 = w1.heap.size) := fun e => zz e.symm
  have z1 : w.heap.size + 2 ≤ w1.heap.size := by have := g1.size; simp at this; omega
  have zl : w.heap.size + 1 < w1.heap.size := by omega
  have zk : w.heap.size < w1.heap.size := by omega
  have z0 : ¬ (w1.heap.size = w.heap.size) := by omega
  have z0' : ¬ (w.heap.size = w1.heap.size) := by omega
  have G1 := Lib.hid g1
  have BA := Lib.hid (below_ws g1)
  obtain ⟨hz0, hy0⟩ := gcell g1 (X := w.heap.size) (by simp; omega) (by omega)
  have H1 := Lib.hid h1
  have BB0 := Lib.hid (BA.out.alloc BA.out.size (.cells #[.int .i64 5, .string ⟨#[]⟩, .int .i64 0, .int .i64 0, .int .i64 0, .bool false, .slice none 0 0] 92))
  clear hh he1 hr1 hby1 hd1 hne1 g1 h1
  have X00 : (w1.alloc (.cells #[.int .i64 5, .string ⟨#[]⟩, .int .i64 0, .int .i64 0, .int .i64 0, .bool false, .slice none 0 0] 92)).cell? ⟨w1.heap.size, 0, none⟩ = some (.int .i64 5) := (cell_of_row _ _ _ _ _ _ (heap_alloc_new w1 _)).trans rfl
  have X01 : (w1.alloc (.cells #[.int .i64 5, .string ⟨#[]⟩, .int .i64 0, .int .i64 0, .int .i64 0, .bool false, .slice none 0 0] 92)).cell? ⟨w1.heap.size, 1, none⟩ = some (.string ⟨#[]⟩) := (cell_of_row _ _ _ _ _ _ (heap_alloc_new w1 _)).trans rfl
  have X02 : (w1.alloc (.cells #[.int .i64 5, .string ⟨#[]⟩, .int .i64 0, .int .i64 0, .int .i64 0, .bool false, .slice none 0 0] 92)).cell? ⟨w1.heap.size, 2, none⟩ = some (.int .i64 0) := (cell_of_row _ _ _ _ _ _ (heap_alloc_new w1 _)).trans rfl
  have X03 : (w1.alloc (.cells #[.int .i64 5, .string ⟨#[]⟩, .int .i64 0, .int .i64 0, .int .i64 0, .bool false, .slice none 0 0] 92)).cell? ⟨w1.heap.size, 3, none⟩ = some (.int .i64 0) := (cell_of_row _ _ _ _ _ _ (heap_alloc_new w1 _)).trans rfl
  have X04 : (w1.alloc (.cells #[.int .i64 5, .string ⟨#[]⟩, .int .i64 0, .int .i64 0, .int .i64 0, .bool false, .slice none 0 0] 92)).cell? ⟨w1.heap.size, 4, none⟩ = some (.int .i64 0) := (cell_of_row _ _ _ _ _ _ (heap_alloc_new w1 _)).trans rfl
  have X05 : (w1.alloc (.cells #[.int .i64 5, .string ⟨#[]⟩, .int .i64 0, .int .i64 0, .int .i64 0, .bool false, .slice none 0 0] 92)).cell? ⟨w1.heap.size, 5, none⟩ = some (.bool false) := (cell_of_row _ _ _ _ _ _ (heap_alloc_new w1 _)).trans rfl
  have X06 : (w1.alloc (.cells #[.int .i64 5, .string ⟨#[]⟩, .int .i64 0, .int .i64 0, .int .i64 0, .bool false, .slice none 0 0] 92)).cell? ⟨w1.heap.size, 6, none⟩ = some (.slice none 0 0) := (cell_of_row _ _ _ _ _ _ (heap_alloc_new w1 _)).trans rfl
  have Y00 : (w1.alloc (.cells #[.int .i64 5, .string ⟨#[]⟩, .int .i64 0, .int .i64 0, .int .i64 0, .bool false, .slice none 0 0] 92)).cell? ⟨w.heap.size, 0, none⟩ = some (.int .i64 0) := (((Below.refl _ w1).alloc (Nat.le_refl _) _).cell (p := ⟨w.heap.size, 0, none⟩) zk).trans ((hz0 0).trans (ws_zero w b l.length d at_ 0 _ rfl))
  have Y01 : (w1.alloc (.cells #[.int .i64 5, .string ⟨#[]⟩, .int .i64 0, .int .i64 0, .int .i64 0, .bool false, .slice none 0 0] 92)).cell? ⟨w.heap.size, 1, none⟩ = some (.string ⟨#[]⟩) := (((Below.refl _ w1).alloc (Nat.le_refl _) _).cell (p := ⟨w.heap.size, 1, none⟩) zk).trans ((hz0 1).trans (ws_zero w b l.length d at_ 1 _ rfl))
  have Y02 : (w1.alloc (.cells #[.int .i64 5, .string ⟨#[]⟩, .int .i64 0, .int .i64 0, .int .i64 0, .bool false, .slice none 0 0] 92)).cell? ⟨w.heap.size, 2, none⟩ = some (.int .i64 0) := (((Below.refl _ w1).alloc (Nat.le_refl _) _).cell (p := ⟨w.heap.size, 2, none⟩) zk).trans ((hz0 2).trans (ws_zero w b l.length d at_ 2 _ rfl))
  have Y03 : (w1.alloc (.cells #[.int .i64 5, .string ⟨#[]⟩, .int .i64 0, .int .i64 0, .int .i64 0, .bool false, .slice none 0 0] 92)).cell? ⟨w.heap.size, 3, none⟩ = some (.int .i64 0) := (((Below.refl _ w1).alloc (Nat.le_refl _) _).cell (p := ⟨w.heap.size, 3, none⟩) zk).trans ((hz0 3).trans (ws_zero w b l.length d at_ 3 _ rfl))
  have Y04 : (w1.alloc (.cells #[.int .i64 5, .string ⟨#[]⟩, .int .i64 0, .int .i64 0, .int .i64 0, .bool false, .slice none 0 0] 92)).cell? ⟨w.heap.size, 4, none⟩ = some (.int .i64 0) := (((Below.refl _ w1).alloc (Nat.le_refl _) _).cell (p := ⟨w.heap.size, 4, none⟩) zk).trans ((hz0 4).trans (ws_zero w b l.length d at_ 4 _ rfl))
  have Y05 : (w1.alloc (.cells #[.int .i64 5, .string ⟨#[]⟩, .int .i64 0, .int .i64 0, .int .i64 0, .bool false, .slice none 0 0] 92)).cell? ⟨w.heap.size, 5, none⟩ = some (.bool false) := (((Below.refl _ w1).alloc (Nat.le_refl _) _).cell (p := ⟨w.heap.size, 5, none⟩) zk).trans ((hz0 5).trans (ws_zero w b l.length d at_ 5 _ rfl))
  have Y06 : (w1.alloc (.cells #[.int .i64 5, .string ⟨#[]⟩, .int .i64 0, .int .i64 0, .int .i64 0, .bool false, .slice none 0 0] 92)).cell? ⟨w.heap.size, 6, none⟩ = some (.slice none 0 0) := (((Below.refl _ w1).alloc (Nat.le_refl _) _).cell (p := ⟨w.heap.size, 6, none⟩) zk).trans ((hz0 6).trans (ws_zero w b l.length d at_ 6 _ rfl))
  have K1 := Lib.hid (H1.out.below ((Below.refl _ w1).alloc (Nat.le_refl _) (.cells #[.int .i64 5, .string ⟨#[]⟩, .int .i64 0, .int .i64 0, .int .i64 0, .bool false, .slice none 0 0] 92)))
  have B1 := Lib.hid (((Below.refl _ w1).alloc (Nat.le_refl _) (.cells #[.int .i64 5, .string ⟨#[]⟩, .int .i64 0, .int .i64 0, .int .i64 0, .bool false, .slice none 0 0] 92)).mono z1)
  go_wp2_with fail
  refine (T1.out _ _ K1.out).mono ?_
  rintro e v1 ⟨rfl, h1, g1⟩
  obtain ⟨hc1, hf1⟩ := gcell g1 (X := w1.heap.size) (by first | (simp; done) | (simp; omega)) zz
  obtain ⟨hzc1, hyc1⟩ := gcell g1 (X := w.heap.size) (by first | (simp; done) | (simp; omega)) (by omega)
  have K2 := Lib.hid (h1.belowB (w' := v1.setCell ⟨w1.heap.size, 2, none⟩ (.int .i64 x1)) (B := w.heap.size + 2) (by omega) (fun a ha hl => Nat.lt_of_lt_of_le (hbb a ha hl) (by omega)) ((Below.refl _ _).setCell (by exact z1) _))
  have X10 : (v1.setCell ⟨w1.heap.size, 2, none⟩ (.int .i64 x1)).cell? ⟨w1.heap.size, 0, none⟩ = some (.int .i64 5) := (World.cell?_setCell_other _ _ _ _ (by simp)).trans ((hc1 0).trans X00)
  have X11 : (v1.setCell ⟨w1.heap.size, 2, none⟩ (.int .i64 x1)).cell? ⟨w1.heap.size, 1, none⟩ = some (.string ⟨#[]⟩) := (World.cell?_setCell_other _ _ _ _ (by simp)).trans ((hc1 1).trans X01)
  have X12 : (v1.setCell ⟨w1.heap.size, 2, none⟩ (.int .i64 x1)).cell? ⟨w1.heap.size, 2, none⟩ = some (.int .i64 x1) := World.cell?_setCell_same _ _ _ ((hc1 2).trans X02)
  have X13 : (v1.setCell ⟨w1.heap.size, 2, none⟩ (.int .i64 x1)).cell? ⟨w1.heap.size, 3, none⟩ = some (.int .i64 0) := (World.cell?_setCell_other _ _ _ _ (by simp)).trans ((hc1 3).trans X03)
  have X14 : (v1.setCell ⟨w1.heap.size, 2, none⟩ (.int .i64 x1)).cell? ⟨w1.heap.size, 4, none⟩ = some (.int .i64 0) := (World.cell?_setCell_other _ _ _ _ (by simp)).trans ((hc1 4).trans X04)
  have X15 : (v1.setCell ⟨w1.heap.size, 2, none⟩ (.int .i64 x1)).cell? ⟨w1.heap.size, 5, none⟩ = some (.bool false) := (World.cell?_setCell_other _ _ _ _ (by simp)).trans ((hc1 5).trans X05)
  have X16 : (v1.setCell ⟨w1.heap.size, 2, none⟩ (.int .i64 x1)).cell? ⟨w1.heap.size, 6, none⟩ = some (.slice none 0 0) := (World.cell?_setCell_other _ _ _ _ (by simp)).trans ((hc1 6).trans X06)
  have Y10 : (v1.setCell ⟨w1.heap.size, 2, none⟩ (.int .i64 x1)).cell? ⟨w.heap.size, 0, none⟩ = some (.int .i64 0) := (World.cell?_setCell_other _ _ _ _ (fun e => absurd (congrArg Addr.block e) z0)).trans ((hzc1 0).trans Y00)
  have Y11 : (v1.setCell ⟨w1.heap.size, 2, none⟩ (.int .i64 x1)).cell? ⟨w.heap.size, 1, none⟩ = some (.string ⟨#[]⟩) := (World.cell?_setCell_other _ _ _ _ (fun e => absurd (congrArg Addr.block e) z0)).trans ((hzc1 1).trans Y01)
  have Y12 : (v1.setCell ⟨w1.heap.size, 2, none⟩ (.int .i64 x1)).cell? ⟨w.heap.size, 2, none⟩ = some (.int .i64 0) := (World.cell?_setCell_other _ _ _ _ (fun e => absurd (congrArg Addr.block e) z0)).trans ((hzc1 2).trans Y02)
  have Y13 : (v1.setCell ⟨w1.heap.size, 2, none⟩ (.int .i64 x1)).cell? ⟨w.heap.size, 3, none⟩ = some (.int .i64 0) := (World.cell?_setCell_other _ _ _ _ (fun e => absurd (congrArg Addr.block e) z0)).trans ((hzc1 3).trans Y03)
  have Y14 : (v1.setCell ⟨w1.heap.size, 2, none⟩ (.int .i64 x1)).cell? ⟨w.heap.size, 4, none⟩ = some (.int .i64 0) := (World.cell?_setCell_other _ _ _ _ (fun e => absurd (congrArg Addr.block e) z0)).trans ((hzc1 4).trans Y04)
  have Y15 : (v1.setCell ⟨w1.heap.size, 2, none⟩ (.int .i64 x1)).cell? ⟨w.heap.size, 5, none⟩ = some (.bool false) := (World.cell?_setCell_other _ _ _ _ (fun e => absurd (congrArg Addr.block e) z0)).trans ((hzc1 5).trans Y05)
  have Y16 : (v1.setCell ⟨w1.heap.size, 2, none⟩ (.int .i64 x1)).cell? ⟨w.heap.size, 6, none⟩ = some (.slice none 0 0) := (World.cell?_setCell_other _ _ _ _ (fun e => absurd (congrArg Addr.block e) z0)).trans ((hzc1 6).trans Y06)
  clear X00 Y00 X01 Y01 X02 Y02 X03 Y03 X04 Y04 X05 Y05 X06 Y06
  have J1 := Lib.hid h1
  have zs1 : w1.heap.size < v1.heap.size := by have := g1.size; simp at this; omega
  have BR1 := Lib.hid (BB0.out.grown g1 BB0.out.size (by intro g hg; cases hg; omega))
  have BB1 := Lib.hid (BR1.out.setCell (p := ⟨w1.heap.size, 2, none⟩) (by show w.heap.size ≤ w1.heap.size; omega) (.int .i64 x1))
  clear h1 g1
  obtain ⟨pn, fn, hh, hpn, hen, _⟩ := J1.out
  have d1 : v1.cell? ⟨w.heap.size + 1, 1, none⟩ = some (.int .i64 pn) := cell_of_row v1 _ 1 _ _ _ hh
  have d2 : v1.cell? ⟨w.heap.size + 1, 2, none⟩ = some (.bool fn) := cell_of_row v1 _ 2 _ _ _ hh
  have HE := Lib.hid hen
  clear hh hen
  have zv : w.heap.size < v1.heap.size := by omega
  have zv1 : w.heap.size + 1 < v1.heap.size := by omega
  have zx : w1.heap.size < v1.heap.size := by omega
  rcases HE.out with ⟨hs, rfl⟩ | ⟨hs, rfl⟩
  · go_wp2_with fail
    refine (NK.out _).mono ?_
    rintro e v' ⟨rfl, bv⟩
    obtain ⟨hb, hbf⟩ := bcell bv
    have BV := Lib.hid (below_step BB1.out (Nat.le_refl _) bv)
    clear bv
    have YV0 : v'.cell? ⟨w.heap.size, 0, none⟩ = some (.int .i64 0) := (hb _ 0 (by simp; exact zv)).trans Y10
    have XV0 : v'.cell? ⟨w1.heap.size, 0, none⟩ = some (.int .i64 5) := (hb _ 0 (by simp; exact zx)).trans X10
    have YV1 : v'.cell? ⟨w.heap.size, 1, none⟩ = some (.string ⟨#[]⟩) := (hb _ 1 (by simp; exact zv)).trans Y11
    have XV1 : v'.cell? ⟨w1.heap.size, 1, none⟩ = some (.string ⟨#[]⟩) := (hb _ 1 (by simp; exact zx)).trans X11
    have YV2 : v'.cell? ⟨w.heap.size, 2, none⟩ = some (.int .i64 0) := (hb _ 2 (by simp; exact zv)).trans Y12
    have XV2 : v'.cell? ⟨w1.heap.size, 2, none⟩ = some (.int .i64 x1) := (hb _ 2 (by simp; exact zx)).trans X12
    have YV3 : v'.cell? ⟨w.heap.size, 3, none⟩ = some (.int .i64 0) := (hb _ 3 (by simp; exact zv)).trans Y13
    have XV3 : v'.cell? ⟨w1.heap.size, 3, none⟩ = some (.int .i64 0) := (hb _ 3 (by simp; exact zx)).trans X13
    have YV4 : v'.cell? ⟨w.heap.size, 4, none⟩ = some (.int .i64 0) := (hb _ 4 (by simp; exact zv)).trans Y14
    have XV4 : v'.cell? ⟨w1.heap.size, 4, none⟩ = some (.int .i64 0) := (hb _ 4 (by simp; exact zx)).trans X14
    have YV5 : v'.cell? ⟨w.heap.size, 5, none⟩ = some (.bool false) := (hb _ 5 (by simp; exact zv)).trans Y15
    have XV5 : v'.cell? ⟨w1.heap.size, 5, none⟩ = some (.bool false) := (hb _ 5 (by simp; exact zx)).trans X15
    have YV6 : v'.cell? ⟨w.heap.size, 6, none⟩ = some (.slice none 0 0) := (hb _ 6 (by simp; exact zv)).trans Y16
    have XV6 : v'.cell? ⟨w1.heap.size, 6, none⟩ = some (.slice none 0 0) := (hb _ 6 (by simp; exact zx)).trans X16
    have PV : v'.cell? ⟨w.heap.size + 1, 1, none⟩ = some (.int .i64 pn) := (hb _ 1 (by simp; exact zv1)).trans ((World.cell?_setCell_other _ _ _ _ (fun e => absurd (congrArg Addr.block e) zz)).trans d1)
    cases hnb : nodeB ⟨5, ⟨#[]⟩, x1, 0, 0, false, []⟩ with
    | false =>
      have E : Hid (rr = (zeroNd, -1)) := by show _ = _; rw [TN.out, hnb]; rfl
      go_wp2_with fail
      rw [E.out]
      refine bodyPost_ret (v := .tuple #[.agg #[.int .i64 0, .string ⟨#[]⟩, .int .i64 0, .int .i64 0, .int .i64 0, .bool false, .slice none 0 0], .int .i64 (-1)]) (by simp [results, Tryz.results127, go_sem, YV0, YV1, YV2, YV3, YV4, YV5, YV6]) rfl ⟨none, 0, rfl, Own.none_, ?_⟩
      repeat (refine Below.setCell ?_ (by simp; try omega) _)
      exact BV.out
    | true =>
      have E : Hid (rr = (⟨5, ⟨#[]⟩, x1, 0, 0, false, []⟩, pn)) := by show _ = _; rw [TN.out, hnb, hs]; rfl
      go_wp2_with fail
      clear hb NK HE X10 Y10 X11 Y11 X12 Y12 X13 Y13 X14 Y14 X15 Y15 X16 Y16
      have FZ := fun o => hbf w.heap.size o (by simp; exact zv)
      go_region
      all_goals
        go_wp2_with fail
        rw [E.out]
        refine bodyPost_ret (v := .tuple #[.agg #[.int .i64 5, .string ⟨#[]⟩, .int .i64 x1, .int .i64 0, .int .i64 0, .bool false, .slice none 0 0], .int .i64 pn]) (by simp [results, Tryz.results127, go_sem, YV0, YV1, YV2, YV3, YV4, YV5, YV6]) rfl ⟨none, 0, rfl, Own.none_, ?_⟩
        refine Below.drew ?_
        repeat (refine Below.setCell ?_ (by simp; try omega) _)
        exact BV.out
  · have E : Hid (rr = (zeroNd, -1)) := by show _ = _; rw [TN.out, hs]; simp
    go_wp2_with fail
    rw [E.out]
    refine bodyPost_ret (v := .tuple #[.agg #[.int .i64 0, .string ⟨#[]⟩, .int .i64 0, .int .i64 0, .int .i64 0, .bool false, .slice none 0 0], .int .i64 (-1)]) (by simp [results, Tryz.results127, go_sem, Y10, Y11, Y12, Y13, Y14, Y15, Y16]) rfl ⟨none, 0, rfl, Own.none_, ?_⟩
    repeat (refine Below.setCell ?_ (by simp; try omega) _)
    exact BR1.out

set_option maxRecDepth 100000 in
set_option maxHeartbeats 3200000 in
theorem specTake6 (b : Option Addr) (d : Nat) (l : List Int) (at_ p : Int) (w : World) (h : Rd w .u8 b l) (hby : By l) (hl : l.length ≤ maxLen) (hd : l.length ≤ d) (hd2 : d ≤ maxLen) (ha : at_ ≤ 9223372036854775807) (hk : numR l (some at_) = (6, some p)) :
    Calls Tryz.prog 127 #[.slice b l.length d, .int .i64 at_] w (TookNm (takeNd l at_) w) := by
  have T0 := Lib.hid (fun W R (h : Srd W R b d l (some at_)) => l05Next_any R b d l (some at_) W h)
  rw [hk] at T0
  have T1 := Lib.hid (fun W R (h : Srd W R b d l (some p)) => l05Slot_any R b d l (some p) W h)
  obtain ⟨⟨x1, s1⟩, hx1⟩ : ∃ r, r = flagR l (some p) := ⟨_, rfl⟩
  rw [← hx1] at T1
  have T2 := Lib.hid (fun W R (h : Srd W R b d l (s1)) => l05Next_any R b d l (s1) W h)
  obtain ⟨⟨x2, s2⟩, hx2⟩ : ∃ r, r = numR l (s1) := ⟨_, rfl⟩
  rw [← hx2] at T2
  have FR : fieldR l 6 (some p) = (⟨6, ⟨#[]⟩, 0, 0, x2, x1, []⟩, s2) := by simp [fieldR, ← hx1, ← hx2]
  have TN : Hid (takeNd l at_ = match (if nodeB ⟨6, ⟨#[]⟩, 0, 0, x2, x1, []⟩ then s2 else none) with | none => (zeroNd, -1) | some q => (⟨6, ⟨#[]⟩, 0, 0, x2, x1, []⟩, q)) := by
    show _ = _
    unfold takeNd nodeR
    rw [hk]
    simp only
    rw [FR]
    rfl
  obtain ⟨rr, hrr⟩ : ∃ rr, rr = takeNd l at_ := ⟨_, rfl⟩
  rw [← hrr] at TN ⊢
  have hbb : ∀ a, b = some a → l ≠ [] → a.block < w.heap.size := rd_lt h
  have H0 := Lib.hid (srd_new (d := d) h hby hl ha)
  have NK := Lib.hid (fun W => specNodeOk_any ⟨6, ⟨#[]⟩, 0, 0, x2, x1, []⟩ none 0 W (.inl rfl) (by simp) (Nat.zero_le maxLen))
  clear FR hk hrr h hby hx1 hx2
  unfold WS at H0
  go_enter Tryz.func127, Tryz.ntmps127
  go_wp2_with fail
  refine (T0.out _ _ H0.out).mono ?_
  rintro e w1 ⟨rfl, h1, g1⟩
  obtain ⟨p1, f1, hh, hp1, he1, hr1, hby1, hd1, hne1⟩ := id h1
  obtain ⟨rfl, rfl⟩ : p1 = p ∧ f1 = false := by
    rcases he1 with ⟨hs, hf⟩ | ⟨hs, _⟩
    · injection hs with hs; exact ⟨hs.symm, hf⟩
    · cases hs
  have c2 : w1.cell? ⟨w.heap.size + 1, 2, none⟩ = some (.bool false) := cell_of_row w1 _ 2 _ _ _ hh
  have zz : w1.heap.size ≠ w.heap.size + 1 := by have := lt_of_block hh; omega
  have zy : ¬ (w.heap.size + 1 = w1.heap.size) := fun e => zz e.symm
  have z1 : w.heap.size + 2 ≤ w1.heap.size := by have := g1.size; simp at this; omega
  have zl : w.heap.size + 1 < w1.heap.size := by omega
  have zk : w.heap.size < w1.heap.size := by omega
  have z0 : ¬ (w1.heap.size = w.heap.size) := by omega
  have z0' : ¬ (w.heap.size = w1.heap.size) := by omega
  have G1 := Lib.hid g1
  have BA := Lib.hid (below_ws g1)
  obtain ⟨hz0, hy0⟩ := gcell g1 (X := w.heap.size) (by simp; omega) (by omega)
  have H1 := Lib.hid h1
  have BB0 := Lib.hid (BA.out.alloc BA.out.size (.cells #[.int .i64 6, .string ⟨#[]⟩, .int .i64 0, .int .i64 0, .int .i64 0, .bool false, .slice none 0 0] 92))
  clear hh he1 hr1 hby1 hd1 hne1 g1 h1
  have X00 : (w1.alloc (.cells #[.int .i64 6, .string ⟨#[]⟩, .int .i64 0, .int .i64 0, .int .i64 0, .bool false, .slice none 0 0] 92)).cell? ⟨w1.heap.size, 0, none⟩ = some (.int .i64 6) := (cell_of_row _ _ _ _ _ _ (heap_alloc_new w1 _)).trans rfl
  have X01 : (w1.alloc (.cells #[.int .i64 6, .string ⟨#[]⟩, .int .i64 0, .int .i64 0, .int .i64 0, .bool false, .slice none 0 0] 92)).cell? ⟨w1.heap.size, 1, none⟩ = some (.string ⟨#[]⟩) := (cell_of_row _ _ _ _ _ _ (heap_alloc_new w1 _)).trans rfl
  have X02 : (w1.alloc (.cells #[.int .i64 6, .string ⟨#[]⟩, .int .i64 0, .int .i64 0, .int .i64 0, .bool false, .slice none 0 0] 92)).cell? ⟨w1.heap.size, 2, none⟩ = some (.int .i64 0) := (cell_of_row _ _ _ _ _ _ (heap_alloc_new w1 _)).trans rfl
  have X03 : (w1.alloc (.cells #[.int .i64 6, .string ⟨#[]⟩, .int .i64 0, .int .i64 0, .int .i64 0, .bool false, .slice none 0 0] 92)).cell? ⟨w1.heap.size, 3, none⟩ = some (.int .i64 0) := (cell_of_row _ _ _ _ _ _ (heap_alloc_new w1 _)).trans rfl
  have X04 : (w1.alloc (.cells #[.int .i64 6, .string ⟨#[]⟩, .int .i64 0, .int .i64 0, .int .i64 0, .bool false, .slice none 0 0] 92)).cell? ⟨w1.heap.size, 4, none⟩ = some (.int .i64 0) := (cell_of_row _ _ _ _ _ _ (heap_alloc_new w1 _)).trans rfl
  have X05 : (w1.alloc (.cells #[.int .i64 6, .string ⟨#[]⟩, .int .i64 0, .int .i64 0, .int .i64 0, .bool false, .slice none 0 0] 92)).cell? ⟨w1.heap.size, 5, none⟩ = some (.bool false) := (cell_of_row _ _ _ _ _ _ (heap_alloc_new w1 _)).trans rfl
  have X06 : (w1.alloc (.cells #[.int .i64 6, .string ⟨#[]⟩, .int .i64 0, .int .i64 0, .int .i64 0, .bool false, .slice none 0 0] 92)).cell? ⟨w1.heap.size, 6, none⟩ = some (.slice none 0 0) := (cell_of_row _ _ _ _ _ _ (heap_alloc_new w1 _)).trans rfl
  have Y00 : (w1.alloc (.cells #[.int .i64 6, .string ⟨#[]⟩, .int .i64 0, .int .i64 0, .int .i64 0, .bool false, .slice none 0 0] 92)).cell? ⟨w.heap.size, 0, none⟩ = some (.int .i64 0) := (((Below.refl _ w1).alloc (Nat.le_refl _) _).cell (p := ⟨w.heap.size, 0, none⟩) zk).trans ((hz0 0).trans (ws_zero w b l.length d at_ 0 _ rfl))
  have Y01 : (w1.alloc (.cells #[.int .i64 6, .string ⟨#[]⟩, .int .i64 0, .int .i64 0, .int .i64 0, .bool false, .slice none 0 0] 92)).cell? ⟨w.heap.size, 1, none⟩ = some (.string ⟨#[]⟩) := (((Below.refl _ w1).alloc (Nat.le_refl _) _).cell (p := ⟨w.heap.size, 1, none⟩) zk).trans ((hz0 1).trans (ws_zero w b l.length d at_ 1 _ rfl))
  have Y02 : (w1.alloc (.cells #[.int .i64 6, .string ⟨#[]⟩, .int .i64 0, .int .i64 0, .int .i64 0, .bool false, .slice none 0 0] 92)).cell? ⟨w.heap.size, 2, none⟩ = some (.int .i64 0) := (((Below.refl _ w1).alloc (Nat.le_refl _) _).cell (p := ⟨w.heap.size, 2, none⟩) zk).trans ((hz0 2).trans (ws_zero w b l.length d at_ 2 _ rfl))
  have Y03 : (w1.alloc (.cells #[.int .i64 6, .string ⟨#[]⟩, .int .i64 0, .int .i64 0, .int .i64 0, .bool false, .slice none 0 0] 92)).cell? ⟨w.heap.size, 3, none⟩ = some (.int .i64 0) := (((Below.refl _ w1).alloc (Nat.le_refl _) _).cell (p := ⟨w.heap.size, 3, none⟩) zk).trans ((hz0 3).trans (ws_zero w b l.length d at_ 3 _ rfl))
  have Y04 : (w1.alloc (.cells #[.int .i64 6, .string ⟨#[]⟩, .int .i64 0, .int .i64 0, .int .i64 0, .bool false, .slice none 0 0] 92)).cell? ⟨w.heap.size, 4, none⟩ = some (.int .i64 0) := (((Below.refl _ w1).alloc (Nat.le_refl _) _).cell (p := ⟨w.heap.size, 4, none⟩) zk).trans ((hz0 4).trans (ws_zero w b l.length d at_ 4 _ rfl))
  have Y05 : (w1.alloc (.cells #[.int .i64 6, .string ⟨#[]⟩, .int .i64 0, .int .i64 0, .int .i64 0, .bool false, .slice none 0 0] 92)).cell? ⟨w.heap.size, 5, none⟩ = some (.bool false) := (((Below.refl _ w1).alloc (Nat.le_refl _) _).cell (p := ⟨w.heap.size, 5, none⟩) zk).trans ((hz0 5).trans (ws_zero w b l.length d at_ 5 _ rfl))
  have Y06 : (w1.alloc (.cells #[.int .i64 6, .string ⟨#[]⟩, .int .i64 0, .int .i64 0, .int .i64 0, .bool false, .slice none 0 0] 92)).cell? ⟨w.heap.size, 6, none⟩ = some (.slice none 0 0) := (((Below.refl _ w1).alloc (Nat.le_refl _) _).cell (p := ⟨w.heap.size, 6, none⟩) zk).trans ((hz0 6).trans (ws_zero w b l.length d at_ 6 _ rfl))
  have K1 := Lib.hid (H1.out.below ((Below.refl _ w1).alloc (Nat.le_refl _) (.cells #[.int .i64 6, .string ⟨#[]⟩, .int .i64 0, .int .i64 0, .int .i64 0, .bool false, .slice none 0 0] 92)))
  have B1 := Lib.hid (((Below.refl _ w1).alloc (Nat.le_refl _) (.cells #[.int .i64 6, .string ⟨#[]⟩, .int .i64 0, .int .i64 0, .int .i64 0, .bool false, .slice none 0 0] 92)).mono z1)
  go_wp2_with fail
  refine (T1.out _ _ K1.out).mono ?_
  rintro e v1 ⟨rfl, h1, g1⟩
  obtain ⟨hc1, hf1⟩ := gcell g1 (X := w1.heap.size) (by first | (simp; done) | (simp; omega)) zz
  obtain ⟨hzc1, hyc1⟩ := gcell g1 (X := w.heap.size) (by first | (simp; done) | (simp; omega)) (by omega)
  have K2 := Lib.hid (h1.belowB (w' := v1.setCell ⟨w1.heap.size, 5, none⟩ (.bool x1)) (B := w.heap.size + 2) (by omega) (fun a ha hl => Nat.lt_of_lt_of_le (hbb a ha hl) (by omega)) ((Below.refl _ _).setCell (by exact z1) _))
  have X10 : (v1.setCell ⟨w1.heap.size, 5, none⟩ (.bool x1)).cell? ⟨w1.heap.size, 0, none⟩ = some (.int .i64 6) := (World.cell?_setCell_other _ _ _ _ (by simp)).trans ((hc1 0).trans X00)
  have X11 : (v1.setCell ⟨w1.heap.size, 5, none⟩ (.bool x1)).cell? ⟨w1.heap.size, 1, none⟩ = some (.string ⟨#[]⟩) := (World.cell?_setCell_other _ _ _ _ (by simp)).trans ((hc1 1).trans X01)
  have X12 : (v1.setCell ⟨w1.heap.size, 5, none⟩ (.bool x1)).cell? ⟨w1.heap.size, 2, none⟩ = some (.int .i64 0) := (World.cell?_setCell_other _ _ _ _ (by simp)).trans ((hc1 2).trans X02)
  have X13 : (v1.setCell ⟨w1.heap.size, 5, none⟩ (.bool x1)).cell? ⟨w1.heap.size, 3, none⟩ = some (.int .i64 0) := (World.cell?_setCell_other _ _ _ _ (by simp)).trans ((hc1 3).trans X03)
  have X14 : (v1.setCell ⟨w1.heap.size, 5, none⟩ (.bool x1)).cell? ⟨w1.heap.size, 4, none⟩ = some (.int .i64 0) := (World.cell?_setCell_other _ _ _ _ (by simp)).trans ((hc1 4).trans X04)
  have X15 : (v1.setCell ⟨w1.heap.size, 5, none⟩ (.bool x1)).cell? ⟨w1.heap.size, 5, none⟩ = some (.bool x1) := World.cell?_setCell_same _ _ _ ((hc1 5).trans X05)
  have X16 : (v1.setCell ⟨w1.heap.size, 5, none⟩ (.bool x1)).cell? ⟨w1.heap.size, 6, none⟩ = some (.slice none 0 0) := (World.cell?_setCell_other _ _ _ _ (by simp)).trans ((hc1 6).trans X06)
  have Y10 : (v1.setCell ⟨w1.heap.size, 5, none⟩ (.bool x1)).cell? ⟨w.heap.size, 0, none⟩ = some (.int .i64 0) := (World.cell?_setCell_other _ _ _ _ (fun e => absurd (congrArg Addr.block e) z0)).trans ((hzc1 0).trans Y00)
  have Y11 : (v1.setCell ⟨w1.heap.size, 5, none⟩ (.bool x1)).cell? ⟨w.heap.size, 1, none⟩ = some (.string ⟨#[]⟩) := (World.cell?_setCell_other _ _ _ _ (fun e => absurd (congrArg Addr.block e) z0)).trans ((hzc1 1).trans Y01)
  have Y12 : (v1.setCell ⟨w1.heap.size, 5, none⟩ (.bool x1)).cell? ⟨w.heap.size, 2, none⟩ = some (.int .i64 0) := (World.cell?_setCell_other _ _ _ _ (fun e => absurd (congrArg Addr.block e) z0)).trans ((hzc1 2).trans Y02)
  have Y13 : (v1.setCell ⟨w1.heap.size, 5, none⟩ (.bool x1)).cell? ⟨w.heap.size, 3, none⟩ = some (.int .i64 0) := (World.cell?_setCell_other _ _ _ _ (fun e => absurd (congrArg Addr.block e) z0)).trans ((hzc1 3).trans Y03)
  have Y14 : (v1.setCell ⟨w1.heap.size, 5, none⟩ (.bool x1)).cell? ⟨w.heap.size, 4, none⟩ = some (.int .i64 0) := (World.cell?_setCell_other _ _ _ _ (fun e => absurd (congrArg Addr.block e) z0)).trans ((hzc1 4).trans Y04)
  have Y15 : (v1.setCell ⟨w1.heap.size, 5, none⟩ (.bool x1)).cell? ⟨w.heap.size, 5, none⟩ = some (.bool false) := (World.cell?_setCell_other _ _ _ _ (fun e => absurd (congrArg Addr.block e) z0)).trans ((hzc1 5).trans Y05)
  have Y16 : (v1.setCell ⟨w1.heap.size, 5, none⟩ (.bool x1)).cell? ⟨w.heap.size, 6, none⟩ = some (.slice none 0 0) := (World.cell?_setCell_other _ _ _ _ (fun e => absurd (congrArg Addr.block e) z0)).trans ((hzc1 6).trans Y06)
  clear X00 Y00 X01 Y01 X02 Y02 X03 Y03 X04 Y04 X05 Y05 X06 Y06
  have J1 := Lib.hid h1
  have zs1 : w1.heap.size < v1.heap.size := by have := g1.size; simp at this; omega
  have BR1 := Lib.hid (BB0.out.grown g1 BB0.out.size (by intro g hg; cases hg; omega))
  have BB1 := Lib.hid (BR1.out.setCell (p := ⟨w1.heap.size, 5, none⟩) (by show w.heap.size ≤ w1.heap.size; omega) (.bool x1))
  clear h1 g1
  go_wp2_with fail
  refine (T2.out _ _ K2.out).mono ?_
  rintro e v2 ⟨rfl, h2, g2⟩
  obtain ⟨hc2, hf2⟩ := gcell g2 (X := w1.heap.size) (by first | (simp; done) | (simp; omega)) zz
  obtain ⟨hzc2, hyc2⟩ := gcell g2 (X := w.heap.size) (by first | (simp; done) | (simp; omega)) (by omega)
  have K3 := Lib.hid (h2.belowB (w' := v2.setCell ⟨w1.heap.size, 4, none⟩ (.int .i64 x2)) (B := w.heap.size + 2) (by omega) (fun a ha hl => Nat.lt_of_lt_of_le (hbb a ha hl) (by omega)) ((Below.refl _ _).setCell (by exact z1) _))
  have X20 : (v2.setCell ⟨w1.heap.size, 4, none⟩ (.int .i64 x2)).cell? ⟨w1.heap.size, 0, none⟩ = some (.int .i64 6) := (World.cell?_setCell_other _ _ _ _ (by simp)).trans ((hc2 0).trans X10)
  have X21 : (v2.setCell ⟨w1.heap.size, 4, none⟩ (.int .i64 x2)).cell? ⟨w1.heap.size, 1, none⟩ = some (.string ⟨#[]⟩) := (World.cell?_setCell_other _ _ _ _ (by simp)).trans ((hc2 1).trans X11)
  have X22 : (v2.setCell ⟨w1.heap.size, 4, none⟩ (.int .i64 x2)).cell? ⟨w1.heap.size, 2, none⟩ = some (.int .i64 0) := (World.cell?_setCell_other _ _ _ _ (by simp)).trans ((hc2 2).trans X12)
  have X23 : (v2.setCell ⟨w1.heap.size, 4, none⟩ (.int .i64 x2)).cell? ⟨w1.heap.size, 3, none⟩ = some (.int .i64 0) := (World.cell?_setCell_other _ _ _ _ (by simp)).trans ((hc2 3).trans X13)
  have X24 : (v2.setCell ⟨w1.heap.size, 4, none⟩ (.int .i64 x2)).cell? ⟨w1.heap.size, 4, none⟩ = some (.int .i64 x2) := World.cell?_setCell_same _ _ _ ((hc2 4).trans X14)
  have X25 : (v2.setCell ⟨w1.heap.size, 4, none⟩ (.int .i64 x2)).cell? ⟨w1.heap.size, 5, none⟩ = some (.bool x1) := (World.cell?_setCell_other _ _ _ _ (by simp)).trans ((hc2 5).trans X15)
  have X26 : (v2.setCell ⟨w1.heap.size, 4, none⟩ (.int .i64 x2)).cell? ⟨w1.heap.size, 6, none⟩ = some (.slice none 0 0) := (World.cell?_setCell_other _ _ _ _ (by simp)).trans ((hc2 6).trans X16)
  have Y20 : (v2.setCell ⟨w1.heap.size, 4, none⟩ (.int .i64 x2)).cell? ⟨w.heap.size, 0, none⟩ = some (.int .i64 0) := (World.cell?_setCell_other _ _ _ _ (fun e => absurd (congrArg Addr.block e) z0)).trans ((hzc2 0).trans Y10)
  have Y21 : (v2.setCell ⟨w1.heap.size, 4, none⟩ (.int .i64 x2)).cell? ⟨w.heap.size, 1, none⟩ = some (.string ⟨#[]⟩) := (World.cell?_setCell_other _ _ _ _ (fun e => absurd (congrArg Addr.block e) z0)).trans ((hzc2 1).trans Y11)
  have Y22 : (v2.setCell ⟨w1.heap.size, 4, none⟩ (.int .i64 x2)).cell? ⟨w.heap.size, 2, none⟩ = some (.int .i64 0) := (World.cell?_setCell_other _ _ _ _ (fun e => absurd (congrArg Addr.block e) z0)).trans ((hzc2 2).trans Y12)
  have Y23 : (v2.setCell ⟨w1.heap.size, 4, none⟩ (.int .i64 x2)).cell? ⟨w.heap.size, 3, none⟩ = some (.int .i64 0) := (World.cell?_setCell_other _ _ _ _ (fun e => absurd (congrArg Addr.block e) z0)).trans ((hzc2 3).trans Y13)
  have Y24 : (v2.setCell ⟨w1.heap.size, 4, none⟩ (.int .i64 x2)).cell? ⟨w.heap.size, 4, none⟩ = some (.int .i64 0) := (World.cell?_setCell_other _ _ _ _ (fun e => absurd (congrArg Addr.block e) z0)).trans ((hzc2 4).trans Y14)
  have Y25 : (v2.setCell ⟨w1.heap.size, 4, none⟩ (.int .i64 x2)).cell? ⟨w.heap.size, 5, none⟩ = some (.bool false) := (World.cell?_setCell_other _ _ _ _ (fun e => absurd (congrArg Addr.block e) z0)).trans ((hzc2 5).trans Y15)
  have Y26 : (v2.setCell ⟨w1.heap.size, 4, none⟩ (.int .i64 x2)).cell? ⟨w.heap.size, 6, none⟩ = some (.slice none 0 0) := (World.cell?_setCell_other _ _ _ _ (fun e => absurd (congrArg Addr.block e) z0)).trans ((hzc2 6).trans Y16)
  clear X10 Y10 X11 Y11 X12 Y12 X13 Y13 X14 Y14 X15 Y15 X16 Y16
  have J2 := Lib.hid h2
  have zs2 : w1.heap.size < v2.heap.size := by have := g2.size; simp at this; omega
  have BR2 := Lib.hid (BB1.out.grown g2 BB1.out.size (by intro g hg; cases hg; omega))
  have BB2 := Lib.hid (BR2.out.setCell (p := ⟨w1.heap.size, 4, none⟩) (by show w.heap.size ≤ w1.heap.size; omega) (.int .i64 x2))
  clear h2 g2
  obtain ⟨pn, fn, hh, hpn, hen, _⟩ := J2.out
  have d1 : v2.cell? ⟨w.heap.size + 1, 1, none⟩ = some (.int .i64 pn) := cell_of_row v2 _ 1 _ _ _ hh
  have d2 : v2.cell? ⟨w.heap.size + 1, 2, none⟩ = some (.bool fn) := cell_of_row v2 _ 2 _ _ _ hh
  have HE := Lib.hid hen
  clear hh hen
  have zv : w.heap.size < v2.heap.size := by omega
  have zv1 : w.heap.size + 1 < v2.heap.size := by omega
  have zx : w1.heap.size < v2.heap.size := by omega
  rcases HE.out with ⟨hs, rfl⟩ | ⟨hs, rfl⟩
  · go_wp2_with fail
    refine (NK.out _).mono ?_
    rintro e v' ⟨rfl, bv⟩
    obtain ⟨hb, hbf⟩ := bcell bv
    have BV := Lib.hid (below_step BB2.out (Nat.le_refl _) bv)
    clear bv
    have YV0 : v'.cell? ⟨w.heap.size, 0, none⟩ = some (.int .i64 0) := (hb _ 0 (by simp; exact zv)).trans Y20
    have XV0 : v'.cell? ⟨w1.heap.size, 0, none⟩ = some (.int .i64 6) := (hb _ 0 (by simp; exact zx)).trans X20
    have YV1 : v'.cell? ⟨w.heap.size, 1, none⟩ = some (.string ⟨#[]⟩) := (hb _ 1 (by simp; exact zv)).trans Y21
    have XV1 : v'.cell? ⟨w1.heap.size, 1, none⟩ = some (.string ⟨#[]⟩) := (hb _ 1 (by simp; exact zx)).trans X21
    have YV2 : v'.cell? ⟨w.heap.size, 2, none⟩ = some (.int .i64 0) := (hb _ 2 (by simp; exact zv)).trans Y22
    have XV2 : v'.cell? ⟨w1.heap.size, 2, none⟩ = some (.int .i64 0) := (hb _ 2 (by simp; exact zx)).trans X22
    have YV3 : v'.cell? ⟨w.heap.size, 3, none⟩ = some (.int .i64 0) := (hb _ 3 (by simp; exact zv)).trans Y23
    have XV3 : v'.cell? ⟨w1.heap.size, 3, none⟩ = some (.int .i64 0) := (hb _ 3 (by simp; exact zx)).trans X23
    have YV4 : v'.cell? ⟨w.heap.size, 4, none⟩ = some (.int .i64 0) := (hb _ 4 (by simp; exact zv)).trans Y24
    have XV4 : v'.cell? ⟨w1.heap.size, 4, none⟩ = some (.int .i64 x2) := (hb _ 4 (by simp; exact zx)).trans X24
    have YV5 : v'.cell? ⟨w.heap.size, 5, none⟩ = some (.bool false) := (hb _ 5 (by simp; exact zv)).trans Y25
    have XV5 : v'.cell? ⟨w1.heap.size, 5, none⟩ = some (.bool x1) := (hb _ 5 (by simp; exact zx)).trans X25
    have YV6 : v'.cell? ⟨w.heap.size, 6, none⟩ = some (.slice none 0 0) := (hb _ 6 (by simp; exact zv)).trans Y26
    have XV6 : v'.cell? ⟨w1.heap.size, 6, none⟩ = some (.slice none 0 0) := (hb _ 6 (by simp; exact zx)).trans X26
    have PV : v'.cell? ⟨w.heap.size + 1, 1, none⟩ = some (.int .i64 pn) := (hb _ 1 (by simp; exact zv1)).trans ((World.cell?_setCell_other _ _ _ _ (fun e => absurd (congrArg Addr.block e) zz)).trans d1)
    cases hnb : nodeB ⟨6, ⟨#[]⟩, 0, 0, x2, x1, []⟩ with
    | false =>
      have E : Hid (rr = (zeroNd, -1)) := by show _ = _; rw [TN.out, hnb]; rfl
      go_wp2_with fail
      rw [E.out]
      refine bodyPost_ret (v := .tuple #[.agg #[.int .i64 0, .string ⟨#[]⟩, .int .i64 0, .int .i64 0, .int .i64 0, .bool false, .slice none 0 0], .int .i64 (-1)]) (by simp [results, Tryz.results127, go_sem, YV0, YV1, YV2, YV3, YV4, YV5, YV6]) rfl ⟨none, 0, rfl, Own.none_, ?_⟩
      repeat (refine Below.setCell ?_ (by simp; try omega) _)
      exact BV.out
    | true =>
      have E : Hid (rr = (⟨6, ⟨#[]⟩, 0, 0, x2, x1, []⟩, pn)) := by show _ = _; rw [TN.out, hnb, hs]; rfl
      go_wp2_with fail
      clear hb NK HE X20 Y20 X21 Y21 X22 Y22 X23 Y23 X24 Y24 X25 Y25 X26 Y26
      have FZ := fun o => hbf w.heap.size o (by simp; exact zv)
      go_region
      all_goals
        go_wp2_with fail
        rw [E.out]
        refine bodyPost_ret (v := .tuple #[.agg #[.int .i64 6, .string ⟨#[]⟩, .int .i64 0, .int .i64 0, .int .i64 x2, .bool x1, .slice none 0 0], .int .i64 pn]) (by simp [results, Tryz.results127, go_sem, YV0, YV1, YV2, YV3, YV4, YV5, YV6]) rfl ⟨none, 0, rfl, Own.none_, ?_⟩
        refine Below.drew ?_
        repeat (refine Below.setCell ?_ (by simp; try omega) _)
        exact BV.out
  · have E : Hid (rr = (zeroNd, -1)) := by show _ = _; rw [TN.out, hs]; simp
    go_wp2_with fail
    rw [E.out]
    refine bodyPost_ret (v := .tuple #[.agg #[.int .i64 0, .string ⟨#[]⟩, .int .i64 0, .int .i64 0, .int .i64 0, .bool false, .slice none 0 0], .int .i64 (-1)]) (by simp [results, Tryz.results127, go_sem, Y20, Y21, Y22, Y23, Y24, Y25, Y26]) rfl ⟨none, 0, rfl, Own.none_, ?_⟩
    repeat (refine Below.setCell ?_ (by simp; try omega) _)
    exact BR2.out
end Go.Proofs.YtfpbhedophlnkaaGreatDoor
