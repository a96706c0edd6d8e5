/-
  Contract of spec.TakeNode at a keep. For every slice of bytes and every place.
-/
import Derived.Test.YtfpbhedophlnkaaGreatDoorJ42x
import Derived.Test.YtfpbhedophlnkaaGreatDoorJ20x
import Derived.Test.YtfpbhedophlnkaaGreatDoorJ10x
import Derived.Test.YtfpbhedophlnkaaGreatDoorJ47x
import Derived.BigRegion
namespace Go.Proofs.YtfpbhedophlnkaaGreatDoor
open Go.RowKit
set_option linter.unusedSimpArgs false
set_option linter.unusedVariables false

theorem takeNs_300M {l : List Int} (hl : By l) (p : Int) : (takeNs l p).1.length ≤ 300 := by
  unfold takeNs
  have bd := takeN_bd hl p
  split
  · simp
  · rename_i h
    rcases hk : rdN l (takeN l p).2 (takeN l p).1.toNat with _ | ⟨acc, q⟩
    · simp
    · have := (rdN_bd hl (by omega) (by omega) _ _ _ hk).1
      simp; omega
theorem takeNs_plM {l : List Int} (hl : By l) (p : Int) : (takeNs l p).2 = -1 ∨ (0 ≤ (takeNs l p).2 ∧ (takeNs l p).2 ≤ l.length) := by
  unfold takeNs
  have bd := takeN_bd hl p
  split
  · exact .inl rfl
  · rename_i h
    cases hr : rdN l (takeN l p).2 (takeN l p).1.toNat with
    | none => exact .inl rfl
    | some x =>
      obtain ⟨acc, q⟩ := x
      have := rdN_bd hl (p0 := (takeN l p).2) (by omega) (by omega) _ _ _ hr
      right; simp only [Option.getD_some]; omega

set_option maxRecDepth 100000 in
set_option maxHeartbeats 3200000 in
theorem specTake2 (b : Option Addr) (d : Nat) (l : List Int) (at_ p : Int) (w : World) (h : Rd w .u8 b l) (hby : By l) (hl : l.length ≤ maxLen) (hd : l.length ≤ d) (hd2 : d ≤ maxLen) (ha : at_ ≤ 9223372036854775807) (hk : numR l (some at_) = (2, some p)) :
    Calls Tryz.prog 127 #[.slice b l.length d, .int .i64 at_] w (TookNm (takeNd l at_) w) := by
  have TN : Hid (takeNd l at_ = if (takeNs l p).2 = -1 then (zeroNd, -1) else if nodeB ⟨2, ⟨#[]⟩, 0, 0, 0, false, (takeNs l p).1⟩ = true then (⟨2, ⟨#[]⟩, 0, 0, 0, false, (takeNs l p).1⟩, (takeNs l p).2) else (zeroNd, -1)) := by
    show _ = _
    unfold takeNd nodeR
    rw [hk]
    simp only [fieldR, if_true, listR, Int.reduceEq, if_false]
    by_cases hy : (takeNs l p).2 = -1
    · rw [if_pos hy, if_pos hy]; simp
    · rw [if_neg hy, if_neg hy]
      by_cases hn : nodeB ⟨2, ⟨#[]⟩, 0, 0, 0, false, (takeNs l p).1⟩ = true
      · simp only [if_pos hn]
      · simp only [if_neg hn]
  have PL := takeNs_plM hby p
  have C := Lib.hid (fun W (h : Rd W .u8 b l) (hp : p ≤ 9223372036854775807) => specTakeNums_any b d l p W h hby hl hp)
  have h300 : (takeNs l p).1.length ≤ 300 := takeNs_300M hby p
  obtain ⟨⟨x, y⟩, hxy⟩ : ∃ r, r = takeNs l p := ⟨_, rfl⟩
  rw [← hxy] at TN PL C h300
  simp only at TN PL h300
  clear hxy
  have NK := Lib.hid (fun a c W h => specNodeOk_any ⟨2, ⟨#[]⟩, 0, 0, 0, false, x⟩ a c W h (by show x.length ≤ maxLen; unfold maxLen; omega) (Nat.zero_le maxLen))
  have T0 := Lib.hid (fun W R (h : Srd W R b d l (some at_)) => l05Next_any R b d l (some at_) W h)
  rw [hk] at T0
  obtain ⟨rr, hrr⟩ : ∃ rr, rr = takeNd l at_ := ⟨_, rfl⟩
  rw [← hrr] at TN ⊢
  have hbb : ∀ a, b = some a → l ≠ [] → a.block < w.heap.size := rd_lt h
  have H0 := Lib.hid (srd_new (d := d) h hby hl ha)
  have HR := Lib.hid h
  clear hk hrr h
  unfold WS at H0
  go_enter Tryz.func127, Tryz.ntmps127
  go_wp2_with fail
  refine (T0.out _ _ H0.out).mono ?_
  rintro e w1 ⟨rfl, h1, g1⟩
  obtain ⟨p1, f1, hh, hp1, he1, hr1, hby1, hd1, hne1⟩ := id h1
  obtain ⟨rfl, rfl⟩ : p1 = p ∧ f1 = false := by
    rcases he1 with ⟨hs, hf⟩ | ⟨hs, _⟩
    · injection hs with hs; exact ⟨hs.symm, hf⟩
    · cases hs
  have c1 : w1.cell? ⟨w.heap.size + 1, 1, none⟩ = some (.int .i64 p1) := cell_of_row w1 _ 1 _ _ _ hh
  have c2 : w1.cell? ⟨w.heap.size + 1, 2, none⟩ = some (.bool false) := cell_of_row w1 _ 2 _ _ _ hh
  have fR : ∀ o, w1.frozen? ⟨w.heap.size + 1, o, none⟩ = false := fun o => by simp only [World.frozen?, hh]; simp
  have zz : w1.heap.size ≠ w.heap.size + 1 := by have := lt_of_block hh; omega
  have zy : ¬ (w.heap.size + 1 = w1.heap.size) := fun e => zz e.symm
  have z1 : w.heap.size + 2 ≤ w1.heap.size := by have := g1.size; simp at this; omega
  have zl : w.heap.size + 1 < w1.heap.size := by omega
  have zk : w.heap.size < w1.heap.size := by omega
  have z0 : ¬ (w1.heap.size = w.heap.size) := by omega
  have z0' : ¬ (w.heap.size = w1.heap.size) := by omega
  have BA := Lib.hid (below_ws g1)
  obtain ⟨hz0, hy0⟩ := gcell g1 (X := w.heap.size) (by simp; omega) (by omega)
  have H1 := Lib.hid h1
  have BB0 := Lib.hid (BA.out.alloc BA.out.size (.cells #[.int .i64 2, .string ⟨#[]⟩, .int .i64 0, .int .i64 0, .int .i64 0, .bool false, .slice none 0 0] 92))
  clear hh he1 hr1 hby1 hd1 hne1 g1 h1 H0 T0
  have X00 : (w1.alloc (.cells #[.int .i64 2, .string ⟨#[]⟩, .int .i64 0, .int .i64 0, .int .i64 0, .bool false, .slice none 0 0] 92)).cell? ⟨w1.heap.size, 0, none⟩ = some (.int .i64 2) := (cell_of_row _ _ _ _ _ _ (heap_alloc_new w1 _)).trans rfl
  have X01 : (w1.alloc (.cells #[.int .i64 2, .string ⟨#[]⟩, .int .i64 0, .int .i64 0, .int .i64 0, .bool false, .slice none 0 0] 92)).cell? ⟨w1.heap.size, 1, none⟩ = some (.string ⟨#[]⟩) := (cell_of_row _ _ _ _ _ _ (heap_alloc_new w1 _)).trans rfl
  have X02 : (w1.alloc (.cells #[.int .i64 2, .string ⟨#[]⟩, .int .i64 0, .int .i64 0, .int .i64 0, .bool false, .slice none 0 0] 92)).cell? ⟨w1.heap.size, 2, none⟩ = some (.int .i64 0) := (cell_of_row _ _ _ _ _ _ (heap_alloc_new w1 _)).trans rfl
  have X03 : (w1.alloc (.cells #[.int .i64 2, .string ⟨#[]⟩, .int .i64 0, .int .i64 0, .int .i64 0, .bool false, .slice none 0 0] 92)).cell? ⟨w1.heap.size, 3, none⟩ = some (.int .i64 0) := (cell_of_row _ _ _ _ _ _ (heap_alloc_new w1 _)).trans rfl
  have X04 : (w1.alloc (.cells #[.int .i64 2, .string ⟨#[]⟩, .int .i64 0, .int .i64 0, .int .i64 0, .bool false, .slice none 0 0] 92)).cell? ⟨w1.heap.size, 4, none⟩ = some (.int .i64 0) := (cell_of_row _ _ _ _ _ _ (heap_alloc_new w1 _)).trans rfl
  have X05 : (w1.alloc (.cells #[.int .i64 2, .string ⟨#[]⟩, .int .i64 0, .int .i64 0, .int .i64 0, .bool false, .slice none 0 0] 92)).cell? ⟨w1.heap.size, 5, none⟩ = some (.bool false) := (cell_of_row _ _ _ _ _ _ (heap_alloc_new w1 _)).trans rfl
  have X06 : (w1.alloc (.cells #[.int .i64 2, .string ⟨#[]⟩, .int .i64 0, .int .i64 0, .int .i64 0, .bool false, .slice none 0 0] 92)).cell? ⟨w1.heap.size, 6, none⟩ = some (.slice none 0 0) := (cell_of_row _ _ _ _ _ _ (heap_alloc_new w1 _)).trans rfl
  have Y00 : (w1.alloc (.cells #[.int .i64 2, .string ⟨#[]⟩, .int .i64 0, .int .i64 0, .int .i64 0, .bool false, .slice none 0 0] 92)).cell? ⟨w.heap.size, 0, none⟩ = some (.int .i64 0) := (((Below.refl _ w1).alloc (Nat.le_refl _) _).cell (p := ⟨w.heap.size, 0, none⟩) zk).trans ((hz0 0).trans (ws_zero w b l.length d at_ 0 _ rfl))
  have Y01 : (w1.alloc (.cells #[.int .i64 2, .string ⟨#[]⟩, .int .i64 0, .int .i64 0, .int .i64 0, .bool false, .slice none 0 0] 92)).cell? ⟨w.heap.size, 1, none⟩ = some (.string ⟨#[]⟩) := (((Below.refl _ w1).alloc (Nat.le_refl _) _).cell (p := ⟨w.heap.size, 1, none⟩) zk).trans ((hz0 1).trans (ws_zero w b l.length d at_ 1 _ rfl))
  have Y02 : (w1.alloc (.cells #[.int .i64 2, .string ⟨#[]⟩, .int .i64 0, .int .i64 0, .int .i64 0, .bool false, .slice none 0 0] 92)).cell? ⟨w.heap.size, 2, none⟩ = some (.int .i64 0) := (((Below.refl _ w1).alloc (Nat.le_refl _) _).cell (p := ⟨w.heap.size, 2, none⟩) zk).trans ((hz0 2).trans (ws_zero w b l.length d at_ 2 _ rfl))
  have Y03 : (w1.alloc (.cells #[.int .i64 2, .string ⟨#[]⟩, .int .i64 0, .int .i64 0, .int .i64 0, .bool false, .slice none 0 0] 92)).cell? ⟨w.heap.size, 3, none⟩ = some (.int .i64 0) := (((Below.refl _ w1).alloc (Nat.le_refl _) _).cell (p := ⟨w.heap.size, 3, none⟩) zk).trans ((hz0 3).trans (ws_zero w b l.length d at_ 3 _ rfl))
  have Y04 : (w1.alloc (.cells #[.int .i64 2, .string ⟨#[]⟩, .int .i64 0, .int .i64 0, .int .i64 0, .bool false, .slice none 0 0] 92)).cell? ⟨w.heap.size, 4, none⟩ = some (.int .i64 0) := (((Below.refl _ w1).alloc (Nat.le_refl _) _).cell (p := ⟨w.heap.size, 4, none⟩) zk).trans ((hz0 4).trans (ws_zero w b l.length d at_ 4 _ rfl))
  have Y05 : (w1.alloc (.cells #[.int .i64 2, .string ⟨#[]⟩, .int .i64 0, .int .i64 0, .int .i64 0, .bool false, .slice none 0 0] 92)).cell? ⟨w.heap.size, 5, none⟩ = some (.bool false) := (((Below.refl _ w1).alloc (Nat.le_refl _) _).cell (p := ⟨w.heap.size, 5, none⟩) zk).trans ((hz0 5).trans (ws_zero w b l.length d at_ 5 _ rfl))
  have Y06 : (w1.alloc (.cells #[.int .i64 2, .string ⟨#[]⟩, .int .i64 0, .int .i64 0, .int .i64 0, .bool false, .slice none 0 0] 92)).cell? ⟨w.heap.size, 6, none⟩ = some (.slice none 0 0) := (((Below.refl _ w1).alloc (Nat.le_refl _) _).cell (p := ⟨w.heap.size, 6, none⟩) zk).trans ((hz0 6).trans (ws_zero w b l.length d at_ 6 _ rfl))
  have W00 : w1.cell? ⟨w.heap.size, 0, none⟩ = some (.int .i64 0) := (hz0 0).trans (ws_zero w b l.length d at_ 0 _ rfl)
  have W01 : w1.cell? ⟨w.heap.size, 1, none⟩ = some (.string ⟨#[]⟩) := (hz0 1).trans (ws_zero w b l.length d at_ 1 _ rfl)
  have W02 : w1.cell? ⟨w.heap.size, 2, none⟩ = some (.int .i64 0) := (hz0 2).trans (ws_zero w b l.length d at_ 2 _ rfl)
  have W03 : w1.cell? ⟨w.heap.size, 3, none⟩ = some (.int .i64 0) := (hz0 3).trans (ws_zero w b l.length d at_ 3 _ rfl)
  have W04 : w1.cell? ⟨w.heap.size, 4, none⟩ = some (.int .i64 0) := (hz0 4).trans (ws_zero w b l.length d at_ 4 _ rfl)
  have W05 : w1.cell? ⟨w.heap.size, 5, none⟩ = some (.bool false) := (hz0 5).trans (ws_zero w b l.length d at_ 5 _ rfl)
  have W06 : w1.cell? ⟨w.heap.size, 6, none⟩ = some (.slice none 0 0) := (hz0 6).trans (ws_zero w b l.length d at_ 6 _ rfl)
  have RW := Lib.hid (HR.out.below (BB0.out))
  go_wp2_with fail
  refine (C.out _ RW.out hp1).mono ?_
  rintro e w2 ⟨ao, co, rfl, o2, b2⟩
  simp only at o2 ⊢
  have OL := Lib.hid (fun x hx => (o2.lt x hx).1)
  have zs : w1.heap.size < w2.heap.size := by have := b2.size; simp at this; omega
  have B2 := Lib.hid (below_step BB0.out (Nat.le_refl _) b2)
  have X10 : w2.cell? ⟨w1.heap.size, 0, none⟩ = some (.int .i64 2) := (b2.cell (p := ⟨w1.heap.size, 0, none⟩) (by simp)).trans X00
  have Y10 : w2.cell? ⟨w.heap.size, 0, none⟩ = some (.int .i64 0) := (b2.cell (p := ⟨w.heap.size, 0, none⟩) (by simp; omega)).trans Y00
  have X11 : w2.cell? ⟨w1.heap.size, 1, none⟩ = some (.string ⟨#[]⟩) := (b2.cell (p := ⟨w1.heap.size, 1, none⟩) (by simp)).trans X01
  have Y11 : w2.cell? ⟨w.heap.size, 1, none⟩ = some (.string ⟨#[]⟩) := (b2.cell (p := ⟨w.heap.size, 1, none⟩) (by simp; omega)).trans Y01
  have X12 : w2.cell? ⟨w1.heap.size, 2, none⟩ = some (.int .i64 0) := (b2.cell (p := ⟨w1.heap.size, 2, none⟩) (by simp)).trans X02
  have Y12 : w2.cell? ⟨w.heap.size, 2, none⟩ = some (.int .i64 0) := (b2.cell (p := ⟨w.heap.size, 2, none⟩) (by simp; omega)).trans Y02
  have X13 : w2.cell? ⟨w1.heap.size, 3, none⟩ = some (.int .i64 0) := (b2.cell (p := ⟨w1.heap.size, 3, none⟩) (by simp)).trans X03
  have Y13 : w2.cell? ⟨w.heap.size, 3, none⟩ = some (.int .i64 0) := (b2.cell (p := ⟨w.heap.size, 3, none⟩) (by simp; omega)).trans Y03
  have X14 : w2.cell? ⟨w1.heap.size, 4, none⟩ = some (.int .i64 0) := (b2.cell (p := ⟨w1.heap.size, 4, none⟩) (by simp)).trans X04
  have Y14 : w2.cell? ⟨w.heap.size, 4, none⟩ = some (.int .i64 0) := (b2.cell (p := ⟨w.heap.size, 4, none⟩) (by simp; omega)).trans Y04
  have X15 : w2.cell? ⟨w1.heap.size, 5, none⟩ = some (.bool false) := (b2.cell (p := ⟨w1.heap.size, 5, none⟩) (by simp)).trans X05
  have Y15 : w2.cell? ⟨w.heap.size, 5, none⟩ = some (.bool false) := (b2.cell (p := ⟨w.heap.size, 5, none⟩) (by simp; omega)).trans Y05
  have X16 : w2.cell? ⟨w1.heap.size, 6, none⟩ = some (.slice none 0 0) := (b2.cell (p := ⟨w1.heap.size, 6, none⟩) (by simp)).trans X06
  have Y16 : w2.cell? ⟨w.heap.size, 6, none⟩ = some (.slice none 0 0) := (b2.cell (p := ⟨w.heap.size, 6, none⟩) (by simp; omega)).trans Y06
  have A1 := Lib.hid ((Below.refl _ w1).alloc (Nat.le_refl _) (.cells #[.int .i64 2, .string ⟨#[]⟩, .int .i64 0, .int .i64 0, .int .i64 0, .bool false, .slice none 0 0] 92))
  have d1 : w2.cell? ⟨w.heap.size + 1, 1, none⟩ = some (.int .i64 p1) := (b2.cell (p := ⟨w.heap.size + 1, 1, none⟩) (by simp; omega)).trans ((A1.out.cell (p := ⟨w.heap.size + 1, 1, none⟩) zl).trans c1)
  have d2 : w2.cell? ⟨w.heap.size + 1, 2, none⟩ = some (.bool false) := (b2.cell (p := ⟨w.heap.size + 1, 2, none⟩) (by simp; omega)).trans ((A1.out.cell (p := ⟨w.heap.size + 1, 2, none⟩) zl).trans c2)
  have gR : ∀ o, w2.frozen? ⟨w.heap.size + 1, o, none⟩ = false := fun o => (b2.frozen (p := ⟨w.heap.size + 1, o, none⟩) (by simp; omega)).trans ((A1.out.frozen (p := ⟨w.heap.size + 1, o, none⟩) zl).trans (fR o))
  have g0 : ∀ o, w2.frozen? ⟨w.heap.size, o, none⟩ = false := fun o => (b2.frozen (p := ⟨w.heap.size, o, none⟩) (by simp; omega)).trans ((A1.out.frozen (p := ⟨w.heap.size, o, none⟩) zk).trans ((hy0 o).trans (ws_fz w b l.length d at_ o)))
  have gX : ∀ o, w2.frozen? ⟨w1.heap.size, o, none⟩ = false := fun o => (b2.frozen (p := ⟨w1.heap.size, o, none⟩) (by simp)).trans (by
    have h2 := heap_alloc_new w1 (.cells #[.int .i64 2, .string ⟨#[]⟩, .int .i64 0, .int .i64 0, .int .i64 0, .bool false, .slice none 0 0] 92)
    simp only [World.frozen?, h2]; simp)
  have q1 : ¬ (w.heap.size + 1 = w.heap.size) := by omega
  have q2 : ¬ (w.heap.size = w.heap.size + 1) := by omega
  have O2 := Lib.hid (o2.base_le (base' := w.heap.size + 2) (by simp; omega))
  clear b2 o2 hz0 hy0 c1 c2 fR HR H1 X00 Y00 W00 X01 Y01 W01 X02 Y02 W02 X03 Y03 W03 X04 Y04 W04 X05 Y05 W05 X06 Y06 W06
  by_cases hy : y < 0
  · have E : Hid (rr = (zeroNd, -1)) := by show _ = _; rw [TN.out, if_pos (by omega)]
    go_wp2_with fail
    rw [E.out]
    refine bodyPost_ret (v := .tuple #[.agg #[.int .i64 0, .string ⟨#[]⟩, .int .i64 0, .int .i64 0, .int .i64 0, .bool false, .slice none 0 0], .int .i64 (-1)]) (by simp [results, Tryz.results127, go_sem, Y10, Y11, Y12, Y13, Y14, Y15, Y16]) rfl ⟨none, 0, rfl, Own.none_, ?_⟩
    repeat (refine Below.setCell ?_ (by simp; try omega) _)
    exact B2.out
  · obtain ⟨W3, hW3⟩ : ∃ W3, W3 = (w2.setCell ⟨w1.heap.size, 6, none⟩ (.slice ao x.length co)).setCell ⟨w.heap.size + 1, 1, none⟩ (.int .i64 y) := ⟨_, rfl⟩
    have WD : Hid (Below w.heap.size w W3) := by rw [hW3]; exact (B2.out.setCell (by show w.heap.size ≤ w1.heap.size; omega) _).setCell (by show w.heap.size ≤ w.heap.size + 1; omega) _
    have zW : W3.heap.size = w2.heap.size := by rw [hW3]; simp
    have OW : Hid (Own W3 (w.heap.size + 2) 3 .i64 ao co x) := by
      rw [hW3]
      exact (O2.out.far (p := ⟨w1.heap.size, 6, none⟩) (fun a ha => by have := OL.out a ha; simp at this ⊢; omega) _).far (p := ⟨w.heap.size + 1, 1, none⟩) (fun a ha => by have := OL.out a ha; simp at this ⊢; omega) _
    have YW0 : W3.cell? ⟨w.heap.size, 0, none⟩ = some (.int .i64 0) := by rw [hW3]; exact (World.cell?_setCell_other _ _ _ _ (fun e => absurd (congrArg Addr.block e) q1)).trans ((World.cell?_setCell_other _ _ _ _ (fun e => absurd (congrArg Addr.block e) z0)).trans Y10)
    have XW0 : W3.cell? ⟨w1.heap.size, 0, none⟩ = some (.int .i64 2) := by rw [hW3]; exact (World.cell?_setCell_other _ _ _ _ (fun e => absurd (congrArg Addr.block e) zy)).trans ((World.cell?_setCell_other _ _ _ _ (by simp)).trans X10)
    have YW1 : W3.cell? ⟨w.heap.size, 1, none⟩ = some (.string ⟨#[]⟩) := by rw [hW3]; exact (World.cell?_setCell_other _ _ _ _ (fun e => absurd (congrArg Addr.block e) q1)).trans ((World.cell?_setCell_other _ _ _ _ (fun e => absurd (congrArg Addr.block e) z0)).trans Y11)
    have XW1 : W3.cell? ⟨w1.heap.size, 1, none⟩ = some (.string ⟨#[]⟩) := by rw [hW3]; exact (World.cell?_setCell_other _ _ _ _ (fun e => absurd (congrArg Addr.block e) zy)).trans ((World.cell?_setCell_other _ _ _ _ (by simp)).trans X11)
    have YW2 : W3.cell? ⟨w.heap.size, 2, none⟩ = some (.int .i64 0) := by rw [hW3]; exact (World.cell?_setCell_other _ _ _ _ (fun e => absurd (congrArg Addr.block e) q1)).trans ((World.cell?_setCell_other _ _ _ _ (fun e => absurd (congrArg Addr.block e) z0)).trans Y12)
    have XW2 : W3.cell? ⟨w1.heap.size, 2, none⟩ = some (.int .i64 0) := by rw [hW3]; exact (World.cell?_setCell_other _ _ _ _ (fun e => absurd (congrArg Addr.block e) zy)).trans ((World.cell?_setCell_other _ _ _ _ (by simp)).trans X12)
    have YW3 : W3.cell? ⟨w.heap.size, 3, none⟩ = some (.int .i64 0) := by rw [hW3]; exact (World.cell?_setCell_other _ _ _ _ (fun e => absurd (congrArg Addr.block e) q1)).trans ((World.cell?_setCell_other _ _ _ _ (fun e => absurd (congrArg Addr.block e) z0)).trans Y13)
    have XW3 : W3.cell? ⟨w1.heap.size, 3, none⟩ = some (.int .i64 0) := by rw [hW3]; exact (World.cell?_setCell_other _ _ _ _ (fun e => absurd (congrArg Addr.block e) zy)).trans ((World.cell?_setCell_other _ _ _ _ (by simp)).trans X13)
    have YW4 : W3.cell? ⟨w.heap.size, 4, none⟩ = some (.int .i64 0) := by rw [hW3]; exact (World.cell?_setCell_other _ _ _ _ (fun e => absurd (congrArg Addr.block e) q1)).trans ((World.cell?_setCell_other _ _ _ _ (fun e => absurd (congrArg Addr.block e) z0)).trans Y14)
    have XW4 : W3.cell? ⟨w1.heap.size, 4, none⟩ = some (.int .i64 0) := by rw [hW3]; exact (World.cell?_setCell_other _ _ _ _ (fun e => absurd (congrArg Addr.block e) zy)).trans ((World.cell?_setCell_other _ _ _ _ (by simp)).trans X14)
    have YW5 : W3.cell? ⟨w.heap.size, 5, none⟩ = some (.bool false) := by rw [hW3]; exact (World.cell?_setCell_other _ _ _ _ (fun e => absurd (congrArg Addr.block e) q1)).trans ((World.cell?_setCell_other _ _ _ _ (fun e => absurd (congrArg Addr.block e) z0)).trans Y15)
    have XW5 : W3.cell? ⟨w1.heap.size, 5, none⟩ = some (.bool false) := by rw [hW3]; exact (World.cell?_setCell_other _ _ _ _ (fun e => absurd (congrArg Addr.block e) zy)).trans ((World.cell?_setCell_other _ _ _ _ (by simp)).trans X15)
    have YW6 : W3.cell? ⟨w.heap.size, 6, none⟩ = some (.slice none 0 0) := by rw [hW3]; exact (World.cell?_setCell_other _ _ _ _ (fun e => absurd (congrArg Addr.block e) q1)).trans ((World.cell?_setCell_other _ _ _ _ (fun e => absurd (congrArg Addr.block e) z0)).trans Y16)
    have XW6 : W3.cell? ⟨w1.heap.size, 6, none⟩ = some (.slice ao x.length co) := by rw [hW3]; exact (World.cell?_setCell_other _ _ _ _ (fun e => absurd (congrArg Addr.block e) zy)).trans (World.cell?_setCell_same _ _ _ X16)
    have PW : W3.cell? ⟨w.heap.size + 1, 1, none⟩ = some (.int .i64 y) := by rw [hW3]; exact World.cell?_setCell_same _ _ _ ((World.cell?_setCell_other _ _ _ _ (fun e => absurd (congrArg Addr.block e) zz)).trans d1)
    have FW : ∀ o, W3.frozen? ⟨w.heap.size, o, none⟩ = false := fun o => by rw [hW3]; exact (World.frozen?_setCell _ _ _ _).trans ((World.frozen?_setCell _ _ _ _).trans (g0 o))
    go_wp2_with fail
    rw [← hW3]
    clear hW3
    refine (NK.out ao co _ OW.out.rd).mono ?_
    rintro e v' ⟨rfl, bv⟩
    have zv : w1.heap.size < v'.heap.size := by have := bv.size; omega
    obtain ⟨hb, hbf⟩ := bcell bv
    have BV := Lib.hid (below_step WD.out (Nat.le_refl _) bv)
    have OV := Lib.hid (OW.out.below bv)
    clear bv
    have YV0 : v'.cell? ⟨w.heap.size, 0, none⟩ = some (.int .i64 0) := (hb _ 0 (by omega)).trans YW0
    have XV0 : v'.cell? ⟨w1.heap.size, 0, none⟩ = some (.int .i64 2) := (hb _ 0 (by omega)).trans XW0
    have YV1 : v'.cell? ⟨w.heap.size, 1, none⟩ = some (.string ⟨#[]⟩) := (hb _ 1 (by omega)).trans YW1
    have XV1 : v'.cell? ⟨w1.heap.size, 1, none⟩ = some (.string ⟨#[]⟩) := (hb _ 1 (by omega)).trans XW1
    have YV2 : v'.cell? ⟨w.heap.size, 2, none⟩ = some (.int .i64 0) := (hb _ 2 (by omega)).trans YW2
    have XV2 : v'.cell? ⟨w1.heap.size, 2, none⟩ = some (.int .i64 0) := (hb _ 2 (by omega)).trans XW2
    have YV3 : v'.cell? ⟨w.heap.size, 3, none⟩ = some (.int .i64 0) := (hb _ 3 (by omega)).trans YW3
    have XV3 : v'.cell? ⟨w1.heap.size, 3, none⟩ = some (.int .i64 0) := (hb _ 3 (by omega)).trans XW3
    have YV4 : v'.cell? ⟨w.heap.size, 4, none⟩ = some (.int .i64 0) := (hb _ 4 (by omega)).trans YW4
    have XV4 : v'.cell? ⟨w1.heap.size, 4, none⟩ = some (.int .i64 0) := (hb _ 4 (by omega)).trans XW4
    have YV5 : v'.cell? ⟨w.heap.size, 5, none⟩ = some (.bool false) := (hb _ 5 (by omega)).trans YW5
    have XV5 : v'.cell? ⟨w1.heap.size, 5, none⟩ = some (.bool false) := (hb _ 5 (by omega)).trans XW5
    have YV6 : v'.cell? ⟨w.heap.size, 6, none⟩ = some (.slice none 0 0) := (hb _ 6 (by omega)).trans YW6
    have XV6 : v'.cell? ⟨w1.heap.size, 6, none⟩ = some (.slice ao x.length co) := (hb _ 6 (by omega)).trans XW6
    have PV : v'.cell? ⟨w.heap.size + 1, 1, none⟩ = some (.int .i64 y) := (hb _ 1 (by omega)).trans PW
    have FZ : ∀ o, v'.frozen? ⟨w.heap.size, o, none⟩ = false := fun o => (hbf _ o (by omega)).trans (FW o)
    clear hb hbf NK
    cases hnb : nodeB ⟨2, ⟨#[]⟩, 0, 0, 0, false, x⟩ with
    | false =>
      have E : Hid (rr = (zeroNd, -1)) := by show _ = _; rw [TN.out, if_neg (by omega), if_neg (by rw [hnb]; simp)]
      go_wp2_with fail
      rw [E.out]
      refine bodyPost_ret (v := .tuple #[.agg #[.int .i64 0, .string ⟨#[]⟩, .int .i64 0, .int .i64 0, .int .i64 0, .bool false, .slice none 0 0], .int .i64 (-1)]) (by simp [results, Tryz.results127, go_sem, YV0, YV1, YV2, YV3, YV4, YV5, YV6]) rfl ⟨none, 0, rfl, Own.none_, ?_⟩
      repeat (refine Below.setCell ?_ (by simp; try omega) _)
      exact BV.out
    | true =>
      have E : Hid (rr = (⟨2, ⟨#[]⟩, 0, 0, 0, false, x⟩, y)) := by show _ = _; rw [TN.out, if_neg (by omega), if_pos hnb]
      clear PW FW g0 gR gX d1 d2 X10 Y10 XW0 YW0 X11 Y11 XW1 YW1 X12 Y12 XW2 YW2 X13 Y13 XW3 YW3 X14 Y14 XW4 YW4 X15 Y15 XW5 YW5 X16 Y16 XW6 YW6
      go_wp2_with fail
      go_region
      all_goals
        go_wp2_with fail
        rw [E.out]
        refine bodyPost_ret (v := .tuple #[.agg #[.int .i64 2, .string ⟨#[]⟩, .int .i64 0, .int .i64 0, .int .i64 0, .bool false, .slice ao x.length co], .int .i64 y]) (by simp [results, Tryz.results127, go_sem, YV0, YV1, YV2, YV3, YV4, YV5, YV6]) rfl ⟨ao, co, rfl, ?_, ?_⟩
        · refine Own.base_le (base := w.heap.size + 2) ?_ (by omega)
          refine Own.keep (w := v') OV.out (fun a ha _ => ?_)
          have := OL.out a ha
          simp at this
          simp [World.drew]
          repeat (rw [Below.heap_setCell _ _ _ _ (by simp; omega)])
        · refine Below.drew ?_
          repeat (refine Below.setCell ?_ (by simp; try omega) _)
          exact BV.out
end Go.Proofs.YtfpbhedophlnkaaGreatDoor
