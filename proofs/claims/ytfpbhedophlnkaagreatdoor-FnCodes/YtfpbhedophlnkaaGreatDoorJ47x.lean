/-
  The first cells of the model's call are not frozen. No walk. Contract of spec.TakeNode at a scan. For every slice of bytes and every place.
-/
import Derived.Test.YtfpbhedophlnkaaGreatDoorJ42x
import Derived.Test.YtfpbhedophlnkaaGreatDoorJ20x
import Derived.Test.YtfpbhedophlnkaaGreatDoorJ10x
import Derived.BigRegion
namespace Go.Proofs.YtfpbhedophlnkaaGreatDoor
open Go.RowKit
set_option linter.unusedSimpArgs false
set_option linter.unusedVariables false

theorem ws_fz (w : World) (b : Option Addr) (n d : Nat) (at_ : Int) (o : Nat) : (WS w b n d at_).frozen? ⟨w.heap.size, o, none⟩ = false := by
  have hh := (Below.alloc (Below.refl _ (w.alloc (.cells #[.int .i64 0, .string ⟨#[]⟩, .int .i64 0, .int .i64 0, .int .i64 0, .bool false, .slice none 0 0] 92))) (Nat.le_refl _) (.cells #[.slice b n d, .int .i64 at_, .bool false] 203)).frozen (p := ⟨w.heap.size, o, none⟩) (by simp)
  refine hh.trans ?_
  have h2 := heap_alloc_new w (.cells #[.int .i64 0, .string ⟨#[]⟩, .int .i64 0, .int .i64 0, .int .i64 0, .bool false, .slice none 0 0] 92)
  simp only [World.frozen?, h2]; simp
end Go.Proofs.YtfpbhedophlnkaaGreatDoor
namespace Go.Proofs.YtfpbhedophlnkaaGreatDoor
open Go.RowKit
set_option linter.unusedSimpArgs false
set_option linter.unusedVariables false

set_option maxRecDepth 100000 in
set_option maxHeartbeats 3200000 in
theorem specTake0 (b : Option Addr) (d : Nat) (l : List Int) (at_ p : Int) (w : World) (h : Rd w .u8 b l) (hby : By l) (hl : l.length ≤ maxLen) (hd : l.length ≤ d) (hd2 : d ≤ maxLen) (ha : at_ ≤ 9223372036854775807) (hk : numR l (some at_) = (0, some p)) :
    Calls Tryz.prog 127 #[.slice b l.length d, .int .i64 at_] w (TookNm (takeNd l at_) w) := by
  have TN : Hid (takeNd l at_ = if (takeW l p).2 = -1 then (zeroNd, -1) else if nodeB ⟨0, (takeW l p).1, 0, 0, 0, false, []⟩ = true then (⟨0, (takeW l p).1, 0, 0, 0, false, []⟩, (takeW l p).2) else (zeroNd, -1)) := by
    show _ = _
    unfold takeNd nodeR
    rw [hk]
    simp only [fieldR, if_true, wordR]
    by_cases hy : (takeW l p).2 = -1
    · rw [if_pos hy, if_pos hy]; simp
    · rw [if_neg hy, if_neg hy]
      by_cases hn : nodeB ⟨0, (takeW l p).1, 0, 0, 0, false, []⟩ = true
      · simp only [if_pos hn]
      · simp only [if_neg hn]
  have PL := takeW_pl hby p
  have C := Lib.hid (fun W (h : Rd W .u8 b l) (hp : p ≤ 9223372036854775807) => specTakeWord_any b d l p W h hby hl hd hd2 hp)
  have h12 : (takeW l p).1.size ≤ 12 := takeW_12 l p
  obtain ⟨⟨x, y⟩, hxy⟩ : ∃ r, r = takeW l p := ⟨_, rfl⟩
  rw [← hxy] at TN PL C h12
  simp only at TN PL h12
  clear hxy
  have NK := Lib.hid (fun W => specNodeOk_any ⟨0, x, 0, 0, 0, false, []⟩ none 0 W (.inl rfl) (by simp) (by show x.size ≤ maxLen; unfold maxLen; omega))
  have T0 := Lib.hid (fun W R (h : Srd W R b d l (some at_)) => l05Next_any R b d l (some at_) W h)
  rw [hk] at T0
  obtain ⟨rr, hrr⟩ : ∃ rr, rr = takeNd l at_ := ⟨_, rfl⟩
  rw [← hrr] at TN ⊢
  have hbb : ∀ a, b = some a → l ≠ [] → a.block < w.heap.size := rd_lt h
  have H0 := Lib.hid (srd_new (d := d) h hby hl ha)
  have HR := Lib.hid h
  clear hk hrr h
  unfold WS at H0
  go_enter Tryz.func127, Tryz.ntmps127
  go_wp2_with fail
  refine (T0.out _ _ H0.out).mono ?_
  rintro e w1 ⟨rfl, h1, g1⟩
  obtain ⟨p1, f1, hh, hp1, he1, hr1, hby1, hd1, hne1⟩ := id h1
  obtain ⟨rfl, rfl⟩ : p1 = p ∧ f1 = false := by
    rcases he1 with ⟨hs, hf⟩ | ⟨hs, _⟩
    · injection hs with hs; exact ⟨hs.symm, hf⟩
    · cases hs
  have c1 : w1.cell? ⟨w.heap.size + 1, 1, none⟩ = some (.int .i64 p1) := cell_of_row w1 _ 1 _ _ _ hh
  have c2 : w1.cell? ⟨w.heap.size + 1, 2, none⟩ = some (.bool false) := cell_of_row w1 _ 2 _ _ _ hh
  have fR : ∀ o, w1.frozen? ⟨w.heap.size + 1, o, none⟩ = false := fun o => by simp only [World.frozen?, hh]; simp
  have zz : w1.heap.size ≠ w.heap.size + 1 := by have := lt_of_block hh; omega
  have zy : ¬ (w.heap.size + 1 = w1.heap.size) := fun e => zz e.symm
  have z1 : w.heap.size + 2 ≤ w1.heap.size := by have := g1.size; simp at this; omega
  have zl : w.heap.size + 1 < w1.heap.size := by omega
  have zk : w.heap.size < w1.heap.size := by omega
  have z0 : ¬ (w1.heap.size = w.heap.size) := by omega
  have z0' : ¬ (w.heap.size = w1.heap.size) := by omega
  have BA := Lib.hid (below_ws g1)
  obtain ⟨hz0, hy0⟩ := gcell g1 (X := w.heap.size) (by simp; omega) (by omega)
  have H1 := Lib.hid h1
  have BB0 := Lib.hid (BA.out.alloc BA.out.size (.cells #[.int .i64 0, .string ⟨#[]⟩, .int .i64 0, .int .i64 0, .int .i64 0, .bool false, .slice none 0 0] 92))
  clear hh he1 hr1 hby1 hd1 hne1 g1 h1 H0 T0
  have X00 : (w1.alloc (.cells #[.int .i64 0, .string ⟨#[]⟩, .int .i64 0, .int .i64 0, .int .i64 0, .bool false, .slice none 0 0] 92)).cell? ⟨w1.heap.size, 0, none⟩ = some (.int .i64 0) := (cell_of_row _ _ _ _ _ _ (heap_alloc_new w1 _)).trans rfl
  have X01 : (w1.alloc (.cells #[.int .i64 0, .string ⟨#[]⟩, .int .i64 0, .int .i64 0, .int .i64 0, .bool false, .slice none 0 0] 92)).cell? ⟨w1.heap.size, 1, none⟩ = some (.string ⟨#[]⟩) := (cell_of_row _ _ _ _ _ _ (heap_alloc_new w1 _)).trans rfl
  have X02 : (w1.alloc (.cells #[.int .i64 0, .string ⟨#[]⟩, .int .i64 0, .int .i64 0, .int .i64 0, .bool false, .slice none 0 0] 92)).cell? ⟨w1.heap.size, 2, none⟩ = some (.int .i64 0) := (cell_of_row _ _ _ _ _ _ (heap_alloc_new w1 _)).trans rfl
  have X03 : (w1.alloc (.cells #[.int .i64 0, .string ⟨#[]⟩, .int .i64 0, .int .i64 0, .int .i64 0, .bool false, .slice none 0 0] 92)).cell? ⟨w1.heap.size, 3, none⟩ = some (.int .i64 0) := (cell_of_row _ _ _ _ _ _ (heap_alloc_new w1 _)).trans rfl
  have X04 : (w1.alloc (.cells #[.int .i64 0, .string ⟨#[]⟩, .int .i64 0, .int .i64 0, .int .i64 0, .bool false, .slice none 0 0] 92)).cell? ⟨w1.heap.size, 4, none⟩ = some (.int .i64 0) := (cell_of_row _ _ _ _ _ _ (heap_alloc_new w1 _)).trans rfl
  have X05 : (w1.alloc (.cells #[.int .i64 0, .string ⟨#[]⟩, .int .i64 0, .int .i64 0, .int .i64 0, .bool false, .slice none 0 0] 92)).cell? ⟨w1.heap.size, 5, none⟩ = some (.bool false) := (cell_of_row _ _ _ _ _ _ (heap_alloc_new w1 _)).trans rfl
  have X06 : (w1.alloc (.cells #[.int .i64 0, .string ⟨#[]⟩, .int .i64 0, .int .i64 0, .int .i64 0, .bool false, .slice none 0 0] 92)).cell? ⟨w1.heap.size, 6, none⟩ = some (.slice none 0 0) := (cell_of_row _ _ _ _ _ _ (heap_alloc_new w1 _)).trans rfl
  have Y00 : (w1.alloc (.cells #[.int .i64 0, .string ⟨#[]⟩, .int .i64 0, .int .i64 0, .int .i64 0, .bool false, .slice none 0 0] 92)).cell? ⟨w.heap.size, 0, none⟩ = some (.int .i64 0) := (((Below.refl _ w1).alloc (Nat.le_refl _) _).cell (p := ⟨w.heap.size, 0, none⟩) zk).trans ((hz0 0).trans (ws_zero w b l.length d at_ 0 _ rfl))
  have Y01 : (w1.alloc (.cells #[.int .i64 0, .string ⟨#[]⟩, .int .i64 0, .int .i64 0, .int .i64 0, .bool false, .slice none 0 0] 92)).cell? ⟨w.heap.size, 1, none⟩ = some (.string ⟨#[]⟩) := (((Below.refl _ w1).alloc (Nat.le_refl _) _).cell (p := ⟨w.heap.size, 1, none⟩) zk).trans ((hz0 1).trans (ws_zero w b l.length d at_ 1 _ rfl))
  have Y02 : (w1.alloc (.cells #[.int .i64 0, .string ⟨#[]⟩, .int .i64 0, .int .i64 0, .int .i64 0, .bool false, .slice none 0 0] 92)).cell? ⟨w.heap.size, 2, none⟩ = some (.int .i64 0) := (((Below.refl _ w1).alloc (Nat.le_refl _) _).cell (p := ⟨w.heap.size, 2, none⟩) zk).trans ((hz0 2).trans (ws_zero w b l.length d at_ 2 _ rfl))
  have Y03 : (w1.alloc (.cells #[.int .i64 0, .string ⟨#[]⟩, .int .i64 0, .int .i64 0, .int .i64 0, .bool false, .slice none 0 0] 92)).cell? ⟨w.heap.size, 3, none⟩ = some (.int .i64 0) := (((Below.refl _ w1).alloc (Nat.le_refl _) _).cell (p := ⟨w.heap.size, 3, none⟩) zk).trans ((hz0 3).trans (ws_zero w b l.length d at_ 3 _ rfl))
  have Y04 : (w1.alloc (.cells #[.int .i64 0, .string ⟨#[]⟩, .int .i64 0, .int .i64 0, .int .i64 0, .bool false, .slice none 0 0] 92)).cell? ⟨w.heap.size, 4, none⟩ = some (.int .i64 0) := (((Below.refl _ w1).alloc (Nat.le_refl _) _).cell (p := ⟨w.heap.size, 4, none⟩) zk).trans ((hz0 4).trans (ws_zero w b l.length d at_ 4 _ rfl))
  have Y05 : (w1.alloc (.cells #[.int .i64 0, .string ⟨#[]⟩, .int .i64 0, .int .i64 0, .int .i64 0, .bool false, .slice none 0 0] 92)).cell? ⟨w.heap.size, 5, none⟩ = some (.bool false) := (((Below.refl _ w1).alloc (Nat.le_refl _) _).cell (p := ⟨w.heap.size, 5, none⟩) zk).trans ((hz0 5).trans (ws_zero w b l.length d at_ 5 _ rfl))
  have Y06 : (w1.alloc (.cells #[.int .i64 0, .string ⟨#[]⟩, .int .i64 0, .int .i64 0, .int .i64 0, .bool false, .slice none 0 0] 92)).cell? ⟨w.heap.size, 6, none⟩ = some (.slice none 0 0) := (((Below.refl _ w1).alloc (Nat.le_refl _) _).cell (p := ⟨w.heap.size, 6, none⟩) zk).trans ((hz0 6).trans (ws_zero w b l.length d at_ 6 _ rfl))
  have W00 : w1.cell? ⟨w.heap.size, 0, none⟩ = some (.int .i64 0) := (hz0 0).trans (ws_zero w b l.length d at_ 0 _ rfl)
  have W01 : w1.cell? ⟨w.heap.size, 1, none⟩ = some (.string ⟨#[]⟩) := (hz0 1).trans (ws_zero w b l.length d at_ 1 _ rfl)
  have W02 : w1.cell? ⟨w.heap.size, 2, none⟩ = some (.int .i64 0) := (hz0 2).trans (ws_zero w b l.length d at_ 2 _ rfl)
  have W03 : w1.cell? ⟨w.heap.size, 3, none⟩ = some (.int .i64 0) := (hz0 3).trans (ws_zero w b l.length d at_ 3 _ rfl)
  have W04 : w1.cell? ⟨w.heap.size, 4, none⟩ = some (.int .i64 0) := (hz0 4).trans (ws_zero w b l.length d at_ 4 _ rfl)
  have W05 : w1.cell? ⟨w.heap.size, 5, none⟩ = some (.bool false) := (hz0 5).trans (ws_zero w b l.length d at_ 5 _ rfl)
  have W06 : w1.cell? ⟨w.heap.size, 6, none⟩ = some (.slice none 0 0) := (hz0 6).trans (ws_zero w b l.length d at_ 6 _ rfl)
  have RW := Lib.hid (HR.out.below (BB0.out))
  go_wp2_with fail
  refine (C.out _ RW.out hp1).mono ?_
  rintro e w' ⟨rfl, rfl⟩
  by_cases hy : y < 0
  · have E : Hid (rr = (zeroNd, -1)) := by show _ = _; rw [TN.out, if_pos (by omega)]
    go_wp2_with fail
    rw [E.out]
    refine bodyPost_ret (v := .tuple #[.agg #[.int .i64 0, .string ⟨#[]⟩, .int .i64 0, .int .i64 0, .int .i64 0, .bool false, .slice none 0 0], .int .i64 (-1)]) (by simp [results, Tryz.results127, go_sem, Y00, W00, Y01, W01, Y02, W02, Y03, W03, Y04, W04, Y05, W05, Y06, W06, zk, zl]) rfl ⟨none, 0, rfl, Own.none_, ?_⟩
    refine Below.alloc ?_ (by simp; omega) _
    repeat (refine Below.setCell ?_ (by simp; try omega) _)
    exact BA.out
  · have WC := Lib.hid (BA.out.setCell (p := ⟨w.heap.size + 1, 1, none⟩) (by show w.heap.size ≤ w.heap.size + 1; omega) (.int .i64 y))
    have hsz : (w1.setCell ⟨w.heap.size + 1, 1, none⟩ (.int .i64 y)).heap.size = w1.heap.size := by simp
    have WD := Lib.hid (WC.out.alloc WC.out.size (.cells #[.int .i64 0, .string x, .int .i64 0, .int .i64 0, .int .i64 0, .bool false, .slice none 0 0] 92))
    have hnew := heap_alloc_new (w1.setCell ⟨w.heap.size + 1, 1, none⟩ (.int .i64 y)) (.cells #[.int .i64 0, .string x, .int .i64 0, .int .i64 0, .int .i64 0, .bool false, .slice none 0 0] 92)
    rw [hsz] at hnew
    have q1 : ¬ (w.heap.size + 1 = w.heap.size) := by omega
    go_wp2_with fail
    refine (NK.out _).mono ?_
    rintro e v' ⟨rfl, bv⟩
    have zv : w1.heap.size < v'.heap.size := by have := bv.size; simp at this; omega
    obtain ⟨hb, hbf⟩ := bcell bv
    have BV := Lib.hid (below_step WD.out (Nat.le_refl _) bv)
    clear bv
    have YV0 : v'.cell? ⟨w.heap.size, 0, none⟩ = some (.int .i64 0) := (hb _ 0 (by simp; omega)).trans ((((Below.refl _ _).alloc (Nat.le_refl _) _).cell (p := ⟨w.heap.size, 0, none⟩) (by rw [hsz]; exact zk)).trans ((World.cell?_setCell_other _ _ _ _ (fun e => absurd (congrArg Addr.block e) q1)).trans W00))
    have XV0 : v'.cell? ⟨w1.heap.size, 0, none⟩ = some (.int .i64 0) := (hb _ 0 (by simp)).trans ((cell_of_row _ _ _ _ _ _ hnew).trans rfl)
    have YV1 : v'.cell? ⟨w.heap.size, 1, none⟩ = some (.string ⟨#[]⟩) := (hb _ 1 (by simp; omega)).trans ((((Below.refl _ _).alloc (Nat.le_refl _) _).cell (p := ⟨w.heap.size, 1, none⟩) (by rw [hsz]; exact zk)).trans ((World.cell?_setCell_other _ _ _ _ (fun e => absurd (congrArg Addr.block e) q1)).trans W01))
    have XV1 : v'.cell? ⟨w1.heap.size, 1, none⟩ = some (.string x) := (hb _ 1 (by simp)).trans ((cell_of_row _ _ _ _ _ _ hnew).trans rfl)
    have YV2 : v'.cell? ⟨w.heap.size, 2, none⟩ = some (.int .i64 0) := (hb _ 2 (by simp; omega)).trans ((((Below.refl _ _).alloc (Nat.le_refl _) _).cell (p := ⟨w.heap.size, 2, none⟩) (by rw [hsz]; exact zk)).trans ((World.cell?_setCell_other _ _ _ _ (fun e => absurd (congrArg Addr.block e) q1)).trans W02))
    have XV2 : v'.cell? ⟨w1.heap.size, 2, none⟩ = some (.int .i64 0) := (hb _ 2 (by simp)).trans ((cell_of_row _ _ _ _ _ _ hnew).trans rfl)
    have YV3 : v'.cell? ⟨w.heap.size, 3, none⟩ = some (.int .i64 0) := (hb _ 3 (by simp; omega)).trans ((((Below.refl _ _).alloc (Nat.le_refl _) _).cell (p := ⟨w.heap.size, 3, none⟩) (by rw [hsz]; exact zk)).trans ((World.cell?_setCell_other _ _ _ _ (fun e => absurd (congrArg Addr.block e) q1)).trans W03))
    have XV3 : v'.cell? ⟨w1.heap.size, 3, none⟩ = some (.int .i64 0) := (hb _ 3 (by simp)).trans ((cell_of_row _ _ _ _ _ _ hnew).trans rfl)
    have YV4 : v'.cell? ⟨w.heap.size, 4, none⟩ = some (.int .i64 0) := (hb _ 4 (by simp; omega)).trans ((((Below.refl _ _).alloc (Nat.le_refl _) _).cell (p := ⟨w.heap.size, 4, none⟩) (by rw [hsz]; exact zk)).trans ((World.cell?_setCell_other _ _ _ _ (fun e => absurd (congrArg Addr.block e) q1)).trans W04))
    have XV4 : v'.cell? ⟨w1.heap.size, 4, none⟩ = some (.int .i64 0) := (hb _ 4 (by simp)).trans ((cell_of_row _ _ _ _ _ _ hnew).trans rfl)
    have YV5 : v'.cell? ⟨w.heap.size, 5, none⟩ = some (.bool false) := (hb _ 5 (by simp; omega)).trans ((((Below.refl _ _).alloc (Nat.le_refl _) _).cell (p := ⟨w.heap.size, 5, none⟩) (by rw [hsz]; exact zk)).trans ((World.cell?_setCell_other _ _ _ _ (fun e => absurd (congrArg Addr.block e) q1)).trans W05))
    have XV5 : v'.cell? ⟨w1.heap.size, 5, none⟩ = some (.bool false) := (hb _ 5 (by simp)).trans ((cell_of_row _ _ _ _ _ _ hnew).trans rfl)
    have YV6 : v'.cell? ⟨w.heap.size, 6, none⟩ = some (.slice none 0 0) := (hb _ 6 (by simp; omega)).trans ((((Below.refl _ _).alloc (Nat.le_refl _) _).cell (p := ⟨w.heap.size, 6, none⟩) (by rw [hsz]; exact zk)).trans ((World.cell?_setCell_other _ _ _ _ (fun e => absurd (congrArg Addr.block e) q1)).trans W06))
    have XV6 : v'.cell? ⟨w1.heap.size, 6, none⟩ = some (.slice none 0 0) := (hb _ 6 (by simp)).trans ((cell_of_row _ _ _ _ _ _ hnew).trans rfl)
    have PV : v'.cell? ⟨w.heap.size + 1, 1, none⟩ = some (.int .i64 y) := (hb _ 1 (by simp; omega)).trans ((((Below.refl _ _).alloc (Nat.le_refl _) _).cell (p := ⟨w.heap.size + 1, 1, none⟩) (by rw [hsz]; exact zl)).trans (World.cell?_setCell_same _ _ _ c1))
    have FZ : ∀ o, v'.frozen? ⟨w.heap.size, o, none⟩ = false := fun o => (hbf _ o (by simp; omega)).trans ((((Below.refl _ _).alloc (Nat.le_refl _) _).frozen (p := ⟨w.heap.size, o, none⟩) (by rw [hsz]; exact zk)).trans ((World.frozen?_setCell _ _ _ _).trans ((hy0 o).trans (ws_fz w b l.length d at_ o))))
    clear hb hbf NK
    cases hnb : nodeB ⟨0, x, 0, 0, 0, false, []⟩ with
    | false =>
      have E : Hid (rr = (zeroNd, -1)) := by show _ = _; rw [TN.out, if_neg (by omega), if_neg (by rw [hnb]; simp)]
      go_wp2_with fail
      rw [E.out]
      refine bodyPost_ret (v := .tuple #[.agg #[.int .i64 0, .string ⟨#[]⟩, .int .i64 0, .int .i64 0, .int .i64 0, .bool false, .slice none 0 0], .int .i64 (-1)]) (by simp [results, Tryz.results127, go_sem, YV0, YV1, YV2, YV3, YV4, YV5, YV6]) rfl ⟨none, 0, rfl, Own.none_, ?_⟩
      repeat (refine Below.setCell ?_ (by simp; try omega) _)
      exact BV.out
    | true =>
      have E : Hid (rr = (⟨0, x, 0, 0, 0, false, []⟩, y)) := by show _ = _; rw [TN.out, if_neg (by omega), if_pos hnb]
      clear hnew X00 Y00 W00 X01 Y01 W01 X02 Y02 W02 X03 Y03 W03 X04 Y04 W04 X05 Y05 W05 X06 Y06 W06
      go_wp2_with fail
      go_region
      all_goals
        go_wp2_with fail
        rw [E.out]
        refine bodyPost_ret (v := .tuple #[.agg #[.int .i64 0, .string x, .int .i64 0, .int .i64 0, .int .i64 0, .bool false, .slice none 0 0], .int .i64 y]) (by simp [results, Tryz.results127, go_sem, YV0, YV1, YV2, YV3, YV4, YV5, YV6]) rfl ⟨none, 0, rfl, Own.none_, ?_⟩
        · refine Below.drew ?_
          repeat (refine Below.setCell ?_ (by simp; try omega) _)
          exact BV.out
end Go.Proofs.YtfpbhedophlnkaaGreatDoor
