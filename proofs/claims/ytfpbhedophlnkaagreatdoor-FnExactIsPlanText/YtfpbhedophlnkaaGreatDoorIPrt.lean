/-
  Contract of impl.PrintPlan. For every slice of nodes.
-/
import Derived.Test.YtfpbhedophlnkaaGreatDoorKW2
import Derived.Test.YtfpbhedophlnkaaGreatDoorKX
import Derived.Test.YtfpbhedophlnkaaGreatDoorKT5
namespace Go.Proofs.YtfpbhedophlnkaaGreatDoor
open Go.RowKit
set_option linter.unusedSimpArgs false
set_option linter.unusedVariables false

set_option maxRecDepth 100000 in
set_option maxHeartbeats 1600000 in
theorem implPrintPlan_any (ao : Option Addr) (c : Nat) (p : List Nd) (hp : Small p) (w : World) (h : RdN w ao p) (hg : GTab w) :
    Calls Tryz.prog 48 #[.slice ao p.length c] w fun e w' => e = .returned (.string (planO p)) ∧ Below w.heap.size w w' := by
  have H := Lib.hid h; clear h
  have G := Lib.hid hg; clear hg
  have PO := Lib.hid (fun w h => implPlanOk_any ao c p hp w h)
  have SM := Lib.hid hp; clear hp
  cases hg : planB p with
  | false =>
    rw [planO_no hg]
    rw [hg] at PO
    clear hg
    go_enter Tryz.func48, Tryz.ntmps48
    go_wp2_with fail
    refine (PO.out _ H.out).mono ?_
    rintro e w1 ⟨rfl, b1⟩
    go_wp2_with fail
    go_ret
    exact ⟨rfl, b1⟩
  | true =>
    rw [hg] at PO
    have hl40 := planB_40 hg
    have HG := Lib.hid (planB_nodes hg)
    have E := Lib.hid (planO_yes hg)
    clear hg
    go_enter Tryz.func48, Tryz.ntmps48
    go_wp2_with fail
    refine (PO.out _ H.out).mono ?_
    rintro e w1 ⟨rfl, b1⟩
    have B1 := Lib.hid b1; clear b1
    go_wp2_with fail
    go_loopw [3, 11] (fun s i wr => ∃ (j n cc : Nat) (ao : Option Addr), j ≤ p.length ∧ i = .int .i64 j ∧ s = .slice ao n cc ∧ n = ((p.take j).map ndO).length ∧ OwnS wr w.heap.size ao cc ((p.take j).map ndO) ∧ Below w.heap.size w wr) (fun _ i _ => p.length - (intOf i).toNat)
    case atStart => exact ⟨0, 0, 0, none, Nat.zero_le _, rfl, rfl, rfl, OwnS.none_, B1.out⟩
    case round =>
      obtain ⟨j, m, cc, ao2, hj, rfl, rfl, hm, ho, hb⟩ := hrel
      have HM := Lib.hid hm; have HO := Lib.hid ho; have HB := Lib.hid hb; clear hm ho hb
      by_cases hlt : j < p.length
      · obtain ⟨b, off, n, a, c', rfl, hn, hat⟩ := (H.out.below HB.out).at_ hlt
        have TK := Lib.hid (show (p.take (j + 1)).map ndO = (p.take j).map ndO ++ [ndO n] by rw [List.take_add_one, hn]; simp)
        have cl : n.cols.length ≤ 17592186044416 := Nat.le_trans (SM.out.2 n (List.mem_of_getElem? hn)) (by omega)
        obtain ⟨c0, c1, c2', c3', c4, c5, c6, rd, cap, mx, nm⟩ := hat
        have RD := Lib.hid (rd.below ((Below.refl _ wr).alloc (Nat.le_refl _) (.cells #[.int .i64 n.kind, .string n.name, .int .i64 n.col, .int .i64 n.op, .int .i64 n.num, .bool n.slot, .slice a n.cols.length c'] 92)))
        clear rd cap mx hn
        have PN := Lib.hid (fun w h g => implNodeText_any n a c' w h cl nm g)
        have BX := Lib.hid (HB.out.alloc HB.out.size (.cells #[.int .i64 n.kind, .string n.name, .int .i64 n.col, .int .i64 n.op, .int .i64 n.num, .bool n.slot, .slice a n.cols.length c'] 92))
        have OX := Lib.hid (HO.out.below ((Below.refl _ wr).alloc (Nat.le_refl _) (.cells #[.int .i64 n.kind, .string n.name, .int .i64 n.col, .int .i64 n.op, .int .i64 n.num, .bool n.slot, .slice a n.cols.length c'] 92)))
        have i1 : (j : Int) < (p.length : Int) := by omega
        generalize ndO n = R at PN TK
        obtain ⟨acc, hacc⟩ : ∃ acc, acc = (p.take j).map ndO := ⟨_, rfl⟩
        have hal : acc.length ≤ 40 := by rw [hacc]; simp; omega
        rw [← hacc] at HM HO TK OX
        clear hacc
        go_wp2_with fail
        refine (PN.out _ RD.out (gtab_below G.out BX.out)).mono ?_
        rintro e w4 ⟨rfl, b4⟩
        have B4 := Lib.hid (below_step BX.out (Nat.le_refl _) b4)
        have O4 := Lib.hid (OX.out.below b4)
        clear b4 c0 c1 c2' c3' c4 c5 c6
        go_wp2_with (at_builtin; refine wpList_appendSs _ rfl (.tmp 15) (.tmp 18) 70 rfl w.heap.size Tryz.underlying70 Tryz.infoStr ao2 cc m acc rfl HM.out (O4.out.alloc _) w4.heap.size 1 1 [R] rfl rfl (cell_one_w _ _ _) (by simp; omega) (by have := B4.out.size; simp; omega) ?_; intro ao3 c3 w7 o7 g7; have b7 := below_appS B4.out O4.out g7; have O7 := Lib.hid o7; have B7 := Lib.hid b7; clear o7 g7 b7)
        go_roundw
        case rel => exact ⟨j + 1, _, c3, ao3, by omega, by go_num, rfl, by rw [TK.out]; simp, by rw [TK.out]; exact O7.out, B7.out⟩
        case measure => simp [intOf]; omega
      · obtain rfl : j = p.length := by omega
        have HM2 := Lib.hid (show m = (p.map ndO).length by have := HM.out; rwa [List.take_length] at this)
        have HO2 := Lib.hid (show OwnS wr w.heap.size ao2 cc (p.map ndO) by have := HO.out; rwa [List.take_length] at this)
        have EM := Lib.hid (ndO_map HG.out)
        have JL := Lib.hid (show (joinB 32 ((p.map ndO).map (·.data.toList))).length ≤ 140737488355328 by rw [EM.out]; have := planT_len HG.out; omega)
        clear HM HO
        go_wp2_with fail
        refine (joinI_any 32 w.heap.size ao2 cc m (p.map ndO) HM2.out _ HO2.out JL.out (by simp; omega)).mono ?_
        rintro e w5 ⟨rfl, b5⟩
        have B5 := Lib.hid (below_step HB.out (Nat.le_refl _) b5); clear b5
        rw [EM.out]
        go_wp2_with fail
        go_ret
        exact ⟨ret_strW E.out.symm, B5.out⟩
end Go.Proofs.YtfpbhedophlnkaaGreatDoor
