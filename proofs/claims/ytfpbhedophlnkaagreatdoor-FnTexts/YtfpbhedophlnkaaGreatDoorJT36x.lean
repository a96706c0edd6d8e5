/-
  strings.Join at slices of the call's own, with one byte between. No walk. Contracts of impl.kindWords, kindText and NodeText. For every node. Contract of impl.PrintPlan. For every slice of nodes. Contracts of TidyPlan and IsPlanText, the model's and the program's. For every text that is not too long. What FnTexts asks of the texts, out of the plain facts. No program, no walk. The model's cursor over the bytes of a draw: l01Byte answers a number from 0 to 255 and turns the cursor's own block alone. For every slice of bytes.
-/
import Derived.Test.YtfpbhedophlnkaaGreatDoorJT3x
import Derived.Test.YtfpbhedophlnkaaGreatDoorJT19x
import Derived.Test.YtfpbhedophlnkaaGreatDoorShelf5
import Derived.Test.YtfpbhedophlnkaaGreatDoorJT34x
import Derived.Test.YtfpbhedophlnkaaGreatDoorJT6x
import Derived.Test.YtfpbhedophlnkaaGreatDoorJT30x
import Derived.Test.YtfpbhedophlnkaaGreatDoorJT31x
import Derived.Test.YtfpbhedophlnkaaGreatDoorJT32x
import Derived.Test.YtfpbhedophlnkaaGreatDoorJT7x
import Derived.Test.YtfpbhedophlnkaaGreatDoorJT8x
import Derived.WalkKit
import Derived.OneCell
import Derived.Deep.QuietTactic
import Derived.BigQuiet
import Derived.Laws.BitsAllLaws
import Derived.Laws.BitsLemmas
namespace Go.Proofs.YtfpbhedophlnkaaGreatDoor
open Go.RowKit Go.Shelf
set_option linter.unusedSimpArgs false
set_option linter.unusedVariables false

theorem Tryz.extra156 : Builder.Extra Tryz.prog Tryz.lays156_ren where
  sizeBuilder := by kernel_rfl
  liesBuilder := by kernel_rfl
  t5 := Tryz.underlying5
  a5 := Tryz.isAgg5
  z5 := Tryz.sizeOf5
  v5 := Tryz.zeroValue5
  infoByte := by kernel_rfl
  cellsByte := by kernel_rfl
  sizeByte := by kernel_rfl
  neB5 := by decide
theorem ownS_capT {w : World} {base : Nat} {ao : Option Addr} {c : Nat} {l : List ByteArray} (h : OwnS w base ao c l) : l.length ≤ c := by
  rcases h.2 with ⟨hv, hn⟩ | ⟨g, cap, cur, hv, _, _, h1, _⟩
  · omega
  · simp only [Value.slice.injEq] at hv; omega
theorem joinI_any (b : UInt8) (base : Nat) (ao : Option Addr) (c n : Nat) (xs : List ByteArray) (hn : n = xs.length) (w : World) (h : OwnS w base ao c xs) (hlen : (joinB b (xs.map (·.data.toList))).length ≤ 140737488355328) (h8 : xs.length ≤ 1048576) :
    Calls Tryz.prog 84 #[.slice ao n c, .string ⟨#[b]⟩] w fun e w' => e = .returned (.string ⟨(joinB b (xs.map (·.data.toList))).toArray⟩) ∧ Below w.heap.size w w' := by
  subst hn
  rcases h.form with ⟨rfl, rfl, rfl⟩ | ⟨g, rfl, _, hg⟩
  · exact (Any.strings_Join_none Tryz.lays156 Tryz.extra156 none 0 ⟨#[b]⟩ w).mono fun e w' ⟨he, hw⟩ => ⟨he, hw ▸ Below.refl _ _⟩
  · have hj := Any.strings_Join Tryz.lays156 Tryz.extra156 g 0 c xs ⟨#[b]⟩ w (fun j x hx => by
      have hl := (List.getElem?_eq_some_iff.1 hx).1
      have := h.cell j hl
      rw [List.getD_eq_getElem?_getD, hx] at this
      rw [Nat.zero_add]; exact this) hg (by omega) (ownS_capT h) (by
        have e := joinB_join b (xs.map (·.data.toList))
        show (Lib.join _ [b]).length ≤ _
        rw [e]; exact hlen)
    have e := joinB_join b (xs.map (·.data.toList))
    have e' : Lib.join (xs.map (·.data.toList)) (ByteArray.mk #[b]).data.toList = joinB b (xs.map (·.data.toList)) := e
    rw [e'] at hj
    exact hj
end Go.Proofs.YtfpbhedophlnkaaGreatDoor
namespace Go.Proofs.YtfpbhedophlnkaaGreatDoor
open Go.RowKit
set_option linter.unusedSimpArgs false
set_option linter.unusedVariables false

theorem kindWords_any (n : Nd) (hb : nodeB n = true) (a : Option Addr) (c : Nat) (w : World) (h : Rd w .i64 a n.cols) (hg : GTab w) :
    Calls Tryz.prog 247 #[kindV n a c] w (MadeS w (ndB n)) := by
  have hk := kind_of_nodeB hb
  obtain ⟨k, name, col, op, num, slot, cols⟩ := n
  have hc : k = 0 ∨ k = 1 ∨ k = 2 ∨ k = 3 ∨ k = 4 ∨ k = 5 ∨ k = 6 ∨ k = 7 := by simp only at hk; omega
  rcases hc with rfl | rfl | rfl | rfl | rfl | rfl | rfl | rfl
  · exact kindWords0 name col op num slot cols a c w hb h hg
  · by_cases ho : op = 3
    · exact kindWords1n name col op num slot cols a c w hb ho h hg
    · exact kindWords1 name col op num slot cols a c w hb ho h hg
  · exact kindWords2 name col op num slot cols a c w hb h hg
  · exact kindWords3 name col op num slot cols a c w hb h hg
  · exact kindWords4 name col op num slot cols a c w hb h hg
  · exact kindWords5 name col op num slot cols a c w hb h hg
  · exact kindWords6 name col op num slot cols a c w hb h hg
  · exact kindWords7 name col op num slot cols a c w hb h hg
theorem kindText_any (n : Nd) (hb : nodeB n = true) (a : Option Addr) (c : Nat) (w : World) (h : Rd w .i64 a n.cols) (hg : GTab w) :
    Calls Tryz.prog 202 #[kindV n a c] w fun e w' => e = .returned (.string (ndO n)) ∧ Below w.heap.size w w' := by
  have KW := Lib.hid (kindWords_any n hb a c w h hg)
  have E := Lib.hid (ndO_yes hb)
  have hct := ndB_count hb
  have hln := ndT_len hb
  have EM : Hid (joinB 32 ((ndB n).map (·.data.toList)) = ndT n) := rfl
  clear h hg
  generalize ndO n = R at E ⊢
  generalize ndB n = xs at KW EM hct
  generalize ndT n = X at E EM hln
  generalize kindV n a c = kv at KW ⊢
  have J := Lib.hid (fun W B ao cc (h : OwnS W B ao cc xs) => joinI_any 32 B ao cc xs.length xs rfl W h (by rw [EM.out]; omega) (by omega))
  rw [EM.out] at J
  go_enter Tryz.func202, Tryz.ntmps202
  go_wp2_with fail
  refine KW.out.mono ?_
  rintro e w1 ⟨ao, cc, rfl, o1, b1⟩
  have B1 := Lib.hid b1; have O1 := Lib.hid o1
  clear o1 b1
  go_wp2_with fail
  refine (J.out _ _ ao cc O1.out).mono ?_
  rintro e w2 ⟨rfl, b2⟩
  have B2 := Lib.hid (below_step B1.out (Nat.le_refl _) b2)
  clear b2
  go_wp2_with fail
  go_ret
  exact ⟨ret_strW E.out.symm, B2.out⟩
theorem implNodeText_any (n : Nd) (a : Option Addr) (c : Nat) (w : World) (h : Rd w .i64 a n.cols) (hm : n.cols.length ≤ 17592186044416) (hs : n.name.size ≤ maxLen) (hg : GTab w) :
    Calls Tryz.prog 128 #[.agg #[.int .i64 n.kind, .string n.name, .int .i64 n.col, .int .i64 n.op, .int .i64 n.num, .bool n.slot, .slice a n.cols.length c]] w fun e w' => e = .returned (.string (ndO n)) ∧ Below w.heap.size w w' := by
  have NK := Lib.hid (fun w h => implNodeOk_any n a c w h hm hs)
  have H := Lib.hid h; have G := Lib.hid hg
  have BA := Lib.hid ((Below.refl _ w).alloc (Nat.le_refl _) (.cells #[.int .i64 n.kind, .string n.name, .int .i64 n.col, .int .i64 n.op, .int .i64 n.num, .bool n.slot, .slice a n.cols.length c] 92))
  cases hb : nodeB n with
  | false =>
    rw [ndO_no hb]
    have HB := Lib.hid hb; clear hb h hg
    go_enter Tryz.func128, Tryz.ntmps128
    go_wp2_with fail
    refine (NK.out _ (H.out.below BA.out)).mono ?_
    rintro e w1 ⟨rfl, b1⟩
    rw [HB.out]
    have B1 := Lib.hid (BA.out.trans (b1.mono (by simp)))
    clear b1
    go_wp2_with fail
    go_ret
    exact ⟨rfl, B1.out⟩
  | true =>
    have HB := Lib.hid hb
    have KT := Lib.hid (fun w h g => kindText_any n hb a c w h g)
    have KO := Lib.hid (fun w => kindOf_any n a c w)
    generalize ndO n = R at KT ⊢
    have KP : Hid (∀ w4, Below (w.alloc (.cells #[.int .i64 n.kind, .string n.name, .int .i64 n.col, .int .i64 n.op, .int .i64 n.num, .bool n.slot, .slice a n.cols.length c] 92)).heap.size (w.alloc (.cells #[.int .i64 n.kind, .string n.name, .int .i64 n.col, .int .i64 n.op, .int .i64 n.num, .bool n.slot, .slice a n.cols.length c] 92)) w4 →
      w4.cell? ⟨w.heap.size, 0, none⟩ = some (.int .i64 n.kind) ∧ w4.cell? ⟨w.heap.size, 1, none⟩ = some (.string n.name) ∧ w4.cell? ⟨w.heap.size, 2, none⟩ = some (.int .i64 n.col) ∧ w4.cell? ⟨w.heap.size, 3, none⟩ = some (.int .i64 n.op) ∧ w4.cell? ⟨w.heap.size, 4, none⟩ = some (.int .i64 n.num) ∧ w4.cell? ⟨w.heap.size, 5, none⟩ = some (.bool n.slot) ∧ w4.cell? ⟨w.heap.size, 6, none⟩ = some (.slice a n.cols.length c)) := fun w4 b4 => by
      have hq := fun o => b4.cell (p := ⟨w.heap.size, o, none⟩) (by simp)
      exact ⟨(hq 0).trans ((cell_of_row _ _ _ _ _ _ (heap_alloc_new w _)).trans rfl), (hq 1).trans ((cell_of_row _ _ _ _ _ _ (heap_alloc_new w _)).trans rfl), (hq 2).trans ((cell_of_row _ _ _ _ _ _ (heap_alloc_new w _)).trans rfl), (hq 3).trans ((cell_of_row _ _ _ _ _ _ (heap_alloc_new w _)).trans rfl), (hq 4).trans ((cell_of_row _ _ _ _ _ _ (heap_alloc_new w _)).trans rfl), (hq 5).trans ((cell_of_row _ _ _ _ _ _ (heap_alloc_new w _)).trans rfl), (hq 6).trans ((cell_of_row _ _ _ _ _ _ (heap_alloc_new w _)).trans rfl)⟩
    clear hb h hg
    go_enter Tryz.func128, Tryz.ntmps128
    go_wp2_with fail
    refine (NK.out _ (H.out.below BA.out)).mono ?_
    rintro e w1 ⟨rfl, b1⟩
    rw [HB.out]
    have B1 := Lib.hid (BA.out.trans (b1.mono (by simp)))
    obtain ⟨u0, u1, u2, u3, u4, u5, u6⟩ := KP.out _ b1
    clear b1
    go_wp2_with fail
    refine (KO.out _).mono ?_
    rintro e w2 ⟨rfl, b2⟩
    have B2 := Lib.hid (below_step B1.out (Nat.le_refl _) b2)
    clear b2
    go_wp2_with fail
    refine (KT.out _ (H.out.below B2.out) (gtab_below G.out B2.out)).mono ?_
    rintro e w3 ⟨rfl, b3⟩
    have B3 := Lib.hid (below_step B2.out (Nat.le_refl _) b3)
    clear b3
    go_wp2_with fail
    go_ret
    exact ⟨rfl, B3.out⟩
end Go.Proofs.YtfpbhedophlnkaaGreatDoor
namespace Go.Proofs.YtfpbhedophlnkaaGreatDoor
open Go.RowKit
set_option linter.unusedSimpArgs false
set_option linter.unusedVariables false

set_option maxRecDepth 100000 in
set_option maxHeartbeats 1600000 in
theorem implPrintPlan_any (ao : Option Addr) (c : Nat) (p : List Nd) (hp : Small p) (w : World) (h : RdN w ao p) (hg : GTab w) :
    Calls Tryz.prog 48 #[.slice ao p.length c] w fun e w' => e = .returned (.string (planO p)) ∧ Below w.heap.size w w' := by
  have H := Lib.hid h; clear h
  have G := Lib.hid hg; clear hg
  have PO := Lib.hid (fun w h => implPlanOk_any ao c p hp w h)
  have SM := Lib.hid hp; clear hp
  cases hg : planB p with
  | false =>
    rw [planO_no hg]
    rw [hg] at PO
    clear hg
    go_enter Tryz.func48, Tryz.ntmps48
    go_wp2_with fail
    refine (PO.out _ H.out).mono ?_
    rintro e w1 ⟨rfl, b1⟩
    go_wp2_with fail
    go_ret
    exact ⟨rfl, b1⟩
  | true =>
    rw [hg] at PO
    have hl40 := planB_40 hg
    have HG := Lib.hid (planB_nodes hg)
    have E := Lib.hid (planO_yes hg)
    clear hg
    go_enter Tryz.func48, Tryz.ntmps48
    go_wp2_with fail
    refine (PO.out _ H.out).mono ?_
    rintro e w1 ⟨rfl, b1⟩
    have B1 := Lib.hid b1; clear b1
    go_wp2_with fail
    go_loopw [3, 11] (fun s i wr => ∃ (j n cc : Nat) (ao : Option Addr), j ≤ p.length ∧ i = .int .i64 j ∧ s = .slice ao n cc ∧ n = ((p.take j).map ndO).length ∧ OwnS wr w.heap.size ao cc ((p.take j).map ndO) ∧ Below w.heap.size w wr) (fun _ i _ => p.length - (intOf i).toNat)
    case atStart => exact ⟨0, 0, 0, none, Nat.zero_le _, rfl, rfl, rfl, OwnS.none_, B1.out⟩
    case round =>
      obtain ⟨j, m, cc, ao2, hj, rfl, rfl, hm, ho, hb⟩ := hrel
      have HM := Lib.hid hm; have HO := Lib.hid ho; have HB := Lib.hid hb; clear hm ho hb
      by_cases hlt : j < p.length
      · obtain ⟨b, off, n, a, c', rfl, hn, hat⟩ := (H.out.below HB.out).at_ hlt
        have TK := Lib.hid (show (p.take (j + 1)).map ndO = (p.take j).map ndO ++ [ndO n] by rw [List.take_add_one, hn]; simp)
        have cl : n.cols.length ≤ 17592186044416 := Nat.le_trans (SM.out.2 n (List.mem_of_getElem? hn)) (by omega)
        obtain ⟨c0, c1, c2', c3', c4, c5, c6, rd, cap, mx, nm⟩ := hat
        have RD := Lib.hid (rd.below ((Below.refl _ wr).alloc (Nat.le_refl _) (.cells #[.int .i64 n.kind, .string n.name, .int .i64 n.col, .int .i64 n.op, .int .i64 n.num, .bool n.slot, .slice a n.cols.length c'] 92)))
        clear rd cap mx hn
        have PN := Lib.hid (fun w h g => implNodeText_any n a c' w h cl nm g)
        have BX := Lib.hid (HB.out.alloc HB.out.size (.cells #[.int .i64 n.kind, .string n.name, .int .i64 n.col, .int .i64 n.op, .int .i64 n.num, .bool n.slot, .slice a n.cols.length c'] 92))
        have OX := Lib.hid (HO.out.below ((Below.refl _ wr).alloc (Nat.le_refl _) (.cells #[.int .i64 n.kind, .string n.name, .int .i64 n.col, .int .i64 n.op, .int .i64 n.num, .bool n.slot, .slice a n.cols.length c'] 92)))
        have i1 : (j : Int) < (p.length : Int) := by omega
        generalize ndO n = R at PN TK
        obtain ⟨acc, hacc⟩ : ∃ acc, acc = (p.take j).map ndO := ⟨_, rfl⟩
        have hal : acc.length ≤ 40 := by rw [hacc]; simp; omega
        rw [← hacc] at HM HO TK OX
        clear hacc
        go_wp2_with fail
        refine (PN.out _ RD.out (gtab_below G.out BX.out)).mono ?_
        rintro e w4 ⟨rfl, b4⟩
        have B4 := Lib.hid (below_step BX.out (Nat.le_refl _) b4)
        have O4 := Lib.hid (OX.out.below b4)
        clear b4 c0 c1 c2' c3' c4 c5 c6
        go_wp2_with (at_builtin; refine wpList_appendSs _ rfl (.tmp 15) (.tmp 18) 70 rfl w.heap.size Tryz.underlying70 Tryz.infoStr ao2 cc m acc rfl HM.out (O4.out.alloc _) w4.heap.size 1 1 [R] rfl rfl (cell_one_w _ _ _) (by simp; omega) (by have := B4.out.size; simp; omega) ?_; intro ao3 c3 w7 o7 g7; have b7 := below_appS B4.out O4.out g7; have O7 := Lib.hid o7; have B7 := Lib.hid b7; clear o7 g7 b7)
        go_roundw
        case rel => exact ⟨j + 1, _, c3, ao3, by omega, by go_num, rfl, by rw [TK.out]; simp, by rw [TK.out]; exact O7.out, B7.out⟩
        case measure => simp [intOf]; omega
      · obtain rfl : j = p.length := by omega
        have HM2 := Lib.hid (show m = (p.map ndO).length by have := HM.out; rwa [List.take_length] at this)
        have HO2 := Lib.hid (show OwnS wr w.heap.size ao2 cc (p.map ndO) by have := HO.out; rwa [List.take_length] at this)
        have EM := Lib.hid (ndO_map HG.out)
        have JL := Lib.hid (show (joinB 32 ((p.map ndO).map (·.data.toList))).length ≤ 140737488355328 by rw [EM.out]; have := planT_len HG.out; omega)
        clear HM HO
        go_wp2_with fail
        refine (joinI_any 32 w.heap.size ao2 cc m (p.map ndO) HM2.out _ HO2.out JL.out (by simp; omega)).mono ?_
        rintro e w5 ⟨rfl, b5⟩
        have B5 := Lib.hid (below_step HB.out (Nat.le_refl _) b5); clear b5
        rw [EM.out]
        go_wp2_with fail
        go_ret
        exact ⟨ret_strW E.out.symm, B5.out⟩
end Go.Proofs.YtfpbhedophlnkaaGreatDoor
namespace Go.Proofs.YtfpbhedophlnkaaGreatDoor
open Go.RowKit
set_option linter.unusedSimpArgs false
set_option linter.unusedVariables false

theorem parseO_small (s : ByteArray) : (parseO s).1.length ≤ 2000 ∧ (∀ n ∈ (parseO s).1, n.cols.length ≤ 6) ∧ ((parseO s).2 = -1 ∨ 0 ≤ (parseO s).2) := by
  by_cases h : 2000 < s.size
  · unfold parseO; rw [if_pos h]; simp
  · have hw : wordsO s = (wordsL s.data.toList).map mkBs := by unfold wordsO; rw [if_neg h]
    have hl : (wordsO s).length ≤ 2000 := by rw [hw]; exact wordsL_acc (by omega)
    unfold parseO
    rw [if_neg h, parseQ_pick]
    cases hg : goQ (wordsO s) ((wordsO s).length + 2) [] 1 0 with
    | inl q => exact ⟨by simp [pickQ], by simp [pickQ], .inr (by simp [pickQ])⟩
    | inr x =>
      obtain ⟨l, q⟩ := x
      have hb := goQ_bd _ _ _ _ l q hg (by simp) (by simp) (by simp)
      unfold pickQ
      simp only
      split
      · refine ⟨by simp, by simp, .inr (by simp)⟩
      · split
        · exact ⟨by simp only; omega, hb.2.2, .inl rfl⟩
        · exact ⟨by simp, by simp, .inr (by simp)⟩
/-- TidyPlan's answer. -/
noncomputable def tidyO (s : ByteArray) : ByteArray × Bool := if (parseO s).2 = -1 then (planO (parseO s).1, true) else (⟨#[]⟩, false)
noncomputable def isTxt (s : ByteArray) : Bool := if (parseO s).2 = -1 then decide (planO (parseO s).1 = s) else false

set_option maxRecDepth 100000 in
set_option maxHeartbeats 1600000 in
theorem specTidy_any (s : ByteArray) (w : World) (hs : s.size ≤ 9223372036854775807) :
    Calls Tryz.prog 66 #[.string s] w fun e w' => e = .returned (.tuple #[.string (tidyO s).1, .bool (tidyO s).2]) ∧ Below w.heap.size w w' := by
  have hb := parseO_small s
  have P := Lib.hid (fun W => specParsePlan_any s W hs)
  have T : Hid (tidyO s = if (parseO s).2 = -1 then (planO (parseO s).1, true) else (⟨#[]⟩, false)) := rfl
  obtain ⟨⟨l, x⟩, hx⟩ : ∃ r, r = parseO s := ⟨_, rfl⟩
  obtain ⟨res, hres⟩ : ∃ r, r = tidyO s := ⟨_, rfl⟩
  rw [← hx] at P T hb
  rw [← hres] at T ⊢
  simp only at hb T
  clear hx hres
  have PP := Lib.hid (fun a c W (h : RdN W a l) => specPrintPlan_any a c l W h (by omega))
  unfold MadeN2 at P
  simp only at P
  by_cases h1 : x = -1
  · subst h1
    have E : Hid (res = (planO l, true)) := T.out
    clear T hb
    go_enter Tryz.func66, Tryz.ntmps66
    go_wp2_with fail
    refine (P.out _).mono ?_
    rintro e w1 ⟨a, c, rfl, o1, b1⟩
    have B1 := Lib.hid b1; have R1 := Lib.hid o1.rd
    clear o1 b1
    go_wp2_with fail
    refine (PP.out _ _ _ R1.out).mono ?_
    rintro e w2 ⟨rfl, b2⟩
    have B2 := Lib.hid (below_step B1.out (Nat.le_refl _) b2)
    clear b2
    go_wp2_with fail
    go_ret2
    exact ⟨by rw [E.out]; rfl, B2.out⟩
  · have E : Hid (res = (⟨#[]⟩, false)) := by show _ = _; rw [T.out, if_neg h1]
    have h0 : decide (0 ≤ x) = true := by simp; omega
    have h0' : 0 ≤ x := by omega
    clear T hb
    go_enter Tryz.func66, Tryz.ntmps66
    go_wp2_with fail
    refine (P.out _).mono ?_
    rintro e w1 ⟨a, c, rfl, o1, b1⟩
    clear o1
    go_wp2_with fail
    go_ret2
    exact ⟨by rw [E.out]; rfl, b1⟩
set_option maxRecDepth 100000 in
set_option maxHeartbeats 1600000 in
theorem implTidy_any (s : ByteArray) (w : World) (hg : GlobN w) (hs : s.size ≤ 9223372036854775807) :
    Calls Tryz.prog 57 #[.string s] w fun e w' => e = .returned (.tuple #[.string (tidyO s).1, .bool (tidyO s).2]) ∧ Below w.heap.size w w' := by
  have hb := parseO_small s
  have G := Lib.hid hg
  have P := Lib.hid (fun W g => implParsePlan_any s W g hs)
  have T : Hid (tidyO s = if (parseO s).2 = -1 then (planO (parseO s).1, true) else (⟨#[]⟩, false)) := rfl
  obtain ⟨⟨l, x⟩, hx⟩ : ∃ r, r = parseO s := ⟨_, rfl⟩
  obtain ⟨res, hres⟩ : ∃ r, r = tidyO s := ⟨_, rfl⟩
  rw [← hx] at P T hb
  rw [← hres] at T ⊢
  simp only at hb T
  clear hx hres hg
  have PP := Lib.hid (fun a c W (h : RdN W a l) g => implPrintPlan_any a c l ⟨by omega, fun n hn => by have := hb.2.1 n hn; omega⟩ W h g)
  unfold MadeN2 at P
  simp only at P
  by_cases h1 : x = -1
  · subst h1
    have E : Hid (res = (planO l, true)) := T.out
    clear T hb
    go_enter Tryz.func57, Tryz.ntmps57
    go_wp2_with fail
    refine (P.out _ G.out).mono ?_
    rintro e w1 ⟨a, c, rfl, o1, b1⟩
    have B1 := Lib.hid b1; have R1 := Lib.hid o1.rd
    clear o1 b1
    go_wp2_with fail
    refine (PP.out _ _ _ R1.out (G.out.below B1.out).tab).mono ?_
    rintro e w2 ⟨rfl, b2⟩
    have B2 := Lib.hid (below_step B1.out (Nat.le_refl _) b2)
    clear b2
    go_wp2_with fail
    go_ret2
    exact ⟨by rw [E.out]; rfl, B2.out⟩
  · have E : Hid (res = (⟨#[]⟩, false)) := by show _ = _; rw [T.out, if_neg h1]
    have h0 : (x != -1) = true := by simpa using h1
    clear T hb
    go_enter Tryz.func57, Tryz.ntmps57
    go_wp2_with fail
    refine (P.out _ G.out).mono ?_
    rintro e w1 ⟨a, c, rfl, o1, b1⟩
    clear o1
    go_wp2_with fail
    go_ret2
    exact ⟨by rw [E.out]; rfl, b1⟩

theorem tidy_is (s : ByteArray) : isTxt s = ((tidyO s).2 && decide ((tidyO s).1 = s)) := by
  unfold isTxt tidyO
  split <;> simp
set_option maxRecDepth 100000 in
set_option maxHeartbeats 1600000 in
theorem implIsText_any (s : ByteArray) (w : World) (hg : GlobN w) (hs : s.size ≤ 9223372036854775807) :
    Calls Tryz.prog 54 #[.string s] w fun e w' => e = .returned (.bool (isTxt s)) ∧ Below w.heap.size w w' := by
  have T := Lib.hid (implTidy_any s w hg hs)
  rw [tidy_is]
  obtain ⟨⟨t, ok⟩, ht⟩ : ∃ r, r = tidyO s := ⟨_, rfl⟩
  rw [← ht] at T ⊢
  clear ht hg
  have key := Lib.hid (str_same t s)
  cases ok
  all_goals
    go_enter Tryz.func54, Tryz.ntmps54
    go_wp2_with fail
    refine T.out.mono ?_
    rintro e w1 ⟨rfl, b1⟩
    go_wp2_with fail
    go_ret
    exact ⟨by first | rfl | (rw [← key.out]; rfl), b1⟩
set_option maxRecDepth 100000 in
set_option maxHeartbeats 1600000 in
theorem specIsText_any (s : ByteArray) (w : World) (hs : s.size ≤ 9223372036854775807) :
    Calls Tryz.prog 65 #[.string s] w fun e w' => e = .returned (.bool (isTxt s)) ∧ Below w.heap.size w w' := by
  have hb := parseO_small s
  have P := Lib.hid (fun W => specParsePlan_any s W hs)
  have T : Hid (isTxt s = if (parseO s).2 = -1 then decide (planO (parseO s).1 = s) else false) := rfl
  obtain ⟨⟨l, x⟩, hx⟩ : ∃ r, r = parseO s := ⟨_, rfl⟩
  obtain ⟨res, hres⟩ : ∃ r, r = isTxt s := ⟨_, rfl⟩
  rw [← hx] at P T hb
  rw [← hres] at T ⊢
  simp only at hb T
  clear hx hres
  have PP := Lib.hid (fun a c W (h : RdN W a l) => specPrintPlan_any a c l W h (by omega))
  unfold MadeN2 at P
  simp only at P
  by_cases h1 : x = -1
  · subst h1
    have E : Hid (res = decide (planO l = s)) := T.out
    obtain ⟨t, ht⟩ : ∃ t, t = planO l := ⟨_, rfl⟩
    rw [← ht] at E PP
    have key := Lib.hid (str_same t s)
    clear T hb ht
    all_goals
      go_enter Tryz.func65, Tryz.ntmps65
      go_wp2_with fail
      refine (P.out _).mono ?_
      rintro e w1 ⟨a, c, rfl, o1, b1⟩
      have B1 := Lib.hid b1; have R1 := Lib.hid o1.rd
      clear o1 b1
      go_wp2_with fail
      refine (PP.out _ _ _ R1.out).mono ?_
      rintro e w2 ⟨rfl, b2⟩
      have B2 := Lib.hid (below_step B1.out (Nat.le_refl _) b2)
      clear b2
      go_wp2_with fail
      go_ret
      exact ⟨by rw [E.out, ← key.out]; rfl, B2.out⟩
  · have E : Hid (res = false) := by show _ = _; rw [T.out, if_neg h1]
    have h0 : (x == -1) = false := by simpa using h1
    clear T hb
    go_enter Tryz.func65, Tryz.ntmps65
    go_wp2_with fail
    refine (P.out _).mono ?_
    rintro e w1 ⟨a, c, rfl, o1, b1⟩
    clear o1
    go_wp2_with fail
    go_ret
    exact ⟨by rw [E.out]; rfl, b1⟩
end Go.Proofs.YtfpbhedophlnkaaGreatDoor
namespace Go.Proofs.YtfpbhedophlnkaaGreatDoor
open Go.RowKit
set_option linter.unusedSimpArgs false
set_option linter.unusedVariables false

theorem isTxt_print {p : List Nd} (h : planB p = true) : isTxt (planO p) = true := by
  have e := parse_print h
  unfold isTxt
  rw [e]; simp
/-- A text that is read as a plan. -/
theorem tidy_yes {s : ByteArray} (h : (parseO s).2 = -1) : tidyO s = (planO (parseO s).1, true) ∧ isTxt (planO (parseO s).1) = true := by
  refine ⟨by unfold tidyO; rw [if_pos h], isTxt_print (parse_plan h)⟩
theorem tidy_no {s : ByteArray} (h : 0 ≤ (parseO s).2) : (tidyO s).2 = false := by
  unfold tidyO; rw [if_neg (by omega)]
end Go.Proofs.YtfpbhedophlnkaaGreatDoor
namespace Go.Proofs.YtfpbhedophlnkaaGreatDoor
open Go.RowKit
set_option linter.unusedSimpArgs false
set_option linter.unusedVariables false

theorem and255 (x : Int) : 0 ≤ bits .and .i64 x 255 ∧ bits .and .i64 x 255 ≤ 255 := by
  have h : (BitVec.ofInt 64 x &&& BitVec.ofInt 64 255).toNat ≤ 255 := by
    rw [BitVec.toNat_and]
    exact Nat.and_le_right
  have e : bits .and .i64 x 255 = ((BitVec.ofInt 64 x &&& BitVec.ofInt 64 255).toNat : Int) := by
    show IntKind.i64.wrap ((BitVec.ofInt 64 x &&& BitVec.ofInt 64 255).toNat : Int) = _
    rw [IntKind.wrap_i64]; omega
  rw [e]; omega

/-- The cursor in block g over the bytes 'code'. -/
def Cur (w : World) (g : Nat) (ao : Option Addr) (d : Nat) (code : List Int) : Prop :=
  ∃ i h : Int, w.heap[g]? = some (.cells #[.slice ao code.length d, .int .i64 i, .int .i64 h] 159 (0, 0)) ∧ 0 ≤ i ∧ i ≤ code.length ∧ Rd w .u8 ao code ∧ By code ∧ (∀ a, ao = some a → code ≠ [] → a.block ≠ g)
def ByteP (w : World) (g : Nat) (ao : Option Addr) (d : Nat) (code : List Int) (lo hi : Int) (e : Ending) (w' : World) : Prop :=
  ∃ x, e = .returned (.int .i64 x) ∧ lo ≤ x ∧ x ≤ hi ∧ Cur w' g ao d code ∧ w.grownBy w' (some g)

theorem cur_next {w w' : World} {g : Nat} {ao : Option Addr} {d k : Nat} {code : List Int} {h : Int} (hb : w.heap[g]? = some (.cells #[.slice ao code.length d, .int .i64 k, .int .i64 h] 159 (0, 0)))
    (hr : Rd w .u8 ao code) (hby : By code) (hne : ∀ a, ao = some a → code ≠ [] → a.block ≠ g) (hk : k < code.length) {n : Nat} (e : w' = (w.drewN n).setCell ⟨g, 1, none⟩ (.int .i64 ((k : Int) + 1)) := by rfl) : Cur w' g ao d code := by
  subst e
  refine ⟨(k : Int) + 1, h, ?_, by omega, by omega, ?_, hby, hne⟩
  · have hb' : (w.drewN n).heap[g]? = some (.cells #[.slice ao code.length d, .int .i64 k, .int .i64 h] 159 (0, 0)) := hb
    rw [heap_setCell_same (w.drewN n) g 1 _ _ _ hb']; rfl
  · have hr' : Rd (w.drewN n) .u8 ao code := hr
    exact hr'.far hne fun p hp => World.cell?_setCell_other _ _ _ _ (fun e => by subst e; exact hp rfl)
theorem cur_grown {w w1 w' : World} {g n : Nat} {v : Value} (h : w.grownBy w1 (some g)) (e : w' = (w1.drewN n).setCell ⟨g, 1, none⟩ v := by rfl) : w.grownBy w' (some g) := by
  subst e
  exact grownBy_trans h ⟨rfl, rfl, rfl, by simp [World.setCell], fun i _ hi => heap_setCell_other (w1.drewN n) ⟨g, 1, none⟩ i _ (fun e => hi (by simp [e]))⟩

set_option maxRecDepth 100000 in
set_option maxHeartbeats 1600000 in
theorem l01Byte_any (g : Nat) (ao : Option Addr) (d : Nat) (code : List Int) (w : World) (hc : Cur w g ao d code) (hl : code.length ≤ 1048577) :
    Calls Tryz.prog 159 #[.pointer (some ⟨g, 0, none⟩)] w (ByteP w g ao d code 0 255) := by
  obtain ⟨i, h, hb, hi0, hi1, hr, hby, hne⟩ := hc
  have c0 : w.cell? ⟨g, 0, none⟩ = some (.slice ao code.length d) := cell_of_row w g 0 _ _ _ hb
  have c1 : w.cell? ⟨g, 1, none⟩ = some (.int .i64 i) := cell_of_row w g 1 _ _ _ hb
  have c2 : w.cell? ⟨g, 2, none⟩ = some (.int .i64 h) := cell_of_row w g 2 _ _ _ hb
  have f1 : w.frozen? ⟨g, 1, none⟩ = false := by simp [World.frozen?, hb]
  have f2 : w.frozen? ⟨g, 2, none⟩ = false := by simp [World.frozen?, hb]
  have HB := Lib.hid hb; have HR := Lib.hid hr; have HBY := Lib.hid hby; have HNE := Lib.hid hne
  clear hb hr hby hne
  by_cases hlt : i < code.length
  · obtain ⟨b1, off, rfl, hcc⟩ : ∃ b1 off, ao = some ⟨b1, off, none⟩ ∧ ∀ k, k < code.length → w.cell? ⟨b1, off + k, none⟩ = some (.int .u8 (code.getD k 0)) := by
      rcases HR.out with rfl | h'
      · simp at hlt; omega
      · exact h'
    obtain ⟨k, rfl⟩ : ∃ k : Nat, i = k := ⟨i.toNat, by omega⟩
    have hk : k < code.length := by omega
    obtain ⟨z, hz, _, hcz, _⟩ := Rd.at_ hcc hk
    have zb := HBY.out z hz
    have hbg : b1 ≠ g := HNE.out _ rfl (by intro e; rw [e] at hk; simp at hk)
    go_enter Tryz.func159, Tryz.ntmps159
    go_wp2
    generalize wrap64 (wrap64 (h * 6364136223846793005) + 1442695040888963407) = h2
    generalize wrap64 (h * 6364136223846793005) = h3
    obtain ⟨w1, hw1⟩ : ∃ w1, w1 = w.setCell ⟨g, 2, none⟩ (.int .i64 h2) := ⟨_, rfl⟩
    rw [← hw1]
    have B1 : w1.heap[g]? = some (.cells #[.slice (some ⟨b1, off, none⟩) code.length d, .int .i64 k, .int .i64 h2] 159 (0, 0)) := by rw [hw1, heap_setCell_same w g 2 _ _ _ HB.out]; rfl
    have R1 : Rd w1 .u8 (some ⟨b1, off, none⟩) code := by rw [hw1]; exact HR.out.far HNE.out fun p hp => World.cell?_setCell_other _ _ _ _ (fun e => by subst e; exact hp rfl)
    have G1 : w.grownBy w1 (some g) := by rw [hw1]; exact ⟨rfl, rfl, rfl, by simp, fun i _ hi => heap_setCell_other w ⟨g, 2, none⟩ i _ (fun e => hi (by simp [e]))⟩
    have cz : w1.cell? ⟨b1, off + k, none⟩ = some (.int .u8 z) := by rw [hw1, World.cell?_setCell_other _ _ _ _ (by simp)]; exact hcz
    have HB1 := Lib.hid B1; have HR1 := Lib.hid R1; have HG1 := Lib.hid G1
    clear c0 c1 c2 f1 f2 hcc hcz hw1 B1 R1 G1
    have c0 : w1.cell? ⟨g, 0, none⟩ = some (.slice (some ⟨b1, off, none⟩) code.length d) := cell_of_row w1 g 0 _ _ _ HB1.out
    have c1 : w1.cell? ⟨g, 1, none⟩ = some (.int .i64 k) := cell_of_row w1 g 1 _ _ _ HB1.out
    have c2 : w1.cell? ⟨g, 2, none⟩ = some (.int .i64 h2) := cell_of_row w1 g 2 _ _ _ HB1.out
    have f1 : w1.frozen? ⟨g, 1, none⟩ = false := frozen_of_row w1 g 1 _ _ HB1.out
    go_quiet (fail)
    go_wp2
    go_quiet (fail)
    go_wp2
    go_quiet (fail)
    go_wp2
    go_ret
    exact ⟨_, rfl, (and255 _).1, (and255 _).2, cur_next (w := w1) HB1.out HR1.out HBY.out HNE.out hk, cur_grown (w1 := w1) HG1.out⟩
  · go_enter Tryz.func159, Tryz.ntmps159
    go_wp2
    generalize wrap64 (wrap64 (h * 6364136223846793005) + 1442695040888963407) = h2
    generalize wrap64 (h * 6364136223846793005) = h3
    obtain ⟨w1, hw1⟩ : ∃ w1, w1 = w.setCell ⟨g, 2, none⟩ (.int .i64 h2) := ⟨_, rfl⟩
    rw [← hw1]
    have B1 : w1.heap[g]? = some (.cells #[.slice ao code.length d, .int .i64 i, .int .i64 h2] 159 (0, 0)) := by rw [hw1, heap_setCell_same w g 2 _ _ _ HB.out]; rfl
    have R1 : Rd w1 .u8 ao code := by rw [hw1]; exact HR.out.far HNE.out fun p hp => World.cell?_setCell_other _ _ _ _ (fun e => by subst e; exact hp rfl)
    have G1 : w.grownBy w1 (some g) := by rw [hw1]; exact ⟨rfl, rfl, rfl, by simp, fun i _ hi => heap_setCell_other w ⟨g, 2, none⟩ i _ (fun e => hi (by simp [e]))⟩
    have HB1 := Lib.hid B1; have HR1 := Lib.hid R1; have HG1 := Lib.hid G1
    clear c0 c1 c2 f1 f2 hw1 B1 R1 G1
    have c0 : w1.cell? ⟨g, 0, none⟩ = some (.slice ao code.length d) := cell_of_row w1 g 0 _ _ _ HB1.out
    have c1 : w1.cell? ⟨g, 1, none⟩ = some (.int .i64 i) := cell_of_row w1 g 1 _ _ _ HB1.out
    have c2 : w1.cell? ⟨g, 2, none⟩ = some (.int .i64 h2) := cell_of_row w1 g 2 _ _ _ HB1.out
    go_quiet (fail)
    go_wp2
    go_quiet (fail)
    go_wp2
    go_ret
    exact ⟨_, rfl, (and255 _).1, (and255 _).2, ⟨i, h2, HB1.out, hi0, hi1, HR1.out, HBY.out, HNE.out⟩, ⟨HG1.out.os, HG1.out.tape, HG1.out.output, HG1.out.size, HG1.out.block⟩⟩
end Go.Proofs.YtfpbhedophlnkaaGreatDoor
