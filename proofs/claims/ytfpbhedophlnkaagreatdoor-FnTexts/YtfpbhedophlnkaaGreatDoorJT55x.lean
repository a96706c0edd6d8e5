/-
  Contracts of spec.l02SameInts, spec.l02SameNode, spec.SamePlan, slices.EqualFunc at sameNode, impl.SamePlan. For every two slices of nodes. Small contracts for the wires' law: laws.big. For every slice of bytes. The walk of FnTexts.
-/
import Derived.Test.YtfpbhedophlnkaaGreatDoorJT26x
import Derived.Test.YtfpbhedophlnkaaGreatDoorJT54x
import Derived.Test.YtfpbhedophlnkaaGreatDoorJT8x
import Derived.Test.YtfpbhedophlnkaaGreatDoorRows
import Derived.Test.YtfpbhedophlnkaaGreatDoorJT36x
import Derived.Test.YtfpbhedophlnkaaGreatDoorJT50x
import Derived.Test.YtfpbhedophlnkaaGreatDoorJT23x
namespace Go.Proofs.YtfpbhedophlnkaaGreatDoor
open Go.RowKit
set_option linter.unusedSimpArgs false
set_option linter.unusedVariables false

set_option maxRecDepth 100000 in
set_option maxHeartbeats 1600000 in
theorem equalFunc_any (a b : Option Addr) (c d : Nat) (l m : List Nd) (w : World) (h : RdN w a l) (k : RdN w b m) (hn : l.length ≤ maxLen) (hm : m.length ≤ maxLen) :
    Calls Tryz.prog 122 #[.slice a l.length c, .slice b m.length d, .func (.func 123) #[] #[]] w fun e w' => e = .returned (.bool (eqNs l m)) ∧ Below w.heap.size w w' := by
  unfold maxLen at hn hm
  have H := Lib.hid h; clear h
  have K := Lib.hid k; clear k
  by_cases hlen : l.length = m.length
  · have hne : ((l.length : Int) != (m.length : Int)) = false := by simp [hlen]
    have HL := Lib.hid hlen; clear hlen
    go_enter Tryz.func122, Tryz.ntmps122
    go_wp2_with fail
    go_loopw [17] (fun i wr => ∃ j : Nat, j ≤ l.length ∧ i = .int .i64 j ∧ (∀ i x y, i < j → l[i]? = some x → m[i]? = some y → eqN x y = true) ∧ Below w.heap.size w wr) (fun i _ => l.length - (intOf i).toNat)
    case atStart => exact ⟨0, Nat.zero_le _, rfl, fun i x y hi => absurd hi (Nat.not_lt_zero _), Below.refl _ _⟩
    case round =>
      obtain ⟨j, hj, rfl, ht, hb⟩ := hrel
      have HT := Lib.hid ht; clear ht
      by_cases hlt : j < l.length
      · have hlt2 : j < m.length := by have := HL.out; omega
        obtain ⟨b1, o1, x, ax, cx, rfl, hx, hat⟩ := (H.out.below hb).at_ hlt
        obtain ⟨b2, o2, y, ay, cy, rfl, hy, hay⟩ := (K.out.below hb).at_ hlt2
        have X := Lib.hid hx; have Y := Lib.hid hy; have HB := Lib.hid hb
        clear hx hy hb
        have lt1 := hat.lt; have lt2 := hay.lt
        obtain ⟨c0, c1, c2, c3, c4, c5, c6, rd, cap, mx, nm⟩ := hat
        obtain ⟨d0, d1, d2, d3, d4, d5, d6, rd', cap', mx', nm'⟩ := hay
        have RD := Lib.hid rd; have RD' := Lib.hid rd'
        have E := Lib.hid (fun W => sameNode_any x y ax ay cx cy W)
        have l1 := Nat.le_trans cap mx; have l2 := Nat.le_trans cap' mx'
        clear rd rd' cap mx cap' mx' nm nm'
        cases hxy : eqN x y with
        | true =>
          have Q := Lib.hid hxy; clear hxy
          go_wp2_with fail
          refine (E.out _ (RD.out.below (((Below.refl _ wr).alloc (Nat.le_refl _) _).alloc (by simp) _)) (RD'.out.below (((Below.refl _ wr).alloc (Nat.le_refl _) _).alloc (by simp) _)) l1 l2).mono ?_
          rintro e w1 ⟨rfl, b1⟩
          rw [Q.out]
          have T1 := Lib.hid (below_step ((HB.out.alloc HB.out.size _).alloc (by have := HB.out.size; simp; omega) _) (Nat.le_refl _) b1)
          clear b1
          go_wp2_with fail
          go_roundw
          case rel => exact ⟨j + 1, by omega, by go_num, fun i x' y' hi hx' hy' => by
            by_cases hij : i = j
            · subst hij; rw [X.out] at hx'; rw [Y.out] at hy'; cases hx'; cases hy'; exact Q.out
            · exact HT.out i x' y' (by omega) hx' hy', T1.out⟩
          case measure => simp [intOf]; omega
        | false =>
          have Q := Lib.hid hxy; clear hxy
          have F := Lib.hid (eqNs_no l m j x y X.out Y.out Q.out)
          go_wp2_with fail
          refine (E.out _ (RD.out.below (((Below.refl _ wr).alloc (Nat.le_refl _) _).alloc (by simp) _)) (RD'.out.below (((Below.refl _ wr).alloc (Nat.le_refl _) _).alloc (by simp) _)) l1 l2).mono ?_
          rintro e w1 ⟨rfl, b1⟩
          rw [Q.out]
          have T1 := Lib.hid (below_step ((HB.out.alloc HB.out.size _).alloc (by have := HB.out.size; simp; omega) _) (Nat.le_refl _) b1)
          clear b1
          go_wp2_with fail
          go_ret
          exact ⟨ret_bool F.out.symm, T1.out⟩
      · have HB := Lib.hid hb; clear hb
        go_wp2_with fail
        go_ret
        refine ⟨ret_bool (eqNs_yes l m HL.out fun i x y hx hy => HT.out i x y ?_ hx hy).symm, HB.out⟩
        have : i < l.length := by
          rcases Nat.lt_or_ge i l.length with h1 | h1
          · exact h1
          · rw [List.getElem?_eq_none h1] at hx; cases hx
        omega
  · have hne : ((l.length : Int) != (m.length : Int)) = true := by simp; omega
    have HF := Lib.hid (eqNs_len l m hlen)
    go_enter Tryz.func122, Tryz.ntmps122
    go_wp2_with fail
    go_ret
    exact ⟨ret_bool HF.out.symm, Below.refl _ _⟩

theorem implSamePlan_any (a b : Option Addr) (c d : Nat) (l m : List Nd) (w : World) (h : RdN w a l) (k : RdN w b m) (hn : l.length ≤ maxLen) (hm : m.length ≤ maxLen) :
    Calls Tryz.prog 44 #[.slice a l.length c, .slice b m.length d] w fun e w' => e = .returned (.bool (eqNs l m)) ∧ Below w.heap.size w w' := by
  have H := Lib.hid h; clear h
  have K := Lib.hid k; clear k
  go_enter Tryz.func44, Tryz.ntmps44
  go_wp2_with fail
  refine (equalFunc_any a b c d l m _ H.out K.out hn hm).mono ?_
  rintro e w1 ⟨rfl, b1⟩
  go_wp2_with fail
  go_ret
  exact ⟨rfl, b1⟩
end Go.Proofs.YtfpbhedophlnkaaGreatDoor
namespace Go.Proofs.YtfpbhedophlnkaaGreatDoor
open Go.RowKit
set_option linter.unusedSimpArgs false
set_option linter.unusedVariables false
set_option maxRecDepth 100000 in
theorem big_t (a : Option Addr) (n c : Nat) (w : World) (h : 1048576 < n) (hn : n ≤ maxLen) : Calls Tryz.prog 11 #[.slice a n c] w fun e w' => e = .returned (.bool true) ∧ w = w' := by
  unfold maxLen at hn
  have h' : decide ((1048576 : Int) < n) = true := by simp; omega
  go_enter Tryz.func11, Tryz.ntmps11
  go_wp2
  go_ret
  exact ⟨rfl, rfl⟩
set_option maxRecDepth 100000 in
theorem big_f (a : Option Addr) (n c : Nat) (w : World) (h : ¬ 1048576 < n) : Calls Tryz.prog 11 #[.slice a n c] w fun e w' => e = .returned (.bool false) ∧ w = w' := by
  have h' : decide ((1048576 : Int) < n) = false := by simp; omega
  go_enter Tryz.func11, Tryz.ntmps11
  go_wp2
  go_ret
  exact ⟨rfl, rfl⟩
end Go.Proofs.YtfpbhedophlnkaaGreatDoor
namespace Go.Proofs.YtfpbhedophlnkaaGreatDoor.fnTexts
open Go.RowKit
set_option linter.unusedSimpArgs false
set_option linter.unusedVariables false
set_option linter.unusedVariables false

set_option maxRecDepth 100000 in
set_option maxHeartbeats 8000000 in
theorem walk (w : World) (a0 : Option Addr) (cap0 : Nat) (code : List Int) (hn : code.length ≤ maxLen) (rd0 : Rd w .u8 a0 code) (hby : By code) (hg : GlobN w) :
    Calls Tryz.prog 6 #[.slice a0 code.length cap0] w fun e w' => e = .returned (.bool true) ∧ Below w.heap.size w w' := by
  by_cases h : 1048576 < code.length
  · have B := Lib.hid (big_t a0 code.length cap0 w h hn)
    clear hg
    go_enter Tryz.func6, Tryz.ntmps6
    go_wp2_with fail
    refine B.out.mono ?_
    rintro e w' ⟨rfl, rfl⟩
    go_wp2_with fail
    go_ret
    exact ⟨rfl, Below.refl _ _⟩
  have B := Lib.hid (big_f a0 code.length cap0 w h)
  have DR := Lib.hid (drawPrintPlan_any a0 cap0 code w rd0 hby (by omega))
  have AL := Lib.hid (fun W (h : Rd W .u8 a0 code) => alt_any a0 cap0 code 1 W h hby (by omega) (by omega) (by omega))
  have G := Lib.hid hg
  have RC := Lib.hid rd0
  clear rd0 hby hn h hg
  generalize code.length = cn at *
  go_enter Tryz.func6, Tryz.ntmps6
  go_wp2_with fail
  refine B.out.mono ?_
  rintro e w' ⟨rfl, rfl⟩
  go_wp2_with fail
  refine DR.out.mono ?_
  rintro e w1 ⟨l, b, c, rfl, h82, sm, hlc, hcm, rd, b1⟩
  have SM := Lib.hid sm; have R1 := Lib.hid rd; have B1 := Lib.hid b1
  have hl6 : l.length ≤ 1048576 := by omega
  have hlm : l.length ≤ maxLen := by omega
  clear sm rd b1 DR B
  have IP := Lib.hid (fun W h g => implPrintPlan_any (some ⟨b, 0, none⟩) c l SM.out W h g)
  have SP := Lib.hid (fun W h => specPrintPlan_any (some ⟨b, 0, none⟩) c l W h hl6)
  have IL := Lib.hid (fun W h g => implPlanLines_any (some ⟨b, 0, none⟩) c l SM.out W h g)
  have SL := Lib.hid (fun W h => specPlanLines_any (some ⟨b, 0, none⟩) c l W h hl6)
  have PO := Lib.hid (fun W h => specPlanOk_any (some ⟨b, 0, none⟩) c l W h hl6)
  have PR := Lib.hid (fun (hb : planB l = true) => parse_print hb)
  have IT := Lib.hid (fun (hb : planB l = true) => isTxt_print hb)
  have hps : (planO l).size ≤ 9223372036854775807 := planO_size l
  have PP := Lib.hid (fun W g => implParsePlan_any (planO l) W g hps)
  have IX := Lib.hid (fun W g => implIsText_any (planO l) W g hps)
  generalize planO l = R at IP SP PR IT PP IX
  generalize linO l = U at IL SL
  clear hps
  go_wp2_with fail
  refine (IP.out _ R1.out (G.out.below B1.out).tab).mono ?_
  rintro e w2 ⟨rfl, b2⟩
  have B2 := Lib.hid (below_step B1.out (Nat.le_refl _) b2); have R2 := Lib.hid (R1.out.below b2); clear b2
  go_wp2_with fail
  refine (SP.out _ R2.out).mono ?_
  rintro e w3 ⟨rfl, b3⟩
  have B3 := Lib.hid (below_step B2.out (Nat.le_refl _) b3); have R3 := Lib.hid (R2.out.below b3); clear b3
  go_wp2_with fail
  refine (IL.out _ R3.out (G.out.below B3.out).tab).mono ?_
  rintro e w4 ⟨rfl, b4⟩
  have B4 := Lib.hid (below_step B3.out (Nat.le_refl _) b4); have R4 := Lib.hid (R3.out.below b4); clear b4
  go_wp2_with fail
  refine (SL.out _ R4.out).mono ?_
  rintro e w5 ⟨rfl, b5⟩
  have B5 := Lib.hid (below_step B4.out (Nat.le_refl _) b5); have R5 := Lib.hid (R4.out.below b5); clear b5
  go_wp2_with fail
  refine (PO.out _ R5.out).mono ?_
  rintro e w6 ⟨rfl, b6⟩
  have B6 := Lib.hid (below_step B5.out (Nat.le_refl _) b6); have R6 := Lib.hid (R5.out.below b6); clear b6
  clear IP SP IL SL PO B1 B2 B3 B4 B5 R1 R2 R3 R4 R5
  go_upto_if 32 with fail
  go_cut [] (fun wx => Below w.heap.size w wx)
  case first =>
    cases hb : planB l with
    | false =>
      go_wp2_with fail
      go_meet
      exact B6.out
    | true =>
      have e1 := PR.out hb
      have e2 := IT.out hb
      rw [e1] at PP
      rw [e2] at IX
      clear hb PR IT e1 e2
      unfold MadeN2 at PP
      simp only at PP
      go_wp2_with fail
      refine (PP.out _ (G.out.below B6.out)).mono ?_
      rintro e w7 ⟨a7, c7, rfl, o7, b7⟩
      have R7 := Lib.hid o7.rd; have Q7 := Lib.hid (R6.out.below b7)
      have B7 := Lib.hid (below_step B6.out (Nat.le_refl _) b7)
      clear o7 b7
      go_wp2_with fail
      refine (implSamePlan_any a7 (some ⟨b, 0, none⟩) c7 c l l _ R7.out Q7.out hlm hlm).mono ?_
      rintro e w8 ⟨rfl, b8⟩
      rw [eqNs_refl]
      have B8 := Lib.hid (below_step B7.out (Nat.le_refl _) b8)
      clear b8
      go_wp2_with fail
      refine (IX.out _ (G.out.below B8.out)).mono ?_
      rintro e w9 ⟨rfl, b9⟩
      have B9 := Lib.hid (below_step B8.out (Nat.le_refl _) b9)
      clear b9
      go_wp2_with fail
      go_meet
      exact B9.out
  case rest =>
    have BC := Lib.hid hcut
    clear hcut B6 R6 PP IX PR IT SM
    go_wp2_with fail
    refine (AL.out _ (RC.out.below BC.out)).mono ?_
    rintro e x1 ⟨m, am, cm, rfl, hm1, hmb, om, bx1⟩
    have RM := Lib.hid om.rd; have X1 := Lib.hid (below_step BC.out (Nat.le_refl _) bx1); have HMB := Lib.hid hmb
    clear om bx1 hmb
    go_wp2_with fail
    refine (drawParsePlan_any am cm m _ RM.out HMB.out (by omega)).mono ?_
    rintro e x2 ⟨s, hs, rfl, bx2⟩
    have X2 := Lib.hid (below_step X1.out (Nat.le_refl _) bx2)
    clear bx2
    have hs2 : s.size ≤ 9223372036854775807 := by omega
    have hsm := parseO_small s
    have IP := Lib.hid (fun W g => implParsePlan_any s W g hs2)
    have SP := Lib.hid (fun W => specParsePlan_any s W hs2)
    have TD := Lib.hid (fun W g => implTidy_any s W g hs2)
    have WD := Lib.hid (fun W => implWordsOf_any s W hs2)
    have TY := Lib.hid (fun h => tidy_yes (s := s) h)
    have TN := Lib.hid (fun h => tidy_no (s := s) h)
    have PL := Lib.hid (parse_place s)
    have IX := Lib.hid (fun W g (h : (planO (parseO s).1).size ≤ 9223372036854775807) => implIsText_any (planO (parseO s).1) W g h)
    have PSZ := Lib.hid (planO_size (parseO s).1)
    obtain ⟨⟨q, pl⟩, hq⟩ : ∃ r, r = parseO s := ⟨_, rfl⟩
    rw [← hq] at hsm IP SP TY TN PL IX PSZ
    clear hq
    simp only at hsm TY TN PL IX PSZ
    unfold MadeN2 at IP SP
    simp only at IP SP
    obtain ⟨hq1, hq2, hq3⟩ := hsm
    have hqm : q.length ≤ maxLen := by unfold maxLen; omega
    clear hq2
    go_wp2_with fail
    refine (IP.out _ (G.out.below X2.out)).mono ?_
    rintro e x3 ⟨a3, c3, rfl, o3, bx3⟩
    have R3 := Lib.hid o3.rd; have X3 := Lib.hid (below_step X2.out (Nat.le_refl _) bx3)
    clear o3 bx3
    go_wp2_with fail
    refine (SP.out _).mono ?_
    rintro e x4 ⟨a4, c4, rfl, o4, bx4⟩
    have R4 := Lib.hid o4.rd; have Q4 := Lib.hid (R3.out.below bx4); have X4 := Lib.hid (below_step X3.out (Nat.le_refl _) bx4)
    clear o4 bx4
    go_wp2_with fail
    refine (implSamePlan_any a3 a4 c3 c4 q q _ Q4.out R4.out hqm hqm).mono ?_
    rintro e x5 ⟨rfl, bx5⟩
    rw [eqNs_refl]
    have X5 := Lib.hid (below_step X4.out (Nat.le_refl _) bx5)
    clear bx5
    by_cases h1 : pl = -1
    · subst h1
      obtain ⟨t1, t2⟩ := TY.out rfl
      rw [t1] at TD
      simp only at TD
      rw [t2] at IX
      have I1 := Lib.hid (fun W g => IX.out W g PSZ.out)
      clear t1 t2 IX PSZ TY TN PL
      generalize planO q = V at TD I1
      go_wp2_with fail
      refine (TD.out _ (G.out.below X5.out)).mono ?_
      rintro e x6 ⟨rfl, bx6⟩
      have X6 := Lib.hid (below_step X5.out (Nat.le_refl _) bx6); clear bx6
      go_wp2_with fail
      refine (I1.out _ (G.out.below X6.out)).mono ?_
      rintro e x7 ⟨rfl, bx7⟩
      have X7 := Lib.hid (below_step X6.out (Nat.le_refl _) bx7); clear bx7
      go_wp2_with fail
      go_ret
      exact ⟨rfl, X7.out⟩
    · have h0 : 0 ≤ pl := by omega
      have h0' : decide (0 ≤ pl) = true := by simpa using h0
      have t1 := TN.out h0
      obtain ⟨⟨V, ok⟩, hv⟩ : ∃ r, r = tidyO s := ⟨_, rfl⟩
      rw [← hv] at TD t1
      clear hv
      simp only at TD t1
      subst t1
      clear IX PSZ TY TN h1
      by_cases h2 : 2000 < s.size
      · have h2' : (2000 : Int) < (s.size : Int) := by omega
        go_wp2_with fail
        refine (TD.out _ (G.out.below X5.out)).mono ?_
        rintro e x6 ⟨rfl, bx6⟩
        have X6 := Lib.hid (below_step X5.out (Nat.le_refl _) bx6); clear bx6
        go_wp2_with fail
        go_ret
        exact ⟨rfl, X6.out⟩
      · have h2' : (s.size : Int) ≤ 2000 := by omega
        have h3 := PL.out (by omega)
        generalize wordsO s = ws at WD h3
        generalize hwl : ws.length = wl at *
        have HWL := Lib.hid hwl; clear hwl
        go_wp2_with fail
        refine (TD.out _ (G.out.below X5.out)).mono ?_
        rintro e x6 ⟨rfl, bx6⟩
        have X6 := Lib.hid (below_step X5.out (Nat.le_refl _) bx6); clear bx6
        go_wp2_with fail
        refine (WD.out _).mono ?_
        rintro e x7 ⟨a7, c7, rfl, o7, bx7⟩
        have X7 := Lib.hid (below_step X6.out (Nat.le_refl _) bx7); clear bx7 o7
        rw [HWL.out]
        go_wp2_with fail
        go_ret
        exact ⟨rfl, X7.out⟩
end Go.Proofs.YtfpbhedophlnkaaGreatDoor.fnTexts
