/-
  Contract of spec.DecodePlan. For every slice of bytes of at most 1048576.
-/
import Derived.Test.YtfpbhedophlnkaaGreatDoorDecN
import Derived.Test.YtfpbhedophlnkaaGreatDoorGrNd
import Derived.Test.YtfpbhedophlnkaaGreatDoorSPlan
import Derived.Test.YtfpbhedophlnkaaGreatDoorKT1
namespace Go.Proofs.YtfpbhedophlnkaaGreatDoor
open Go.RowKit
set_option linter.unusedSimpArgs false
set_option linter.unusedVariables false

theorem countP_out {l : List Int} {x p : Int} (h : takeN l 0 = (x, p)) (hp : p = -1) : countNd l (some 0) 40 = none := by
  simp [countNd, numR, h, hp]
theorem countP_not {l : List Int} {x p : Int} (h : takeN l 0 = (x, p)) (hp : p ≠ -1) (hx : ¬ (0 ≤ x ∧ x ≤ 40)) : countNd l (some 0) 40 = none := by
  simp only [countNd, numR, h, if_neg hp]; rw [if_neg hx]
theorem countP_in {l : List Int} {p : Int} {m : Nat} (h : takeN l 0 = ((m : Int), p)) (hp : p ≠ -1) (hx : m ≤ 40) : countNd l (some 0) 40 = nodsK l p m := by
  simp only [countNd, numR, h, if_neg hp]; rw [if_pos (by omega), Int.toNat_natCast]
def SpRelD (w1 wr : World) (m : List Int) (p : Int) (cnt : Nat) (v7 v8 v9 : Value) : Prop :=
  ∃ (k : Nat) (acc : List Nd) (q : Int) (ao : Option Addr) (c n : Nat), v7 = .int .i64 q ∧ v8 = .slice ao n c ∧ v9 = .int .i64 k ∧ n = acc.length ∧ k ≤ cnt ∧ nodsK m p k = some (acc, q) ∧ (0 ≤ q ∧ q ≤ m.length) ∧ GrowN wr w1.heap.size wr.heap.size (.slice ao acc.length c) acc ∧ Below w1.heap.size w1 wr

set_option maxRecDepth 100000 in
set_option maxHeartbeats 4000000 in
theorem specDecodePlan_any (b : Option Addr) (d : Nat) (l : List Int) (w : World) (h : Rd w .u8 b l) (hby : By l) (hl : l.length ≤ maxLen) (hd : l.length ≤ d) (hd2 : d ≤ maxLen) (hlim : l.length ≤ 1048576) :
    Calls Tryz.prog 46 #[.slice b l.length d] w (MadeN2 (decP l) w) := by
  have U := Lib.hid (specUnframe_any b d l w h hby hl hd hd2 hlim)
  have D : Hid (decP l = match unfL l with | none => ([], 1) | some m => match countNd m (some 0) 40 with | none => ([], 2) | some (acc, q) => if q ≠ m.length then ([], 4) else if planB acc = true then (acc, 0) else ([], 3)) := rfl
  have h4 : Hid (∀ m, unfL l = some m → m.length ≤ 4000 ∧ By m) := fun m hm => ⟨unfL_4000 hm, unfL_by hby hm⟩
  obtain ⟨res, hres⟩ : ∃ r, r = decP l := ⟨_, rfl⟩
  rw [← hres] at D ⊢
  clear hres h hby hl hd hd2 hlim
  cases hu : unfL l with
  | none =>
    have E : Hid (res = ([], 1)) := by show _ = _; rw [D.out, hu]
    rw [hu] at U
    clear hu
    go_enter Tryz.func46, Tryz.ntmps46
    go_wp2_with fail
    refine U.out.mono ?_
    rintro e w1 ⟨a1, c1, rfl, o1, b1⟩
    clear o1
    go_wp2_with fail
    go_ret2
    exact madeN2_no E.out b1
  | some m =>
    obtain ⟨hm4, hmb⟩ := h4.out m hu
    rw [hu] at U D
    simp only at D
    have HMB := Lib.hid hmb
    have bd0 := takeN_bd hmb 0
    obtain ⟨cn, hcn⟩ : ∃ cn, cn = countNd m (some 0) 40 := ⟨_, rfl⟩
    rw [← hcn] at D
    have hmm : m.length ≤ maxLen := by unfold maxLen; omega
    have TN := Lib.hid (fun W (c : Option Addr × Nat) p (h : Rd W .u8 c.1 m) (hp : p ≤ 9223372036854775807) => specTakeNum_any c.1 c.2 m p W h hmb hmm hp)
    have TW := Lib.hid (fun W (c : Option Addr × Nat) p (h : Rd W .u8 c.1 m) (hc : m.length ≤ c.2 ∧ c.2 ≤ maxLen) (hp : p ≤ 9223372036854775807) => specTakeNode_any c.1 c.2 m p W h hmb hmm hc.1 hc.2 hp)
    obtain ⟨⟨x, p⟩, hx⟩ : ∃ r, r = takeN m 0 := ⟨_, rfl⟩
    rw [← hx] at bd0
    simp only at bd0
    have HX := Lib.hid hx.symm
    clear hu hmb h4 hx
    have CN := Lib.hid hcn
    clear hcn
    go_enter Tryz.func46, Tryz.ntmps46
    go_wp2_with fail
    refine U.out.mono ?_
    rintro e w1 ⟨a1, c1, rfl, o1, b1⟩
    have o1' : Own w1 w.heap.size 5 .u8 a1 c1 m := o1
    have hc1 := Lib.hid (show m.length ≤ c1 ∧ c1 ≤ maxLen from ⟨o1'.cap_ge, o1'.cap_le⟩)
    have R1 := Lib.hid o1'.rd
    have B1 := Lib.hid b1
    have TN0 := Lib.hid (TN.out w1 (a1, c1) 0 R1.out (by omega))
    rw [HX.out] at TN0
    clear o1 o1' b1 U
    go_wp2_with fail
    refine TN0.out.mono ?_
    rintro e w' ⟨rfl, rfl⟩
    simp only
    by_cases hp : p < 0
    · have hpb : decide (p < 0) = true := by simpa using hp
      have E : Hid (res = ([], 2)) := by show _ = _; rw [D.out, CN.out, countP_out HX.out (by omega)]
      go_wp2_with fail
      go_ret2
      exact madeN2_no E.out B1.out
    have hpb : decide (p < 0) = false := by simpa using hp
    have hp0 : 0 ≤ p := by omega
    have hpl : p ≤ m.length := by omega
    clear bd0
    by_cases hc : 0 ≤ x ∧ x ≤ 40
    · obtain ⟨cnt, rfl⟩ : ∃ cnt : Nat, x = cnt := ⟨x.toNat, by omega⟩
      have hc8 : cnt ≤ 40 := by omega
      have E : Hid (res = match nodsK m p cnt with | none => ([], 2) | some (acc, q) => if q ≠ m.length then ([], 4) else if planB acc = true then (acc, 0) else ([], 3)) := by show _ = _; rw [D.out, CN.out, countP_in HX.out (by omega) hc8]
      have hin : (decide ((0 : Int) ≤ cnt) && decide ((cnt : Int) ≤ 40)) = true := by simp; omega
      have HIN := Lib.hid hin
      have O0 := Lib.hid ((GrowN.lit (w := w1) (Nat.le_refl _)).mono (top' := (w1.alloc (.cells #[] 92)).heap.size) (by simp))
      have A0 := Lib.hid ((Below.refl w1.heap.size w1).alloc (Nat.le_refl _) (.cells #[] 92))
      clear hc hin D CN TN0
      go_wp2_with fail
      refine (l01In_any _ _ _ _).mono ?_
      rintro e w' ⟨rfl, rfl⟩
      rw [HIN.out]
      go_wp2_with fail
      go_loopw [7, 8, 9] (fun v7 v8 v9 wr => SpRelD w1 wr m p cnt v7 v8 v9) (fun _ _ i _ => cnt - (intOf i).toNat)
      case atStart => exact ⟨0, [], p, _, _, _, rfl, rfl, rfl, rfl, Nat.zero_le _, rfl, ⟨hp0, hpl⟩, O0.out, A0.out⟩
      case round =>
        obtain ⟨k, acc, q, ao, c, n, rfl, rfl, rfl, hn, hk, ht, hq, ho, hb⟩ := hrel
        have HT := Lib.hid ht; have HO := Lib.hid ho; have HB := Lib.hid hb; have HN := Lib.hid hn
        have hal := nodsK_len ht
        have hsz := hb.size
        clear hn ht ho hb
        have RR := Lib.hid (R1.out.below HB.out)
        by_cases hlt : k < cnt
        · have TW1 := Lib.hid (TW.out wr (a1, c1) q RR.out hc1.out (by omega))
          have hpl := nodeR_pl HMB.out (some q)
          have hnm : (nodeR m (some q)).1.name.size ≤ 12 := fieldR_name m _ _
          obtain ⟨⟨nd, s2⟩, hx2⟩ : ∃ r, r = nodeR m (some q) := ⟨_, rfl⟩
          rw [← hx2] at hpl hnm
          simp only at hpl hnm
          have HX := Lib.hid hx2.symm
          clear hx2
          cases s2 with
          | none =>
            have TE : takeNd m q = (zeroNd, -1) := by unfold takeNd; rw [HX.out]
            have EE : Hid (res = ([], 2)) := by
              show _ = _
              rw [E.out, nodsK_stays (nodsK_no HT.out HX.out) cnt (by omega)]
            rw [TE] at TW1
            clear TE
            go_wp2_with fail
            refine TW1.out.mono ?_
            rintro e w2 ⟨a2, c2, rfl, o2, b2⟩
            simp only
            have B2 := Lib.hid (below_step B1.out (Nat.le_refl _) (below_step HB.out (Nat.le_refl _) b2))
            clear o2 b2
            go_wp2_with fail
            go_ret2
            exact madeN2_no EE.out (B2.out.alloc B2.out.size _)
          | some q' =>
            have TE : takeNd m q = (nd, q') := by unfold takeNd; rw [HX.out]
            obtain ⟨hq0, hql⟩ := hpl q' rfl
            have htb : decide (q' < 0) = false := by simpa using hq0
            have TKK : Hid (nodsK m p (k + 1) = some (acc ++ [nd], q')) := nodsK_yes HT.out HX.out
            rw [TE] at TW1
            clear TE hpl
            go_wp2_with fail
            refine TW1.out.mono ?_
            rintro e w2 ⟨a2, c2, rfl, o2, b2⟩
            simp only at o2 ⊢
            have hs2 := b2.size
            have OW2 := Lib.hid (HO.out.below b2)
            have B2 := Lib.hid (below_step HB.out (Nat.le_refl _) b2)
            have BX := Lib.hid (B2.out.alloc B2.out.size (.cells #[.int .i64 nd.kind, .string nd.name, .int .i64 nd.col, .int .i64 nd.op, .int .i64 nd.num, .bool nd.slot, .slice a2 nd.cols.length c2] 92))
            have BA := Lib.hid (BX.out.alloc BX.out.size (.cells #[.int .i64 nd.kind, .string nd.name, .int .i64 nd.col, .int .i64 nd.op, .int .i64 nd.num, .bool nd.slot, .slice a2 nd.cols.length c2] 92))
            have CA := Lib.hid ((o2.alloc (.cells #[.int .i64 nd.kind, .string nd.name, .int .i64 nd.col, .int .i64 nd.op, .int .i64 nd.num, .bool nd.slot, .slice a2 nd.cols.length c2] 92)).alloc (.cells #[.int .i64 nd.kind, .string nd.name, .int .i64 nd.col, .int .i64 nd.op, .int .i64 nd.num, .bool nd.slot, .slice a2 nd.cols.length c2] 92))
            have W2 := Lib.hid (((Below.refl _ w2).alloc (Nat.le_refl _) (.cells #[.int .i64 nd.kind, .string nd.name, .int .i64 nd.col, .int .i64 nd.op, .int .i64 nd.num, .bool nd.slot, .slice a2 nd.cols.length c2] 92)).alloc (by simp) (.cells #[.int .i64 nd.kind, .string nd.name, .int .i64 nd.col, .int .i64 nd.op, .int .i64 nd.num, .bool nd.slot, .slice a2 nd.cols.length c2] 92))
            have OL := Lib.hid (fun x hx => (HO.out.lt x hx).1)
            clear o2 b2
            go_wp2_with (at_builtin; go_must (refine wpList_appendG _ rfl (.tmp 45) (.tmp 47) 25 rfl w1.heap.size wr.heap.size Tryz.underlying25 Tryz.infoNodeG rfl ao c n acc rfl HN.out (OW2.out.below W2.out) (by simp; omega) (by omega) (w2.heap.size + 1) 1 nd a2 c2 rfl (ndRow_at (by simp)) CA.out (by unfold maxLen; omega) (by omega) ?_; intro ao' c' w4 o4 g4; have O4 := Lib.hid o4; have B4 := Lib.hid (below_grow BA.out (by omega) g4 (fun x hx => OL.out x hx)); clear o4 g4))
            clear HX HT
            go_roundw
            case rel => exact ⟨k + 1, acc ++ [nd], q', ao', c', _, rfl, rfl, by go_num, by simp; omega, by omega, TKK.out, ⟨hq0, hql⟩, by simpa using O4.out, B4.out⟩
            case measure => simp [intOf]; omega
        · obtain rfl : k = cnt := by omega
          have E' : Hid (res = if q ≠ m.length then ([], 4) else if planB acc = true then (acc, 0) else ([], 3)) := by show _ = _; rw [E.out, HT.out]
          have BB := Lib.hid (below_step B1.out (Nat.le_refl _) HB.out)
          have OO := Lib.hid (HO.out.ownN.base_le (base' := w.heap.size) B1.out.size)
          obtain ⟨HN', rfl⟩ : Hid (n = acc.length) ∧ n = acc.length := ⟨HN.out, HN.out⟩
          have hal8 : acc.length ≤ 40 := by omega
          clear HN HN' hal
          by_cases hqe : q = m.length
          · have hqb : decide (q < (m.length : Int)) = false := by simp; omega
            have SK := Lib.hid (specPlanOk_any ao c acc wr OO.out.rd (by omega))
            cases hs : planB acc with
            | true =>
              have EE : Hid (res = (acc, 0)) := by show _ = _; rw [E'.out, if_neg (fun h => h hqe), if_pos hs]
              rw [hs] at SK
              clear hqe
              go_wp2_with fail
              refine SK.out.mono ?_
              rintro e w5 ⟨rfl, b5⟩
              have B5 := Lib.hid (below_step BB.out (Nat.le_refl _) b5)
              have O5 := Lib.hid (OO.out.below b5)
              clear b5
              go_wp2_with fail
              go_ret2
              exact madeN2_yes EE.out rfl O5.out B5.out
            | false =>
              have EE : Hid (res = ([], 3)) := by show _ = _; rw [E'.out, if_neg (fun h => h hqe), if_neg (by rw [hs]; simp)]
              rw [hs] at SK
              clear hqe
              go_wp2_with fail
              refine SK.out.mono ?_
              rintro e w5 ⟨rfl, b5⟩
              have B5 := Lib.hid (below_step BB.out (Nat.le_refl _) b5)
              clear b5
              go_wp2_with fail
              go_ret2
              exact madeN2_no EE.out B5.out
          · have hqb : decide (q < (m.length : Int)) = true := by simp; omega
            have EE : Hid (res = ([], 4)) := by show _ = _; rw [E'.out, if_pos hqe]
            go_wp2_with fail
            go_ret2
            exact madeN2_no EE.out BB.out
    · have E : Hid (res = ([], 2)) := by show _ = _; rw [D.out, CN.out, countP_not HX.out (by omega) hc]
      have hin : (decide ((0 : Int) ≤ x) && decide ((x : Int) ≤ 40)) = false := by
        cases hh : (decide ((0 : Int) ≤ x) && decide ((x : Int) ≤ 40)) with
        | false => rfl
        | true => simp at hh; omega
      have HIN := Lib.hid hin
      clear hin hc
      go_wp2_with fail
      refine (l01In_any _ _ _ _).mono ?_
      rintro e w' ⟨rfl, rfl⟩
      rw [HIN.out]
      go_wp2_with fail
      go_ret2
      exact madeN2_no E.out B1.out
end Go.Proofs.YtfpbhedophlnkaaGreatDoor
