/-
  Contract of spec.DecodeSchema. For every slice of bytes of at most 1048576.
-/
import Derived.Test.YtcegekkhlfpgfaaDoorDecP
import Derived.Test.YtcegekkhlfpgfaaDoorSSch
import Derived.Test.YtcegekkhlfpgfaaDoorTakeW
import Derived.Test.YtcegekkhlfpgfaaDoorHTb
namespace Go.Proofs.YtcegekkhlfpgfaaDoor
open Go.RowKit
set_option linter.unusedSimpArgs false
set_option linter.unusedVariables false

theorem tableR_w {l : List Int} {q : Int} (h : (takeW l q).2 = -1) : tableR l (some q) = (⟨⟨#[]⟩, 0⟩, none) := by
  simp [tableR, wordR, h, numR]
theorem tableR_n {l : List Int} {q nx x : Int} {s : ByteArray} (h : takeW l q = (s, nx)) (h0 : nx ≠ -1) (hn : takeN l nx = (x, -1)) : tableR l (some q) = (⟨s, 0⟩, none) := by
  simp [tableR, wordR, h, h0, numR, hn]
theorem tableR_y {l : List Int} {q nx x t : Int} {s : ByteArray} (h : takeW l q = (s, nx)) (h0 : nx ≠ -1) (hn : takeN l nx = (x, t)) (ht : t ≠ -1) : tableR l (some q) = (⟨s, x⟩, some t) := by
  simp [tableR, wordR, h, h0, numR, hn, ht]
theorem countT_out {l : List Int} {x p : Int} (h : takeN l 0 = (x, p)) (hp : p = -1) : countT l (some 0) 8 = none := by
  simp [countT, numR, h, hp]
theorem countT_not {l : List Int} {x p : Int} (h : takeN l 0 = (x, p)) (hp : p ≠ -1) (hx : ¬ (0 ≤ x ∧ x ≤ 8)) : countT l (some 0) 8 = none := by
  simp only [countT, numR, h, if_neg hp]; rw [if_neg hx]
theorem countT_in {l : List Int} {p : Int} {m : Nat} (h : takeN l 0 = ((m : Int), p)) (hp : p ≠ -1) (hx : m ≤ 8) : countT l (some 0) 8 = tabsK l p m := by
  simp only [countT, numR, h, if_neg hp]; rw [if_pos (by omega), Int.toNat_natCast]
def SdRel (w1 wr : World) (m : List Int) (p : Int) (cnt : Nat) (v7 v8 v9 : Value) : Prop :=
  ∃ (k : Nat) (acc : List Tb) (q : Int) (ao : Option Addr) (c n : Nat), v7 = .int .i64 q ∧ v8 = .slice ao n c ∧ v9 = .int .i64 k ∧ n = acc.length ∧ k ≤ cnt ∧ tabsK m p k = some (acc, q) ∧ (0 ≤ q ∧ q ≤ m.length) ∧ OwnT wr w1.heap.size ao c acc ∧ Below w1.heap.size w1 wr

set_option maxRecDepth 100000 in
set_option maxHeartbeats 4000000 in
theorem specDecodeSchema_any (b : Option Addr) (d : Nat) (l : List Int) (w : World) (h : Rd w .u8 b l) (hby : By l) (hl : l.length ≤ maxLen) (hd : l.length ≤ d) (hd2 : d ≤ maxLen) (hlim : l.length ≤ 1048576) :
    Calls Tryd.prog 15 #[.slice b l.length d] w (MadeT2 (decQ l) w) := by
  have U := Lib.hid (specUnframe_any b d l w h hby hl hd hd2 hlim)
  have D : Hid (decQ l = match unfL l with | none => none | some m => match countT m (some 0) 8 with | none => none | some (acc, q) => if q = m.length ∧ schemaB acc = true then some acc else none) := rfl
  have h4 : Hid (∀ m, unfL l = some m → m.length ≤ 4000 ∧ By m) := fun m hm => ⟨unfL_4000 hm, unfL_by hby hm⟩
  obtain ⟨res, hres⟩ : ∃ r, r = decQ l := ⟨_, rfl⟩
  rw [← hres] at D ⊢
  clear hres h hby hl hd hd2 hlim
  cases hu : unfL l with
  | none =>
    have E : Hid (res = none) := by show _ = _; rw [D.out, hu]
    rw [hu] at U
    clear hu
    go_enter Tryd.func15, Tryd.ntmps15
    go_wp2_with fail
    refine U.out.mono ?_
    rintro e w1 ⟨a1, c1, rfl, o1, b1⟩
    clear o1
    go_wp2_with fail
    go_ret2
    exact madeT2_no E.out b1
  | some m =>
    obtain ⟨hm4, hmb⟩ := h4.out m hu
    rw [hu] at U D
    simp only at D
    have HMB := Lib.hid hmb
    have bd0 := takeN_bd hmb 0
    obtain ⟨cn, hcn⟩ : ∃ cn, cn = countT m (some 0) 8 := ⟨_, rfl⟩
    rw [← hcn] at D
    have hmm : m.length ≤ maxLen := by unfold maxLen; omega
    have TN := Lib.hid (fun W (c : Option Addr × Nat) p (h : Rd W .u8 c.1 m) (hp : p ≤ 9223372036854775807) => specTakeNum_any c.1 c.2 m p W h hmb hmm hp)
    have TW := Lib.hid (fun W (c : Option Addr × Nat) p (h : Rd W .u8 c.1 m) (hc : m.length ≤ c.2 ∧ c.2 ≤ maxLen) (hp : p ≤ 9223372036854775807) => specTakeWord_any c.1 c.2 m p W h hmb hmm hc.1 hc.2 hp)
    obtain ⟨⟨x, p⟩, hx⟩ : ∃ r, r = takeN m 0 := ⟨_, rfl⟩
    rw [← hx] at bd0
    simp only at bd0
    have HX := Lib.hid hx.symm
    clear hu hmb h4 hx
    have CN := Lib.hid hcn
    clear hcn
    go_enter Tryd.func15, Tryd.ntmps15
    go_wp2_with fail
    refine U.out.mono ?_
    rintro e w1 ⟨a1, c1, rfl, o1, b1⟩
    have o1' : Own w1 w.heap.size 5 .u8 a1 c1 m := o1
    have hc1 := Lib.hid (show m.length ≤ c1 ∧ c1 ≤ maxLen from ⟨o1'.cap_ge, o1'.cap_le⟩)
    have R1 := Lib.hid o1'.rd
    have B1 := Lib.hid b1
    have TN0 := Lib.hid (TN.out w1 (a1, c1) 0 R1.out (by omega))
    rw [HX.out] at TN0
    clear o1 o1' b1 U
    go_wp2_with fail
    refine TN0.out.mono ?_
    rintro e w' ⟨rfl, rfl⟩
    simp only
    by_cases hp : p < 0
    · have hpb : decide (p < 0) = true := by simpa using hp
      have E : Hid (res = none) := by show _ = _; rw [D.out, CN.out, countT_out HX.out (by omega)]
      go_wp2_with fail
      go_ret2
      exact madeT2_no E.out B1.out
    have hpb : decide (p < 0) = false := by simpa using hp
    have hp0 : 0 ≤ p := by omega
    have hpl : p ≤ m.length := by omega
    clear bd0
    by_cases hc : 0 ≤ x ∧ x ≤ 8
    · obtain ⟨cnt, rfl⟩ : ∃ cnt : Nat, x = cnt := ⟨x.toNat, by omega⟩
      have hc8 : cnt ≤ 8 := by omega
      have E : Hid (res = match tabsK m p cnt with | none => none | some (acc, q) => if q = m.length ∧ schemaB acc = true then some acc else none) := by show _ = _; rw [D.out, CN.out, countT_in HX.out (by omega) hc8]
      have hin : (decide ((0 : Int) ≤ cnt) && decide ((cnt : Int) ≤ 8)) = true := by simp; omega
      have HIN := Lib.hid hin
      have O0 := Lib.hid (show OwnT (w1.alloc (.cells #[] 71)) w1.heap.size (some ⟨w1.heap.size, 0, none⟩) 0 [] from ⟨World.ownsRow_lit w1 #[] 0 (Nat.le_refl _) (Nat.zero_le _) rfl, by simp⟩)
      have A0 := Lib.hid ((Below.refl w1.heap.size w1).alloc (Nat.le_refl _) (.cells #[] 71))
      clear hc hin D CN TN0
      go_wp2_with fail
      refine (l01In_any _ _ _ _).mono ?_
      rintro e w' ⟨rfl, rfl⟩
      rw [HIN.out]
      go_wp2_with fail
      go_loopw [7, 8, 9] (fun v7 v8 v9 wr => SdRel w1 wr m p cnt v7 v8 v9) (fun _ _ i _ => cnt - (intOf i).toNat)
      case atStart => exact ⟨0, [], p, _, _, _, rfl, rfl, rfl, rfl, Nat.zero_le _, rfl, ⟨hp0, hpl⟩, O0.out, A0.out⟩
      case round =>
        obtain ⟨k, acc, q, ao, c, n, rfl, rfl, rfl, hn, hk, ht, hq, ho, hb⟩ := hrel
        have HT := Lib.hid ht; have HO := Lib.hid ho; have HB := Lib.hid hb; have HN := Lib.hid hn
        have hal := tabsK_len ht
        have hsz := hb.size
        clear hn ht ho hb
        have RR := Lib.hid (R1.out.below HB.out)
        by_cases hlt : k < cnt
        · have TW1 := Lib.hid (TW.out wr (a1, c1) q RR.out hc1.out (by omega))
          have hwp := takeW_pl HMB.out q
          have hw12 := takeW_12 m q
          obtain ⟨⟨s, nx⟩, hsn⟩ : ∃ r, r = takeW m q := ⟨_, rfl⟩
          rw [← hsn] at TW1 hwp hw12
          simp only at hwp hw12
          have HS := Lib.hid hsn.symm
          clear hsn
          by_cases hnx : nx < 0
          · have hnb : decide (nx < 0) = true := by simpa using hnx
            have hm1 : nx = -1 := by omega
            have EE : Hid (res = none) := by
              show _ = _
              rw [E.out, tabsK_stays (tabsK_no HT.out (tableR_w (by rw [HS.out]; exact hm1))) cnt (by omega)]
            go_wp2_with fail
            refine TW1.out.mono ?_
            rintro e w' ⟨rfl, rfl⟩
            simp only
            go_wp2_with fail
            go_ret2
            exact madeT2_no EE.out (below_step B1.out (Nat.le_refl _) HB.out)
          have hnb : decide (nx < 0) = false := by simpa using hnx
          have TN1 := Lib.hid (TN.out wr (a1, c1) nx RR.out (by omega))
          have tbd := takeN_bd HMB.out nx
          obtain ⟨⟨y, t⟩, hyt⟩ : ∃ r, r = takeN m nx := ⟨_, rfl⟩
          rw [← hyt] at TN1 tbd
          simp only at tbd
          have HY := Lib.hid hyt.symm
          clear hyt
          by_cases ht : t < 0
          · have htb : decide (t < 0) = true := by simpa using ht
            have hm1 : t = -1 := by omega
            have EE : Hid (res = none) := by
              show _ = _
              rw [E.out, tabsK_stays (tabsK_no HT.out (tableR_n HS.out (by omega) (by rw [HY.out, hm1]))) cnt (by omega)]
            go_wp2_with fail
            refine TW1.out.mono ?_
            rintro e w' ⟨rfl, rfl⟩
            simp only
            go_wp2_with fail
            refine TN1.out.mono ?_
            rintro e w' ⟨rfl, rfl⟩
            simp only
            go_wp2_with fail
            go_ret2
            exact madeT2_no EE.out (below_step B1.out (Nat.le_refl _) HB.out)
          have htb : decide (t < 0) = false := by simpa using ht
          have TK : Hid (tabsK m p (k + 1) = some (acc ++ [⟨s, y⟩], t)) := tabsK_yes HT.out (tableR_y HS.out (by omega) HY.out (by omega))
          have htl : 0 ≤ t ∧ t ≤ m.length := by omega
          clear tbd hwp
          have OL := Lib.hid (fun x hx => (HO.out.lt x hx).1)
          have BA := Lib.hid (HB.out.alloc hsz (.cells #[.string s, .int .i64 y] 71))
          have TA := Lib.hid (show TbAt (wr.alloc (.cells #[.string s, .int .i64 y] 71)) wr.heap.size 0 ⟨s, y⟩ from ⟨(cell_of_row _ _ _ _ _ _ (heap_alloc_new wr _)).trans rfl, (cell_of_row _ _ _ _ _ _ (heap_alloc_new wr _)).trans rfl, by show s.size ≤ maxLen; unfold maxLen; omega⟩)
          go_wp2_with fail
          refine TW1.out.mono ?_
          rintro e w' ⟨rfl, rfl⟩
          simp only
          go_wp2_with fail
          refine TN1.out.mono ?_
          rintro e w' ⟨rfl, rfl⟩
          simp only
          go_wp2_with (at_builtin; go_must (refine wpList_appendT _ rfl (.tmp 55) (.tmp 59) 34 rfl w1.heap.size Tryd.underlying34 Tryd.infoTable ao c n acc rfl HN.out (HO.out.alloc _) wr.heap.size 1 ⟨s, y⟩ rfl TA.out (by omega) (by simp; omega) ?_; intro ao' c' w4 o4 g4; have O4 := Lib.hid o4; have B4 := Lib.hid (below_grow BA.out (by omega) g4 (fun x hx => OL.out x hx)); clear o4 g4))
          go_roundw
          case rel => exact ⟨k + 1, acc ++ [⟨s, y⟩], t, ao', c', _, rfl, rfl, by go_num, by simp; omega, by omega, TK.out, htl, O4.out, B4.out⟩
          case measure => simp [intOf]; omega
        · obtain rfl : k = cnt := by omega
          have E' : Hid (res = if q = m.length ∧ schemaB acc = true then some acc else none) := by show _ = _; rw [E.out, HT.out]
          have BB := Lib.hid (below_step B1.out (Nat.le_refl _) HB.out)
          have OO := Lib.hid (HO.out.base_le (base' := w.heap.size) B1.out.size)
          obtain ⟨HN', rfl⟩ : Hid (n = acc.length) ∧ n = acc.length := ⟨HN.out, HN.out⟩
          have hal8 : acc.length ≤ 8 := by omega
          clear HN HN' hal
          by_cases hqe : q = m.length
          · have hqb : (q != (m.length : Int)) = false := by simp [hqe]
            have SK := Lib.hid (specSchema_any ao c acc wr OO.out.rd (by omega))
            cases hs : schemaB acc with
            | true =>
              have EE : Hid (res = some acc) := by show _ = _; rw [E'.out, if_pos ⟨hqe, hs⟩]
              rw [hs] at SK
              clear hqe
              go_wp2_with fail
              refine SK.out.mono ?_
              rintro e w5 ⟨rfl, b5⟩
              have B5 := Lib.hid (below_step BB.out (Nat.le_refl _) b5)
              have O5 := Lib.hid (OO.out.below b5)
              clear b5
              go_wp2_with fail
              go_ret2
              exact madeT2_yes EE.out rfl O5.out B5.out
            | false =>
              have EE : Hid (res = none) := by show _ = _; rw [E'.out, if_neg (by rw [hs]; simp)]
              rw [hs] at SK
              clear hqe
              go_wp2_with fail
              refine SK.out.mono ?_
              rintro e w5 ⟨rfl, b5⟩
              have B5 := Lib.hid (below_step BB.out (Nat.le_refl _) b5)
              clear b5
              go_wp2_with fail
              go_ret2
              exact madeT2_no EE.out B5.out
          · have hqb : (q != (m.length : Int)) = true := by simp [hqe]
            have EE : Hid (res = none) := by show _ = _; rw [E'.out, if_neg (fun h => hqe h.1)]
            go_wp2_with fail
            go_ret2
            exact madeT2_no EE.out BB.out
    · have E : Hid (res = none) := by show _ = _; rw [D.out, CN.out, countT_not HX.out (by omega) hc]
      have hin : (decide ((0 : Int) ≤ x) && decide ((x : Int) ≤ 8)) = false := by
        cases hh : (decide ((0 : Int) ≤ x) && decide ((x : Int) ≤ 8)) with
        | false => rfl
        | true => simp at hh; omega
      have HIN := Lib.hid hin
      clear hin hc
      go_wp2_with fail
      refine (l01In_any _ _ _ _).mono ?_
      rintro e w' ⟨rfl, rfl⟩
      rw [HIN.out]
      go_wp2_with fail
      go_ret2
      exact madeT2_no E.out B1.out
end Go.Proofs.YtcegekkhlfpgfaaDoor
