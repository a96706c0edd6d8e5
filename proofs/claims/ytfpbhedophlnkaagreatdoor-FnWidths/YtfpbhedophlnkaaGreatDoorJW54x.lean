/-
  The walk of FnWidths.
-/
import Derived.Test.YtfpbhedophlnkaaGreatDoorRows
import Derived.Test.YtfpbhedophlnkaaGreatDoorJW25x
import Derived.Test.YtfpbhedophlnkaaGreatDoorJW33x
import Derived.Test.YtfpbhedophlnkaaGreatDoorJW40x
import Derived.Test.YtfpbhedophlnkaaGreatDoorJW42x
import Derived.Test.YtfpbhedophlnkaaGreatDoorJW49x
import Derived.Test.YtfpbhedophlnkaaGreatDoorJW50x
import Derived.Test.YtfpbhedophlnkaaGreatDoorJW53x
import Derived.Test.YtfpbhedophlnkaaGreatDoorJW8x
import Derived.Deep.DeepCutAuto
namespace Go.Proofs.YtfpbhedophlnkaaGreatDoor.fnWidths
open Go.RowKit
set_option linter.unusedSimpArgs false
set_option linter.unusedVariables false
set_option linter.unusedVariables false

theorem txtO_size (s : List Tb) : (txtO s).size ≤ 1048576 := by
  unfold txtO
  split
  · rename_i h
    obtain ⟨h8, hall, _⟩ := schemaB_iff.1 h
    have := schT_len hall
    have e : (⟨(schT s).toArray⟩ : ByteArray).size = (schT s).length := by show (schT s).toArray.size = _; simp
    omega
  · exact Nat.zero_le _
/-- A schema's text is parsed to a schema of that text. -/
theorem parse_text {s l : List Tb} {ok : Bool} (h : schemaB s = true) (hp : (ok = true ∧ schemaB l = true ∧ (txtO s).data.toList = schT l) ∨ (ok = false ∧ l = [] ∧ ∀ m, schemaB m = true → (txtO s).data.toList ≠ schT m)) : ok = true ∧ txtO l = txtO s := by
  have e : (txtO s).data.toList = schT s := by unfold txtO; rw [if_pos h]
  rcases hp with ⟨h1, h2, h3⟩ | ⟨_, _, h3⟩
  · refine ⟨h1, ?_⟩
    unfold txtO
    rw [if_pos h2, if_pos h, ← h3, e]
  · exact absurd e (h3 s h)
theorem small_put {p q : List Nd} (hp : Small p) (hq : Small q) (h1 : p.length ≤ 82) (h2 : q.length ≤ 82) (k : Int) : Small (putPN p k q) := by
  unfold putPN
  split
  · unfold joinN
    refine ⟨by simp only [List.length_append, List.length_take, List.length_drop]; omega, fun n hn => ?_⟩
    rcases List.mem_append.1 hn with hn | hn
    · rcases List.mem_append.1 hn with hn | hn
      · exact hp.2 n (List.mem_of_mem_take hn)
      · exact hq.2 n hn
    · exact hp.2 n (List.mem_of_mem_drop hn)
  · exact hp
theorem put_more {p q : List Nd} {k : Int} (h : putPB p k q = true) : putPN p k q = joinN p k q := by unfold putPN; rw [if_pos h]
set_option maxRecDepth 100000 in
set_option maxHeartbeats 8000000 in
theorem walk (w : World) (a0 : Option Addr) (cap0 : Nat) (code : List Int) (hn : code.length ≤ maxLen) (rd0 : Rd w .u8 a0 code) (hby : By code) (hg : Glob w) (he : ErrT w) :
    Calls Tryz.prog 3 #[.slice a0 code.length cap0] w fun e w' => e = .returned (.bool true) ∧ Below w.heap.size w w' := by
  by_cases h : 1048576 < code.length
  · have B := Lib.hid (big_t a0 code.length cap0 w h hn)
    clear hg he
    go_enter Tryz.func3, Tryz.ntmps3
    go_wp2_with fail
    refine B.out.mono ?_
    rintro e w' ⟨rfl, rfl⟩
    go_wp2_with fail
    go_ret
    exact ⟨rfl, Below.refl _ _⟩
  have B := Lib.hid (big_f a0 code.length cap0 w h)
  have DR := Lib.hid (drawWidthOf_any a0 cap0 code w rd0 hby (by omega))
  have AL := Lib.hid (fun W (h : Rd W .u8 a0 code) => alt_any a0 cap0 code 1 W h hby (by omega) (by omega) (by omega))
  have G := Lib.hid hg; have GE := Lib.hid he
  have RC := Lib.hid rd0
  clear rd0 hby hn h hg he
  generalize code.length = cn at *
  go_enter Tryz.func3, Tryz.ntmps3
  go_wp2_with fail
  refine B.out.mono ?_
  rintro e w' ⟨rfl, rfl⟩
  go_wp2_with fail
  refine DR.out.mono ?_
  rintro e w1 ⟨s, sa, sc, l, b, c, rfl, hs10, rs, h82, sm, hlc, hcm, rd, b1⟩
  have SM := Lib.hid sm; have R1 := Lib.hid rd; have S1 := Lib.hid rs; have B1 := Lib.hid b1
  have hl6 : l.length ≤ 1048576 := by omega
  have hs6 : s.length ≤ 1048576 := by omega
  clear sm rd rs b1 DR B
  have IW := Lib.hid (fun W h k => implWidth_any sa sc s (some ⟨b, 0, none⟩) c l W h k hs6 SM.out)
  have SW := Lib.hid (fun W h k => specWidth_any sa sc s (some ⟨b, 0, none⟩) c l W h k hs6 hl6)
  have IT := Lib.hid (fun W h k => implTyped_any sa sc s (some ⟨b, 0, none⟩) c l W h k hs6 SM.out)
  rw [typB_wid] at IT
  have TX := Lib.hid (fun W s' (a : Option Addr) c' h (hl : s'.length ≤ 1048576) => implText_any a c' s' W h hl)
  have htz : (txtO s).size ≤ 1048576 := txtO_size s
  have PS := Lib.hid (fun W g => implParse_any (txtO s) W htz g)
  have WP := Lib.hid (fun (h : 0 ≤ widO s l) i (hi : i < l.length) => wid_parts h hi)
  have WQ := Lib.hid (fun (h : 0 ≤ widO s l) q i (hi : i < l.length) hp hq h0 => wid_put (q := q) h hi hp hq h0)
  have hcs := widO_cases s l
  have HPL : Hid (0 ≤ widO s l → 1 ≤ l.length) := fun h => by obtain ⟨_, T, ht, _⟩ := widO_typed h; exact treeN_pos ht
  generalize widO s l = Wd at IW SW IT WP WQ hcs HPL
  go_wp2_with fail
  refine (IW.out _ S1.out R1.out).mono ?_
  rintro e w2 ⟨rfl, b2⟩
  have B2 := Lib.hid (below_step B1.out (Nat.le_refl _) b2); have R2 := Lib.hid (R1.out.below b2); have S2 := Lib.hid (S1.out.below b2); clear b2
  go_wp2_with fail
  refine (SW.out _ S2.out R2.out).mono ?_
  rintro e w3 ⟨rfl, b3⟩
  have B3 := Lib.hid (below_step B2.out (Nat.le_refl _) b3); have R3 := Lib.hid (R2.out.below b3); have S3 := Lib.hid (S2.out.below b3); clear b3
  rcases hcs with rfl | ⟨hw1, hw2⟩
  · have e0 : decide ((0 : Int) ≤ -1) = false := rfl
    rw [e0] at IT
    go_wp2_with fail
    refine (IT.out _ S3.out R3.out).mono ?_
    rintro e w4 ⟨rfl, b4⟩
    have B4 := Lib.hid (below_step B3.out (Nat.le_refl _) b4); have S4 := Lib.hid (S3.out.below b4); clear b4
    go_wp2_with fail
    refine (AL.out _ (RC.out.below B4.out)).mono ?_
    rintro e w5 ⟨m, am, cm, rfl, hm1, hmb, om, b5⟩
    have RM := Lib.hid om.rd; have B5 := Lib.hid (below_step B4.out (Nat.le_refl _) b5); have S5 := Lib.hid (S4.out.below b5); have HMB := Lib.hid hmb
    clear om b5 hmb
    go_wp2_with fail
    refine (drawPutPart_any am cm m _ RM.out HMB.out (by omega)).mono ?_
    rintro e w6 ⟨p0, pb, pc, k, q, qb, qc, rfl, hk0, hk1, hq82, smq, rq, b6⟩
    have B7x := Lib.hid (below_step B5.out (Nat.le_refl _) b6); have S7x := Lib.hid (S5.out.below b6)
    clear b6 smq rq B1 B2 B3 B4 B5 S1 S2 S3 S4 S5 R1 R2 R3 IW SW IT WP WQ HPL RC AL RM HMB SM
    go_wp2_with fail
    refine wp_loop_rounds 1 ?_; rw [rounds_succ]
    go_wp2_with fail
    refine (TX.out _ s sa sc S7x.out hs6).mono ?_
    rintro e y1 ⟨rfl, by1⟩
    have Y1 := Lib.hid (below_step B7x.out (Nat.le_refl _) by1); have S8 := Lib.hid (S7x.out.below by1); clear by1
    go_wp2_with fail
    refine (PS.out _ (G.out.below Y1.out)).mono ?_
    rintro e y2 ⟨back, okS, ⟨ab, cb, rfl, ob, by2⟩, hpost⟩
    have Y2 := Lib.hid (below_step Y1.out (Nat.le_refl _) by2); have S9 := Lib.hid (S8.out.below by2); have RB := Lib.hid ob.rd
    have hbl := ob.len_le
    have HPO := Lib.hid hpost
    clear ob by2 hpost
    go_wp2_with fail
    refine (implEncodeSchema_any sa sc s _ S9.out hs6).mono ?_
    rintro e y3 ⟨ae, ce, rfl, oe, by3⟩
    have Y3 := Lib.hid (below_step Y2.out (Nat.le_refl _) by3); have S10 := Lib.hid (S9.out.below by3); have RB3 := Lib.hid (RB.out.below by3); have RE := Lib.hid oe.rd
    have hce := oe.cap_ge; have hce' := oe.cap_le; have hel := oe.len_le
    clear oe by3
    go_wp2_with fail
    refine (implDecodeSchema_any ae ce (encQ s) _ (GE.out.below Y3.out) RE.out (encQ_by s) hel hce hce').mono ?_
    rintro e y4 ⟨ad, cd, rfl, od, by4⟩
    have Y4 := Lib.hid (below_step Y3.out (Nat.le_refl _) by4); have S11 := Lib.hid (S10.out.below by4); have RB4 := Lib.hid (RB3.out.below by4); have RD := Lib.hid od.rd
    have hdl := od.len_le
    clear od by4
    go_wp2_with fail
    refine (specSchema_any sa sc s _ S11.out (by omega)).mono ?_
    rintro e y5 ⟨rfl, by5⟩
    have Y5 := Lib.hid (below_step Y4.out (Nat.le_refl _) by5); have RB5 := Lib.hid (RB4.out.below by5); have RD5 := Lib.hid (RD.out.below by5)
    clear by5
    cases hsc : schemaB s with
    | false =>
      have TE := Lib.hid (show txtO s = ⟨#[]⟩ by unfold txtO; rw [if_neg (by rw [hsc]; simp)])
      rw [TE.out]
      clear hsc
      go_wp2_with fail
      go_ret
      exact ⟨rfl, Y5.out⟩
    | true =>
      have PT := Lib.hid (parse_text hsc HPO.out)
      obtain ⟨p1, p2⟩ := PT.out
      subst p1
      have DQ := Lib.hid (decQ_enc hsc)
      obtain ⟨r, hr⟩ : ∃ r, r = decQ (encQ s) := ⟨_, rfl⟩
      rw [← hr] at RD5 hdl ⊢
      have hr2 : r = some s := by rw [hr]; exact DQ.out
      subst hr2
      simp only [Option.getD_some, Option.isSome_some] at RD5 hdl ⊢
      have hb6 : back.length ≤ 1048576 := by
        rcases HPO.out with ⟨_, h2, _⟩ | ⟨h1, _⟩
        · have := (schemaB_iff.1 h2).1; omega
        · cases h1
      clear hr hsc
      go_wp2_with fail
      refine (TX.out _ back ab cb RB5.out hb6).mono ?_
      rintro e y6 ⟨rfl, by6⟩
      rw [p2]
      have Y6 := Lib.hid (below_step Y5.out (Nat.le_refl _) by6); have RD6 := Lib.hid (RD5.out.below by6); clear by6
      go_wp2_with fail
      refine (TX.out _ s ad cd RD6.out hs6).mono ?_
      rintro e y7 ⟨rfl, by7⟩
      have Y7 := Lib.hid (below_step Y6.out (Nat.le_refl _) by7); clear by7
      go_wp2_with fail
      go_ret
      exact ⟨rfl, Y7.out⟩
  · have hw0 : 0 ≤ Wd := by omega
    have e0 : decide (0 ≤ Wd) = true := by simpa using hw0
    rw [e0] at IT
    have hpl := HPL.out hw0
    have WPP := Lib.hid (WP.out hw0); have WQQ := Lib.hid (WQ.out hw0)
    clear WP WQ HPL
    go_wp2_with fail
    refine (IT.out _ S3.out R3.out).mono ?_
    rintro e w4 ⟨rfl, b4⟩
    have B4 := Lib.hid (below_step B3.out (Nat.le_refl _) b4); have S4 := Lib.hid (S3.out.below b4); have R4 := Lib.hid (R3.out.below b4); clear b4
    go_wp2_with fail
    refine (AL.out _ (RC.out.below B4.out)).mono ?_
    rintro e w5 ⟨m, am, cm, rfl, hm1, hmb, om, b5⟩
    have RM := Lib.hid om.rd; have B5 := Lib.hid (below_step B4.out (Nat.le_refl _) b5); have S5 := Lib.hid (S4.out.below b5); have R5 := Lib.hid (R4.out.below b5); have HMB := Lib.hid hmb
    clear om b5 hmb
    go_wp2_with fail
    refine (drawPutPart_any am cm m _ RM.out HMB.out (by omega)).mono ?_
    rintro e w6 ⟨p0, pb, pc, k, q, qb, qc, rfl, hk0, hk1, hq82, smq, rq, b6⟩
    have B6 := Lib.hid (below_step B5.out (Nat.le_refl _) b6); have S6 := Lib.hid (S5.out.below b6); have R6 := Lib.hid (R5.out.below b6); have Q6 := Lib.hid rq; have SQ := Lib.hid smq
    clear b6 smq rq B1 B2 B3 B4 B5 S1 S2 S3 S4 S5 R1 R2 R3 R4 R5 SW IT RC AL RM HMB
    go_wp2_with fail
    go_loopw [9] (fun i wr => ∃ j : Nat, i = .int .i64 j ∧ j ≤ l.length ∧ Below w6.heap.size w6 wr) (fun i _ => l.length - (intOf i).toNat)
    case atStart => exact ⟨0, rfl, Nat.zero_le _, Below.refl _ _⟩
    case round =>
      obtain ⟨j, rfl, hj, hb⟩ := hrel
      have HB := Lib.hid hb; clear hb
      by_cases hlt : j < l.length
      · have j1 : (j : Int) < (l.length : Int) := by omega
        have WA := Lib.hid (implWidthAt_any sa sc s (some ⟨b, 0, none⟩) c l j wr (S6.out.below HB.out) (R6.out.below HB.out) hs6 SM.out (.inr ⟨hlc, hcm⟩))
        have hw1' := WPP.out j hlt
        generalize widO s (partN l j) = wa at WA hw1'
        have hwa : decide (wa < 1) = false := by rw [decide_eq_false_iff_not]; omega
        go_wp2_with fail
        refine WA.out.mono ?_
        rintro e w7 ⟨rfl, b7⟩
        have B7 := Lib.hid (below_step HB.out (Nat.le_refl _) b7); clear b7
        go_wp2_with fail
        go_roundw
        case rel => exact ⟨j + 1, by go_num, by omega, B7.out⟩
        case measure => simp [intOf]; omega
      · have j1 : ¬ ((j : Int) < (l.length : Int)) := by omega
        have B7 := Lib.hid (below_step B6.out (Nat.le_refl _) HB.out)
        have S7 := Lib.hid (S6.out.below HB.out); have R7 := Lib.hid (R6.out.below HB.out); have Q7 := Lib.hid (Q6.out.below HB.out)
        go_upto_if 70 with fail
        go_cut [] (fun wx => Below w.heap.size w wx ∧ RdT wx sa s)
        case first =>
          by_cases hk : 0 ≤ k
          · obtain ⟨kn, rfl⟩ : ∃ kn : Nat, k = kn := ⟨k.toNat, by omega⟩
            have hl1 : (0 : Int) < (l.length : Int) := by omega
            have hlz : ((l.length : Int) == 0) = false := by rw [beq_eq_false_iff_ne]; omega
            obtain ⟨i, hi⟩ : ∃ i : Nat, (kn : Int) % (l.length : Int) = i := ⟨((kn : Int) % (l.length : Int)).toNat, by have := Int.emod_nonneg (kn : Int) (show (l.length : Int) ≠ 0 by omega); omega⟩
            have hil : i < l.length := by have := Int.emod_lt_of_pos (kn : Int) hl1; omega
            have htm : ((kn : Int)).tmod (l.length : Int) = i := by rw [Int.tmod_eq_emod_of_nonneg (by omega)]; exact hi
            have PU := Lib.hid (implPut_any b 0 c l SM.out i qb 0 qc q SQ.out wr R7.out Q7.out (.inr ⟨hlc, hcm⟩))
            have WX := Lib.hid (fun hp hq h0 => WQQ.out q i hil hp hq h0)
            have SP := Lib.hid (small_put SM.out SQ.out h82 hq82 (i : Int))
            cases hp : putPB l i q with
            | false =>
              rw [hp] at PU
              go_wp2_with fail
              refine PU.out.mono ?_
              rintro e w8 ⟨a8, c8, rfl, o8, b8⟩
              have B8 := Lib.hid (below_step B7.out (Nat.le_refl _) b8); have S8 := Lib.hid (S7.out.below b8)
              clear o8 b8
              go_wp2_with fail
              go_meet
              exact ⟨B8.out, S8.out⟩
            | true =>
              rw [hp, put_more hp] at PU
              rw [put_more hp] at SP
              have WX2 := Lib.hid (fun hq h0 => WX.out hp hq h0)
              clear hp WX
              generalize joinN l i q = jn at PU SP WX2
              have JW := Lib.hid (fun W a c' h k' => implWidth_any sa sc s a c' jn W h k' hs6 SP.out)
              have QW := Lib.hid (fun W h k' => implWidth_any sa sc s (some ⟨qb, 0, none⟩) qc q W h k' hs6 SQ.out)
              have WA := Lib.hid (fun W h k' => implWidthAt_any sa sc s (some ⟨b, 0, none⟩) c l i W h k' hs6 SM.out (.inr ⟨hlc, hcm⟩))
              have hqc := widO_cases s q
              generalize widO s q = wq at QW WX2 hqc
              generalize widO s (partN l i) = wa at WA WX2
              go_wp2_with fail
              refine PU.out.mono ?_
              rintro e w8 ⟨a8, c8, rfl, o8, b8⟩
              have B8 := Lib.hid (below_step B7.out (Nat.le_refl _) b8); have S8 := Lib.hid (S7.out.below b8); have R8 := Lib.hid (R7.out.below b8); have Q8 := Lib.hid (Q7.out.below b8); have J8 := Lib.hid o8.rd
              clear o8 b8 PU
              go_wp2_with fail
              refine (QW.out _ S8.out Q8.out).mono ?_
              rintro e w9 ⟨rfl, b9⟩
              have B9 := Lib.hid (below_step B8.out (Nat.le_refl _) b9); have S9 := Lib.hid (S8.out.below b9); have R9 := Lib.hid (R8.out.below b9); have Q9 := Lib.hid (Q8.out.below b9); have J9 := Lib.hid (J8.out.below b9)
              clear b9
              rcases hqc with rfl | ⟨hq1, hq2⟩
              · go_wp2_with fail
                go_meet
                exact ⟨B9.out, S9.out⟩
              · have hq0 : decide (0 ≤ wq) = true := by rw [decide_eq_true_eq]; omega
                go_wp2_with fail
                refine (QW.out _ S9.out Q9.out).mono ?_
                rintro e w10 ⟨rfl, b10⟩
                have B10 := Lib.hid (below_step B9.out (Nat.le_refl _) b10); have S10 := Lib.hid (S9.out.below b10); have R10 := Lib.hid (R9.out.below b10); have J10 := Lib.hid (J9.out.below b10)
                clear b10
                go_wp2_with fail
                refine (WA.out _ S10.out R10.out).mono ?_
                rintro e w11 ⟨rfl, b11⟩
                have B11 := Lib.hid (below_step B10.out (Nat.le_refl _) b11); have S11 := Lib.hid (S10.out.below b11); have J11 := Lib.hid (J10.out.below b11)
                clear b11
                by_cases heq : wq = wa
                · have JX := Lib.hid (JW.out w11 a8 c8 S11.out J11.out)
                  rw [WX2.out heq (by omega)] at JX
                  have hee : (wq == wa) = true := by rw [beq_iff_eq]; exact heq
                  clear heq
                  go_wp2_with fail
                  refine JX.out.mono ?_
                  rintro e w12 ⟨rfl, b12⟩
                  have B12 := Lib.hid (below_step B11.out (Nat.le_refl _) b12); have S12 := Lib.hid (S11.out.below b12)
                  clear b12
                  go_wp2_with fail
                  go_meet
                  exact ⟨B12.out, S12.out⟩
                · have hee : (wq == wa) = false := by rw [beq_eq_false_iff_ne]; exact heq
                  go_wp2_with fail
                  go_meet
                  exact ⟨B11.out, S11.out⟩
          · have hkf : decide (0 ≤ k) = false := by rw [decide_eq_false_iff_not]; exact hk
            go_wp2_with fail
            go_meet
            exact ⟨B7.out, S7.out⟩
        case rest =>
        obtain ⟨bx, sx⟩ := hcut
        have B7x := Lib.hid bx; have S7x := Lib.hid sx
        clear bx sx B7 S7 R7 Q7 B6 S6 R6 Q6 HB IW WPP WQQ SM SQ
        go_wp2_with fail
        refine (TX.out _ s sa sc S7x.out hs6).mono ?_
        rintro e y1 ⟨rfl, by1⟩
        have Y1 := Lib.hid (below_step B7x.out (Nat.le_refl _) by1); have S8 := Lib.hid (S7x.out.below by1); clear by1
        go_wp2_with fail
        refine (PS.out _ (G.out.below Y1.out)).mono ?_
        rintro e y2 ⟨back, okS, ⟨ab, cb, rfl, ob, by2⟩, hpost⟩
        have Y2 := Lib.hid (below_step Y1.out (Nat.le_refl _) by2); have S9 := Lib.hid (S8.out.below by2); have RB := Lib.hid ob.rd
        have hbl := ob.len_le
        have HPO := Lib.hid hpost
        clear ob by2 hpost
        go_wp2_with fail
        refine (implEncodeSchema_any sa sc s _ S9.out hs6).mono ?_
        rintro e y3 ⟨ae, ce, rfl, oe, by3⟩
        have Y3 := Lib.hid (below_step Y2.out (Nat.le_refl _) by3); have S10 := Lib.hid (S9.out.below by3); have RB3 := Lib.hid (RB.out.below by3); have RE := Lib.hid oe.rd
        have hce := oe.cap_ge; have hce' := oe.cap_le; have hel := oe.len_le
        clear oe by3
        go_wp2_with fail
        refine (implDecodeSchema_any ae ce (encQ s) _ (GE.out.below Y3.out) RE.out (encQ_by s) hel hce hce').mono ?_
        rintro e y4 ⟨ad, cd, rfl, od, by4⟩
        have Y4 := Lib.hid (below_step Y3.out (Nat.le_refl _) by4); have S11 := Lib.hid (S10.out.below by4); have RB4 := Lib.hid (RB3.out.below by4); have RD := Lib.hid od.rd
        have hdl := od.len_le
        clear od by4
        go_wp2_with fail
        refine (specSchema_any sa sc s _ S11.out (by omega)).mono ?_
        rintro e y5 ⟨rfl, by5⟩
        have Y5 := Lib.hid (below_step Y4.out (Nat.le_refl _) by5); have RB5 := Lib.hid (RB4.out.below by5); have RD5 := Lib.hid (RD.out.below by5)
        clear by5
        cases hsc : schemaB s with
        | false =>
          have TE := Lib.hid (show txtO s = ⟨#[]⟩ by unfold txtO; rw [if_neg (by rw [hsc]; simp)])
          rw [TE.out]
          clear hsc
          go_wp2_with fail
          go_ret
          exact ⟨rfl, Y5.out⟩
        | true =>
          have PT := Lib.hid (parse_text hsc HPO.out)
          obtain ⟨p1, p2⟩ := PT.out
          subst p1
          have DQ := Lib.hid (decQ_enc hsc)
          obtain ⟨r, hr⟩ : ∃ r, r = decQ (encQ s) := ⟨_, rfl⟩
          rw [← hr] at RD5 hdl ⊢
          have hr2 : r = some s := by rw [hr]; exact DQ.out
          subst hr2
          simp only [Option.getD_some, Option.isSome_some] at RD5 hdl ⊢
          have hb6 : back.length ≤ 1048576 := by
            rcases HPO.out with ⟨_, h2, _⟩ | ⟨h1, _⟩
            · have := (schemaB_iff.1 h2).1; omega
            · cases h1
          clear hr hsc
          go_wp2_with fail
          refine (TX.out _ back ab cb RB5.out hb6).mono ?_
          rintro e y6 ⟨rfl, by6⟩
          rw [p2]
          have Y6 := Lib.hid (below_step Y5.out (Nat.le_refl _) by6); have RD6 := Lib.hid (RD5.out.below by6); clear by6
          go_wp2_with fail
          refine (TX.out _ s ad cd RD6.out hs6).mono ?_
          rintro e y7 ⟨rfl, by7⟩
          have Y7 := Lib.hid (below_step Y6.out (Nat.le_refl _) by7); clear by7
          go_wp2_with fail
          go_ret
          exact ⟨rfl, Y7.out⟩
end Go.Proofs.YtfpbhedophlnkaaGreatDoor.fnWidths
