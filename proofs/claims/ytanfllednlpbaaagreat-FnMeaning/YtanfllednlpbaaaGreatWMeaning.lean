/-
  The walk of FnMeaning.
-/
import Derived.Test.YtanfllednlpbaaaGreatRows
import Derived.Test.YtanfllednlpbaaaGreatM37x
import Derived.Test.YtanfllednlpbaaaGreatM49x
import Derived.Test.YtanfllednlpbaaaGreatM54x
import Derived.Test.YtanfllednlpbaaaGreatM25x
namespace Go.Proofs.YtanfllednlpbaaaGreat.fnMeaning
open Go.RowKit
set_option linter.unusedSimpArgs false
set_option linter.unusedVariables false
set_option linter.unusedVariables false

theorem evO_empty {s : List Tb} {l : List RowsL} {p : List Nd} (h : (evO s l p).2 ≠ 0) : (evO s l p).1 = [] := by
  cases hc : canB s l p with
  | false => rw [evO_no hc]
  | true =>
    obtain ⟨h1, h2, h3⟩ := can_parts hc
    obtain ⟨hs, T, hT, hw⟩ := typ_tree h2
    cases he : evT (gOf s l) T with
    | none => rw [evO_big hc hT he]
    | some x => rw [evO_fine hc hT he] at h; exact absurd rfl h
/-- What is known of the sizes of a plan's nodes. -/
structure SizF (p : List Nd) (F : Nat → Int) : Prop where
  less : ∀ (k : Nat) (n : Nd), p[k]? = some n → (n.kind = 1 ∨ n.kind = 6 ∨ n.kind = 7) → kidsN p (k : Int) = [((k + 1 : Nat) : Int)] ∧ k + 1 < p.length ∧ F k ≤ F (k + 1)
  same : ∀ (k : Nat) (n : Nd), p[k]? = some n → (n.kind = 2 ∨ n.kind = 5) → kidsN p (k : Int) = [((k + 1 : Nat) : Int)] ∧ k + 1 < p.length ∧ F k = F (k + 1)
  both : ∀ (k : Nat) (n : Nd), p[k]? = some n → n.kind = 4 → ∃ j : Nat, kidsN p (k : Int) = [((k + 1 : Nat) : Int), (j : Int)] ∧ k + 1 < p.length ∧ j < p.length ∧ F k = F (k + 1) + F j
  pos : ∀ k, 0 ≤ F k ∧ F k ≤ 200
theorem sizF_of {g : Sto} {p : List Nd} {T : Tr} {l : RowsL} (ht : treeN p = some T) (hl : evT g T = some l) (hb : ∀ k, 0 ≤ sizAt g p k ∧ sizAt g p k ≤ 200) : SizF p (sizAt g p) :=
  ⟨fun k n hn hk => size_less ht hl hn hk, fun k n hn hk => size_same ht hl hn hk, fun k n hn hk => size_both ht hl hn hk, hb⟩
theorem evT_200 {g : Sto} {T : Tr} {l : RowsL} (h : evT g T = some l) : l.length ≤ 200 := by
  cases T with
  | t0 n pl en => unfold evT at h; obtain ⟨rfl, h2⟩ := few_some h; exact h2
  | t1 n pl en c => exact (evT_1 h).choose_spec.2.2
  | t2 n pl en c d => obtain ⟨_, _, _, _, _, h2⟩ := evT_2 h; exact h2
theorem sizAt_pos (g : Sto) (p : List Nd) (k : Nat) : 0 ≤ sizAt g p k ∧ sizAt g p k ≤ 200 := by
  unfold sizAt
  split
  · rename_i S hS
    unfold sizN
    cases h : evT g S with
    | none => simp
    | some l => have := evT_200 h; simp; omega
  · omega
theorem sameZ {a b : Option Addr} {c d n : Nat} {Z : List Int} {w : World} (hn : Z.length = n) (hm : Z.length ≤ maxLen) (h : Rd w .i64 a Z) (k : Rd w .i64 b Z) : Calls Tryz.prog 13 #[.slice a n c, .slice b n d] w fun e w' => e = .returned (.bool true) ∧ ∃ q, w' = w.drewN q := by
  subst hn
  have := same_q a b c d Z Z w h k hm hm
  rwa [eqL_refl] at this

set_option maxRecDepth 100000 in
set_option maxHeartbeats 12800000 in
theorem walk (w : World) (a0 : Option Addr) (cap0 : Nat) (code : List Int) (hn : code.length ≤ maxLen) (rd0 : Rd w .u8 a0 code) (hby : By code) :
    Calls Tryz.prog 3 #[.slice a0 code.length cap0] w fun e w' => e = .returned (.bool true) ∧ Below w.heap.size w w' := by
  by_cases h : 1048576 < code.length
  · have B := Lib.hid (big_t a0 code.length cap0 w h hn)
    go_enter Tryz.func3, Tryz.ntmps3
    go_wp2_with fail
    refine B.out.mono ?_
    rintro e w' ⟨rfl, rfl⟩
    go_wp2_with fail
    go_ret
    exact ⟨rfl, Below.refl _ _⟩
  have B := Lib.hid (big_f a0 code.length cap0 w h)
  have DR := Lib.hid (drawEvalPlan_any a0 cap0 code w rd0 hby (by omega))
  clear rd0 hby hn h
  generalize code.length = cn at *
  go_enter Tryz.func3, Tryz.ntmps3
  go_wp2_with fail
  refine B.out.mono ?_
  rintro e w' ⟨rfl, rfl⟩
  go_wp2_with fail
  refine DR.out.mono ?_
  rintro e w1 ⟨s, sa, sc, l, lb, lc, p, b, c, rfl, s10, sr, l10, lf, lr, p82, psm, pr, b1⟩
  have S1 := Lib.hid sr; have R1 := Lib.hid lr; have P1 := Lib.hid pr; have B1 := Lib.hid b1; have SM := Lib.hid psm
  have HRR := Lib.hid (show ∀ x ∈ l, x.length ≤ 1048576 ∧ ∀ y ∈ x, y.length ≤ 1048576 from fun x hx => ⟨by have := (lf x hx).1; omega, fun y hy => by have := (lf x hx).2 y hy; omega⟩)
  have hs6 : s.length ≤ 1048576 := by omega
  have hl6 : l.length ≤ 1048576 := by omega
  have hp6 : p.length ≤ 1048576 := by omega
  clear sr lf lr psm pr b1 DR B
  have K := Lib.hid (show ∀ w e w', EvalPost w s l p e w' → ∃ a c, e = .returned (.tuple #[.slice a (evO s l p).1.length c, .int .i64 (evO s l p).2]) ∧ OwnR w' w.heap.size a c (evO s l p).1 ∧ Below w.heap.size w w' from fun w e w' ⟨a, c, h1, h2, _, _, h3⟩ => ⟨a, c, h1, h2, h3⟩)
  have SPEC := Lib.hid (fun W (h1 : RdT W sa s) (h2 : RdRR W (some ⟨lb, 0, none⟩) l) (h3 : RdN W (some ⟨b, 0, none⟩) p) => (specEval_any sa sc s _ lc l _ c p W h1 h2 h3 hs6 hl6 HRR.out SM.out).mono (K.out W))
  have IMPL := Lib.hid (fun W (h1 : RdT W sa s) (h2 : RdRR W (some ⟨lb, 0, none⟩) l) (h3 : RdN W (some ⟨b, 0, none⟩) p) => (implEval_any sa sc s _ lc l _ c p W h1 h2 h3 hs6 hl6 HRR.out SM.out).mono (K.out W))
  clear K
  by_cases hz : (evO s l p).2 = 0
  case neg =>
    have hx := evO_empty hz
    rw [hx] at SPEC IMPL
    generalize (evO s l p).2 = k at hz SPEC IMPL
    have hk1 : (k != k) = false := by simp
    have hk0 : (k != 0) = true := by simpa using hz
    clear hx hz
    go_wp2_with fail
    refine (SPEC.out _ S1.out R1.out P1.out).mono ?_
    rintro e w2 ⟨a2, c2, rfl, o2, b2⟩
    have B2 := Lib.hid (below_step B1.out (Nat.le_refl _) b2); have S2 := Lib.hid (S1.out.below b2); have R2 := Lib.hid (R1.out.below b2); have P2 := Lib.hid (P1.out.below b2); have X2 := Lib.hid o2.rd
    clear o2 b2
    go_wp2_with fail
    refine (IMPL.out _ S2.out R2.out P2.out).mono ?_
    rintro e w3 ⟨a3, c3, rfl, o3, b3⟩
    have B3 := Lib.hid (below_step B2.out (Nat.le_refl _) b3); have X3 := Lib.hid (X2.out.below b3); have Y3 := Lib.hid o3.rd
    have SR := Lib.hid (implSameRows_any a3 a2 c3 c2 [] [] w3 Y3.out X3.out (by simp) (by simp))
    rw [eqR_refl] at SR
    clear o3 b3 X2 S2 R2 P2
    go_wp2_with (go_at_call 10; refine SR.out.mono ?_; rintro e w4 ⟨rfl, b4⟩; have B4 := Lib.hid (below_step B3.out (Nat.le_refl _) b4); clear b4)
    go_ret
    exact ⟨rfl, B4.out⟩
  obtain ⟨hAW, h200, T, hT, hE⟩ := evO_wide hz
  have SO := Lib.hid (show sizO s l p = sizesO (gOf s l) p by unfold sizO; rw [if_pos hz])
  have ZL := Lib.hid (sizesO_len (gOf s l) p)
  have ZA := Lib.hid (fun k (h : k < p.length) => sizesO_at (g := gOf s l) h)
  have Z0 := Lib.hid (size_top hT hE)
  have FF := Lib.hid (sizF_of hT hE (sizAt_pos (gOf s l) p))
  have hp0 : 0 < p.length := treeN_pos hT
  have K2 := Lib.hid (show ∀ w e w', SizesPost w s l p e w' → ∃ a c, e = .returned (.slice a p.length c) ∧ Own w' w.heap.size 3 .i64 a c (sizesO (gOf s l) p) ∧ Below w.heap.size w w' from fun w e w' ⟨a, c, h1, h2, _, _, h3⟩ => by rw [SO.out] at h1 h2; rw [ZL.out] at h1; exact ⟨a, c, h1, h2, h3⟩)
  have SZS := Lib.hid (fun W (h1 : RdT W sa s) (h2 : RdRR W (some ⟨lb, 0, none⟩) l) (h3 : RdN W (some ⟨b, 0, none⟩) p) => (specSizes_any sa sc s _ lc l _ c p W h1 h2 h3 hs6 hl6 HRR.out SM.out).mono (K2.out W))
  have SZI := Lib.hid (fun W (h1 : RdT W sa s) (h2 : RdRR W (some ⟨lb, 0, none⟩) l) (h3 : RdN W (some ⟨b, 0, none⟩) p) => (implSizes_any sa sc s _ lc l _ c p W h1 h2 h3 hs6 hl6 HRR.out SM.out).mono (K2.out W))
  have HAW := Lib.hid hAW
  rw [hz] at SPEC IMPL
  have WD := Lib.hid (fun W (h1 : RdT W sa s) (h3 : RdN W (some ⟨b, 0, none⟩) p) => implWidth_any sa sc s _ c p W h1 h3 hs6 SM.out)
  obtain ⟨x, hx⟩ : ∃ x, x = (evO s l p).1 := ⟨_, rfl⟩
  rw [← hx] at SPEC IMPL HAW h200 Z0
  obtain ⟨Z, hZ⟩ : ∃ Z, Z = sizesO (gOf s l) p := ⟨_, rfl⟩
  rw [← hZ] at ZL SZS SZI
  simp only [← hZ] at ZA
  generalize sizAt (gOf s l) p = F at ZA Z0 FF
  generalize widO s p = wo at HAW WD
  have BG := Lib.hid (bag_sort' h200)
  have hxr : ∀ r ∈ x, r.length ≤ 1048576 := by
    have := (evO_small s l p).2
    rw [← hx] at this
    intro r hr; have := this r hr; omega
  have HXR := Lib.hid hxr
  clear hAW hz hT hE SO K2 hx hZ hxr
  have hx6 : x.length ≤ 1048576 := by omega
  have hxm : x.length ≤ maxLen := by unfold maxLen; omega
  have hzm : Z.length ≤ maxLen := by have := ZL.out; unfold maxLen; omega
  go_wp2_with fail
  refine (SPEC.out _ S1.out R1.out P1.out).mono ?_
  rintro e w2 ⟨a2, c2, rfl, o2, b2⟩
  have B2 := Lib.hid (below_step B1.out (Nat.le_refl _) b2); have S2 := Lib.hid (S1.out.below b2); have R2 := Lib.hid (R1.out.below b2); have P2 := Lib.hid (P1.out.below b2); have X2 := Lib.hid o2.rd
  clear o2 b2 S1 R1 P1 B1 SPEC
  go_wp2_with fail
  refine (IMPL.out _ S2.out R2.out P2.out).mono ?_
  rintro e w3 ⟨a3, c3, rfl, o3, b3⟩
  have B3 := Lib.hid (below_step B2.out (Nat.le_refl _) b3); have S3 := Lib.hid (S2.out.below b3); have R3 := Lib.hid (R2.out.below b3); have P3 := Lib.hid (P2.out.below b3); have X3 := Lib.hid (X2.out.below b3); have Y3 := Lib.hid o3.rd
  have SR := Lib.hid (implSameRows_any a3 a2 c3 c2 x x w3 Y3.out X3.out hxm hxm)
  rw [eqR_refl] at SR
  clear o3 b3 S2 R2 P2 X2 B2 IMPL
  go_wp2_with (go_at_call 10; refine SR.out.mono ?_; rintro e w4 ⟨rfl, b4⟩; have B4 := Lib.hid (below_step B3.out (Nat.le_refl _) b4); have S4 := Lib.hid (S3.out.below b4); have R4 := Lib.hid (R3.out.below b4); have P4 := Lib.hid (P3.out.below b4); have Y4 := Lib.hid (Y3.out.below b4); clear b4)
  refine (WD.out _ S4.out P4.out).mono ?_
  rintro e w5 ⟨rfl, b5⟩
  have B5 := Lib.hid (below_step B4.out (Nat.le_refl _) b5); have S5 := Lib.hid (S4.out.below b5); have R5 := Lib.hid (R4.out.below b5); have P5 := Lib.hid (P4.out.below b5); have Y5 := Lib.hid (Y4.out.below b5)
  clear b5 S3 R3 P3 X3 Y3 SR B3 S4 R4 P4 Y4 B4 WD
  go_wp2_with fail
  go_loop [11] (fun i => ∃ j : Nat, i = .int .i64 j ∧ j ≤ x.length) (fun i => x.length - (intOf i).toNat)
  case atStart => exact ⟨0, rfl, Nat.zero_le _⟩
  case round =>
    obtain ⟨j, rfl, hj⟩ := hrel
    by_cases hlt : j < x.length
    · have i1 : (j : Int) < (x.length : Int) := by omega
      obtain ⟨br, off, r, ar, cr, rfl, hrn, ⟨e0, _⟩⟩ := Y5.out.at_ hlt
      have hne : ((r.length : Int) != wo) = false := by have := HAW.out r (List.mem_of_getElem? hrn); simp; exact this
      clear hrn
      go_wp2_with fail
      go_round
      case rel => exact ⟨j + 1, by go_num, by omega⟩
      case measure => simp [intOf]; omega
    · obtain rfl : j = x.length := by omega
      have i1 : ¬ ((x.length : Int) < (x.length : Int)) := by omega
      go_wp2_with fail
      refine (SZI.out _ S5.out R5.out P5.out).mono ?_
      rintro e w6 ⟨za, zc, rfl, zo, b6⟩
      obtain ⟨zb, rfl, _, hzb⟩ : ∃ g, za = some ⟨g, 0, none⟩ ∧ w5.heap.size ≤ g ∧ g < w6.heap.size := by
        rcases zo.form with ⟨_, _, e⟩ | h
        · have := ZL.out; rw [e] at this; simp at this; omega
        · exact h
      have B6 := Lib.hid (below_step B5.out (Nat.le_refl _) b6); have S6 := Lib.hid (S5.out.below b6); have R6 := Lib.hid (R5.out.below b6); have P6 := Lib.hid (P5.out.below b6); have Y6 := Lib.hid (Y5.out.below b6)
      have ZC := Lib.hid (show ∀ k, k < p.length → w6.cell? ⟨zb, k, none⟩ = some (.int .i64 (F k)) from fun k hk => by
        have h1 := zo.cell k (by have := ZL.out; omega)
        rw [h1, List.getD_eq_getElem?_getD, ZA.out k hk]; rfl)
      have ZR := Lib.hid zo.rd
      have zp : ((p.length : Int) != (p.length : Int)) = false := by simp
      clear zo b6 S5 R5 P5 Y5 B5 SZI
      have hp0z : (0 : Int) < (p.length : Int) := by omega
      have hx0 : ((x.length : Int) != (x.length : Int)) = false := by simp
      go_wp2_with (first
        | (go_at_call 14; refine (SZS.out _ S6.out R6.out P6.out).mono ?_; rintro e w7 ⟨zd, ze, rfl, zo7, b7⟩; have B7 := Lib.hid (below_step B6.out (Nat.le_refl _) b7); have P7 := Lib.hid (P6.out.below b7); have Y7 := Lib.hid (Y6.out.below b7); have ZD := Lib.hid zo7.rd; have b7' := Lib.hid b7; clear zo7 b7)
        | (go_at_call 13; refine (sameZ ZL.out hzm (ZR.out.below b7'.out) ZD.out).mono ?_; rintro e w8 ⟨rfl, q, hw8⟩; have d8 : Below w7.heap.size w7 w8 := (by rw [hw8]; exact below_drewN (Below.refl _ _) q); clear hw8; have D8 := Lib.hid (b7'.out.trans (d8.mono b7'.out.size)); have B8 := Lib.hid (below_step B7.out (Nat.le_refl _) d8); have P8 := Lib.hid (P7.out.below d8); have Y8 := Lib.hid (Y7.out.below d8); have z8 := (D8.out.cell (p := ⟨zb, 0, none⟩) hzb).trans (ZC.out 0 hp0); rw [Z0.out] at z8; clear d8))
      have ZC8 := Lib.hid (show ∀ k, k < p.length → w8.cell? ⟨zb, k, none⟩ = some (.int .i64 (F k)) from fun k hk => (D8.out.cell (p := ⟨zb, k, none⟩) hzb).trans (ZC.out k hk))
      have hz8 : zb < w8.heap.size := Nat.lt_of_lt_of_le hzb D8.out.size
      clear z8 D8 ZC ZD P7 Y7 B7 P6 Y6 B6 R6 S6 b7' SZS ZR hzb
      go_loopw [13] (fun i wr => ∃ j : Nat, i = .int .i64 j ∧ j ≤ p.length ∧ Below w8.heap.size w8 wr) (fun i _ => p.length - (intOf i).toNat)
      case atStart => exact ⟨0, rfl, Nat.zero_le _, Below.refl _ _⟩
      case round =>
        obtain ⟨j, rfl, hj, hb⟩ := hrel
        have HB := Lib.hid hb
        clear hb
        by_cases hlt : j < p.length
        · have i1 : (j : Int) < (p.length : Int) := by omega
          have CH := Lib.hid (specChildren_any (some ⟨b, 0, none⟩) c p j wr (P8.out.below HB.out) hp6)
          obtain ⟨b', off, n, na, nc, hbe, hn, hat⟩ := (P8.out.below HB.out).at_ hlt
          simp only [Option.some.injEq, Addr.mk.injEq, and_true] at hbe
          obtain ⟨rfl, rfl⟩ := hbe
          have c0 := hat.c0
          rw [Nat.zero_add] at c0
          have HN := Lib.hid hn
          clear hat hn
          have zj := (HB.out.cell (p := ⟨zb, j, none⟩) hz8).trans (ZC8.out j hlt)
          by_cases h1 : n.kind = 1 ∨ n.kind = 6 ∨ n.kind = 7
          · obtain ⟨hk, hj1, hle⟩ := FF.out.less j n HN.out h1
            rw [hk] at CH
            generalize hm : j + 1 = m at CH hj1 hle
            have HM := Lib.hid hm
            have zm := (HB.out.cell (p := ⟨zb, m, none⟩) hz8).trans (ZC8.out m hj1)
            generalize F j = fj at zj hle
            generalize F m = fm at zm hle
            have hgt : ¬ (fm < fj) := by omega
            have i2 : (m : Int) < (p.length : Int) := by omega
            clear hk hm hle
            generalize hkd : n.kind = kd at c0 h1
            clear hkd
            go_wp2_with fail
            refine CH.out.mono ?_
            rintro e w9 ⟨ka, kc, rfl, ko, kb⟩
            obtain ⟨kg, rfl, _, hkg⟩ : ∃ g, ka = some ⟨g, 0, none⟩ ∧ wr.heap.size ≤ g ∧ g < w9.heap.size := by
              rcases ko.form with ⟨_, _, e⟩ | h
              · cases e
              · exact h
            have k0 : w9.cell? ⟨kg, 0, none⟩ = some (.int .i64 m) := ko.cell 0 (by simp)
            have y0 := (kb.cell (p := ⟨b, j * 7, none⟩) (World.block_lt_of_cell? wr _ c0)).trans c0
            have y1 := (kb.cell (p := ⟨zb, j, none⟩) (World.block_lt_of_cell? wr _ zj)).trans zj
            have y2 := (kb.cell (p := ⟨zb, m, none⟩) (World.block_lt_of_cell? wr _ zm)).trans zm
            have D9 := Lib.hid (below_step HB.out (Nat.le_refl _) kb)
            clear ko kb c0 zj zm CH
            rcases h1 with rfl | rfl | rfl
            all_goals
              go_wp2_with fail
              go_quiet (fail)
              go_wp2_with fail
              go_roundw
              case rel => exact ⟨j + 1, by go_num, by omega, below_drewN D9.out _⟩
              case measure => simp [intOf]; omega
          by_cases h2 : n.kind = 2 ∨ n.kind = 5
          · obtain ⟨hk, hj1, hle⟩ := FF.out.same j n HN.out h2
            rw [hk] at CH
            generalize hm : j + 1 = m at CH hj1 hle
            have HM := Lib.hid hm
            have zm := (HB.out.cell (p := ⟨zb, m, none⟩) hz8).trans (ZC8.out m hj1)
            rw [hle] at zj
            generalize F m = fm at zm zj
            have hgt : (fm != fm) = false := by simp
            have i2 : (m : Int) < (p.length : Int) := by omega
            clear hk hm hle h1
            generalize hkd : n.kind = kd at c0 h2
            clear hkd
            go_wp2_with fail
            refine CH.out.mono ?_
            rintro e w9 ⟨ka, kc, rfl, ko, kb⟩
            obtain ⟨kg, rfl, _, hkg⟩ : ∃ g, ka = some ⟨g, 0, none⟩ ∧ wr.heap.size ≤ g ∧ g < w9.heap.size := by
              rcases ko.form with ⟨_, _, e⟩ | h
              · cases e
              · exact h
            have k0 : w9.cell? ⟨kg, 0, none⟩ = some (.int .i64 m) := ko.cell 0 (by simp)
            have y0 := (kb.cell (p := ⟨b, j * 7, none⟩) (World.block_lt_of_cell? wr _ c0)).trans c0
            have y1 := (kb.cell (p := ⟨zb, j, none⟩) (World.block_lt_of_cell? wr _ zj)).trans zj
            have y2 := (kb.cell (p := ⟨zb, m, none⟩) (World.block_lt_of_cell? wr _ zm)).trans zm
            have D9 := Lib.hid (below_step HB.out (Nat.le_refl _) kb)
            clear ko kb c0 zj zm CH
            rcases h2 with rfl | rfl
            all_goals
              go_wp2_with fail
              go_quiet (fail)
              go_wp2_with fail
              go_roundw
              case rel => exact ⟨j + 1, by go_num, by omega, below_drewN D9.out _⟩
              case measure => simp [intOf]; omega
          by_cases h4 : n.kind = 4
          · obtain ⟨t, hk, hj1, hj2, hle⟩ := FF.out.both j n HN.out h4
            rw [hk] at CH
            generalize hm : j + 1 = m at CH hj1 hle
            have HM := Lib.hid hm
            have zm := (HB.out.cell (p := ⟨zb, m, none⟩) hz8).trans (ZC8.out m hj1)
            have zt := (HB.out.cell (p := ⟨zb, t, none⟩) hz8).trans (ZC8.out t hj2)
            have f1 := FF.out.pos m
            have f2 := FF.out.pos t
            rw [hle] at zj
            generalize F m = fm at zm zj f1
            generalize F t = ft at zt zj f2
            have hwr : IntKind.i64.wrap (fm + ft) = fm + ft := by rw [IntKind.wrap_i64]; omega
            have hgt : (fm + ft != fm + ft) = false := by simp
            have i2 : (m : Int) < (p.length : Int) := by omega
            have i3 : (t : Int) < (p.length : Int) := by omega
            clear hk hm hle h1 h2
            rw [h4] at c0
            clear h4
            go_wp2_with fail
            refine CH.out.mono ?_
            rintro e w9 ⟨ka, kc, rfl, ko, kb⟩
            obtain ⟨kg, rfl, _, hkg⟩ : ∃ g, ka = some ⟨g, 0, none⟩ ∧ wr.heap.size ≤ g ∧ g < w9.heap.size := by
              rcases ko.form with ⟨_, _, e⟩ | h
              · cases e
              · exact h
            have k0 : w9.cell? ⟨kg, 0, none⟩ = some (.int .i64 m) := ko.cell 0 (by simp)
            have k1 : w9.cell? ⟨kg, 1, none⟩ = some (.int .i64 t) := ko.cell 1 (by simp)
            have y0 := (kb.cell (p := ⟨b, j * 7, none⟩) (World.block_lt_of_cell? wr _ c0)).trans c0
            have y1 := (kb.cell (p := ⟨zb, j, none⟩) (World.block_lt_of_cell? wr _ zj)).trans zj
            have y2 := (kb.cell (p := ⟨zb, m, none⟩) (World.block_lt_of_cell? wr _ zm)).trans zm
            have y3 := (kb.cell (p := ⟨zb, t, none⟩) (World.block_lt_of_cell? wr _ zt)).trans zt
            have D9 := Lib.hid (below_step HB.out (Nat.le_refl _) kb)
            clear ko kb c0 zj zm zt CH
            go_wp2_with fail
            go_quiet (fail)
            go_wp2_with fail
            go_roundw
            case rel => exact ⟨j + 1, by go_num, by omega, below_drewN D9.out _⟩
            case measure => simp [intOf]; omega
          · have e1 : (n.kind == 1) = false := by simp; omega
            have e2 : (n.kind == 7) = false := by simp; omega
            have e3 : (n.kind == 6) = false := by simp; omega
            have e4 : (n.kind == 5) = false := by simp; omega
            have e5 : (n.kind == 2) = false := by simp; omega
            have e6 : (n.kind == 4) = false := by simp; omega
            clear h1 h2 h4 zj
            generalize kidsN p (j : Int) = ks at CH
            generalize hkd : n.kind = kd at c0 e1 e2 e3 e4 e5 e6
            clear hkd
            go_wp2_with fail
            refine CH.out.mono ?_
            rintro e w9 ⟨ka, kc, rfl, ko, kb⟩
            have y0 := (kb.cell (p := ⟨b, j * 7, none⟩) (World.block_lt_of_cell? wr _ c0)).trans c0
            have D9 := Lib.hid (below_step HB.out (Nat.le_refl _) kb)
            clear ko kb c0 CH
            go_wp2_with fail
            go_roundw
            case rel => exact ⟨j + 1, by go_num, by omega, D9.out⟩
            case measure => simp [intOf]; omega
        · obtain rfl : j = p.length := by omega
          have i1 : ¬ ((p.length : Int) < (p.length : Int)) := by omega
          have SO := Lib.hid (implSortRows_any a3 c3 x wr (Y8.out.below HB.out) hx6 HXR.out)
          obtain ⟨hbg, hsl⟩ := BG.out
          have HX2 := Lib.hid (show ∀ r ∈ sortO x, r.length ≤ 1048576 from fun r hr => by
            by_cases h2 : 200 < x.length
            · rw [sortO_many h2] at hr; simp at hr
            · rw [sortO_few (by omega)] at hr; exact HXR.out r (sortL_mem hr))
          unfold MadeR at SO
          have SBG := Lib.hid (show ∀ (a d : Option Addr) (c e m : Nat) W, m = (sortO x).length → RdR W a (sortO x) → RdR W d x → Calls Tryz.prog 17 #[.slice a m c, .slice d x.length e] W fun e w' => e = .returned (.bool true) ∧ Below W.heap.size W w' from fun a d c e m W hm h k => by
            subst hm
            have := implSameBag_any a d c e (sortO x) x W h k (by omega) hx6 HX2.out HXR.out
            rwa [hbg] at this)
          rw [hsl] at SO
          have HSL := Lib.hid hsl
          generalize sortO x = sx at SO SBG HSL
          clear hbg hsl HX2
          go_wp2_with fail
          refine SO.out.mono ?_
          rintro e w10 ⟨a10, c10, rfl, o10, _, _, b10⟩
          have B10 := Lib.hid (below_step HB.out (Nat.le_refl _) b10)
          have X10 := Lib.hid o10.rd
          have Y10 := Lib.hid ((Y8.out.below HB.out).below b10)
          clear o10 b10 SO
          go_wp2_with (go_at_call 17; refine (SBG.out _ _ _ _ _ _ HSL.out.symm X10.out Y10.out).mono ?_; rintro e w11 ⟨rfl, b11⟩; have B11 := Lib.hid (below_step B10.out (Nat.le_refl _) b11); clear b11)
          go_ret
          exact ⟨by first | rfl | simp, B8.out.trans (B11.out.mono B8.out.size)⟩
end Go.Proofs.YtanfllednlpbaaaGreat.fnMeaning

