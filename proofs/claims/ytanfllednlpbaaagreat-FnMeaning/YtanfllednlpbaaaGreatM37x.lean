/-
  Contract of spec.l04DrawStore: rows for each table, drawn, and one of them bent. For every slice of bytes. Contract of spec.DrawEvalPlan: a schema, a store and a plan, drawn. For every slice of bytes.
-/
import Derived.Test.YtanfllednlpbaaaGreatM36x
import Derived.Deep.RegionHeld3
import Derived.Test.YtanfllednlpbaaaGreatM16x
namespace Go.Proofs.YtanfllednlpbaaaGreat
open Go.RowKit
set_option linter.unusedSimpArgs false
set_option linter.unusedVariables false
def FewR (k : Nat) (l : List RowsL) : Prop := ∀ r ∈ l, r.length ≤ k ∧ ∀ y ∈ r, y.length ≤ 8
theorem FewR.nil {k : Nat} : FewR k [] := fun r hr => by cases hr
theorem FewR.snoc {k : Nat} {l : List RowsL} {r : RowsL} (h : FewR k l) (h1 : r.length ≤ k) (h2 : ∀ y ∈ r, y.length ≤ 8) : FewR k (l ++ [r]) := by
  intro x hx
  rcases List.mem_append.1 hx with hx | hx
  · exact h x hx
  · simp at hx; subst hx; exact ⟨h1, h2⟩
theorem FewR.set {k m : Nat} {l : List RowsL} {r : RowsL} {t : Nat} (h : FewR k l) (hkm : k ≤ m) (h1 : r.length ≤ m) (h2 : ∀ y ∈ r, y.length ≤ 8) : FewR m (l.set t r) := by
  intro x hx
  rcases List.mem_or_eq_of_mem_set hx with hx | rfl
  · exact ⟨Nat.le_trans (h x hx).1 hkm, (h x hx).2⟩
  · exact ⟨h1, h2⟩
theorem FewR.mono {k m : Nat} {l : List RowsL} (h : FewR k l) (hkm : k ≤ m) : FewR m l := fun x hx => ⟨Nat.le_trans (h x hx).1 hkm, (h x hx).2⟩
theorem rows_news {w : World} {base b c : Nat} {q : RowsL} {xs : List Value} {A : Nat → Option Addr} {C : Nat → Nat} (h : PartR w base b c q.length q q.length xs A C) : xs.length = q.length * 1 ∧ (∀ j u, xs[j]? = some u → w.cell? ((⟨b, 0, none⟩ : Addr).add j) = some u) ∧ ∀ u ∈ xs, u.oneCell' = true := by
  have hl : xs.length = q.length := by have := h.own.1; omega
  refine ⟨by omega, fun j u hu => ?_, fun u hu => ?_⟩
  · have hj : j < xs.length := lt_of_get hu
    have hadd : (⟨b, 0, none⟩ : Addr).add j = ⟨b, j, none⟩ := by unfold Addr.add; split <;> simp_all
    rw [hadd, World.ownsRow.cellAt h.own j (by omega)]; exact hu
  · obtain ⟨j, hj⟩ := List.mem_iff_getElem?.1 hu
    have hjl := lt_of_get hj
    have := h.cells j q[j] (by omega) (List.getElem?_eq_getElem (by omega))
    rw [hj] at this; cases this; rfl
def StoP (w : World) (g : Nat) (xo : Option Addr) (d : Nat) (code : List Int) (e : Ending) (w' : World) : Prop :=
  ∃ (l : List RowsL) (b c : Nat), e = .returned (.slice (some ⟨b, 0, none⟩) l.length c) ∧ l.length ≤ 10 ∧ FewR 60 l ∧ LooseRR w' w.heap.size (some ⟨b, 0, none⟩) l ∧ Drew w g xo d code w'
def StoRel (w wr : World) (g : Nat) (xo : Option Addr) (d : Nat) (code : List Int) (n : Nat) (v i : Value) : Prop :=
  ∃ (j gr c : Nat) (l : List RowsL) (xs : List Value) (B C L H : Nat → Nat), j ≤ n ∧ i = .int .i64 j ∧ v = .slice (some ⟨gr, 0, none⟩) j c ∧ l.length = j ∧ FewR 4 l ∧ PartRO wr w.heap.size gr c l xs B C L H ∧ Drew w g xo d code wr
theorem rows8 {r : RowsL} {wd : Nat} (hw : wd ≤ 8) (h : ∀ y ∈ r, y.length = wd ∧ ∀ z ∈ y, valR z) : ∀ y ∈ r, y.length ≤ 8 := fun y hy => by have := (h y hy).1; omega
theorem stop_same {w w' : World} {g : Nat} {xo : Option Addr} {d : Nat} {code : List Int} {gr c j : Nat} {l : List RowsL} {xs : List Value} {B C L H : Nat → Nat} {e : Ending} (hl : l.length = j) (hj : j ≤ 10) (hf : FewR 4 l) (hp : PartRO w' w.heap.size gr c l xs B C L H) (hd : Drew w g xo d code w') (he : e = .returned (.slice (some ⟨gr, 0, none⟩) j c)) : StoP w g xo d code e w' :=
  ⟨l, gr, c, by rw [he, hl], by omega, hf.mono (by omega), hp.loose, hd⟩
set_option maxRecDepth 100000 in
set_option maxHeartbeats 16400000 in
theorem drawStore_any (g : Nat) (xo : Option Addr) (d : Nat) (code : List Int) (Bs : Nat) (sa : Option Addr) (cs : Nat) (s : List Tb) (w : World) (hc : Cur w g xo d code) (hl : code.length ≤ 1048577) (hs : OwnT w Bs sa cs s) (hgB : g < Bs) (hsl : s.length ≤ 10) (hth : Thin s) :
    Calls Tryz.prog 40 #[.pointer (some ⟨g, 0, none⟩), .slice sa s.length cs] w (StoP w g xo d code) := by
  have hglt := hc.lt
  have HC := Lib.hid hc; have HL := Lib.hid hl; have HS := Lib.hid hs; have TH := Lib.hid hth
  have P0 := Lib.hid (PartRO.start w)
  have D0 : Hid (Drew w g xo d code (w.alloc (Obj.cells #[] 29))) := ⟨hc.keepB ((Below.refl _ _).alloc (Nat.le_refl _) _), grownBy_below (World.grownBy.refl _ _) ((Below.refl _ _).alloc (Nat.le_refl _) _)⟩
  clear hc hl hs hth
  go_enter Tryz.func40, Tryz.ntmps40
  go_wp2_with fail
  go_loopw [5, 6] (fun v i wr => StoRel w wr g xo d code s.length v i) (fun _ i _ => s.length - (intOf i).toNat)
  case atStart => exact ⟨0, _, _, [], [], _, _, _, _, Nat.zero_le _, rfl, rfl, rfl, FewR.nil, P0.out, D0.out⟩
  case round =>
    clear P0 D0
    obtain ⟨j, gr, cc, l, xs, B, C, L, H, hj, rfl, rfl, hlj, hfw, hp, hd⟩ := hrel
    have HLJ := Lib.hid hlj; have FW := Lib.hid hfw; have HP := Lib.hid hp; have HD := Lib.hid hd
    have XL : Hid (xs.length = j) := by have := hp.own.1; show _ = _; omega
    have hzw := hd.2.size
    have ST := Lib.hid (HS.out.draw hd.2 hgB)
    have hgrb := (owns_block hp.own).1
    clear hlj hfw hp hd
    by_cases hlt : j < s.length
    · have i1 : (j : Int) < (s.length : Int) := by omega
      obtain ⟨b, off, t, rfl, ht, hat⟩ := ST.out.rd.at_ hlt
      have htw := TH.out t (List.mem_of_getElem? ht)
      obtain ⟨e0, e1, _⟩ := hat
      obtain ⟨wd, hwd⟩ : ∃ wd : Nat, t.width = wd := ⟨t.width.toNat, by omega⟩
      have hw7 : wd ≤ 7 := by omega
      rw [hwd] at e1
      have HIN : Hid ((decide ((0 : Int) ≤ (wd : Int)) && decide ((wd : Int) ≤ 8)) = true) := by show _ = _; simp; omega
      clear ht htw hwd e0
      go_wp2_with fail
      refine (l01In_any _ _ _ _).mono ?_
      rintro e w' ⟨rfl, rfl⟩
      rw [HIN.out]
      go_wp2_with fail
      refine (below_d g xo d code 5 _ HD.out.1 HL.out (by omega) (by omega)).mono ?_
      rintro e w3 ⟨z, hz0, hz1, rfl, d3⟩
      obtain ⟨m, rfl⟩ : ∃ m : Nat, z = m := ⟨z.toNat, by omega⟩
      have D3 := Lib.hid d3
      clear d3 e1
      go_wp2_with fail
      refine (drawRows_any g xo d code wd m _ D3.out.1 HL.out (by omega) (by omega)).mono ?_
      rintro e w5 ⟨r, b1, c1, ys, A', C', rfl, hr1, hr2, hp5, d5⟩
      have hr4 : r.length ≤ 4 := by omega
      have R8 := Lib.hid (rows8 (by omega) hr2)
      have hz3 := D3.out.2.size
      have PH := Lib.hid (show PartH w5 wr.heap.size w5.heap.size b1 c1 r from ⟨ys, A', C', hp5.base_le hz3, (owns_block hp5.own).2, fun i x hi hx => ((hp5.cols i _ hi (List.getElem?_eq_getElem hi)).lt x hx).2⟩)
      have G5 := Lib.hid (grownBy_trans D3.out.2 d5.2)
      have D5 := Lib.hid (HD.out.next (D3.out.next d5))
      have hz5 := d5.2.size
      have OV : Hid (OwnV w5 w.heap.size 29 (some ⟨gr, 0, none⟩) cc xs) := by
        have h := (HP.out.draw G5.out hglt).own
        show World.ownsRow _ _ _ _ _ _ _
        rw [HLJ.out] at h
        rw [XL.out]; exact h
      have OL := Lib.hid (show xs ++ [Value.slice (some ⟨b1, 0, none⟩) r.length c1] = xs ++ [Value.slice (some ⟨b1, 0, none⟩) r.length c1] from rfl)
      clear hr1 hr2 hp5 d5
      generalize hrl : r.length = rl at hr4 OL
      have RL := Lib.hid hrl
      clear hrl OL
      go_wp2_with (at_builtin; go_must (refine wpList_appendV _ rfl (.tmp 24) (.tmp 30) 25 rfl w.heap.size 29 (.slice none 0 0) 24 Tryz.underlying25 Tryz.infoSSl rfl (some ⟨gr, 0, none⟩) cc j xs rfl XL.out.symm (OV.out.alloc _) w5.heap.size 1 (.slice (some ⟨b1, 0, none⟩) rl c1) rfl (cell_one _ _ _) rfl (by have := XL.out; unfold maxLen; omega) (by have := XL.out; omega) (by simp; omega) ?_; intro ao3 c3 w6 o6 g6 k6; have o6' := o6; rw [← RL.out] at o6'; obtain ⟨g', rfl, hp'⟩ := HP.out.push hglt G5.out PH.out o6' g6 k6; have P6 := Lib.hid hp'; have D6 := Lib.hid (drew_row HC.out D5.out ((Below.refl _ w5).alloc (Nat.le_refl _) _) g6 (fun q hq => by simp at hq; omega)); clear o6 o6' g6 k6 hp'))
      rw [XL.out]
      go_roundw
      case rel => exact ⟨j + 1, g', c3, l ++ [r], _, _, _, _, _, by omega, by go_num, rfl, by rw [List.length_append, HLJ.out]; rfl, FW.out.snoc (by rw [RL.out]; exact hr4) R8.out, P6.out, D6.out⟩
      case measure => simp [intOf]; omega
    · have hj10 : j ≤ 10 := by omega
      have HJS := Lib.hid (show j = s.length by omega)
      have i1 : ¬ (j : Int) < (s.length : Int) := by omega
      go_wp2_with fail
      refine (l01Once_any g xo d code 15 _ HD.out.1 HL.out (by omega) (by omega)).mono ?_
      rintro e w3 ⟨bo, rfl, c3, g3⟩
      have D3 := Lib.hid (drew_once HD.out c3 g3); have P3 := Lib.hid (HP.out.draw g3 hglt); have S3 := Lib.hid (ST.out.draw g3 hgB)
      clear c3 g3 HD HP ST
      cases bo with
      | false =>
        go_wp2_with fail
        go_ret
        exact stop_same HLJ.out hj10 FW.out P3.out D3.out rfl
      | true =>
        by_cases hpos : 0 < j
        · have i2 : (0 : Int) < (j : Int) := by omega
          go_wp2_with fail
          refine (below_d g xo d code j _ D3.out.1 HL.out (by omega) (by omega)).mono ?_
          rintro e w4 ⟨tz, ht0, ht1, rfl, d4⟩
          have D4 := Lib.hid (D3.out.next d4); have P4 := Lib.hid (P3.out.draw d4.2 hglt); have S4 := Lib.hid (S3.out.draw d4.2 hgB)
          obtain ⟨t, rfl⟩ : ∃ t : Nat, tz = t := ⟨tz.toNat, by omega⟩
          have htj : t < j := by omega
          clear d4 D3 P3 S3
          go_wp2_with fail
          refine (below_d g xo d code 3 _ D4.out.1 HL.out (by omega) (by omega)).mono ?_
          rintro e w5 ⟨k, hk0, hk1, rfl, d5⟩
          have D5 := Lib.hid (D4.out.next d5); have P5 := Lib.hid (P4.out.draw d5.2 hglt); have S5 := Lib.hid (S4.out.draw d5.2 hgB)
          clear d5 D4 P4 S4
          obtain ⟨r, hr⟩ : ∃ r, l[t]? = some r := ⟨l[t]'(by have := HLJ.out; omega), List.getElem?_eq_getElem _⟩
          have HR := Lib.hid hr
          have hrf := FW.out r (List.mem_of_getElem? hr)
          have hr4 := hrf.1
          have R8 := Lib.hid hrf.2
          have hcr := P5.out.at_ hr
          obtain ⟨xt, A', C', hpt, hbt, hA⟩ := P5.out.rows t r hr
          have PT := Lib.hid hpt; have HA := Lib.hid hA
          have hHt := P5.out.last t (by have := HLJ.out; omega)
          have hgr5 := owns_block P5.out.own
          have hgw : gr < w5.heap.size := hgr5.2
          have hgb5 : w.heap.size ≤ gr := hgr5.1
          have XT : Hid (xt.length = r.length) := by have := hpt.own.1; show _ = _; omega
          have OT : Hid (OwnV w5 (L t) 34 (some ⟨B t, 0, none⟩) (C t) xt) := by show World.ownsRow _ _ _ _ _ _ _; rw [XT.out]; exact hpt.own
          have hLb := P5.out.lo t (by have := HLJ.out; omega)
          have hBL := (owns_block hpt.own).1
          have hk : k = 0 ∨ k = 1 ∨ k = 2 := by omega
          clear hrf hpt hA hr hgr5
          rcases hk with rfl | rfl | rfl
          · generalize hBt : B t = bt at hcr OT hbt PT hBL
            generalize hCt : C t = ct at hcr OT PT
            generalize hrl : r.length = rl at hcr hr4 XT
            have EB := Lib.hid hBt; have EC := Lib.hid hCt; have RL := Lib.hid hrl
            have HBT := Lib.hid hbt
            clear hBt hCt hrl
            have W2 := Lib.hid (((Below.refl w5.heap.size w5).alloc (Nat.le_refl _) (.cells #[.int .i64 1] 3)).alloc (by simp) (.cells #[.slice (some ⟨w5.heap.size, 0, none⟩) 1 1] 34))
            have P6 := Lib.hid (P5.out.below W2.out)
            have N1 := Lib.hid (show Own ((w5.alloc (.cells #[.int .i64 1] 3)).alloc (.cells #[.slice (some ⟨w5.heap.size, 0, none⟩) 1 1] 34)) w5.heap.size 3 .i64 (some ⟨w5.heap.size, 0, none⟩) 1 [1] from (show Own (w5.alloc (.cells #[.int .i64 1] 3)) w5.heap.size 3 .i64 (some ⟨w5.heap.size, 0, none⟩) 1 [1] from World.ownsRow_lit w5 #[.int .i64 1] 1 (Nat.le_refl _) (by unfold maxLen; omega) rfl).alloc _)
            have CL := Lib.hid (show ((w5.alloc (.cells #[.int .i64 1] 3)).alloc (.cells #[.slice (some ⟨w5.heap.size, 0, none⟩) 1 1] 34)).cell? ⟨w5.heap.size + 1, 0, none⟩ = some (.slice (some ⟨w5.heap.size, 0, none⟩) 1 1) from by rw [show w5.heap.size + 1 = (w5.alloc (.cells #[.int .i64 1] 3)).heap.size by simp, World.cell?_alloc_new]; rfl)
            go_wp2_with (at_builtin; go_must (refine wpList_appendV _ rfl (.tmp 52) (.tmp 54) 29 rfl (L t) 34 (.slice none 0 0) 24 Tryz.underlying29 infoRw rfl (some ⟨bt, 0, none⟩) ct rl xt rfl XT.out.symm ((OT.out.alloc _).alloc _) (w5.heap.size + 1) 1 (.slice (some ⟨w5.heap.size, 0, none⟩) 1 1) rfl CL.out rfl (by have := XT.out; unfold maxLen; omega) (by have := XT.out; omega) (by simp; omega) ?_; intro ao7 c7 w7 o7 g7 k7; obtain ⟨hlo, ⟨y7, hy7⟩, hfr7⟩ := P6.out.app (us := [.slice (some ⟨w5.heap.size, 0, none⟩) 1 1]) (ms := [[1]]) HR.out (N := w5.heap.size) hHt hgw W2.out.size (by rw [EB.out, EC.out, RL.out]; rw [RL.out] at PT; exact PT.out.below W2.out) (by rw [EB.out]; exact HBT.out) HA.out rfl (fun i q hq => by match i, hq with | 0, hq => cases hq; exact ⟨_, _, rfl, N1.out⟩) o7 (by rw [EB.out]; exact g7) (by rw [EB.out]; exact k7); have LO := Lib.hid hlo; have D7 := Lib.hid (drew_row HC.out D5.out W2.out g7 (fun q hq => by simp at hq; omega)); clear hlo o7 g7 k7))
            rw [XT.out]
            go_ret
            have LO' := LO.out
            rw [RL.out] at LO'
            exact ⟨_, gr, cc, ret_slice (by rw [List.length_set, HLJ.out]), by rw [List.length_set, HLJ.out]; exact hj10, FW.out.set (by omega) (by rw [List.length_append, RL.out]; show rl + 1 ≤ 60; omega) (fun y hy => by rcases List.mem_append.1 hy with hy | hy; exact R8.out y hy; simp at hy; subst hy; simp), LO', drew_set HC.out D7.out hgb5⟩
          · obtain ⟨tb, toff, tt, rfl, htt, hat⟩ := S5.out.rd.at_ (i := t) (by have := HJS.out; omega)
            have htw := TH.out tt (List.mem_of_getElem? htt)
            obtain ⟨_, e1, _⟩ := hat
            obtain ⟨wd, hwd⟩ : ∃ wd : Nat, tt.width = wd := ⟨tt.width.toNat, by omega⟩
            have hw7 : wd ≤ 7 := by omega
            rw [hwd] at e1
            have htb := HS.out.lt _ rfl
            have htb1 : Bs ≤ tb := htb.1
            have htb2 : tb < w.heap.size := htb.2
            have hoff := P5.out.off t (by have := HLJ.out; omega)
            clear htt htw hwd htb
            generalize hBt : B t = bt at hcr OT hbt PT hBL
            generalize hCt : C t = ct at hcr OT PT
            generalize hrl : r.length = rl at hcr hr4 XT
            have EB := Lib.hid hBt; have EC := Lib.hid hCt; have RL := Lib.hid hrl
            have HBT := Lib.hid hbt
            clear hBt hCt hrl
            have hgb : gr ≠ bt := by omega
            have hts : t < s.length := by have := HJS.out; omega
            have its : (t : Int) < (s.length : Int) := by omega
            have itj : (t : Int) < (j : Int) := by omega
            have it0 : (0 : Int) ≤ (t : Int) := by omega
            have htbb : tb ≠ bt := by omega
            have KG := Lib.hid (show ∀ w', w5.grownBy w' (some g) → w'.cell? ⟨gr, t, none⟩ = some (.slice (some ⟨bt, 0, none⟩) rl ct) ∧ w'.cell? ⟨tb, toff + t * 2 + 1, none⟩ = some (.int .i64 wd) from fun w' hg => ⟨(World.cell?_of_block (a := ⟨gr, t, none⟩) (hg.block gr hgw (by simp; omega))).trans hcr, (World.cell?_of_block (a := ⟨tb, toff + t * 2 + 1, none⟩) (hg.block tb (World.block_lt_of_cell? w5 _ e1) (by simp; omega))).trans e1⟩)
            have G0 := Lib.hid (grownBy_below (World.grownBy.refl w5 (some g)) (Below.refl w5.heap.size w5).drew)
            have D0 := Lib.hid (D5.out.below (Below.refl w5.heap.size w5).drew)
            go_wp2_with fail
            have OG := Lib.hid (show ∀ w', w5.grownBy w' (some g) → w'.ownsRow (L t) 34 1 (.slice (some ⟨bt, 0, none⟩) rl ct) rl xt from fun w' hg => by
              have := owns_keep (w' := w') (g := bt) (by have := OT.out; unfold OwnV at this; rw [XT.out] at this; exact this) (hg.block bt (by omega) (by simp; omega))
              exact this)
            obtain ⟨i0, hi0, hz0, hz1, hz2⟩ := info_parts infoRw
            have I0 := Lib.hid hi0; have Z0 := Lib.hid hz0; have Z1 := Lib.hid hz1; have Z2 := Lib.hid hz2
            clear hi0 hz0 hz1 hz2
            rw [← EB.out, ← EC.out] at PT
            go_region_law (first
              | (refine step_append_lies _ rfl (.tmp 64) (.tmp 74) 29 rfl (L t) 34 i0 _ 1 24 Tryz.underlying29 I0.out Z0.out Z1.out Z2.out rfl (by omega) (.slice (some ⟨bt, 0, none⟩) rl ct) rl xt (by simp [Act.eval, Act.put]) O7.out ⟨b7, 0, none⟩ q.length c7 xs7 (by simp [Act.eval, Act.put]) N7.out.1 N7.out.2.1 N7.out.2.2 hq0 (by unfold maxLen; omega) (by omega) (by omega) _ rfl ?_; intro gg cap w9 o9 g9 k9 _; obtain ⟨hlo9, ⟨y9, hy9⟩, hfr9⟩ := P5.out.appR hglt G7.out HR.out PT.out (by rw [EB.out]; exact HBT.out) HA.out P7.out hz6 EB.out RL.out o9 g9 k9; have LO9 := Lib.hid hlo9; have D9 := Lib.hid (drew_row HC.out D7.out (Below.refl _ _) g9 (fun q hq => by cases hq; show w.heap.size ≤ bt; omega)); clear hlo9 o9 g9 k9)
              | (go_simp; go_at_call 68; refine (below_d g xo d code 6 _ D0.out.1 HL.out (by omega) (by omega)).mono ?_; rintro e w6 ⟨yz, hy0, hy1, rfl, d6⟩; obtain ⟨m7, hm7, h36, h41⟩ : ∃ m7 : Nat, (36 : Int) + yz = m7 ∧ 36 ≤ m7 ∧ m7 ≤ 41 := ⟨(36 + yz).toNat, by omega, by omega, by omega⟩; have hwr : IntKind.i64.wrap (36 + yz) = (m7 : Int) := (by rw [IntKind.wrap_i64]; omega); clear hm7; have G6 := Lib.hid (grownBy_trans G0.out d6.2); have D6 := Lib.hid (D0.out.next d6); obtain ⟨hc6, he6⟩ := KG.out w6 G6.out; clear d6)
              | (go_simp; go_at_call 73; refine (drawRows_any g xo d code wd m7 _ D6.out.1 HL.out (by omega) (by omega)).mono ?_; rintro e w7 ⟨q, b7, c7, xs7, A7, C7, rfl, q1, q2, hp7, d7⟩; have hq1 : q.length ≤ 41 := (by omega); have hq0 : 0 < q.length := (by omega); have hz7 := d7.2.size; have hz6 := G6.out.size; have G7 := Lib.hid (grownBy_trans G6.out d7.2); have D7 := Lib.hid (D6.out.next d7); obtain ⟨hc7, he7⟩ := KG.out w7 G7.out; have Q2 := Lib.hid q2; have P7 := Lib.hid hp7; have O7 := Lib.hid (OG.out w7 G7.out); have N7 := Lib.hid (rows_news hp7); clear d7 q1 q2 hp7))
            all_goals
              go_wp2_with fail
              go_ret
              exact ⟨_, gr, cc, ret_slice (by rw [List.length_set, HLJ.out]), by rw [List.length_set, HLJ.out]; exact hj10, FW.out.set (by omega) (by rw [List.length_append, RL.out]; omega) (fun y hy => by rcases List.mem_append.1 hy with hy | hy; exact R8.out y hy; exact rows8 (by omega) Q2.out y hy), LO9.out, drew_set HC.out D9.out hgb5⟩
          · by_cases h0 : 0 < r.length
            · obtain ⟨y, hy⟩ : ∃ y, r[0]? = some y := ⟨_, List.getElem?_eq_getElem h0⟩
              have HY := Lib.hid hy
              have hcy := (PT.out.at_ h0 h0 hy).1
              rw [Nat.zero_add] at hcy
              have i3 : (0 : Int) < (r.length : Int) := by omega
              by_cases hy0 : 0 < y.length
              · have i4 : (0 : Int) < (y.length : Int) := by omega
                obtain ⟨b0, k0, hcb, hb1, hb2, hb3, hb4, hset⟩ := P5.out.putV HR.out hy hy0
                have SET := Lib.hid hset
                have y8 := R8.out y (List.mem_of_getElem? hy)
                have FS := Lib.hid (show ∀ v : Int, FewR 60 (l.set t (r.set 0 (y.set 0 v))) from fun v => FW.out.set (by omega) (by simp; omega) (fun q hq => by
                  rcases List.mem_or_eq_of_mem_set hq with hq | rfl
                  · exact R8.out q hq
                  · simp; exact y8))
                have hbtw : w.heap.size ≤ B t := by omega
                clear hcy hset hy
                generalize hrl : r.length = rl at hcr i3
                generalize hyl : y.length = yl at hcb i4
                generalize hBt : B t = bt at hcr hcb hbtw hb4
                generalize hCt : C t = ct at hcr
                clear hrl hyl hBt hCt OT PT hbt hBL hr4 y8 h0 hy0
                have KG := Lib.hid (show ∀ w', w5.grownBy w' (some g) → w'.cell? ⟨gr, t, none⟩ = some (.slice (some ⟨bt, 0, none⟩) rl ct) ∧ w'.cell? ⟨bt, 0, none⟩ = some (.slice (some ⟨b0, 0, none⟩) yl k0) from fun w' hg => ⟨(World.cell?_of_block (a := ⟨gr, t, none⟩) (hg.block gr hgw (by simp; omega))).trans hcr, (World.cell?_of_block (a := ⟨bt, 0, none⟩) (hg.block bt (World.block_lt_of_cell? w5 _ hcb) (by simp; omega))).trans hcb⟩)
                have G0 := Lib.hid (grownBy_below (World.grownBy.refl w5 (some g)) (Below.refl w5.heap.size w5).drew)
                have KS := Lib.hid (show ∀ w', w5.grownBy w' (some g) → ∀ u, (w'.setCell ⟨b0, 0, none⟩ u).cell? ⟨gr, t, none⟩ = some (.slice (some ⟨bt, 0, none⟩) rl ct) ∧ (w'.setCell ⟨b0, 0, none⟩ u).cell? ⟨bt, 0, none⟩ = some (.slice (some ⟨b0, 0, none⟩) yl k0) from fun w' hg u => ⟨(World.cell?_of_block (a := ⟨gr, t, none⟩) (Below.heap_setCell w' ⟨b0, 0, none⟩ u gr (Ne.symm hb3))).trans (KG.out w' hg).1, (World.cell?_of_block (a := ⟨bt, 0, none⟩) (Below.heap_setCell w' ⟨b0, 0, none⟩ u bt (Ne.symm hb4))).trans (KG.out w' hg).2⟩)
                go_wp2_with fail
                go_region_held3 (fun w' => w'.cell? ⟨gr, t, none⟩ = some (.slice (some ⟨bt, 0, none⟩) rl ct) ∧ w'.cell? ⟨bt, 0, none⟩ = some (.slice (some ⟨b0, 0, none⟩) yl k0))
                  (first | exact KS.out _ G8 _ | exact KG.out _ G8 | exact KG.out _ G0.out | exact KG.out _ (grownBy_below G0.out ((Below.refl _ _).alloc (Nat.le_refl _) _)) | go_keep)
                  (first
                    | (go_at_call 69; refine (pick_newM g xo d code _ (D5.out.below (Below.refl w5.heap.size w5).drew).1 HL.out [1000000, 1000001, -1000000] 3 rfl (by omega) (by omega) _ rfl).mono ?_; rintro e w8 ⟨v, _, rfl, d8⟩; have G8 := grownBy_trans G0.out d8.2; have D8 := (D5.out.below (Below.refl w5.heap.size w5).drew).next d8; obtain ⟨⟨z8, hz8⟩, hf8, hlo8⟩ := SET.out w8 (fun k h1 h2 => G8.block k h2 (by simp; omega)) G8.size))
                all_goals
                  have LO := Lib.hid (hlo8 v)
                  have DQ := Lib.hid (drew_set (o := 0) (v := .int .i64 v) HC.out D8 hb1)
                  clear hlo8 D8 d8
                  go_wp2_with fail
                  go_ret
                  exact ⟨_, gr, cc, ret_slice (by rw [List.length_set, HLJ.out]), by rw [List.length_set, HLJ.out]; exact hj10, FS.out v, LO.out, DQ.out⟩
              · have i4 : ¬ (0 : Int) < (y.length : Int) := by omega
                go_wp2_with fail
                go_ret
                exact stop_same HLJ.out hj10 FW.out P5.out D5.out rfl
            · have i3 : ¬ (0 : Int) < (r.length : Int) := by omega
              go_wp2_with fail
              go_ret
              exact stop_same HLJ.out hj10 FW.out P5.out D5.out rfl
        · have i2 : ¬ (0 : Int) < (j : Int) := by omega
          go_wp2_with fail
          go_ret
          exact stop_same HLJ.out hj10 FW.out P3.out D3.out rfl
def DrEP (w : World) (e : Ending) (w' : World) : Prop :=
  ∃ (s : List Tb) (sa : Option Addr) (sc : Nat) (l : List RowsL) (lb lc : Nat) (p : List Nd) (b c : Nat), e = .returned (.tuple #[.slice sa s.length sc, .slice (some ⟨lb, 0, none⟩) l.length lc, .slice (some ⟨b, 0, none⟩) p.length c]) ∧ s.length ≤ 10 ∧ RdT w' sa s ∧ l.length ≤ 10 ∧ FewR 60 l ∧ RdRR w' (some ⟨lb, 0, none⟩) l ∧ p.length ≤ 82 ∧ Small p ∧ RdN w' (some ⟨b, 0, none⟩) p ∧ Below w.heap.size w w'
set_option maxRecDepth 100000 in
set_option maxHeartbeats 4000000 in
theorem drawEvalPlan_any (xo : Option Addr) (d : Nat) (code : List Int) (w : World) (hr : Rd w .u8 xo code) (hby : By code) (hl : code.length ≤ 1048577) :
    Calls Tryz.prog 7 #[.slice xo code.length d] w (DrEP w) := by
  have C := Lib.hid (l01New_any xo d code w hr hby hl)
  have HL := Lib.hid hl
  clear hr hby hl
  go_enter Tryz.func7, Tryz.ntmps7
  go_wp2_with fail
  refine C.out.mono ?_
  rintro e w1 ⟨g, rfl, hg, hc, hb⟩
  have HG := Lib.hid hg; have HC := Lib.hid hc; have HB := Lib.hid hb; clear hg hc hb
  have hgl := HC.out.lt
  have O1 := Lib.hid (own_three w1)
  have D1 : Hid (Drew w1 g xo d code (w1.alloc (.cells #[.string ⟨#[116, 49]⟩, .int .i64 2, .string ⟨#[116, 50]⟩, .int .i64 3, .string ⟨#[116, 51]⟩, .int .i64 1] 89))) := ⟨HC.out.keepB ((Below.refl _ _).alloc (Nat.le_refl _) _), grownBy_below (World.grownBy.refl _ _) ((Below.refl _ _).alloc (Nat.le_refl _) _)⟩
  go_wp2_with fail
  refine (tables3_any _).mono ?_
  rintro e w' ⟨rfl, rfl⟩
  generalize (w1.alloc (.cells #[.string ⟨#[116, 49]⟩, .int .i64 2, .string ⟨#[116, 50]⟩, .int .i64 3, .string ⟨#[116, 51]⟩, .int .i64 1] 89)) = w2 at O1 D1 ⊢
  go_wp2_with fail
  refine (l01Once_any g xo d code 8 _ D1.out.1 HL.out (by omega) (by omega)).mono ?_
  rintro e w3 ⟨bo, rfl, c3, g3⟩
  have D2 := Lib.hid (drew_once D1.out c3 g3); have S2 := Lib.hid (O1.out.draw g3 hgl)
  clear c3 g3 D1 O1
  cases bo with
  | false =>
    have D3 := D2
    have S3 := S2
    go_wp2_with fail
    refine (drawStore_any g xo d code w1.heap.size _ 3 threeT _ D3.out.1 HL.out S3.out hgl (show threeT.length ≤ 10 by decide) thin3).mono ?_
    rintro e w4 ⟨l, lb, lc, rfl, l10, lf, lo4, d4⟩
    have D4 := Lib.hid (D3.out.next d4); have S4 := Lib.hid (S3.out.draw d4.2 hgl); have LF := Lib.hid lf
    have LO4 := Lib.hid lo4
    have hg3 := D3.out.1.lt
    clear d4 lo4 lf
    go_wp2_with fail
    refine (drawDeep_any g xo d code xo d _ D4.out.1 HL.out).mono ?_
    rintro e w5 ⟨p, b, c, xs, A, Cc, rfl, p1, p81, p3, hp, d5⟩
    have P5 := Lib.hid hp; have D5 := Lib.hid d5; have P3 := Lib.hid p3
    have S5 := Lib.hid (S4.out.draw d5.2 hgl); have LO5 := Lib.hid (LO4.out.draw d5.2 hg3)
    have hg4 := D4.out.1.lt
    clear hp d5 p3
    go_wp2_with fail
    refine (l01Once_any g xo d code 4 _ D5.out.1 HL.out (by omega) (by omega)).mono ?_
    rintro e w6 ⟨b2, rfl, c6, g6⟩
    have D6 := Lib.hid (drew_once D5.out c6 g6); have P6 := Lib.hid (P5.out.draw g6 hg4)
    have S6 := Lib.hid (S5.out.draw g6 hgl); have LO6 := Lib.hid (LO5.out.draw g6 hg3)
    clear c6 g6
    cases b2 with
    | false =>
      go_wp2_with fail
      go_ret3
      exact ⟨_, _, _, l, lb, lc, p, b, c, rfl, (show threeT.length ≤ 10 by decide), S6.out.rd, l10, LF.out, LO6.out.rd, by omega, ⟨by omega, fun n hn => by have := P3.out n hn; omega⟩, (LooseN.of_part P6.out rfl).rd, HB.out.grown (grownBy_trans D4.out.2 D6.out.2) HB.out.size (by intro r hr; injection hr with hr; have := HG.out; omega)⟩
    | true =>
      have BR := Lib.hid (break_any g xo d code w4 w6 b c p xs A Cc D4.out.1 HL.out D6.out P6.out p1 p81 P3.out)
      go_wp2_with fail
      refine BR.out.mono ?_
      rintro e w7 ⟨q, b7, c7, rfl, q1, q2, q3, d7⟩
      have Q2 := Lib.hid q2; have Q3 := Lib.hid q3; have D7 := Lib.hid d7
      have S7 := Lib.hid (S4.out.draw d7.2 hgl); have LO7 := Lib.hid (LO4.out.draw d7.2 hg3)
      clear q2 q3 d7
      go_wp2_with fail
      go_ret3
      exact ⟨_, _, _, l, lb, lc, q, b7, c7, rfl, (show threeT.length ≤ 10 by decide), S7.out.rd, l10, LF.out, LO7.out.rd, q1, ⟨by omega, fun n hn => by have := Q2.out n hn; omega⟩, Q3.out.rd, HB.out.grown (grownBy_trans D4.out.2 D7.out.2) HB.out.size (by intro r hr; injection hr with hr; have := HG.out; omega)⟩
  | true =>
    go_wp2_with fail
    refine (drawSchemaW_any g xo d code _ D2.out.1 HL.out).mono ?_
    rintro e w3b ⟨s, sa, sc, rfl, s10, so, sd, sth⟩
    have hz2 := D2.out.2.size
    have D3 := Lib.hid (D2.out.next sd); have S3 := Lib.hid (so.base_le hz2); have TH := Lib.hid sth
    clear so sd sth
    go_wp2_with fail
    refine (drawStore_any g xo d code w1.heap.size sa sc s _ D3.out.1 HL.out S3.out hgl s10 TH.out).mono ?_
    rintro e w4 ⟨l, lb, lc, rfl, l10, lf, lo4, d4⟩
    have D4 := Lib.hid (D3.out.next d4); have S4 := Lib.hid (S3.out.draw d4.2 hgl); have LF := Lib.hid lf
    have LO4 := Lib.hid lo4
    have hg3 := D3.out.1.lt
    clear d4 lo4 lf
    go_wp2_with fail
    refine (drawDeep_any g xo d code xo d _ D4.out.1 HL.out).mono ?_
    rintro e w5 ⟨p, b, c, xs, A, Cc, rfl, p1, p81, p3, hp, d5⟩
    have P5 := Lib.hid hp; have D5 := Lib.hid d5; have P3 := Lib.hid p3
    have S5 := Lib.hid (S4.out.draw d5.2 hgl); have LO5 := Lib.hid (LO4.out.draw d5.2 hg3)
    have hg4 := D4.out.1.lt
    clear hp d5 p3
    go_wp2_with fail
    refine (l01Once_any g xo d code 4 _ D5.out.1 HL.out (by omega) (by omega)).mono ?_
    rintro e w6 ⟨b2, rfl, c6, g6⟩
    have D6 := Lib.hid (drew_once D5.out c6 g6); have P6 := Lib.hid (P5.out.draw g6 hg4)
    have S6 := Lib.hid (S5.out.draw g6 hgl); have LO6 := Lib.hid (LO5.out.draw g6 hg3)
    clear c6 g6
    cases b2 with
    | false =>
      go_wp2_with fail
      go_ret3
      exact ⟨_, _, _, l, lb, lc, p, b, c, rfl, s10, S6.out.rd, l10, LF.out, LO6.out.rd, by omega, ⟨by omega, fun n hn => by have := P3.out n hn; omega⟩, (LooseN.of_part P6.out rfl).rd, HB.out.grown (grownBy_trans D4.out.2 D6.out.2) HB.out.size (by intro r hr; injection hr with hr; have := HG.out; omega)⟩
    | true =>
      have BR := Lib.hid (break_any g xo d code w4 w6 b c p xs A Cc D4.out.1 HL.out D6.out P6.out p1 p81 P3.out)
      go_wp2_with fail
      refine BR.out.mono ?_
      rintro e w7 ⟨q, b7, c7, rfl, q1, q2, q3, d7⟩
      have Q2 := Lib.hid q2; have Q3 := Lib.hid q3; have D7 := Lib.hid d7
      have S7 := Lib.hid (S4.out.draw d7.2 hgl); have LO7 := Lib.hid (LO4.out.draw d7.2 hg3)
      clear q2 q3 d7
      go_wp2_with fail
      go_ret3
      exact ⟨_, _, _, l, lb, lc, q, b7, c7, rfl, s10, S7.out.rd, l10, LF.out, LO7.out.rd, q1, ⟨by omega, fun n hn => by have := Q2.out n hn; omega⟩, Q3.out.rd, HB.out.grown (grownBy_trans D4.out.2 D7.out.2) HB.out.size (by intro r hr; injection hr with hr; have := HG.out; omega)⟩
end Go.Proofs.YtanfllednlpbaaaGreat
