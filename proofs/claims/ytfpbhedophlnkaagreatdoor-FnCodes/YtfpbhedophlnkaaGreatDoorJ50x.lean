/-
  Contract of spec.DecodePlan. For every slice of bytes of at most 1048576. The contract of impl.PutNum: in memory of its own, the number's bytes; nothing where it is no number. For every integer. Slices of slices of bytes: what one reads as, what of it the call itself owns; the contract of impl.behindEachOther: all their bytes, one behind the other, in memory of its own.
-/
import Derived.Test.YtfpbhedophlnkaaGreatDoorJ44x
import Derived.Test.YtfpbhedophlnkaaGreatDoorJ21x
import Derived.Test.YtfpbhedophlnkaaGreatDoorSTkN
import Derived.Test.YtfpbhedophlnkaaGreatDoorJ5x
import Derived.Test.YtfpbhedophlnkaaGreatDoorJ14x
import Derived.Laws.CopyOwn
namespace Go.Proofs.YtfpbhedophlnkaaGreatDoor
open Go.RowKit
set_option linter.unusedSimpArgs false
set_option linter.unusedVariables false

theorem countP_out {l : List Int} {x p : Int} (h : takeN l 0 = (x, p)) (hp : p = -1) : countNd l (some 0) 40 = none := by
  simp [countNd, numR, h, hp]
theorem countP_not {l : List Int} {x p : Int} (h : takeN l 0 = (x, p)) (hp : p ≠ -1) (hx : ¬ (0 ≤ x ∧ x ≤ 40)) : countNd l (some 0) 40 = none := by
  simp only [countNd, numR, h, if_neg hp]; rw [if_neg hx]
theorem countP_in {l : List Int} {p : Int} {m : Nat} (h : takeN l 0 = ((m : Int), p)) (hp : p ≠ -1) (hx : m ≤ 40) : countNd l (some 0) 40 = nodsK l p m := by
  simp only [countNd, numR, h, if_neg hp]; rw [if_pos (by omega), Int.toNat_natCast]
def SpRelD (w1 wr : World) (m : List Int) (p : Int) (cnt : Nat) (v7 v8 v9 : Value) : Prop :=
  ∃ (k : Nat) (acc : List Nd) (q : Int) (ao : Option Addr) (c n : Nat), v7 = .int .i64 q ∧ v8 = .slice ao n c ∧ v9 = .int .i64 k ∧ n = acc.length ∧ k ≤ cnt ∧ nodsK m p k = some (acc, q) ∧ (0 ≤ q ∧ q ≤ m.length) ∧ GrowN wr w1.heap.size wr.heap.size (.slice ao acc.length c) acc ∧ Below w1.heap.size w1 wr

set_option maxRecDepth 100000 in
set_option maxHeartbeats 4000000 in
theorem specDecodePlan_any (b : Option Addr) (d : Nat) (l : List Int) (w : World) (h : Rd w .u8 b l) (hby : By l) (hl : l.length ≤ maxLen) (hd : l.length ≤ d) (hd2 : d ≤ maxLen) (hlim : l.length ≤ 1048576) :
    Calls Tryz.prog 46 #[.slice b l.length d] w (MadeN2 (decP l) w) := by
  have U := Lib.hid (specUnframe_any b d l w h hby hl hd hd2 hlim)
  have D : Hid (decP l = match unfL l with | none => ([], 1) | some m => match countNd m (some 0) 40 with | none => ([], 2) | some (acc, q) => if q ≠ m.length then ([], 4) else if planB acc = true then (acc, 0) else ([], 3)) := rfl
  have h4 : Hid (∀ m, unfL l = some m → m.length ≤ 4000 ∧ By m) := fun m hm => ⟨unfL_4000 hm, unfL_by hby hm⟩
  obtain ⟨res, hres⟩ : ∃ r, r = decP l := ⟨_, rfl⟩
  rw [← hres] at D ⊢
  clear hres h hby hl hd hd2 hlim
  cases hu : unfL l with
  | none =>
    have E : Hid (res = ([], 1)) := by show _ = _; rw [D.out, hu]
    rw [hu] at U
    clear hu
    go_enter Tryz.func46, Tryz.ntmps46
    go_wp2_with fail
    refine U.out.mono ?_
    rintro e w1 ⟨a1, c1, rfl, o1, b1⟩
    clear o1
    go_wp2_with fail
    go_ret2
    exact madeN2_no E.out b1
  | some m =>
    obtain ⟨hm4, hmb⟩ := h4.out m hu
    rw [hu] at U D
    simp only at D
    have HMB := Lib.hid hmb
    have bd0 := takeN_bd hmb 0
    obtain ⟨cn, hcn⟩ : ∃ cn, cn = countNd m (some 0) 40 := ⟨_, rfl⟩
    rw [← hcn] at D
    have hmm : m.length ≤ maxLen := by unfold maxLen; omega
    have TN := Lib.hid (fun W (c : Option Addr × Nat) p (h : Rd W .u8 c.1 m) (hp : p ≤ 9223372036854775807) => specTakeNum_any c.1 c.2 m p W h hmb hmm hp)
    have TW := Lib.hid (fun W (c : Option Addr × Nat) p (h : Rd W .u8 c.1 m) (hc : m.length ≤ c.2 ∧ c.2 ≤ maxLen) (hp : p ≤ 9223372036854775807) => specTakeNode_any c.1 c.2 m p W h hmb hmm hc.1 hc.2 hp)
    obtain ⟨⟨x, p⟩, hx⟩ : ∃ r, r = takeN m 0 := ⟨_, rfl⟩
    rw [← hx] at bd0
    simp only at bd0
    have HX := Lib.hid hx.symm
    clear hu hmb h4 hx
    have CN := Lib.hid hcn
    clear hcn
    go_enter Tryz.func46, Tryz.ntmps46
    go_wp2_with fail
    refine U.out.mono ?_
    rintro e w1 ⟨a1, c1, rfl, o1, b1⟩
    have o1' : Own w1 w.heap.size 5 .u8 a1 c1 m := o1
    have hc1 := Lib.hid (show m.length ≤ c1 ∧ c1 ≤ maxLen from ⟨o1'.cap_ge, o1'.cap_le⟩)
    have R1 := Lib.hid o1'.rd
    have B1 := Lib.hid b1
    have TN0 := Lib.hid (TN.out w1 (a1, c1) 0 R1.out (by omega))
    rw [HX.out] at TN0
    clear o1 o1' b1 U
    go_wp2_with fail
    refine TN0.out.mono ?_
    rintro e w' ⟨rfl, rfl⟩
    simp only
    by_cases hp : p < 0
    · have hpb : decide (p < 0) = true := by simpa using hp
      have E : Hid (res = ([], 2)) := by show _ = _; rw [D.out, CN.out, countP_out HX.out (by omega)]
      go_wp2_with fail
      go_ret2
      exact madeN2_no E.out B1.out
    have hpb : decide (p < 0) = false := by simpa using hp
    have hp0 : 0 ≤ p := by omega
    have hpl : p ≤ m.length := by omega
    clear bd0
    by_cases hc : 0 ≤ x ∧ x ≤ 40
    · obtain ⟨cnt, rfl⟩ : ∃ cnt : Nat, x = cnt := ⟨x.toNat, by omega⟩
      have hc8 : cnt ≤ 40 := by omega
      have E : Hid (res = match nodsK m p cnt with | none => ([], 2) | some (acc, q) => if q ≠ m.length then ([], 4) else if planB acc = true then (acc, 0) else ([], 3)) := by show _ = _; rw [D.out, CN.out, countP_in HX.out (by omega) hc8]
      have hin : (decide ((0 : Int) ≤ cnt) && decide ((cnt : Int) ≤ 40)) = true := by simp; omega
      have HIN := Lib.hid hin
      have O0 := Lib.hid ((GrowN.lit (w := w1) (Nat.le_refl _)).mono (top' := (w1.alloc (.cells #[] 92)).heap.size) (by simp))
      have A0 := Lib.hid ((Below.refl w1.heap.size w1).alloc (Nat.le_refl _) (.cells #[] 92))
      clear hc hin D CN TN0
      go_wp2_with fail
      refine (l01In_any _ _ _ _).mono ?_
      rintro e w' ⟨rfl, rfl⟩
      rw [HIN.out]
      go_wp2_with fail
      go_loopw [7, 8, 9] (fun v7 v8 v9 wr => SpRelD w1 wr m p cnt v7 v8 v9) (fun _ _ i _ => cnt - (intOf i).toNat)
      case atStart => exact ⟨0, [], p, _, _, _, rfl, rfl, rfl, rfl, Nat.zero_le _, rfl, ⟨hp0, hpl⟩, O0.out, A0.out⟩
      case round =>
        obtain ⟨k, acc, q, ao, c, n, rfl, rfl, rfl, hn, hk, ht, hq, ho, hb⟩ := hrel
        have HT := Lib.hid ht; have HO := Lib.hid ho; have HB := Lib.hid hb; have HN := Lib.hid hn
        have hal := nodsK_len ht
        have hsz := hb.size
        clear hn ht ho hb
        have RR := Lib.hid (R1.out.below HB.out)
        by_cases hlt : k < cnt
        · have TW1 := Lib.hid (TW.out wr (a1, c1) q RR.out hc1.out (by omega))
          have hpl := nodeR_pl HMB.out (some q)
          have hnm : (nodeR m (some q)).1.name.size ≤ 12 := fieldR_name m _ _
          obtain ⟨⟨nd, s2⟩, hx2⟩ : ∃ r, r = nodeR m (some q) := ⟨_, rfl⟩
          rw [← hx2] at hpl hnm
          simp only at hpl hnm
          have HX := Lib.hid hx2.symm
          clear hx2
          cases s2 with
          | none =>
            have TE : takeNd m q = (zeroNd, -1) := by unfold takeNd; rw [HX.out]
            have EE : Hid (res = ([], 2)) := by
              show _ = _
              rw [E.out, nodsK_stays (nodsK_no HT.out HX.out) cnt (by omega)]
            rw [TE] at TW1
            clear TE
            go_wp2_with fail
            refine TW1.out.mono ?_
            rintro e w2 ⟨a2, c2, rfl, o2, b2⟩
            simp only
            have B2 := Lib.hid (below_step B1.out (Nat.le_refl _) (below_step HB.out (Nat.le_refl _) b2))
            clear o2 b2
            go_wp2_with fail
            go_ret2
            exact madeN2_no EE.out (B2.out.alloc B2.out.size _)
          | some q' =>
            have TE : takeNd m q = (nd, q') := by unfold takeNd; rw [HX.out]
            obtain ⟨hq0, hql⟩ := hpl q' rfl
            have htb : decide (q' < 0) = false := by simpa using hq0
            have TKK : Hid (nodsK m p (k + 1) = some (acc ++ [nd], q')) := nodsK_yes HT.out HX.out
            rw [TE] at TW1
            clear TE hpl
            go_wp2_with fail
            refine TW1.out.mono ?_
            rintro e w2 ⟨a2, c2, rfl, o2, b2⟩
            simp only at o2 ⊢
            have hs2 := b2.size
            have OW2 := Lib.hid (HO.out.below b2)
            have B2 := Lib.hid (below_step HB.out (Nat.le_refl _) b2)
            have BX := Lib.hid (B2.out.alloc B2.out.size (.cells #[.int .i64 nd.kind, .string nd.name, .int .i64 nd.col, .int .i64 nd.op, .int .i64 nd.num, .bool nd.slot, .slice a2 nd.cols.length c2] 92))
            have BA := Lib.hid (BX.out.alloc BX.out.size (.cells #[.int .i64 nd.kind, .string nd.name, .int .i64 nd.col, .int .i64 nd.op, .int .i64 nd.num, .bool nd.slot, .slice a2 nd.cols.length c2] 92))
            have CA := Lib.hid ((o2.alloc (.cells #[.int .i64 nd.kind, .string nd.name, .int .i64 nd.col, .int .i64 nd.op, .int .i64 nd.num, .bool nd.slot, .slice a2 nd.cols.length c2] 92)).alloc (.cells #[.int .i64 nd.kind, .string nd.name, .int .i64 nd.col, .int .i64 nd.op, .int .i64 nd.num, .bool nd.slot, .slice a2 nd.cols.length c2] 92))
            have W2 := Lib.hid (((Below.refl _ w2).alloc (Nat.le_refl _) (.cells #[.int .i64 nd.kind, .string nd.name, .int .i64 nd.col, .int .i64 nd.op, .int .i64 nd.num, .bool nd.slot, .slice a2 nd.cols.length c2] 92)).alloc (by simp) (.cells #[.int .i64 nd.kind, .string nd.name, .int .i64 nd.col, .int .i64 nd.op, .int .i64 nd.num, .bool nd.slot, .slice a2 nd.cols.length c2] 92))
            have OL := Lib.hid (fun x hx => (HO.out.lt x hx).1)
            clear o2 b2
            go_wp2_with (at_builtin; go_must (refine wpList_appendG _ rfl (.tmp 45) (.tmp 47) 25 rfl w1.heap.size wr.heap.size Tryz.underlying25 Tryz.infoNodeG rfl ao c n acc rfl HN.out (OW2.out.below W2.out) (by simp; omega) (by omega) (w2.heap.size + 1) 1 nd a2 c2 rfl (ndRow_at (by simp)) CA.out (by unfold maxLen; omega) (by omega) ?_; intro ao' c' w4 o4 g4; have O4 := Lib.hid o4; have B4 := Lib.hid (below_grow BA.out (by omega) g4 (fun x hx => OL.out x hx)); clear o4 g4))
            clear HX HT
            go_roundw
            case rel => exact ⟨k + 1, acc ++ [nd], q', ao', c', _, rfl, rfl, by go_num, by simp; omega, by omega, TKK.out, ⟨hq0, hql⟩, by simpa using O4.out, B4.out⟩
            case measure => simp [intOf]; omega
        · obtain rfl : k = cnt := by omega
          have E' : Hid (res = if q ≠ m.length then ([], 4) else if planB acc = true then (acc, 0) else ([], 3)) := by show _ = _; rw [E.out, HT.out]
          have BB := Lib.hid (below_step B1.out (Nat.le_refl _) HB.out)
          have OO := Lib.hid (HO.out.ownN.base_le (base' := w.heap.size) B1.out.size)
          obtain ⟨HN', rfl⟩ : Hid (n = acc.length) ∧ n = acc.length := ⟨HN.out, HN.out⟩
          have hal8 : acc.length ≤ 40 := by omega
          clear HN HN' hal
          by_cases hqe : q = m.length
          · have hqb : decide (q < (m.length : Int)) = false := by simp; omega
            have SK := Lib.hid (specPlanOk_any ao c acc wr OO.out.rd (by omega))
            cases hs : planB acc with
            | true =>
              have EE : Hid (res = (acc, 0)) := by show _ = _; rw [E'.out, if_neg (fun h => h hqe), if_pos hs]
              rw [hs] at SK
              clear hqe
              go_wp2_with fail
              refine SK.out.mono ?_
              rintro e w5 ⟨rfl, b5⟩
              have B5 := Lib.hid (below_step BB.out (Nat.le_refl _) b5)
              have O5 := Lib.hid (OO.out.below b5)
              clear b5
              go_wp2_with fail
              go_ret2
              exact madeN2_yes EE.out rfl O5.out B5.out
            | false =>
              have EE : Hid (res = ([], 3)) := by show _ = _; rw [E'.out, if_neg (fun h => h hqe), if_neg (by rw [hs]; simp)]
              rw [hs] at SK
              clear hqe
              go_wp2_with fail
              refine SK.out.mono ?_
              rintro e w5 ⟨rfl, b5⟩
              have B5 := Lib.hid (below_step BB.out (Nat.le_refl _) b5)
              clear b5
              go_wp2_with fail
              go_ret2
              exact madeN2_no EE.out B5.out
          · have hqb : decide (q < (m.length : Int)) = true := by simp; omega
            have EE : Hid (res = ([], 4)) := by show _ = _; rw [E'.out, if_pos hqe]
            go_wp2_with fail
            go_ret2
            exact madeN2_no EE.out BB.out
    · have E : Hid (res = ([], 2)) := by show _ = _; rw [D.out, CN.out, countP_not HX.out (by omega) hc]
      have hin : (decide ((0 : Int) ≤ x) && decide ((x : Int) ≤ 40)) = false := by
        cases hh : (decide ((0 : Int) ≤ x) && decide ((x : Int) ≤ 40)) with
        | false => rfl
        | true => simp at hh; omega
      have HIN := Lib.hid hin
      clear hin hc
      go_wp2_with fail
      refine (l01In_any _ _ _ _).mono ?_
      rintro e w' ⟨rfl, rfl⟩
      rw [HIN.out]
      go_wp2_with fail
      go_ret2
      exact madeN2_no E.out B1.out
end Go.Proofs.YtfpbhedophlnkaaGreatDoor
namespace Go.Proofs.YtfpbhedophlnkaaGreatDoor
open Go.RowKit
set_option linter.unusedSimpArgs false
set_option linter.unusedVariables false

set_option maxRecDepth 100000 in
theorem implPutNum_any (x : Int) (w : World) : Calls Tryz.prog 88 #[.int .i64 x] w (Made w 5 .u8 (putN x)) := by
  by_cases hx : -1000000 ≤ x ∧ x ≤ 1000000
  · rw [show putN x = enc (fold x) by unfold putN; rw [isN_mk hx]; rfl]
    have HX := Lib.hid hx; clear hx
    go_enter Tryz.func88, Tryz.ntmps88
    go_wp2_with (go_at_call 171; refine (isNum_t _ _ HX.out).mono ?_; rintro e w' ⟨rfl, rfl⟩)
    refine (addNum_any w.heap.size w.heap.size [] x _ HX.out (Wr.new w _ _) (by simp) (by simp)).mono ?_
    rintro e w1 ⟨rfl, ⟨ao, c, hblk, _, ho⟩, hb⟩
    have hc := cell_of_one hblk
    have HO := Lib.hid ho; have HB := Lib.hid hb; clear ho hb hblk
    rw [List.nil_append] at hc HO
    go_wp2
    go_ret
    exact ⟨ao, c, rfl, HO.out, below_after HB.out⟩
  · rw [show putN x = [] by unfold putN; rw [isN_not hx]; rfl]
    have HX := Lib.hid hx; clear hx
    go_enter Tryz.func88, Tryz.ntmps88
    go_wp2_with (go_at_call 171; refine (isNum_f _ _ HX.out).mono ?_; rintro e w' ⟨rfl, rfl⟩)
    go_ret
    exact ⟨none, 0, rfl, Own.none_, Below.refl _ _⟩
end Go.Proofs.YtfpbhedophlnkaaGreatDoor
namespace Go.Proofs.YtfpbhedophlnkaaGreatDoor
open Go.RowKit
set_option linter.unusedSimpArgs false
set_option linter.unusedVariables false

/-- The slice that begins at 'ao' reads as the slices of bytes ls. -/
def RdB (w : World) (ao : Option Addr) (ls : List (List Int)) : Prop :=
  ls = [] ∨ ∃ b off, ao = some ⟨b, off, none⟩ ∧ ∀ (i : Nat) (l : List Int), ls[i]? = some l → ∃ a c, w.cell? ⟨b, off + i, none⟩ = some (.slice a l.length c) ∧ Rd w .u8 a l
theorem RdB.below {w w' : World} {ao : Option Addr} {ls : List (List Int)} (h : RdB w ao ls) (hb : Below w.heap.size w w') : RdB w' ao ls := by
  rcases h with h | ⟨b, off, rfl, hc⟩
  · exact .inl h
  · refine .inr ⟨b, off, rfl, fun i l hi => ?_⟩
    obtain ⟨a, c, h1, h2⟩ := hc i l hi
    exact ⟨a, c, (hb.cell (p := ⟨b, off + i, none⟩) (World.block_lt_of_cell? w ⟨b, off + i, none⟩ h1)).trans h1, h2.below hb⟩
theorem RdB.at_ {w : World} {ao : Option Addr} {ls : List (List Int)} (h : RdB w ao ls) {i : Nat} (hi : i < ls.length) :
    ∃ b off l a c, ao = some ⟨b, off, none⟩ ∧ ls[i]? = some l ∧ w.cell? ⟨b, off + i, none⟩ = some (.slice a l.length c) ∧ Rd w .u8 a l := by
  rcases h with rfl | ⟨b, off, rfl, hc⟩
  · simp at hi
  · obtain ⟨a, c, h1, h2⟩ := hc i _ (List.getElem?_eq_getElem hi)
    exact ⟨b, off, _, a, c, rfl, List.getElem?_eq_getElem hi, h1, h2⟩

/-- A slice of slices of bytes of the call's own, and so each of them. -/
def OwnB (w : World) (base : Nat) (ao : Option Addr) (c : Nat) (ls : List (List Int)) : Prop :=
  ∃ vs, OwnV w base 22 ao c vs ∧ vs.length = ls.length ∧ ∀ (i : Nat) (l : List Int), ls[i]? = some l → ∃ (a : Option Addr) (c' : Nat), vs[i]? = some (Value.slice a l.length c') ∧ Own w base 5 .u8 a c' l
theorem OwnB.below {w w' : World} {base : Nat} {ao : Option Addr} {c : Nat} {ls : List (List Int)} (h : OwnB w base ao c ls) (hb : Below w.heap.size w w') : OwnB w' base ao c ls := by
  obtain ⟨vs, h1, h2, h3⟩ := h
  refine ⟨vs, h1.below hb, h2, fun i l hi => ?_⟩
  obtain ⟨a, c', h4, h5⟩ := h3 i l hi
  exact ⟨a, c', h4, h5.below hb⟩
theorem OwnB.rd {w : World} {base : Nat} {ao : Option Addr} {c : Nat} {ls : List (List Int)} (h : OwnB w base ao c ls) : RdB w ao ls := by
  obtain ⟨vs, h1, h2, h3⟩ := h
  rcases h1.form with ⟨_, _, rfl⟩ | ⟨g, rfl, _⟩
  · left; exact List.eq_nil_of_length_eq_zero h2.symm
  · refine .inr ⟨g, 0, rfl, fun i l hi => ?_⟩
    obtain ⟨a, c', h4, h5⟩ := h3 i l hi
    have hil : i < vs.length := (List.getElem?_eq_some_iff.1 h4).1
    exact ⟨a, c', by rw [Nat.zero_add, h1.cell i hil]; exact h4, h5.rd⟩
theorem OwnB.none_ {w : World} {base : Nat} : OwnB w base none 0 [] := ⟨[], OwnV.none_, rfl, fun i l hi => by simp at hi⟩
/-- Rows of two types lie in two blocks. -/
theorem own_blocks {w : World} {base : Nat} {e e' : TypeId} {ao a : Option Addr} {c c' : Nat} {vs : List Value} {l : List Int} (he : e ≠ e') (h : OwnV w base e ao c vs) (k : Own w base e' .u8 a c' l) : ∀ x y, ao = some x → a = some y → y.block ≠ x.block := by
  intro x y hx hy hh
  rcases h.2 with ⟨hv, _⟩ | ⟨g, cap, cur, hv, _, hg, _⟩
  · simp only [Value.slice.injEq] at hv; rw [hx] at hv; cases hv.1
  rcases k.2 with ⟨hv', _⟩ | ⟨g', cap', cur', hv', _, hg', _⟩
  · simp only [Value.slice.injEq] at hv'; rw [hy] at hv'; cases hv'.1
  simp only [Value.slice.injEq] at hv hv'
  rw [hx] at hv; rw [hy] at hv'
  have e1 : x = ⟨g, 0, none⟩ := by injection hv.1
  have e2 : y = ⟨g', 0, none⟩ := by injection hv'.1
  subst e1; subst e2
  simp only at hh; subst hh
  rw [hg] at hg'
  injection hg' with hg'
  injection hg' with _ hg'
  exact he hg'
/-- One more is appended. -/
theorem OwnB.push {w1 w3 : World} {base : Nat} {ao ao' : Option Addr} {c c' : Nat} {ls : List (List Int)} {vs : List Value} {a1 : Option Addr} {c1 : Nat} {l1 : List Int}
    (hV : OwnV w1 base 22 ao c vs) (hl : vs.length = ls.length) (hp : ∀ (i : Nat) (l : List Int), ls[i]? = some l → ∃ (a : Option Addr) (c' : Nat), vs[i]? = some (Value.slice a l.length c') ∧ Own w1 base 5 .u8 a c' l)
    (h1 : Own w1 base 5 .u8 a1 c1 l1) (hV3 : OwnV w3 base 22 ao' c' (vs ++ [.slice a1 l1.length c1])) (hg : w1.grownBy w3 (ao.map (·.block))) : OwnB w3 base ao' c' (ls ++ [l1]) := by
  have keep : ∀ a c' l, Own w1 base 5 .u8 a c' l → Own w3 base 5 .u8 a c' l := by
    intro a c' l h
    refine h.grown hg ?_
    intro y hy
    cases ao with
    | none => simp
    | some x => simp; exact own_blocks (by decide) hV h x y rfl hy
  refine ⟨_, hV3, by simp [hl], fun i l hi => ?_⟩
  rcases Nat.lt_or_ge i ls.length with h | h
  · rw [List.getElem?_append_left h] at hi
    obtain ⟨a, c', h4, h5⟩ := hp i l hi
    exact ⟨a, c', by rw [List.getElem?_append_left (by omega)]; exact h4, keep _ _ _ h5⟩
  · rw [List.getElem?_append_right h] at hi
    have hi0 : i - ls.length = 0 := by
      rcases Nat.eq_zero_or_pos (i - ls.length) with h0 | h0
      · exact h0
      · rw [List.getElem?_eq_none (by simp; omega)] at hi; cases hi
    rw [hi0] at hi
    simp at hi; subst hi
    exact ⟨a1, c1, by rw [List.getElem?_append_right (by omega), hl, hi0]; rfl, keep _ _ _ h1⟩

def padL (acc : List Int) (T : Nat) : List Int := acc ++ List.replicate (T - acc.length) 0
theorem padL_len {acc : List Int} {T : Nat} (h : acc.length ≤ T) : (padL acc T).length = T := by simp [padL]; omega
theorem padL_splice {acc l : List Int} {T : Nat} (h : acc.length + l.length ≤ T) : splice ((padL acc T).map (Value.int .u8)) acc.length (l.map (Value.int .u8)) = (padL (acc ++ l) T).map (Value.int .u8) := by
  unfold splice padL
  rw [List.map_append, List.map_append]
  rw [List.take_append_of_le_length (by simp), List.take_of_length_le (by simp)]
  rw [List.drop_append, List.drop_of_length_le (by simp)]
  simp only [List.length_map, List.nil_append, List.map_append, List.map_replicate, List.drop_replicate, List.length_append, List.append_assoc]
  congr 3
  omega
theorem own_of_block {w : World} {base g : Nat} {e : TypeId} {l : List Int} (hg : w.heap[g]? = some (.cells (l.map (Value.int .u8)).toArray e (0, 0))) (hb : base ≤ g) (hl : l.length ≤ maxLen) : Own w base e .u8 (some ⟨g, 0, none⟩) l.length l :=
  ⟨by simp, .inr ⟨g, l.length, _, rfl, hb, hg, Nat.le_refl _, hl, by simp, by rw [Nat.mul_one]; exact List.take_of_length_le (by simp)⟩⟩
theorem block_of_own {w : World} {base g n : Nat} {e : TypeId} {xs : List Value} (h : w.ownsRow base e 1 (.slice (some ⟨g, 0, none⟩) n n) n xs) : w.heap[g]? = some (.cells xs.toArray e (0, 0)) := by
  rcases h.2 with ⟨hv, _⟩ | ⟨g', cap, cur, hv, _, hg, h1, h2, h3, h4⟩
  · simp only [Value.slice.injEq] at hv; cases hv.1
  · simp only [Value.slice.injEq, Option.some.injEq, Addr.mk.injEq, and_true] at hv
    obtain ⟨rfl, -, rfl⟩ := hv
    have hx := h.1
    rw [hg]
    have : cur = xs.toArray := by
      apply Array.ext'
      rw [Nat.mul_one] at h3 h4
      rw [← h4, List.take_of_length_le (by simp; omega)]
    rw [this]
end Go.Proofs.YtfpbhedophlnkaaGreatDoor
