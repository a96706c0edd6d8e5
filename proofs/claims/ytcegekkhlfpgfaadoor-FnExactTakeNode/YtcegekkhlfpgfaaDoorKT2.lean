/-
  The contracts of the program's listAt and of impl.TakeNums. For every slice of bytes and every place. The contracts of the program's wordAt and of impl.TakeWord. For every slice of bytes and every place. The program's reader of bytes in a block of its own: what it holds, and the contracts of takeNext at numbers, words and lists, of num, word, list and flag. For every slice of bytes and every place. Contract of the program's reader of what stands behind a node's kind. For every slice of bytes and every kind.
-/
import Derived.Test.YtcegekkhlfpgfaaDoorTakeL
import Derived.Test.YtcegekkhlfpgfaaDoorTakeW
import Derived.Test.YtcegekkhlfpgfaaDoorGrB
import Derived.Test.YtcegekkhlfpgfaaDoorCodR
import Derived.OneCell
import Derived.Shelf.Abstract
import Derived.Test.YtcegekkhlfpgfaaDoorHN
import Derived.Test.YtcegekkhlfpgfaaDoorRFldG
namespace Go.Proofs.YtcegekkhlfpgfaaDoor
open Go.RowKit
set_option linter.unusedSimpArgs false
set_option linter.unusedVariables false

def ListPost (r : List Int × Int) (w : World) (e : Ending) (w' : World) : Prop :=
  ((r = ([], -1) ∧ ∃ k1 k2 : Int, e = .returned (.tuple #[.slice none 0 0, .int .i64 0, .iface 102 (.agg #[.int .i64 k1, .int .i64 k2])])) ∨
   (∃ ao c, r.2 ≠ -1 ∧ e = .returned (.tuple #[.slice ao r.1.length c, .int .i64 r.2, .nilIface]) ∧ Own w' w.heap.size 3 .i64 ao c r.1)) ∧ Below w.heap.size w w'
theorem listPost_no {r : List Int × Int} {w w' : World} {k1 k2 : Int} (h : r = ([], -1)) (hb : Below w.heap.size w w') : ListPost r w (.returned (.tuple #[.slice none 0 0, .int .i64 0, .iface 102 (.agg #[.int .i64 k1, .int .i64 k2])])) w' := ⟨.inl ⟨h, _, _, rfl⟩, hb⟩
theorem listPost_yes {r : List Int × Int} {w w' : World} {acc : List Int} {p : Int} {ao : Option Addr} {c n : Nat} (h : r = (acc, p)) (hp : 0 ≤ p) (hn : n = acc.length) (ho : Own w' w.heap.size 3 .i64 ao c acc) (hb : Below w.heap.size w w') : ListPost r w (.returned (.tuple #[.slice ao n c, .int .i64 p, .nilIface])) w' := by
  rw [h, hn]; exact ⟨.inr ⟨ao, c, by simp only; omega, rfl, ho⟩, hb⟩
def fillA (acc : List Int) (m : Nat) : List Int := acc ++ List.replicate (m - acc.length) 0
theorem fillA_set {acc : List Int} {m k : Nat} (z : Int) (h : acc.length = k) (hk : k < m) : (fillA acc m).set k z = fillA (acc ++ [z]) m := by
  subst h
  have e : m - acc.length = (m - (acc.length + 1)) + 1 := by omega
  simp only [fillA]
  rw [e, List.replicate_succ, List.set_append_right _ _ (Nat.le_refl _), Nat.sub_self]
  simp
theorem fillA_len {acc : List Int} {m : Nat} (h : acc.length ≤ m) : (fillA acc m).length = m := by simp [fillA]; omega
def LnRel (w wr : World) (l : List Int) (p0 : Int) (m : Nat) (nx i : Value) : Prop :=
  ∃ (k : Nat) (acc : List Int) (p : Int), nx = .int .i64 p ∧ i = .int .i64 k ∧ k ≤ m ∧ rdN l p0 k = some (acc, p) ∧ wr.ownsRow w.heap.size 3 1 (.slice (some ⟨w.heap.size, 0, none⟩) m m) m ((fillA acc m).map (Value.int .i64)) ∧ Below w.heap.size w wr
theorem ln_cell {wr : World} {B g m k : Nat} {e : TypeId} {acc : List Int} (h : wr.ownsRow B e 1 (.slice (some ⟨g, 0, none⟩) m m) m ((fillA acc m).map (Value.int .i64))) (hl : acc.length ≤ m) (hk : k < m) : ∃ y, wr.cell? ⟨g, k, none⟩ = some (.int .i64 y) := by
  have h1 := h.cellAt k (by omega)
  have hl : k < (fillA acc m).length := by rw [fillA_len hl]; exact hk
  rw [List.getElem?_map, List.getElem?_eq_getElem hl] at h1
  exact ⟨_, h1⟩
theorem ln_step {w wr : World} {e : TypeId} {m k : Nat} {acc : List Int} (z : Int) (h : wr.ownsRow w.heap.size e 1 (.slice (some ⟨w.heap.size, 0, none⟩) m m) m ((fillA acc m).map (Value.int .i64))) (hl : acc.length = k) (hk : k < m) :
    (wr.setCell ⟨w.heap.size, k, none⟩ (.int .i64 z)).ownsRow w.heap.size e 1 (.slice (some ⟨w.heap.size, 0, none⟩) m m) m ((fillA (acc ++ [z]) m).map (Value.int .i64)) := by
  have h1 := (h.stored k (.int .i64 z)).1
  rw [map_set_int, fillA_set z hl hk] at h1
  exact h1

set_option maxRecDepth 100000 in
set_option maxHeartbeats 1600000 in
theorem listAt_any (b : Option Addr) (d : Nat) (l : List Int) (at_ : Int) (w : World) (h : Rd w .u8 b l) (hby : By l) (hl : l.length ≤ maxLen) (hd : l.length ≤ d) (hd2 : d ≤ maxLen) (ha : at_ ≤ 9223372036854775807) (ha' : -9223372036854775808 ≤ at_) :
    Calls Tryd.prog 69 #[.slice b l.length d, .int .i64 at_] w (ListPost (takeNs l at_) w) := by
  have C := Lib.hid (numAt_any b d l at_ w h hby hl hd hd2 ha ha')
  have CA : Hid (∀ (p : Int) (w : World), Rd w .u8 b l → p ≤ 9223372036854775807 → 0 ≤ p → Calls Tryd.prog 88 #[.slice b l.length d, .int .i64 p] w (NumPost (takeN l p) p w)) := fun p w h hp h0 => numAt_any b d l p w h hby hl hd hd2 hp (by omega)
  have bd := takeN_bd hby at_
  have HBY := Lib.hid hby; have H := Lib.hid h
  obtain ⟨r, hr⟩ : ∃ r, r = takeNs l at_ := ⟨_, rfl⟩
  rw [← hr]
  unfold takeNs at hr
  obtain ⟨⟨n, nx⟩, hnx⟩ : ∃ x, x = takeN l at_ := ⟨_, rfl⟩
  rw [← hnx] at C bd hr
  simp only at hr bd
  have HR := Lib.hid hr; have BD := Lib.hid bd; clear hr hnx ha ha' hby h bd hd hd2
  unfold maxLen at hl
  go_enter Tryd.func69, Tryd.ntmps69
  go_wp2_with fail
  refine C.out.mono ?_
  rintro e w' ⟨hh | hh, rfl⟩
  · obtain ⟨h1, rfl⟩ := hh
    simp only at h1
    have HE : Hid (r = ([], -1)) := by
      show r = _
      rw [HR.out, if_pos (.inl (by omega))]
    clear h1
    go_wp2
    go_ret3
    exact listPost_no HE.out (Below.refl _ _)
  · obtain ⟨h1, rfl⟩ := hh
    simp only at h1 ⊢
    have hb := BD.out
    have hn0 : 0 ≤ nx := by omega
    have hnl : nx ≤ l.length := by omega
    clear h1 hb
    by_cases hc : 0 ≤ n ∧ n ≤ 300
    · obtain ⟨m, rfl⟩ : ∃ m : Nat, n = m := ⟨n.toNat, by omega⟩
      have e : r = (rdN l nx m).getD ([], -1) := by rw [HR.out, if_neg (by omega), Int.toNat_natCast]
      have HE := Lib.hid e; clear e
      have hb1 : decide ((m : Int) < 0) = false := by simp
      have hb2 : decide ((300 : Int) < m) = false := by simp; omega
      have hm3 : m ≤ 300 := by omega
      obtain ⟨i0, hi, hz0, hz1, hz2⟩ := info_parts Tryd.infoI64
      clear hc
      go_wp2_with (at_make; refine wpList_make_full _ rfl (.tmp 31) (.tmp 31) 23 rfl w.heap.size 3 i0 (.int .i64 0) 1 Tryd.underlying23 hi hz0 hz1 .i64 .i64 _ _ m rfl rfl rfl rfl (by rw [hz2]; omega) (by unfold maxLen; omega) (Nat.le_refl _) ?_; intro w1 hown hgrow)
      rw [made_ints, show List.replicate m (0 : Int) = fillA [] m by simp [fillA]] at hown
      have hbel : Below w.heap.size w w1 := below_of_grown hgrow (Nat.le_refl _) (by intro g hg; cases hg)
      clear hgrow hi hz0 hz1 hz2
      go_loopw [8, 35] (fun nx' i wr => LnRel w wr l nx m nx' i) (fun _ i _ => m - (intOf i).toNat)
      case atStart => exact ⟨0, [], nx, rfl, rfl, Nat.zero_le _, rfl, hown, hbel⟩
      case round =>
        clear hown hbel
        obtain ⟨k, acc, p, rfl, rfl, hk, hrd, ho, hb⟩ := hrel
        have hbd := rdN_bd HBY.out hn0 hnl k acc p hrd
        have hp0 : 0 ≤ p := hbd.2.1
        have hp1 : p ≤ l.length := hbd.2.2
        have HRD := Lib.hid hrd; have HO := Lib.hid ho; have HB := Lib.hid hb; have HLEN := Lib.hid hbd.1; clear hrd ho hb hbd
        by_cases hlt : k < m
        · have CP := Lib.hid (CA.out p wr (H.out.below HB.out) (by omega) hp0)
          have bd := takeN_bd HBY.out p
          obtain ⟨⟨x, q⟩, hxq⟩ : ∃ x, x = takeN l p := ⟨_, rfl⟩
          rw [← hxq] at CP bd
          simp only at bd
          have HXQ := Lib.hid hxq; clear hxq
          obtain ⟨y, hy⟩ := ln_cell HO.out (by rw [HLEN.out]; omega) hlt
          have hf := HO.out.frozenAt k
          have BDq := Lib.hid bd; clear bd
          go_wp2_with fail
          refine CP.out.mono ?_
          rintro e w' ⟨hh | hh, rfl⟩
          · obtain ⟨h1, rfl⟩ := hh
            simp only at h1
            have HN : Hid (r = ([], -1)) := by
              show r = _
              rw [HE.out, rdN_stays (rdN_no HRD.out HXQ.out h1) m (by omega)]; rfl
            clear h1
            go_wp2
            go_ret3
            exact listPost_no HN.out (HB.out.setCell (Nat.le_refl _) _)
          · obtain ⟨h1, rfl⟩ := hh
            simp only at h1 ⊢
            have R1 := Lib.hid (rdN_yes HRD.out HXQ.out h1)
            have ST := Lib.hid (ln_step x HO.out HLEN.out hlt)
            clear h1
            go_wp2
            go_roundw
            case rel => exact ⟨k + 1, acc ++ [x], q, rfl, by go_num, by omega, R1.out, ST.out, HB.out.setCell (Nat.le_refl _) _⟩
            case measure => simp [intOf]; omega
        · have hkm : k = m := by omega
          have e : r = (acc, p) := by
            rw [HE.out, ← hkm, HRD.out]; rfl
          have HN := Lib.hid e; clear e
          have HOW : Hid (Own wr w.heap.size 3 .i64 (some ⟨w.heap.size, 0, none⟩) m acc) := by
            have ho := HO.out
            have hlm : acc.length = m := by rw [HLEN.out]; exact hkm
            rw [show fillA acc m = acc by simp [fillA, hlm]] at ho
            show Own _ _ _ _ _ _ _
            unfold Own
            rw [hlm]
            exact ho
          have HM : Hid (m = acc.length) := by rw [HLEN.out]; exact hkm.symm
          clear hkm
          go_wp2
          go_ret3
          exact listPost_yes HN.out hp0 HM.out HOW.out HB.out
    · have HE : Hid (r = ([], -1)) := by
        show r = _
        rw [HR.out, if_pos (by omega)]
      by_cases hneg : n < 0
      · have hb1 : decide (n < 0) = true := by simpa using hneg
        go_wp2
        go_ret3
        exact listPost_no HE.out (Below.refl _ _)
      · have hb1 : decide (n < 0) = false := by simpa using hneg
        have hb2 : decide (300 < n) = true := by simp; omega
        go_wp2
        go_ret3
        exact listPost_no HE.out (Below.refl _ _)

set_option maxRecDepth 100000 in
theorem implTakeNums_any (b : Option Addr) (d : Nat) (l : List Int) (at_ : Int) (w : World) (hg : ErrT w) (h : Rd w .u8 b l) (hby : By l) (hl : l.length ≤ maxLen) (hd : l.length ≤ d) (hd2 : d ≤ maxLen) (ha : at_ ≤ 9223372036854775807) (ha' : -9223372036854775808 ≤ at_) :
    Calls Tryd.prog 28 #[.slice b l.length d, .int .i64 at_] w (TookL (takeNs l at_) w) := by
  have C := Lib.hid (listAt_any b d l at_ w h hby hl hd hd2 ha ha')
  have G := Lib.hid hg
  obtain ⟨r, hr⟩ : ∃ r, r = takeNs l at_ := ⟨_, rfl⟩
  rw [← hr] at C ⊢
  clear hr hg h hby hl hd hd2 ha ha'
  go_enter Tryd.func28, Tryd.ntmps28
  go_wp2_with fail
  refine C.out.mono ?_
  rintro e w1 ⟨h | h, hb1⟩
  · obtain ⟨h1, k1, k2, rfl⟩ := h
    have H1 := Lib.hid h1; have B1 := Lib.hid hb1; clear h1 hb1
    go_wp2_with fail
    refine (isMissing_hit _ _ _ (G.out.below B1.out)).mono ?_
    rintro e w2 ⟨rfl, hb⟩
    have HB := Lib.hid (below_step B1.out (Nat.le_refl _) hb); clear hb
    go_wp2
    go_ret2
    exact tookL_no H1.out HB.out
  · obtain ⟨ao, c, _, rfl, ho⟩ := h
    have HO := Lib.hid ho; have B1 := Lib.hid hb1; clear ho hb1
    go_wp2_with fail
    refine (isMissing_nil _).mono ?_
    rintro e w2 ⟨rfl, hb⟩
    have HB := Lib.hid (below_step B1.out (Nat.le_refl _) hb); have HO2 := Lib.hid (HO.out.below hb); clear hb
    go_wp2
    go_ret2
    exact ⟨ao, c, rfl, HO2.out, HB.out⟩
end Go.Proofs.YtcegekkhlfpgfaaDoor
namespace Go.Proofs.YtcegekkhlfpgfaaDoor
open Go.RowKit
set_option linter.unusedSimpArgs false
set_option linter.unusedVariables false

def WordPost (r : ByteArray × Int) (w : World) (e : Ending) (w' : World) : Prop :=
  ((r = (⟨#[]⟩, -1) ∧ ∃ k1 k2 : Int, e = .returned (.tuple #[.string ⟨#[]⟩, .int .i64 0, .iface 102 (.agg #[.int .i64 k1, .int .i64 k2])])) ∨ (r.2 ≠ -1 ∧ e = .returned (.tuple #[.string r.1, .int .i64 r.2, .nilIface]))) ∧ w = w'
theorem wordPost_no {r : ByteArray × Int} {w : World} {k1 k2 : Int} (h : r = (⟨#[]⟩, -1)) : WordPost r w (.returned (.tuple #[.string ⟨#[]⟩, .int .i64 0, .iface 102 (.agg #[.int .i64 k1, .int .i64 k2])])) w := ⟨.inl ⟨h, _, _, rfl⟩, rfl⟩
theorem wordPost_yes {r : ByteArray × Int} {w : World} {s : ByteArray} {y : Int} (h : r = (s, y)) (hy : y ≠ -1) : WordPost r w (.returned (.tuple #[.string s, .int .i64 y, .nilIface])) w := by rw [h]; exact ⟨.inr ⟨hy, rfl⟩, rfl⟩

set_option maxRecDepth 100000 in
set_option maxHeartbeats 1600000 in
theorem wordAt_any (b : Option Addr) (d : Nat) (l : List Int) (at_ : Int) (w : World) (h : Rd w .u8 b l) (hby : By l) (hl : l.length ≤ maxLen) (hd : l.length ≤ d) (hd2 : d ≤ maxLen) (ha : at_ ≤ 9223372036854775807) (ha' : -9223372036854775808 ≤ at_) :
    Calls Tryd.prog 73 #[.slice b l.length d, .int .i64 at_] w (WordPost (takeW l at_) w) := by
  have C := Lib.hid (numAt_any b d l at_ w h hby hl hd hd2 ha ha')
  have bd := takeN_bd hby at_
  have HL := Lib.hid hl; have HD := Lib.hid hd; have HD2 := Lib.hid hd2; have H := Lib.hid h
  obtain ⟨r, hr⟩ : ∃ r, r = takeW l at_ := ⟨_, rfl⟩
  rw [← hr]
  unfold takeW at hr
  obtain ⟨⟨n, nx⟩, hnx⟩ : ∃ x, x = takeN l at_ := ⟨_, rfl⟩
  rw [← hnx] at C bd hr
  simp only at hr bd
  have HR := Lib.hid hr; have BD := Lib.hid bd; clear hr hnx hby h hd hd2 ha ha' bd
  unfold maxLen at hl
  go_enter Tryd.func73, Tryd.ntmps73
  go_wp2_with fail
  refine C.out.mono ?_
  rintro e w' ⟨hh | hh, rfl⟩
  · obtain ⟨h1, rfl⟩ := hh
    simp only at h1
    have HE : Hid (r = (⟨#[]⟩, -1)) := by
      show r = _
      rw [HR.out, if_pos (.inl (by omega))]
    clear h1
    go_wp2
    go_ret3
    exact wordPost_no HE.out
  · obtain ⟨h1, rfl⟩ := hh
    simp only at h1 ⊢
    have hb := BD.out
    have hx0 : 0 ≤ nx := by omega
    have hx1 : nx ≤ l.length := by omega
    have hn0 : -1000000 ≤ n := hb.1
    have hn1 : n ≤ 1000000 := hb.2.1
    clear h1 hb
    by_cases hc : 0 ≤ n ∧ n ≤ l.length - nx
    · obtain ⟨p, rfl⟩ : ∃ p : Nat, nx = p := ⟨nx.toNat, by omega⟩
      obtain ⟨q, rfl⟩ : ∃ q : Nat, n = q := ⟨n.toNat, by omega⟩
      have hss := strOf_size ((l.drop p).take q)
      rw [show ((l.drop p).take q).length = q by simp; omega] at hss
      have e : r = if wordB (strOfNums ((l.drop p).take q)).data.toList then (strOfNums ((l.drop p).take q), ((p : Int) + q)) else (⟨#[]⟩, -1) := by
        rw [HR.out]
        by_cases h12 : 1 ≤ q ∧ q ≤ 12
        · rw [if_neg (by omega)]; rfl
        · rw [if_pos (by omega), wordB_len (by rw [hss]; exact h12)]; rfl
      have CV : Hid (∀ ao, Rd w .u8 ao ((l.drop p).take q) → ((l.drop p).take q).length = q → (convert 59 9 (.slice ao q q)).run Tryd.prog w = .ok (.string (strOfNums ((l.drop p).take q))) w) := fun ao h1 h2 => conv_str w 59 Tryd.underlying59 ao q q _ h1 h2
      have K := Lib.hid (cut_yes' b d l p q p q rfl rfl w HL.out HD.out HD2.out H.out (by omega))
      generalize hm : (l.drop p).take q = m at CV K e hss
      generalize strOfNums m = st at e CV hss
      have hst : st.size ≤ maxLen := by unfold maxLen; omega
      have WK := Lib.hid (implWordOk_any st w hst)
      have HE := Lib.hid e
      have hpq : (p : Int) + q ≤ l.length := by omega
      clear hm e hss hst hc
      go_wp2_with fail
      refine K.out.mono ?_
      rintro e w' ⟨ao, rfl, hrd, hlen, _, rfl⟩
      have hcv := CV.out ao hrd hlen
      clear hrd hlen
      cases hw : wordB st.data.toList with
      | true =>
        have wk := WK.out; rw [hw] at wk
        have he := HE.out; rw [hw] at he
        have WK1 := Lib.hid wk; have HE1 := Lib.hid he; clear wk he WK HE hw CV K
        go_wp2_with (go_at_call 71; refine WK1.out.mono ?_; rintro e w' ⟨rfl, rfl⟩)
        go_ret3
        exact wordPost_yes (HE1.out.trans (by simp)) (by omega)
      | false =>
        have wk := WK.out; rw [hw] at wk
        have he := HE.out; rw [hw] at he
        have WK1 := Lib.hid wk; have HE1 := Lib.hid he; clear wk he WK HE hw CV K
        go_wp2_with (go_at_call 71; refine WK1.out.mono ?_; rintro e w' ⟨rfl, rfl⟩)
        go_ret3
        exact wordPost_no (HE1.out.trans (if_neg (by simp)))
    · have HE : Hid (r = (⟨#[]⟩, -1)) := by
        show r = _
        rw [HR.out, if_pos (by omega)]
      go_wp2_with fail
      refine (cut_no _ _ _ _ _ _ HL.out (by omega) (by omega) (by omega)).mono ?_
      rintro e w' ⟨rfl, rfl⟩
      go_wp2
      go_ret3
      exact wordPost_no HE.out

def TookSB (r : ByteArray × Int) (w : World) (e : Ending) (w' : World) : Prop := e = .returned (.tuple #[.string r.1, .int .i64 r.2]) ∧ Below w.heap.size w w'

set_option maxRecDepth 100000 in
theorem implTakeWord_any (b : Option Addr) (d : Nat) (l : List Int) (at_ : Int) (w : World) (hg : ErrT w) (h : Rd w .u8 b l) (hby : By l) (hl : l.length ≤ maxLen) (hd : l.length ≤ d) (hd2 : d ≤ maxLen) (ha : at_ ≤ 9223372036854775807) (ha' : -9223372036854775808 ≤ at_) :
    Calls Tryd.prog 34 #[.slice b l.length d, .int .i64 at_] w (TookSB (takeW l at_) w) := by
  have C := Lib.hid (wordAt_any b d l at_ w h hby hl hd hd2 ha ha')
  have G := Lib.hid hg
  obtain ⟨r, hr⟩ : ∃ r, r = takeW l at_ := ⟨_, rfl⟩
  rw [← hr] at C ⊢
  clear hr hg h hby hl hd hd2 ha ha'
  go_enter Tryd.func34, Tryd.ntmps34
  go_wp2_with fail
  refine C.out.mono ?_
  rintro e w' ⟨h | h, rfl⟩
  · obtain ⟨h1, k1, k2, rfl⟩ := h
    have H1 := Lib.hid h1; clear h1
    go_wp2_with fail
    refine (isMissing_hit _ _ _ G.out).mono ?_
    rintro e w1 ⟨rfl, hb⟩
    have HB := Lib.hid hb; clear hb
    go_wp2
    go_ret2
    refine ⟨?_, HB.out⟩
    rw [H1.out]; rfl
  · obtain ⟨h1, rfl⟩ := h
    clear h1
    go_wp2_with fail
    refine (isMissing_nil _).mono ?_
    rintro e w1 ⟨rfl, hb⟩
    have HB := Lib.hid hb; clear hb
    go_wp2
    go_ret2
    exact ⟨rfl, HB.out⟩
end Go.Proofs.YtcegekkhlfpgfaaDoor
namespace Go.Proofs.YtcegekkhlfpgfaaDoor
open Go.RowKit
set_option linter.unusedSimpArgs false
set_option linter.unusedVariables false

/-- Whether something was missing. -/
def ErV (er : Value) (p : Int) (s : Option Int) : Prop := (s = some p ∧ er = .nilIface) ∨ (s = none ∧ ∃ k1 k2 : Int, er = .iface 102 (.agg #[.int .i64 k1, .int .i64 k2]))
/-- The reader in block R over the bytes l. -/
def Rdr (w : World) (R : Nat) (b : Option Addr) (d : Nat) (l : List Int) (s : Option Int) : Prop :=
  ∃ (p : Int) (er : Value), w.heap[R]? = some (.cells #[.slice b l.length d, .int .i64 p, er] 63 (0, 0)) ∧ (-9223372036854775808 ≤ p ∧ p ≤ 9223372036854775807) ∧ ErV er p s ∧ Rd w .u8 b l ∧ By l ∧ (l.length ≤ d ∧ d ≤ maxLen) ∧ (∀ a, b = some a → l ≠ [] → a.block ≠ R)
def TookR (v : Value) (R : Nat) (b : Option Addr) (d : Nat) (l : List Int) (s : Option Int) (w : World) (e : Ending) (w' : World) : Prop :=
  e = .returned v ∧ Rdr w' R b d l s ∧ w.grownBy w' (some R)

section
variable {w w1 w' : World} {R d : Nat} {b : Option Addr} {l : List Int} {p q : Int} {er er' : Value} {s : Option Int}
theorem rdr_set1 (hh : w1.heap[R]? = some (.cells #[.slice b l.length d, .int .i64 p, er] 63 (0, 0))) (hr : Rd w1 .u8 b l) (hby : By l) (hd : l.length ≤ d ∧ d ≤ maxLen) (hne : ∀ a, b = some a → l ≠ [] → a.block ≠ R) (hq : -9223372036854775808 ≤ q ∧ q ≤ 9223372036854775807) (he : er = .nilIface) :
    Rdr (w1.setCell ⟨R, 1, none⟩ (.int .i64 q)) R b d l (some q) :=
  ⟨q, er, by rw [heap_setCell_same w1 R 1 _ _ _ hh]; rfl, hq, .inl ⟨rfl, he⟩, hr.far hne fun x hx => World.cell?_setCell_other _ _ _ _ (fun e => by subst e; exact hx rfl), hby, hd, hne⟩
theorem rdr_set2 {k1 k2 : Int} (hh : w1.heap[R]? = some (.cells #[.slice b l.length d, .int .i64 p, er] 63 (0, 0))) (hr : Rd w1 .u8 b l) (hby : By l) (hd : l.length ≤ d ∧ d ≤ maxLen) (hne : ∀ a, b = some a → l ≠ [] → a.block ≠ R) (hp : -9223372036854775808 ≤ p ∧ p ≤ 9223372036854775807) :
    Rdr (w1.setCell ⟨R, 2, none⟩ (.iface 102 (.agg #[.int .i64 k1, .int .i64 k2]))) R b d l none :=
  ⟨p, _, by rw [heap_setCell_same w1 R 2 _ _ _ hh]; rfl, hp, .inr ⟨rfl, k1, k2, rfl⟩, hr.far hne fun x hx => World.cell?_setCell_other _ _ _ _ (fun e => by subst e; exact hx rfl), hby, hd, hne⟩
theorem rdr_same (hh : w1.heap[R]? = some (.cells #[.slice b l.length d, .int .i64 p, er] 63 (0, 0))) (hr : Rd w1 .u8 b l) (hby : By l) (hd : l.length ≤ d ∧ d ≤ maxLen) (hne : ∀ a, b = some a → l ≠ [] → a.block ≠ R) (hp : -9223372036854775808 ≤ p ∧ p ≤ 9223372036854775807) (he : ErV er p s) : Rdr w1 R b d l s :=
  ⟨p, er, hh, hp, he, hr, hby, hd, hne⟩
theorem grown_set (h : w.grownBy w1 (some R)) (o : Nat) (v : Value) : w.grownBy (w1.setCell ⟨R, o, none⟩ v) (some R) :=
  grownBy_trans h ⟨rfl, rfl, rfl, by simp [World.setCell], fun i _ hi => heap_setCell_other w1 ⟨R, o, none⟩ i _ (fun e => hi (by simp [e]))⟩
theorem Rdr.below (h : Rdr w R b d l s) (hb : Below w.heap.size w w') : Rdr w' R b d l s := by
  obtain ⟨p, er, hh, hp, he, hr, hby, hd, hne⟩ := h
  refine ⟨p, er, ?_, hp, he, hr.below hb, hby, hd, hne⟩
  rw [hb.block R (by
    rcases Nat.lt_or_ge R w.heap.size with h1 | h1
    · exact h1
    · rw [Array.getElem?_eq_none h1] at hh; cases hh)]; exact hh
end

set_option maxRecDepth 100000 in
set_option maxHeartbeats 800000 in
theorem takeNum_any (R : Nat) (b : Option Addr) (d : Nat) (l : List Int) (s : Option Int) (w : World) (h : Rdr w R b d l s) :
    Calls Tryd.prog 99 #[.pointer (some ⟨R, 0, none⟩), .func (.func 88) #[.slice b l.length d] #[]] w (TookR (.int .i64 (numR l s).1) R b d l (numR l s).2 w) := by
  obtain ⟨p, er, hh, hp, he, hr, hby, hd, hne⟩ := h
  have c0 : w.cell? ⟨R, 0, none⟩ = some (.slice b l.length d) := cell_of_row w R 0 _ _ _ hh
  have c1 : w.cell? ⟨R, 1, none⟩ = some (.int .i64 p) := cell_of_row w R 1 _ _ _ hh
  have c2 : w.cell? ⟨R, 2, none⟩ = some er := cell_of_row w R 2 _ _ _ hh
  have f1 : w.frozen? ⟨R, 1, none⟩ = false := by simp [World.frozen?, hh]
  have f2 : w.frozen? ⟨R, 2, none⟩ = false := by simp [World.frozen?, hh]
  have hlm : l.length ≤ maxLen := Nat.le_trans hd.1 hd.2
  rcases he with ⟨rfl, rfl⟩ | ⟨rfl, k1, k2, rfl⟩
  · have C := Lib.hid (numAt_any b d l p w hr hby hlm hd.1 hd.2 hp.2 hp.1)
    have BD := Lib.hid (takeN_bd hby p)
    have HH := Lib.hid hh; have HR := Lib.hid hr; have HBY := Lib.hid hby; have HNE := Lib.hid hne; have HD := Lib.hid hd; have HP := Lib.hid hp
    clear hh hr hby hne hd hp
    have RL : Hid (numR l (some p) = if (takeN l p).2 = -1 then (0, none) else ((takeN l p).1, some (takeN l p).2)) := rfl
    obtain ⟨⟨x, y⟩, hxy⟩ : ∃ r, r = takeN l p := ⟨_, rfl⟩
    rw [← hxy] at C BD RL
    obtain ⟨rr, hrr⟩ : ∃ rr, rr = numR l (some p) := ⟨_, rfl⟩
    rw [← hrr] at RL ⊢
    simp only at RL
    clear hxy hrr
    go_enter Tryd.func99, Tryd.ntmps99
    go_wp2_with fail
    refine C.out.mono ?_
    clear C
    rintro e w' ⟨hh | hh, rfl⟩
    · obtain ⟨h1, rfl⟩ := hh
      simp only at h1
      have E : Hid (rr = (0, none)) := by show _ = _; rw [RL.out, if_pos h1]
      have RS := Lib.hid (rdr_set2 (k1 := 0) (k2 := p) HH.out HR.out HBY.out HD.out HNE.out HP.out)
      have GS := Lib.hid (grown_set (World.grownBy.refl w (some R)) 2 (.iface 102 (.agg #[.int .i64 0, .int .i64 p])))
      clear h1
      go_wp2_with fail
      go_ret
      rw [E.out]
      exact ⟨rfl, RS.out, GS.out⟩
    · obtain ⟨h1, rfl⟩ := hh
      simp only at h1 ⊢
      have E : Hid (rr = (x, some y)) := by show _ = _; rw [RL.out, if_neg h1]
      have hb := BD.out
      have RS := Lib.hid (rdr_set1 (q := y) HH.out HR.out HBY.out HD.out HNE.out (by unfold maxLen at hlm; omega) rfl)
      have GS := Lib.hid (grown_set (World.grownBy.refl w (some R)) 1 (.int .i64 y))
      clear h1 hb BD
      go_wp2_with fail
      go_ret
      rw [E.out]
      exact ⟨rfl, RS.out, GS.out⟩
  · have RS := Lib.hid (rdr_same (s := none) hh hr hby hd hne hp (.inr ⟨rfl, k1, k2, rfl⟩))
    clear hh hr hby hne hd hp
    go_enter Tryd.func99, Tryd.ntmps99
    go_wp2_with fail
    go_ret
    exact ⟨rfl, RS.out, World.grownBy.refl _ _⟩

set_option maxRecDepth 100000 in
set_option maxHeartbeats 800000 in
theorem takeWord_any (R : Nat) (b : Option Addr) (d : Nat) (l : List Int) (s : Option Int) (w : World) (h : Rdr w R b d l s) :
    Calls Tryd.prog 106 #[.pointer (some ⟨R, 0, none⟩), .func (.func 73) #[.slice b l.length d] #[]] w (TookR (.string (wordR l s).1) R b d l (wordR l s).2 w) := by
  obtain ⟨p, er, hh, hp, he, hr, hby, hd, hne⟩ := h
  have c0 : w.cell? ⟨R, 0, none⟩ = some (.slice b l.length d) := cell_of_row w R 0 _ _ _ hh
  have c1 : w.cell? ⟨R, 1, none⟩ = some (.int .i64 p) := cell_of_row w R 1 _ _ _ hh
  have c2 : w.cell? ⟨R, 2, none⟩ = some er := cell_of_row w R 2 _ _ _ hh
  have f1 : w.frozen? ⟨R, 1, none⟩ = false := by simp [World.frozen?, hh]
  have f2 : w.frozen? ⟨R, 2, none⟩ = false := by simp [World.frozen?, hh]
  have hlm : l.length ≤ maxLen := Nat.le_trans hd.1 hd.2
  rcases he with ⟨rfl, rfl⟩ | ⟨rfl, k1, k2, rfl⟩
  · have C := Lib.hid (wordAt_any b d l p w hr hby hlm hd.1 hd.2 hp.2 hp.1)
    have BD := Lib.hid (takeW_pl hby p)
    have HH := Lib.hid hh; have HR := Lib.hid hr; have HBY := Lib.hid hby; have HNE := Lib.hid hne; have HD := Lib.hid hd; have HP := Lib.hid hp
    clear hh hr hby hne hd hp
    have RL : Hid (wordR l (some p) = if (takeW l p).2 = -1 then (⟨#[]⟩, none) else ((takeW l p).1, some (takeW l p).2)) := rfl
    obtain ⟨⟨x, y⟩, hxy⟩ : ∃ r, r = takeW l p := ⟨_, rfl⟩
    rw [← hxy] at C BD RL
    obtain ⟨rr, hrr⟩ : ∃ rr, rr = wordR l (some p) := ⟨_, rfl⟩
    rw [← hrr] at RL ⊢
    simp only at RL
    clear hxy hrr
    go_enter Tryd.func106, Tryd.ntmps106
    go_wp2_with fail
    refine C.out.mono ?_
    clear C
    rintro e w' ⟨hh | hh, rfl⟩
    · obtain ⟨h1, k1, k2, rfl⟩ := hh
      have E : Hid (rr = (⟨#[]⟩, none)) := by show _ = _; rw [RL.out, if_pos (by injection h1)]
      have RS := Lib.hid (rdr_set2 (k1 := k1) (k2 := k2) HH.out HR.out HBY.out HD.out HNE.out HP.out)
      have GS := Lib.hid (grown_set (World.grownBy.refl w (some R)) 2 (.iface 102 (.agg #[.int .i64 k1, .int .i64 k2])))
      clear h1
      go_wp2_with fail
      go_ret
      rw [E.out]
      exact ⟨rfl, RS.out, GS.out⟩
    · obtain ⟨h1, rfl⟩ := hh
      simp only at h1 ⊢
      have E : Hid (rr = (x, some y)) := by show _ = _; rw [RL.out, if_neg h1]
      have hb := BD.out
      have RS := Lib.hid (rdr_set1 (q := y) HH.out HR.out HBY.out HD.out HNE.out (by unfold maxLen at hlm; omega) rfl)
      have GS := Lib.hid (grown_set (World.grownBy.refl w (some R)) 1 (.int .i64 y))
      clear h1 hb BD
      go_wp2_with fail
      go_ret
      rw [E.out]
      exact ⟨rfl, RS.out, GS.out⟩
  · have RS := Lib.hid (rdr_same (s := none) hh hr hby hd hne hp (.inr ⟨rfl, k1, k2, rfl⟩))
    clear hh hr hby hne hd hp
    go_enter Tryd.func106, Tryd.ntmps106
    go_wp2_with fail
    go_ret
    exact ⟨rfl, RS.out, World.grownBy.refl _ _⟩

def TookLR (xs : List Int) (R : Nat) (b : Option Addr) (d : Nat) (l : List Int) (s : Option Int) (w : World) (e : Ending) (w' : World) : Prop :=
  ∃ ao c, e = .returned (.slice ao xs.length c) ∧ Own w' w.heap.size 3 .i64 ao c xs ∧ Rdr w' R b d l s ∧ w.grownBy w' (some R)
theorem takeNs_pl {l : List Int} (hl : By l) (p : Int) : (takeNs l p).2 = -1 ∨ (0 ≤ (takeNs l p).2 ∧ (takeNs l p).2 ≤ l.length) := by
  unfold takeNs
  have bd := takeN_bd hl p
  split
  · exact .inl rfl
  · rename_i h
    cases hr : rdN l (takeN l p).2 (takeN l p).1.toNat with
    | none => exact .inl rfl
    | some x =>
      obtain ⟨acc, q⟩ := x
      have := rdN_bd hl (p0 := (takeN l p).2) (by omega) (by omega) _ _ _ hr
      right; simp only [Option.getD_some]; omega
set_option maxRecDepth 100000 in
set_option maxHeartbeats 800000 in
theorem takeList_any (R : Nat) (b : Option Addr) (d : Nat) (l : List Int) (s : Option Int) (w : World) (h : Rdr w R b d l s) :
    Calls Tryd.prog 111 #[.pointer (some ⟨R, 0, none⟩), .func (.func 69) #[.slice b l.length d] #[]] w (TookLR (listR l s).1 R b d l (listR l s).2 w) := by
  obtain ⟨p, er, hh, hp, he, hr, hby, hd, hne⟩ := h
  have c0 : w.cell? ⟨R, 0, none⟩ = some (.slice b l.length d) := cell_of_row w R 0 _ _ _ hh
  have c1 : w.cell? ⟨R, 1, none⟩ = some (.int .i64 p) := cell_of_row w R 1 _ _ _ hh
  have c2 : w.cell? ⟨R, 2, none⟩ = some er := cell_of_row w R 2 _ _ _ hh
  have hlm : l.length ≤ maxLen := Nat.le_trans hd.1 hd.2
  have hRl : R < w.heap.size := lt_of_block hh
  rcases he with ⟨rfl, rfl⟩ | ⟨rfl, k1, k2, rfl⟩
  · have C := Lib.hid (listAt_any b d l p w hr hby hlm hd.1 hd.2 hp.2 hp.1)
    have BD := Lib.hid (takeNs_pl hby p)
    have HH := Lib.hid hh; have HR := Lib.hid hr; have HBY := Lib.hid hby; have HNE := Lib.hid hne; have HD := Lib.hid hd; have HP := Lib.hid hp
    clear hh hr hby hne hd hp
    have RL : Hid (listR l (some p) = if (takeNs l p).2 = -1 then ([], none) else ((takeNs l p).1, some (takeNs l p).2)) := rfl
    obtain ⟨⟨x, y⟩, hxy⟩ : ∃ r, r = takeNs l p := ⟨_, rfl⟩
    rw [← hxy] at C BD RL
    obtain ⟨rr, hrr⟩ : ∃ rr, rr = listR l (some p) := ⟨_, rfl⟩
    rw [← hrr] at RL ⊢
    simp only at RL
    clear hxy hrr
    go_enter Tryd.func111, Tryd.ntmps111
    go_wp2_with fail
    refine C.out.mono ?_
    clear C
    rintro e w1 ⟨hh | hh, b1⟩
    · obtain ⟨h1, k1, k2, rfl⟩ := hh
      have hh1 := (b1.block R hRl).trans HH.out
      have f2 : w1.frozen? ⟨R, 2, none⟩ = false := by simp [World.frozen?, hh1]
      have d2 := cell_of_row w1 R 2 _ _ _ hh1
      have E : Hid (rr = ([], none)) := by show _ = _; rw [RL.out, if_pos (by injection h1)]
      have RS := Lib.hid (rdr_set2 (k1 := k1) (k2 := k2) hh1 (HR.out.below b1) HBY.out HD.out HNE.out HP.out)
      have GS := Lib.hid (grown_set (grownBy_below (World.grownBy.refl w (some R)) b1) 2 (.iface 102 (.agg #[.int .i64 k1, .int .i64 k2])))
      clear h1 hh1 b1
      go_wp2_with fail
      go_ret
      rw [E.out]
      exact ⟨none, 0, rfl, Own.none_, RS.out, GS.out⟩
    · obtain ⟨ao, c, h1, rfl, ho⟩ := hh
      simp only at h1 ho ⊢
      have hh1 := (b1.block R hRl).trans HH.out
      have f1 : w1.frozen? ⟨R, 1, none⟩ = false := by simp [World.frozen?, hh1]
      have d1 := cell_of_row w1 R 1 _ _ _ hh1
      have E : Hid (rr = (x, some y)) := by show _ = _; rw [RL.out, if_neg h1]
      have hb := BD.out
      have RS := Lib.hid (rdr_set1 (q := y) hh1 (HR.out.below b1) HBY.out HD.out HNE.out (by unfold maxLen at hlm; omega) rfl)
      have GS := Lib.hid (grown_set (grownBy_below (World.grownBy.refl w (some R)) b1) 1 (.int .i64 y))
      have OS := Lib.hid (ho.keep (w' := w1.setCell ⟨R, 1, none⟩ (.int .i64 y)) (fun a ha _ => Below.heap_setCell w1 ⟨R, 1, none⟩ _ a.block (by have := (ho.lt a ha).1; simp; omega)))
      clear h1 hb BD hh1 b1 ho
      go_wp2_with fail
      go_ret
      rw [E.out]
      exact ⟨ao, c, rfl, OS.out, RS.out, GS.out⟩
  · have RS := Lib.hid (rdr_same (s := none) hh hr hby hd hne hp (.inr ⟨rfl, k1, k2, rfl⟩))
    clear hh hr hby hne hd hp
    go_enter Tryd.func111, Tryd.ntmps111
    go_wp2_with fail
    go_ret
    exact ⟨none, 0, rfl, Own.none_, RS.out, World.grownBy.refl _ _⟩

set_option maxRecDepth 100000 in
theorem rList_any (R : Nat) (b : Option Addr) (d : Nat) (l : List Int) (s : Option Int) (w : World) (h : Rdr w R b d l s) :
    Calls Tryd.prog 98 #[.pointer (some ⟨R, 0, none⟩)] w (TookLR (listR l s).1 R b d l (listR l s).2 w) := by
  have T := Lib.hid (takeList_any R b d l s w h)
  obtain ⟨p, er, hh, _⟩ := h
  have c0 : w.cell? ⟨R, 0, none⟩ = some (.slice b l.length d) := cell_of_row w R 0 _ _ _ hh
  have hmf : ∀ (fn : Fn) (first cap : Array Value) (w : World), (Instr.makeFunc fn first cap).run Tryd.prog w = .ok (.func fn first cap) w := fun _ _ _ _ => rfl
  clear hh
  go_enter Tryd.func98, Tryd.ntmps98
  go_wp2_with fail
  refine T.out.mono ?_
  rintro e w1 ⟨ao, c, rfl, h0, h1, h2⟩
  have H0 := Lib.hid h0; have H1 := Lib.hid h1; have H2 := Lib.hid h2; clear h0 h1 h2 T
  go_wp2_with fail
  go_ret
  exact ⟨ao, c, rfl, H0.out, H1.out, H2.out⟩

set_option maxRecDepth 100000 in
theorem rNum_any (R : Nat) (b : Option Addr) (d : Nat) (l : List Int) (s : Option Int) (w : World) (h : Rdr w R b d l s) :
    Calls Tryd.prog 81 #[.pointer (some ⟨R, 0, none⟩)] w (TookR (.int .i64 (numR l s).1) R b d l (numR l s).2 w) := by
  have T := Lib.hid (takeNum_any R b d l s w h)
  obtain ⟨p, er, hh, _⟩ := h
  have c0 : w.cell? ⟨R, 0, none⟩ = some (.slice b l.length d) := cell_of_row w R 0 _ _ _ hh
  have hmf : ∀ (fn : Fn) (first cap : Array Value) (w : World), (Instr.makeFunc fn first cap).run Tryd.prog w = .ok (.func fn first cap) w := fun _ _ _ _ => rfl
  clear hh
  go_enter Tryd.func81, Tryd.ntmps81
  go_wp2_with fail
  refine T.out.mono ?_
  rintro e w' ⟨rfl, h1, h2⟩
  have H1 := Lib.hid h1; have H2 := Lib.hid h2; clear h1 h2 T
  go_wp2_with fail
  go_ret
  exact ⟨rfl, H1.out, H2.out⟩

set_option maxRecDepth 100000 in
theorem rWord_any (R : Nat) (b : Option Addr) (d : Nat) (l : List Int) (s : Option Int) (w : World) (h : Rdr w R b d l s) :
    Calls Tryd.prog 85 #[.pointer (some ⟨R, 0, none⟩)] w (TookR (.string (wordR l s).1) R b d l (wordR l s).2 w) := by
  have T := Lib.hid (takeWord_any R b d l s w h)
  obtain ⟨p, er, hh, _⟩ := h
  have c0 : w.cell? ⟨R, 0, none⟩ = some (.slice b l.length d) := cell_of_row w R 0 _ _ _ hh
  have hmf : ∀ (fn : Fn) (first cap : Array Value) (w : World), (Instr.makeFunc fn first cap).run Tryd.prog w = .ok (.func fn first cap) w := fun _ _ _ _ => rfl
  clear hh
  go_enter Tryd.func85, Tryd.ntmps85
  go_wp2_with fail
  refine T.out.mono ?_
  rintro e w' ⟨rfl, h1, h2⟩
  have H1 := Lib.hid h1; have H2 := Lib.hid h2; clear h1 h2 T
  go_wp2_with fail
  go_ret
  exact ⟨rfl, H1.out, H2.out⟩

set_option maxRecDepth 100000 in
set_option maxHeartbeats 800000 in
theorem rFlag_any (R : Nat) (b : Option Addr) (d : Nat) (l : List Int) (s : Option Int) (w : World) (h : Rdr w R b d l s) :
    Calls Tryd.prog 97 #[.pointer (some ⟨R, 0, none⟩)] w (TookR (.bool (flagR l s).1) R b d l (flagR l s).2 w) := by
  have T := Lib.hid (rNum_any R b d l s w h)
  obtain ⟨p, er, hh, _⟩ := h
  have c1 : w.cell? ⟨R, 1, none⟩ = some (.int .i64 p) := cell_of_row w R 1 _ _ _ hh
  have FL : Hid (flagR l s = ((numR l s).1 == 1, if (numR l s).1 = 0 ∨ (numR l s).1 = 1 then (numR l s).2 else none)) := rfl
  obtain ⟨⟨x, s1⟩, hx⟩ : ∃ r, r = numR l s := ⟨_, rfl⟩
  rw [← hx] at T FL
  obtain ⟨rr, hrr⟩ : ∃ rr, rr = flagR l s := ⟨_, rfl⟩
  rw [← hrr] at FL ⊢
  simp only at FL
  clear hh hx hrr
  go_enter Tryd.func97, Tryd.ntmps97
  go_wp2_with fail
  refine T.out.mono ?_
  rintro e w1 ⟨rfl, h1, h2⟩
  simp only at h1 ⊢
  have H1 := Lib.hid h1; have H2 := Lib.hid h2
  clear T c1 h2
  obtain ⟨p1, er1, hh, hp, he, hr, hby, hd, hne⟩ := h1
  have c1 : w1.cell? ⟨R, 1, none⟩ = some (.int .i64 p1) := cell_of_row w1 R 1 _ _ _ hh
  have c2 : w1.cell? ⟨R, 2, none⟩ = some er1 := cell_of_row w1 R 2 _ _ _ hh
  have f2 : w1.frozen? ⟨R, 2, none⟩ = false := by simp [World.frozen?, hh]
  by_cases h0 : x = 0
  · subst h0
    have E : Hid (rr = (false, s1)) := by show _ = _; rw [FL.out]; simp
    clear hh hp he hr hby hd hne
    go_wp2_with fail
    go_ret
    rw [E.out]
    exact ⟨rfl, H1.out, H2.out⟩
  · by_cases h1 : x = 1
    · subst h1
      have E : Hid (rr = (true, s1)) := by show _ = _; rw [FL.out]; simp
      clear hh hp he hr hby hd hne
      go_wp2_with fail
      go_ret
      rw [E.out]
      exact ⟨rfl, H1.out, H2.out⟩
    · have E : Hid (rr = (false, none)) := by show _ = _; rw [FL.out]; simp [h0, h1]
      have RS := Lib.hid (rdr_set2 (k1 := 4) (k2 := p) hh hr hby hd hne hp)
      have GS := Lib.hid (grown_set H2.out 2 (.iface 102 (.agg #[.int .i64 4, .int .i64 p])))
      have n0 : (x != 0) = true := by simp [h0]
      have n1 : (x != 1) = true := by simp [h1]
      have n2 : (x == 1) = false := by simp [h1]
      clear hh hp he hr hby hd hne
      go_wp2_with fail
      go_ret
      rw [E.out]
      exact ⟨rfl, RS.out, GS.out⟩
end Go.Proofs.YtcegekkhlfpgfaaDoor
namespace Go.Proofs.YtcegekkhlfpgfaaDoor
open Go.RowKit
set_option linter.unusedSimpArgs false
set_option linter.unusedVariables false

theorem grownBy_belowB {a b c : World} {row : Option Nat} (h : a.grownBy b row) (k : Below a.heap.size b c) : a.grownBy c row :=
  ⟨k.os.trans h.os, k.tape.trans h.tape, k.output.trans h.output, Nat.le_trans h.size k.size, fun i hi hne => (k.block i hi).trans (h.block i hi hne)⟩
theorem below_grownBy {a b c : World} {row : Option Nat} (h : Below a.heap.size a b) (k : b.grownBy c row) : a.grownBy c row :=
  ⟨k.os.trans h.os, k.tape.trans h.tape, k.output.trans h.output, Nat.le_trans h.size k.size, fun i hi hne => (k.block i (Nat.lt_of_lt_of_le hi h.size) hne).trans (h.block i hi)⟩
theorem Rdr.lt {w : World} {R d : Nat} {b : Option Addr} {l : List Int} {s : Option Int} (h : Rdr w R b d l s) : R < w.heap.size := by
  obtain ⟨p, er, hh, _⟩ := h; exact lt_of_block hh
theorem Rdr.bytes {w : World} {R d : Nat} {b : Option Addr} {l : List Int} {s : Option Int} (h : Rdr w R b d l s) : ∀ a, b = some a → l ≠ [] → a.block < w.heap.size := by
  obtain ⟨p, er, hh, hp, he, hr, hby, hd, hne⟩ := h
  intro a ha hl
  rcases hr with rfl | ⟨b1, off, rfl, hc⟩
  · exact absurd rfl hl
  · cases ha
    have hpos : 0 < l.length := Nat.pos_of_ne_zero (fun e => hl (List.eq_nil_of_length_eq_zero e))
    exact World.block_lt_of_cell? w ⟨b1, off + 0, none⟩ (hc 0 hpos)
theorem Rdr.belowB {w1 w' : World} {B R d : Nat} {b : Option Addr} {l : List Int} {s : Option Int} (h : Rdr w1 R b d l s) (hR : R < B) (hbB : ∀ a, b = some a → l ≠ [] → a.block < B) (hb : Below B w1 w') : Rdr w' R b d l s := by
  obtain ⟨p, er, hh, hp, he, hr, hby, hd, hne⟩ := h
  refine ⟨p, er, (hb.block R hR).trans hh, hp, he, ?_, hby, hd, hne⟩
  rcases hr with rfl | ⟨b1, off, rfl, hc⟩
  · exact .inl rfl
  · by_cases hl : l = []
    · exact .inl hl
    · exact .inr ⟨b1, off, rfl, fun i hi => (hb.cell (p := ⟨b1, off + i, none⟩) (hbB ⟨b1, off, none⟩ rfl hl)).trans (hc i hi)⟩
def TookNd (n : Nd) (R : Nat) (b : Option Addr) (d : Nat) (l : List Int) (s : Option Int) (w : World) (e : Ending) (w' : World) : Prop :=
  ∃ a c, e = .returned (.agg #[.int .i64 n.kind, .string n.name, .int .i64 n.col, .int .i64 n.op, .int .i64 n.num, .bool n.slot, .slice a n.cols.length c]) ∧ Own w' w.heap.size 3 .i64 a c n.cols ∧ Rdr w' R b d l s ∧ w.grownBy w' (some R)
def Z0 : Array Value := #[.int .i64 0, .string ⟨#[]⟩, .int .i64 0, .int .i64 0, .int .i64 0, .bool false, .slice none 0 0]
def WF (w : World) (k : Int) : World := (w.alloc (.cells #[.int .i64 0, .string ⟨#[]⟩, .int .i64 0, .int .i64 0, .int .i64 0, .bool false, .slice none 0 0] 25)).alloc (.cells #[.int .i64 k, .string ⟨#[]⟩, .int .i64 0, .int .i64 0, .int .i64 0, .bool false, .slice none 0 0] 25)
theorem WF_below (w : World) (k : Int) : Below w.heap.size w (WF w k) := ((Below.refl _ w).alloc (Nat.le_refl _) _).alloc (by simp) _
theorem WF_size (w : World) (k : Int) : (WF w k).heap.size = w.heap.size + 2 := by simp [WF]

set_option maxRecDepth 100000 in
set_option maxHeartbeats 1600000 in
theorem rFields0 (R : Nat) (b : Option Addr) (d : Nat) (l : List Int) (s : Option Int) (w : World) (h : Rdr w R b d l s) :
    Calls Tryd.prog 80 #[.pointer (some ⟨R, 0, none⟩), .int .i64 0] w (TookNd (fieldR l 0 s).1 R b d l (fieldR l 0 s).2 w) := by
  have T1 := Lib.hid (fun W (h : Rdr W R b d l s) => rWord_any R b d l s W h)
  obtain ⟨⟨x1, s1⟩, hx1⟩ : ∃ r, r = wordR l s := ⟨_, rfl⟩
  rw [← hx1] at T1
  have FR : fieldR l 0 s = (⟨0, x1, 0, 0, 0, false, []⟩, s1) := by simp [fieldR, ← hx1]
  rw [FR]
  clear FR hx1
  have hR := h.lt
  have HBT := Lib.hid h.bytes
  have H := Lib.hid (h.below (WF_below w 0))
  have z0 := WF_size w 0
  clear h
  unfold WF at H z0
  go_enter Tryd.func80, Tryd.ntmps80
  go_wp2_with fail
  refine (T1.out _ H.out).mono ?_
  rintro e w1 ⟨rfl, h1, g1⟩
  have H1 := Lib.hid h1; have G1 := Lib.hid g1
  clear h1 g1
  obtain ⟨hc0, hf0⟩ := gcell G1.out (X := w.heap.size) (by omega) (by omega)
  obtain ⟨hc1, hf1⟩ := gcell G1.out (X := w.heap.size + 1) (by omega) (by omega)
  have GW := Lib.hid (below_grownBy (WF_below w 0) (show (WF w 0).grownBy w1 (some R) from G1.out))
  go_wp2_with fail
  refine bodyPost_ret (v := .agg #[.int .i64 0, .string x1, .int .i64 0, .int .i64 0, .int .i64 0, .bool false, .slice none 0 0]) (by simp [results, Tryd.results80, go_sem, hc0]) rfl ⟨none, 0, rfl, Own.none_, H1.out.belowB hR HBT.out ?_, grownBy_belowB GW.out ?_⟩
  all_goals
    repeat (refine Below.setCell ?_ (by simp; try omega) _)
    exact Below.refl _ _

set_option maxRecDepth 100000 in
set_option maxHeartbeats 1600000 in
theorem rFields1 (R : Nat) (b : Option Addr) (d : Nat) (l : List Int) (s : Option Int) (w : World) (h : Rdr w R b d l s) :
    Calls Tryd.prog 80 #[.pointer (some ⟨R, 0, none⟩), .int .i64 1] w (TookNd (fieldR l 1 s).1 R b d l (fieldR l 1 s).2 w) := by
  have T1 := Lib.hid (fun W (h : Rdr W R b d l s) => rNum_any R b d l s W h)
  obtain ⟨⟨x1, s1⟩, hx1⟩ : ∃ r, r = numR l s := ⟨_, rfl⟩
  rw [← hx1] at T1
  have T2 := Lib.hid (fun W (h : Rdr W R b d l s1) => rNum_any R b d l s1 W h)
  obtain ⟨⟨x2, s2⟩, hx2⟩ : ∃ r, r = numR l s1 := ⟨_, rfl⟩
  rw [← hx2] at T2
  have T3 := Lib.hid (fun W (h : Rdr W R b d l s2) => rFlag_any R b d l s2 W h)
  obtain ⟨⟨x3, s3⟩, hx3⟩ : ∃ r, r = flagR l s2 := ⟨_, rfl⟩
  rw [← hx3] at T3
  have T4 := Lib.hid (fun W (h : Rdr W R b d l s3) => rNum_any R b d l s3 W h)
  obtain ⟨⟨x4, s4⟩, hx4⟩ : ∃ r, r = numR l s3 := ⟨_, rfl⟩
  rw [← hx4] at T4
  have FR : fieldR l 1 s = (⟨1, ⟨#[]⟩, x1, x2, x4, x3, []⟩, s4) := by simp [fieldR, ← hx1, ← hx2, ← hx3, ← hx4]
  rw [FR]
  clear FR hx1 hx2 hx3 hx4
  have hR := h.lt
  have HBT := Lib.hid h.bytes
  have H := Lib.hid (h.below (WF_below w 1))
  have z0 := WF_size w 1
  clear h
  unfold WF at H z0
  go_enter Tryd.func80, Tryd.ntmps80
  go_wp2_with fail
  refine (T1.out _ H.out).mono ?_
  rintro e w1 ⟨rfl, h1, g1⟩
  have H1 := Lib.hid h1; have G1 := Lib.hid g1
  clear h1 g1
  go_wp2_with fail
  refine (T2.out _ H1.out).mono ?_
  rintro e w2 ⟨rfl, h2, g2⟩
  have H2 := Lib.hid h2; have G2 := Lib.hid (grownBy_trans G1.out g2)
  clear h2 g2
  go_wp2_with fail
  refine (T3.out _ H2.out).mono ?_
  rintro e w3 ⟨rfl, h3, g3⟩
  have H3 := Lib.hid h3; have G3 := Lib.hid (grownBy_trans G2.out g3)
  clear h3 g3
  go_wp2_with fail
  refine (T4.out _ H3.out).mono ?_
  rintro e w4 ⟨rfl, h4, g4⟩
  have H4 := Lib.hid h4; have G4 := Lib.hid (grownBy_trans G3.out g4)
  clear h4 g4
  obtain ⟨hc0, hf0⟩ := gcell G4.out (X := w.heap.size) (by omega) (by omega)
  obtain ⟨hc1, hf1⟩ := gcell G4.out (X := w.heap.size + 1) (by omega) (by omega)
  have GW := Lib.hid (below_grownBy (WF_below w 1) (show (WF w 1).grownBy w4 (some R) from G4.out))
  go_wp2_with fail
  refine bodyPost_ret (v := .agg #[.int .i64 1, .string ⟨#[]⟩, .int .i64 x1, .int .i64 x2, .int .i64 x4, .bool x3, .slice none 0 0]) (by simp [results, Tryd.results80, go_sem, hc0]) rfl ⟨none, 0, rfl, Own.none_, H4.out.belowB hR HBT.out ?_, grownBy_belowB GW.out ?_⟩
  all_goals
    repeat (refine Below.setCell ?_ (by simp; try omega) _)
    exact Below.refl _ _

set_option maxRecDepth 100000 in
set_option maxHeartbeats 1600000 in
theorem rFields2 (R : Nat) (b : Option Addr) (d : Nat) (l : List Int) (s : Option Int) (w : World) (h : Rdr w R b d l s) :
    Calls Tryd.prog 80 #[.pointer (some ⟨R, 0, none⟩), .int .i64 2] w (TookNd (fieldR l 2 s).1 R b d l (fieldR l 2 s).2 w) := by
  have T1 := Lib.hid (fun W (h : Rdr W R b d l s) => rList_any R b d l s W h)
  obtain ⟨⟨x1, s1⟩, hx1⟩ : ∃ r, r = listR l s := ⟨_, rfl⟩
  rw [← hx1] at T1
  have FR : fieldR l 2 s = (⟨2, ⟨#[]⟩, 0, 0, 0, false, x1⟩, s1) := by simp [fieldR, ← hx1]
  rw [FR]
  clear FR hx1
  have hR := h.lt
  have HBT := Lib.hid h.bytes
  have H := Lib.hid (h.below (WF_below w 2))
  have z0 := WF_size w 2
  clear h
  unfold WF at H z0
  go_enter Tryd.func80, Tryd.ntmps80
  go_wp2_with fail
  refine (T1.out _ H.out).mono ?_
  rintro e w1 ⟨ao, co, rfl, ho, h1, g1⟩
  have H1 := Lib.hid h1; have G1 := Lib.hid g1
  clear h1 g1
  have HO := Lib.hid ho; clear ho
  have HOL := Lib.hid (fun x hx => (HO.out.lt x hx).1)
  obtain ⟨hc0, hf0⟩ := gcell G1.out (X := w.heap.size) (by omega) (by omega)
  obtain ⟨hc1, hf1⟩ := gcell G1.out (X := w.heap.size + 1) (by omega) (by omega)
  have GW := Lib.hid (below_grownBy (WF_below w 2) (show (WF w 2).grownBy w1 (some R) from G1.out))
  go_wp2_with fail
  refine bodyPost_ret (v := .agg #[.int .i64 2, .string ⟨#[]⟩, .int .i64 0, .int .i64 0, .int .i64 0, .bool false, .slice ao x1.length co]) (by simp [results, Tryd.results80, go_sem, hc0]) rfl ⟨ao, co, rfl, ?_, H1.out.belowB hR HBT.out ?_, grownBy_belowB GW.out ?_⟩
  · refine Own.base_le (base := w.heap.size + 1 + 1) ?_ (by omega)
    repeat (refine Own.far ?_ (fun x hx => by have := HOL.out x hx; simp at this ⊢; omega) _)
    exact HO.out.base_le (by simp)
  all_goals
    repeat (refine Below.setCell ?_ (by simp; try omega) _)
    exact Below.refl _ _

set_option maxRecDepth 100000 in
set_option maxHeartbeats 1600000 in
theorem rFields3 (R : Nat) (b : Option Addr) (d : Nat) (l : List Int) (s : Option Int) (w : World) (h : Rdr w R b d l s) :
    Calls Tryd.prog 80 #[.pointer (some ⟨R, 0, none⟩), .int .i64 3] w (TookNd (fieldR l 3 s).1 R b d l (fieldR l 3 s).2 w) := by
  have T1 := Lib.hid (fun W (h : Rdr W R b d l s) => rNum_any R b d l s W h)
  obtain ⟨⟨x1, s1⟩, hx1⟩ : ∃ r, r = numR l s := ⟨_, rfl⟩
  rw [← hx1] at T1
  have T2 := Lib.hid (fun W (h : Rdr W R b d l s1) => rNum_any R b d l s1 W h)
  obtain ⟨⟨x2, s2⟩, hx2⟩ : ∃ r, r = numR l s1 := ⟨_, rfl⟩
  rw [← hx2] at T2
  have FR : fieldR l 3 s = (⟨3, ⟨#[]⟩, x1, 0, x2, false, []⟩, s2) := by simp [fieldR, ← hx1, ← hx2]
  rw [FR]
  clear FR hx1 hx2
  have hR := h.lt
  have HBT := Lib.hid h.bytes
  have H := Lib.hid (h.below (WF_below w 3))
  have z0 := WF_size w 3
  clear h
  unfold WF at H z0
  go_enter Tryd.func80, Tryd.ntmps80
  go_wp2_with fail
  refine (T1.out _ H.out).mono ?_
  rintro e w1 ⟨rfl, h1, g1⟩
  have H1 := Lib.hid h1; have G1 := Lib.hid g1
  clear h1 g1
  go_wp2_with fail
  refine (T2.out _ H1.out).mono ?_
  rintro e w2 ⟨rfl, h2, g2⟩
  have H2 := Lib.hid h2; have G2 := Lib.hid (grownBy_trans G1.out g2)
  clear h2 g2
  obtain ⟨hc0, hf0⟩ := gcell G2.out (X := w.heap.size) (by omega) (by omega)
  obtain ⟨hc1, hf1⟩ := gcell G2.out (X := w.heap.size + 1) (by omega) (by omega)
  have GW := Lib.hid (below_grownBy (WF_below w 3) (show (WF w 3).grownBy w2 (some R) from G2.out))
  go_wp2_with fail
  refine bodyPost_ret (v := .agg #[.int .i64 3, .string ⟨#[]⟩, .int .i64 x1, .int .i64 0, .int .i64 x2, .bool false, .slice none 0 0]) (by simp [results, Tryd.results80, go_sem, hc0]) rfl ⟨none, 0, rfl, Own.none_, H2.out.belowB hR HBT.out ?_, grownBy_belowB GW.out ?_⟩
  all_goals
    repeat (refine Below.setCell ?_ (by simp; try omega) _)
    exact Below.refl _ _

set_option maxRecDepth 100000 in
set_option maxHeartbeats 1600000 in
theorem rFields5 (R : Nat) (b : Option Addr) (d : Nat) (l : List Int) (s : Option Int) (w : World) (h : Rdr w R b d l s) :
    Calls Tryd.prog 80 #[.pointer (some ⟨R, 0, none⟩), .int .i64 5] w (TookNd (fieldR l 5 s).1 R b d l (fieldR l 5 s).2 w) := by
  have T1 := Lib.hid (fun W (h : Rdr W R b d l s) => rNum_any R b d l s W h)
  obtain ⟨⟨x1, s1⟩, hx1⟩ : ∃ r, r = numR l s := ⟨_, rfl⟩
  rw [← hx1] at T1
  have FR : fieldR l 5 s = (⟨5, ⟨#[]⟩, x1, 0, 0, false, []⟩, s1) := by simp [fieldR, ← hx1]
  rw [FR]
  clear FR hx1
  have hR := h.lt
  have HBT := Lib.hid h.bytes
  have H := Lib.hid (h.below (WF_below w 5))
  have z0 := WF_size w 5
  clear h
  unfold WF at H z0
  go_enter Tryd.func80, Tryd.ntmps80
  go_wp2_with fail
  refine (T1.out _ H.out).mono ?_
  rintro e w1 ⟨rfl, h1, g1⟩
  have H1 := Lib.hid h1; have G1 := Lib.hid g1
  clear h1 g1
  obtain ⟨hc0, hf0⟩ := gcell G1.out (X := w.heap.size) (by omega) (by omega)
  obtain ⟨hc1, hf1⟩ := gcell G1.out (X := w.heap.size + 1) (by omega) (by omega)
  have GW := Lib.hid (below_grownBy (WF_below w 5) (show (WF w 5).grownBy w1 (some R) from G1.out))
  go_wp2_with fail
  refine bodyPost_ret (v := .agg #[.int .i64 5, .string ⟨#[]⟩, .int .i64 x1, .int .i64 0, .int .i64 0, .bool false, .slice none 0 0]) (by simp [results, Tryd.results80, go_sem, hc0]) rfl ⟨none, 0, rfl, Own.none_, H1.out.belowB hR HBT.out ?_, grownBy_belowB GW.out ?_⟩
  all_goals
    repeat (refine Below.setCell ?_ (by simp; try omega) _)
    exact Below.refl _ _

set_option maxRecDepth 100000 in
set_option maxHeartbeats 1600000 in
theorem rFields6 (R : Nat) (b : Option Addr) (d : Nat) (l : List Int) (s : Option Int) (w : World) (h : Rdr w R b d l s) :
    Calls Tryd.prog 80 #[.pointer (some ⟨R, 0, none⟩), .int .i64 6] w (TookNd (fieldR l 6 s).1 R b d l (fieldR l 6 s).2 w) := by
  have T1 := Lib.hid (fun W (h : Rdr W R b d l s) => rFlag_any R b d l s W h)
  obtain ⟨⟨x1, s1⟩, hx1⟩ : ∃ r, r = flagR l s := ⟨_, rfl⟩
  rw [← hx1] at T1
  have T2 := Lib.hid (fun W (h : Rdr W R b d l s1) => rNum_any R b d l s1 W h)
  obtain ⟨⟨x2, s2⟩, hx2⟩ : ∃ r, r = numR l s1 := ⟨_, rfl⟩
  rw [← hx2] at T2
  have FR : fieldR l 6 s = (⟨6, ⟨#[]⟩, 0, 0, x2, x1, []⟩, s2) := by simp [fieldR, ← hx1, ← hx2]
  rw [FR]
  clear FR hx1 hx2
  have hR := h.lt
  have HBT := Lib.hid h.bytes
  have H := Lib.hid (h.below (WF_below w 6))
  have z0 := WF_size w 6
  clear h
  unfold WF at H z0
  go_enter Tryd.func80, Tryd.ntmps80
  go_wp2_with fail
  refine (T1.out _ H.out).mono ?_
  rintro e w1 ⟨rfl, h1, g1⟩
  have H1 := Lib.hid h1; have G1 := Lib.hid g1
  clear h1 g1
  go_wp2_with fail
  refine (T2.out _ H1.out).mono ?_
  rintro e w2 ⟨rfl, h2, g2⟩
  have H2 := Lib.hid h2; have G2 := Lib.hid (grownBy_trans G1.out g2)
  clear h2 g2
  obtain ⟨hc0, hf0⟩ := gcell G2.out (X := w.heap.size) (by omega) (by omega)
  obtain ⟨hc1, hf1⟩ := gcell G2.out (X := w.heap.size + 1) (by omega) (by omega)
  have GW := Lib.hid (below_grownBy (WF_below w 6) (show (WF w 6).grownBy w2 (some R) from G2.out))
  go_wp2_with fail
  refine bodyPost_ret (v := .agg #[.int .i64 6, .string ⟨#[]⟩, .int .i64 0, .int .i64 0, .int .i64 x2, .bool x1, .slice none 0 0]) (by simp [results, Tryd.results80, go_sem, hc0]) rfl ⟨none, 0, rfl, Own.none_, H2.out.belowB hR HBT.out ?_, grownBy_belowB GW.out ?_⟩
  all_goals
    repeat (refine Below.setCell ?_ (by simp; try omega) _)
    exact Below.refl _ _

theorem fieldR_out {k : Int} (h : k = 4 ∨ k = 7 ∨ k < 0 ∨ 7 < k) (l : List Int) (s : Option Int) : fieldR l k s = (⟨k, ⟨#[]⟩, 0, 0, 0, false, []⟩, s) := by
  unfold fieldR
  rw [if_neg (by omega), if_neg (by omega), if_neg (by omega), if_neg (by omega), if_neg (by omega), if_neg (by omega)]
set_option maxRecDepth 100000 in
set_option maxHeartbeats 1600000 in
theorem rFieldsOut (k : Int) (hk : k = 4 ∨ k = 7 ∨ k < 0 ∨ 7 < k) (R : Nat) (b : Option Addr) (d : Nat) (l : List Int) (s : Option Int) (w : World) (h : Rdr w R b d l s) :
    Calls Tryd.prog 80 #[.pointer (some ⟨R, 0, none⟩), .int .i64 k] w (TookNd (fieldR l k s).1 R b d l (fieldR l k s).2 w) := by
  rw [fieldR_out hk]
  have HW := Lib.hid h
  have h0 : (k == 0) = false := beq_eq_false_iff_ne.2 (by omega)
  have h1 : (k == 1) = false := beq_eq_false_iff_ne.2 (by omega)
  have h2 : (k == 2) = false := beq_eq_false_iff_ne.2 (by omega)
  have h3 : (k == 3) = false := beq_eq_false_iff_ne.2 (by omega)
  have h5 : (k == 5) = false := beq_eq_false_iff_ne.2 (by omega)
  have h6 : (k == 6) = false := beq_eq_false_iff_ne.2 (by omega)
  clear h hk
  go_enter Tryd.func80, Tryd.ntmps80
  go_wp2_with fail
  refine bodyPost_ret (v := .agg #[.int .i64 k, .string ⟨#[]⟩, .int .i64 0, .int .i64 0, .int .i64 0, .bool false, .slice none 0 0]) (by simp [results, Tryd.results80, go_sem]) rfl ⟨none, 0, rfl, Own.none_, HW.out.below ?_, grownBy_below (World.grownBy.refl _ _) ?_⟩
  all_goals exact ((Below.refl _ w).alloc (Nat.le_refl _) _).alloc (by simp) _

theorem rFields_any (k : Int) (R : Nat) (b : Option Addr) (d : Nat) (l : List Int) (s : Option Int) (w : World) (h : Rdr w R b d l s) :
    Calls Tryd.prog 80 #[.pointer (some ⟨R, 0, none⟩), .int .i64 k] w (TookNd (fieldR l k s).1 R b d l (fieldR l k s).2 w) := by
  have hc : k = 0 ∨ k = 1 ∨ k = 2 ∨ k = 3 ∨ k = 5 ∨ k = 6 ∨ (k = 4 ∨ k = 7 ∨ k < 0 ∨ 7 < k) := by omega
  rcases hc with rfl | rfl | rfl | rfl | rfl | rfl | hk
  · exact rFields0 R b d l s w h
  · exact rFields1 R b d l s w h
  · exact rFields2 R b d l s w h
  · exact rFields3 R b d l s w h
  · exact rFields5 R b d l s w h
  · exact rFields6 R b d l s w h
  · exact rFieldsOut k hk R b d l s w h
end Go.Proofs.YtcegekkhlfpgfaaDoor
