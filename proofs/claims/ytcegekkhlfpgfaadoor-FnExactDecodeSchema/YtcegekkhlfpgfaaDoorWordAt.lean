/-
  The contracts of the program's wordAt and of impl.TakeWord. For every slice of bytes and every place.
-/
import Derived.Test.YtcegekkhlfpgfaaDoorTakeW
namespace Go.Proofs.YtcegekkhlfpgfaaDoor
open Go.RowKit
set_option linter.unusedSimpArgs false
set_option linter.unusedVariables false

def WordPost (r : ByteArray × Int) (w : World) (e : Ending) (w' : World) : Prop :=
  ((r = (⟨#[]⟩, -1) ∧ ∃ k1 k2 : Int, e = .returned (.tuple #[.string ⟨#[]⟩, .int .i64 0, .iface 102 (.agg #[.int .i64 k1, .int .i64 k2])])) ∨ (r.2 ≠ -1 ∧ e = .returned (.tuple #[.string r.1, .int .i64 r.2, .nilIface]))) ∧ w = w'
theorem wordPost_no {r : ByteArray × Int} {w : World} {k1 k2 : Int} (h : r = (⟨#[]⟩, -1)) : WordPost r w (.returned (.tuple #[.string ⟨#[]⟩, .int .i64 0, .iface 102 (.agg #[.int .i64 k1, .int .i64 k2])])) w := ⟨.inl ⟨h, _, _, rfl⟩, rfl⟩
theorem wordPost_yes {r : ByteArray × Int} {w : World} {s : ByteArray} {y : Int} (h : r = (s, y)) (hy : y ≠ -1) : WordPost r w (.returned (.tuple #[.string s, .int .i64 y, .nilIface])) w := by rw [h]; exact ⟨.inr ⟨hy, rfl⟩, rfl⟩

set_option maxRecDepth 100000 in
set_option maxHeartbeats 1600000 in
theorem wordAt_any (b : Option Addr) (d : Nat) (l : List Int) (at_ : Int) (w : World) (h : Rd w .u8 b l) (hby : By l) (hl : l.length ≤ maxLen) (hd : l.length ≤ d) (hd2 : d ≤ maxLen) (ha : at_ ≤ 9223372036854775807) (ha' : -9223372036854775808 ≤ at_) :
    Calls Tryd.prog 73 #[.slice b l.length d, .int .i64 at_] w (WordPost (takeW l at_) w) := by
  have C := Lib.hid (numAt_any b d l at_ w h hby hl hd hd2 ha ha')
  have bd := takeN_bd hby at_
  have HL := Lib.hid hl; have HD := Lib.hid hd; have HD2 := Lib.hid hd2; have H := Lib.hid h
  obtain ⟨r, hr⟩ : ∃ r, r = takeW l at_ := ⟨_, rfl⟩
  rw [← hr]
  unfold takeW at hr
  obtain ⟨⟨n, nx⟩, hnx⟩ : ∃ x, x = takeN l at_ := ⟨_, rfl⟩
  rw [← hnx] at C bd hr
  simp only at hr bd
  have HR := Lib.hid hr; have BD := Lib.hid bd; clear hr hnx hby h hd hd2 ha ha' bd
  unfold maxLen at hl
  go_enter Tryd.func73, Tryd.ntmps73
  go_wp2_with fail
  refine C.out.mono ?_
  rintro e w' ⟨hh | hh, rfl⟩
  · obtain ⟨h1, rfl⟩ := hh
    simp only at h1
    have HE : Hid (r = (⟨#[]⟩, -1)) := by
      show r = _
      rw [HR.out, if_pos (.inl (by omega))]
    clear h1
    go_wp2
    go_ret3
    exact wordPost_no HE.out
  · obtain ⟨h1, rfl⟩ := hh
    simp only at h1 ⊢
    have hb := BD.out
    have hx0 : 0 ≤ nx := by omega
    have hx1 : nx ≤ l.length := by omega
    have hn0 : -1000000 ≤ n := hb.1
    have hn1 : n ≤ 1000000 := hb.2.1
    clear h1 hb
    by_cases hc : 0 ≤ n ∧ n ≤ l.length - nx
    · obtain ⟨p, rfl⟩ : ∃ p : Nat, nx = p := ⟨nx.toNat, by omega⟩
      obtain ⟨q, rfl⟩ : ∃ q : Nat, n = q := ⟨n.toNat, by omega⟩
      have hss := strOf_size ((l.drop p).take q)
      rw [show ((l.drop p).take q).length = q by simp; omega] at hss
      have e : r = if wordB (strOfNums ((l.drop p).take q)).data.toList then (strOfNums ((l.drop p).take q), ((p : Int) + q)) else (⟨#[]⟩, -1) := by
        rw [HR.out]
        by_cases h12 : 1 ≤ q ∧ q ≤ 12
        · rw [if_neg (by omega)]; rfl
        · rw [if_pos (by omega), wordB_len (by rw [hss]; exact h12)]; rfl
      have CV : Hid (∀ ao, Rd w .u8 ao ((l.drop p).take q) → ((l.drop p).take q).length = q → (convert 59 9 (.slice ao q q)).run Tryd.prog w = .ok (.string (strOfNums ((l.drop p).take q))) w) := fun ao h1 h2 => conv_str w 59 Tryd.underlying59 ao q q _ h1 h2
      have K := Lib.hid (cut_yes' b d l p q p q rfl rfl w HL.out HD.out HD2.out H.out (by omega))
      generalize hm : (l.drop p).take q = m at CV K e hss
      generalize strOfNums m = st at e CV hss
      have hst : st.size ≤ maxLen := by unfold maxLen; omega
      have WK := Lib.hid (implWordOk_any st w hst)
      have HE := Lib.hid e
      have hpq : (p : Int) + q ≤ l.length := by omega
      clear hm e hss hst hc
      go_wp2_with fail
      refine K.out.mono ?_
      rintro e w' ⟨ao, rfl, hrd, hlen, _, rfl⟩
      have hcv := CV.out ao hrd hlen
      clear hrd hlen
      cases hw : wordB st.data.toList with
      | true =>
        have wk := WK.out; rw [hw] at wk
        have he := HE.out; rw [hw] at he
        have WK1 := Lib.hid wk; have HE1 := Lib.hid he; clear wk he WK HE hw CV K
        go_wp2_with (go_at_call 71; refine WK1.out.mono ?_; rintro e w' ⟨rfl, rfl⟩)
        go_ret3
        exact wordPost_yes (HE1.out.trans (by simp)) (by omega)
      | false =>
        have wk := WK.out; rw [hw] at wk
        have he := HE.out; rw [hw] at he
        have WK1 := Lib.hid wk; have HE1 := Lib.hid he; clear wk he WK HE hw CV K
        go_wp2_with (go_at_call 71; refine WK1.out.mono ?_; rintro e w' ⟨rfl, rfl⟩)
        go_ret3
        exact wordPost_no (HE1.out.trans (if_neg (by simp)))
    · have HE : Hid (r = (⟨#[]⟩, -1)) := by
        show r = _
        rw [HR.out, if_pos (by omega)]
      go_wp2_with fail
      refine (cut_no _ _ _ _ _ _ HL.out (by omega) (by omega) (by omega)).mono ?_
      rintro e w' ⟨rfl, rfl⟩
      go_wp2
      go_ret3
      exact wordPost_no HE.out

def TookSB (r : ByteArray × Int) (w : World) (e : Ending) (w' : World) : Prop := e = .returned (.tuple #[.string r.1, .int .i64 r.2]) ∧ Below w.heap.size w w'

set_option maxRecDepth 100000 in
theorem implTakeWord_any (b : Option Addr) (d : Nat) (l : List Int) (at_ : Int) (w : World) (hg : ErrT w) (h : Rd w .u8 b l) (hby : By l) (hl : l.length ≤ maxLen) (hd : l.length ≤ d) (hd2 : d ≤ maxLen) (ha : at_ ≤ 9223372036854775807) (ha' : -9223372036854775808 ≤ at_) :
    Calls Tryd.prog 34 #[.slice b l.length d, .int .i64 at_] w (TookSB (takeW l at_) w) := by
  have C := Lib.hid (wordAt_any b d l at_ w h hby hl hd hd2 ha ha')
  have G := Lib.hid hg
  obtain ⟨r, hr⟩ : ∃ r, r = takeW l at_ := ⟨_, rfl⟩
  rw [← hr] at C ⊢
  clear hr hg h hby hl hd hd2 ha ha'
  go_enter Tryd.func34, Tryd.ntmps34
  go_wp2_with fail
  refine C.out.mono ?_
  rintro e w' ⟨h | h, rfl⟩
  · obtain ⟨h1, k1, k2, rfl⟩ := h
    have H1 := Lib.hid h1; clear h1
    go_wp2_with fail
    refine (isMissing_hit _ _ _ G.out).mono ?_
    rintro e w1 ⟨rfl, hb⟩
    have HB := Lib.hid hb; clear hb
    go_wp2
    go_ret2
    refine ⟨?_, HB.out⟩
    rw [H1.out]; rfl
  · obtain ⟨h1, rfl⟩ := h
    clear h1
    go_wp2_with fail
    refine (isMissing_nil _).mono ?_
    rintro e w1 ⟨rfl, hb⟩
    have HB := Lib.hid hb; clear hb
    go_wp2
    go_ret2
    exact ⟨rfl, HB.out⟩
end Go.Proofs.YtcegekkhlfpgfaaDoor
