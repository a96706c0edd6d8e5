/-
  The contracts of the program's listAt and of impl.TakeNums. For every slice of bytes and every place. The contracts of the program's wordAt and of impl.TakeWord. For every slice of bytes and every place. The program's reader of bytes in a block of its own: what it holds, and the contracts of takeNext at numbers, words and lists, of num, word, list and flag. For every slice of bytes and every place.
-/
import Derived.Test.YtfpbhedophlnkaaGreatDoorJW31x
import Derived.Test.YtfpbhedophlnkaaGreatDoorJW34x
import Derived.Test.YtfpbhedophlnkaaGreatDoorJW32x
import Derived.OneCell
import Derived.Shelf.Abstract
namespace Go.Proofs.YtfpbhedophlnkaaGreatDoor
open Go.RowKit
set_option linter.unusedSimpArgs false
set_option linter.unusedVariables false

def ListPost (r : List Int × Int) (w : World) (e : Ending) (w' : World) : Prop :=
  ((r = ([], -1) ∧ ∃ k1 k2 : Int, e = .returned (.tuple #[.slice none 0 0, .int .i64 0, .iface 200 (.agg #[.int .i64 k1, .int .i64 k2])])) ∨
   (∃ ao c, r.2 ≠ -1 ∧ e = .returned (.tuple #[.slice ao r.1.length c, .int .i64 r.2, .nilIface]) ∧ Own w' w.heap.size 3 .i64 ao c r.1)) ∧ Below w.heap.size w w'
theorem listPost_no {r : List Int × Int} {w w' : World} {k1 k2 : Int} (h : r = ([], -1)) (hb : Below w.heap.size w w') : ListPost r w (.returned (.tuple #[.slice none 0 0, .int .i64 0, .iface 200 (.agg #[.int .i64 k1, .int .i64 k2])])) w' := ⟨.inl ⟨h, _, _, rfl⟩, hb⟩
theorem listPost_yes {r : List Int × Int} {w w' : World} {acc : List Int} {p : Int} {ao : Option Addr} {c n : Nat} (h : r = (acc, p)) (hp : 0 ≤ p) (hn : n = acc.length) (ho : Own w' w.heap.size 3 .i64 ao c acc) (hb : Below w.heap.size w w') : ListPost r w (.returned (.tuple #[.slice ao n c, .int .i64 p, .nilIface])) w' := by
  rw [h, hn]; exact ⟨.inr ⟨ao, c, by simp only; omega, rfl, ho⟩, hb⟩
def fillA (acc : List Int) (m : Nat) : List Int := acc ++ List.replicate (m - acc.length) 0
theorem fillA_set {acc : List Int} {m k : Nat} (z : Int) (h : acc.length = k) (hk : k < m) : (fillA acc m).set k z = fillA (acc ++ [z]) m := by
  subst h
  have e : m - acc.length = (m - (acc.length + 1)) + 1 := by omega
  simp only [fillA]
  rw [e, List.replicate_succ, List.set_append_right _ _ (Nat.le_refl _), Nat.sub_self]
  simp
theorem fillA_len {acc : List Int} {m : Nat} (h : acc.length ≤ m) : (fillA acc m).length = m := by simp [fillA]; omega
def LnRel (w wr : World) (l : List Int) (p0 : Int) (m : Nat) (nx i : Value) : Prop :=
  ∃ (k : Nat) (acc : List Int) (p : Int), nx = .int .i64 p ∧ i = .int .i64 k ∧ k ≤ m ∧ rdN l p0 k = some (acc, p) ∧ wr.ownsRow w.heap.size 3 1 (.slice (some ⟨w.heap.size, 0, none⟩) m m) m ((fillA acc m).map (Value.int .i64)) ∧ Below w.heap.size w wr
theorem ln_cell {wr : World} {B g m k : Nat} {e : TypeId} {acc : List Int} (h : wr.ownsRow B e 1 (.slice (some ⟨g, 0, none⟩) m m) m ((fillA acc m).map (Value.int .i64))) (hl : acc.length ≤ m) (hk : k < m) : ∃ y, wr.cell? ⟨g, k, none⟩ = some (.int .i64 y) := by
  have h1 := h.cellAt k (by omega)
  have hl : k < (fillA acc m).length := by rw [fillA_len hl]; exact hk
  rw [List.getElem?_map, List.getElem?_eq_getElem hl] at h1
  exact ⟨_, h1⟩
theorem ln_step {w wr : World} {e : TypeId} {m k : Nat} {acc : List Int} (z : Int) (h : wr.ownsRow w.heap.size e 1 (.slice (some ⟨w.heap.size, 0, none⟩) m m) m ((fillA acc m).map (Value.int .i64))) (hl : acc.length = k) (hk : k < m) :
    (wr.setCell ⟨w.heap.size, k, none⟩ (.int .i64 z)).ownsRow w.heap.size e 1 (.slice (some ⟨w.heap.size, 0, none⟩) m m) m ((fillA (acc ++ [z]) m).map (Value.int .i64)) := by
  have h1 := (h.stored k (.int .i64 z)).1
  rw [map_set_int, fillA_set z hl hk] at h1
  exact h1

set_option maxRecDepth 100000 in
set_option maxHeartbeats 1600000 in
theorem listAt_any (b : Option Addr) (d : Nat) (l : List Int) (at_ : Int) (w : World) (h : Rd w .u8 b l) (hby : By l) (hl : l.length ≤ maxLen) (hd : l.length ≤ d) (hd2 : d ≤ maxLen) (ha : at_ ≤ 9223372036854775807) (ha' : -9223372036854775808 ≤ at_) :
    Calls Tryz.prog 288 #[.slice b l.length d, .int .i64 at_] w (ListPost (takeNs l at_) w) := by
  have C := Lib.hid (numAt_any b d l at_ w h hby hl hd hd2 ha ha')
  have CA : Hid (∀ (p : Int) (w : World), Rd w .u8 b l → p ≤ 9223372036854775807 → 0 ≤ p → Calls Tryz.prog 234 #[.slice b l.length d, .int .i64 p] w (NumPost (takeN l p) p w)) := fun p w h hp h0 => numAt_any b d l p w h hby hl hd hd2 hp (by omega)
  have bd := takeN_bd hby at_
  have HBY := Lib.hid hby; have H := Lib.hid h
  obtain ⟨r, hr⟩ : ∃ r, r = takeNs l at_ := ⟨_, rfl⟩
  rw [← hr]
  unfold takeNs at hr
  obtain ⟨⟨n, nx⟩, hnx⟩ : ∃ x, x = takeN l at_ := ⟨_, rfl⟩
  rw [← hnx] at C bd hr
  simp only at hr bd
  have HR := Lib.hid hr; have BD := Lib.hid bd; clear hr hnx ha ha' hby h bd hd hd2
  unfold maxLen at hl
  go_enter Tryz.func288, Tryz.ntmps288
  go_wp2_with fail
  refine C.out.mono ?_
  rintro e w' ⟨hh | hh, rfl⟩
  · obtain ⟨h1, rfl⟩ := hh
    simp only at h1
    have HE : Hid (r = ([], -1)) := by
      show r = _
      rw [HR.out, if_pos (.inl (by omega))]
    clear h1
    go_wp2
    go_ret3
    exact listPost_no HE.out (Below.refl _ _)
  · obtain ⟨h1, rfl⟩ := hh
    simp only at h1 ⊢
    have hb := BD.out
    have hn0 : 0 ≤ nx := by omega
    have hnl : nx ≤ l.length := by omega
    clear h1 hb
    by_cases hc : 0 ≤ n ∧ n ≤ 300
    · obtain ⟨m, rfl⟩ : ∃ m : Nat, n = m := ⟨n.toNat, by omega⟩
      have e : r = (rdN l nx m).getD ([], -1) := by rw [HR.out, if_neg (by omega), Int.toNat_natCast]
      have HE := Lib.hid e; clear e
      have hb1 : decide ((m : Int) < 0) = false := by simp
      have hb2 : decide ((300 : Int) < m) = false := by simp; omega
      have hm3 : m ≤ 300 := by omega
      obtain ⟨i0, hi, hz0, hz1, hz2⟩ := info_parts Tryz.infoI64
      clear hc
      go_wp2_with (at_make; refine wpList_make_full _ rfl (.tmp 31) (.tmp 31) 47 rfl w.heap.size 3 i0 (.int .i64 0) 1 Tryz.underlying47 hi hz0 hz1 .i64 .i64 _ _ m rfl rfl rfl rfl (by rw [hz2]; omega) (by unfold maxLen; omega) (Nat.le_refl _) ?_; intro w1 hown hgrow)
      rw [made_ints, show List.replicate m (0 : Int) = fillA [] m by simp [fillA]] at hown
      have hbel : Below w.heap.size w w1 := below_of_grown hgrow (Nat.le_refl _) (by intro g hg; cases hg)
      clear hgrow hi hz0 hz1 hz2
      go_loopw [8, 35] (fun nx' i wr => LnRel w wr l nx m nx' i) (fun _ i _ => m - (intOf i).toNat)
      case atStart => exact ⟨0, [], nx, rfl, rfl, Nat.zero_le _, rfl, hown, hbel⟩
      case round =>
        clear hown hbel
        obtain ⟨k, acc, p, rfl, rfl, hk, hrd, ho, hb⟩ := hrel
        have hbd := rdN_bd HBY.out hn0 hnl k acc p hrd
        have hp0 : 0 ≤ p := hbd.2.1
        have hp1 : p ≤ l.length := hbd.2.2
        have HRD := Lib.hid hrd; have HO := Lib.hid ho; have HB := Lib.hid hb; have HLEN := Lib.hid hbd.1; clear hrd ho hb hbd
        by_cases hlt : k < m
        · have CP := Lib.hid (CA.out p wr (H.out.below HB.out) (by omega) hp0)
          have bd := takeN_bd HBY.out p
          obtain ⟨⟨x, q⟩, hxq⟩ : ∃ x, x = takeN l p := ⟨_, rfl⟩
          rw [← hxq] at CP bd
          simp only at bd
          have HXQ := Lib.hid hxq; clear hxq
          obtain ⟨y, hy⟩ := ln_cell HO.out (by rw [HLEN.out]; omega) hlt
          have hf := HO.out.frozenAt k
          have BDq := Lib.hid bd; clear bd
          go_wp2_with fail
          refine CP.out.mono ?_
          rintro e w' ⟨hh | hh, rfl⟩
          · obtain ⟨h1, rfl⟩ := hh
            simp only at h1
            have HN : Hid (r = ([], -1)) := by
              show r = _
              rw [HE.out, rdN_stays (rdN_no HRD.out HXQ.out h1) m (by omega)]; rfl
            clear h1
            go_wp2
            go_ret3
            exact listPost_no HN.out (HB.out.setCell (Nat.le_refl _) _)
          · obtain ⟨h1, rfl⟩ := hh
            simp only at h1 ⊢
            have R1 := Lib.hid (rdN_yes HRD.out HXQ.out h1)
            have ST := Lib.hid (ln_step x HO.out HLEN.out hlt)
            clear h1
            go_wp2
            go_roundw
            case rel => exact ⟨k + 1, acc ++ [x], q, rfl, by go_num, by omega, R1.out, ST.out, HB.out.setCell (Nat.le_refl _) _⟩
            case measure => simp [intOf]; omega
        · have hkm : k = m := by omega
          have e : r = (acc, p) := by
            rw [HE.out, ← hkm, HRD.out]; rfl
          have HN := Lib.hid e; clear e
          have HOW : Hid (Own wr w.heap.size 3 .i64 (some ⟨w.heap.size, 0, none⟩) m acc) := by
            have ho := HO.out
            have hlm : acc.length = m := by rw [HLEN.out]; exact hkm
            rw [show fillA acc m = acc by simp [fillA, hlm]] at ho
            show Own _ _ _ _ _ _ _
            unfold Own
            rw [hlm]
            exact ho
          have HM : Hid (m = acc.length) := by rw [HLEN.out]; exact hkm.symm
          clear hkm
          go_wp2
          go_ret3
          exact listPost_yes HN.out hp0 HM.out HOW.out HB.out
    · have HE : Hid (r = ([], -1)) := by
        show r = _
        rw [HR.out, if_pos (by omega)]
      by_cases hneg : n < 0
      · have hb1 : decide (n < 0) = true := by simpa using hneg
        go_wp2
        go_ret3
        exact listPost_no HE.out (Below.refl _ _)
      · have hb1 : decide (n < 0) = false := by simpa using hneg
        have hb2 : decide (300 < n) = true := by simp; omega
        go_wp2
        go_ret3
        exact listPost_no HE.out (Below.refl _ _)

end Go.Proofs.YtfpbhedophlnkaaGreatDoor
namespace Go.Proofs.YtfpbhedophlnkaaGreatDoor
open Go.RowKit
set_option linter.unusedSimpArgs false
set_option linter.unusedVariables false

def WordPost (r : ByteArray × Int) (w : World) (e : Ending) (w' : World) : Prop :=
  ((r = (⟨#[]⟩, -1) ∧ ∃ k1 k2 : Int, e = .returned (.tuple #[.string ⟨#[]⟩, .int .i64 0, .iface 200 (.agg #[.int .i64 k1, .int .i64 k2])])) ∨ (r.2 ≠ -1 ∧ e = .returned (.tuple #[.string r.1, .int .i64 r.2, .nilIface]))) ∧ w = w'
theorem wordPost_no {r : ByteArray × Int} {w : World} {k1 k2 : Int} (h : r = (⟨#[]⟩, -1)) : WordPost r w (.returned (.tuple #[.string ⟨#[]⟩, .int .i64 0, .iface 200 (.agg #[.int .i64 k1, .int .i64 k2])])) w := ⟨.inl ⟨h, _, _, rfl⟩, rfl⟩
theorem wordPost_yes {r : ByteArray × Int} {w : World} {s : ByteArray} {y : Int} (h : r = (s, y)) (hy : y ≠ -1) : WordPost r w (.returned (.tuple #[.string s, .int .i64 y, .nilIface])) w := by rw [h]; exact ⟨.inr ⟨hy, rfl⟩, rfl⟩

set_option maxRecDepth 100000 in
set_option maxHeartbeats 1600000 in
theorem wordAt_any (b : Option Addr) (d : Nat) (l : List Int) (at_ : Int) (w : World) (h : Rd w .u8 b l) (hby : By l) (hl : l.length ≤ maxLen) (hd : l.length ≤ d) (hd2 : d ≤ maxLen) (ha : at_ ≤ 9223372036854775807) (ha' : -9223372036854775808 ≤ at_) :
    Calls Tryz.prog 238 #[.slice b l.length d, .int .i64 at_] w (WordPost (takeW l at_) w) := by
  have C := Lib.hid (numAt_any b d l at_ w h hby hl hd hd2 ha ha')
  have bd := takeN_bd hby at_
  have HL := Lib.hid hl; have HD := Lib.hid hd; have HD2 := Lib.hid hd2; have H := Lib.hid h
  obtain ⟨r, hr⟩ : ∃ r, r = takeW l at_ := ⟨_, rfl⟩
  rw [← hr]
  unfold takeW at hr
  obtain ⟨⟨n, nx⟩, hnx⟩ : ∃ x, x = takeN l at_ := ⟨_, rfl⟩
  rw [← hnx] at C bd hr
  simp only at hr bd
  have HR := Lib.hid hr; have BD := Lib.hid bd; clear hr hnx hby h hd hd2 ha ha' bd
  unfold maxLen at hl
  go_enter Tryz.func238, Tryz.ntmps238
  go_wp2_with fail
  refine C.out.mono ?_
  rintro e w' ⟨hh | hh, rfl⟩
  · obtain ⟨h1, rfl⟩ := hh
    simp only at h1
    have HE : Hid (r = (⟨#[]⟩, -1)) := by
      show r = _
      rw [HR.out, if_pos (.inl (by omega))]
    clear h1
    go_wp2
    go_ret3
    exact wordPost_no HE.out
  · obtain ⟨h1, rfl⟩ := hh
    simp only at h1 ⊢
    have hb := BD.out
    have hx0 : 0 ≤ nx := by omega
    have hx1 : nx ≤ l.length := by omega
    have hn0 : -1000000 ≤ n := hb.1
    have hn1 : n ≤ 1000000 := hb.2.1
    clear h1 hb
    by_cases hc : 0 ≤ n ∧ n ≤ l.length - nx
    · obtain ⟨p, rfl⟩ : ∃ p : Nat, nx = p := ⟨nx.toNat, by omega⟩
      obtain ⟨q, rfl⟩ : ∃ q : Nat, n = q := ⟨n.toNat, by omega⟩
      have hss := strOf_size ((l.drop p).take q)
      rw [show ((l.drop p).take q).length = q by simp; omega] at hss
      have e : r = if wordB (strOfNums ((l.drop p).take q)).data.toList then (strOfNums ((l.drop p).take q), ((p : Int) + q)) else (⟨#[]⟩, -1) := by
        rw [HR.out]
        by_cases h12 : 1 ≤ q ∧ q ≤ 12
        · rw [if_neg (by omega)]; rfl
        · rw [if_pos (by omega), wordB_len (by rw [hss]; exact h12)]; rfl
      have CV : Hid (∀ ao, Rd w .u8 ao ((l.drop p).take q) → ((l.drop p).take q).length = q → (convert 112 9 (.slice ao q q)).run Tryz.prog w = .ok (.string (strOfNums ((l.drop p).take q))) w) := fun ao h1 h2 => conv_str w 112 Tryz.underlying112 ao q q _ h1 h2
      have K := Lib.hid (cut_yes' b d l p q p q rfl rfl w HL.out HD.out HD2.out H.out (by omega))
      generalize hm : (l.drop p).take q = m at CV K e hss
      generalize strOfNums m = st at e CV hss
      have hst : st.size ≤ maxLen := by unfold maxLen; omega
      have WK := Lib.hid (implWordOk_any st w hst)
      have HE := Lib.hid e
      have hpq : (p : Int) + q ≤ l.length := by omega
      clear hm e hss hst hc
      go_wp2_with fail
      refine K.out.mono ?_
      rintro e w' ⟨ao, rfl, hrd, hlen, _, rfl⟩
      have hcv := CV.out ao hrd hlen
      clear hrd hlen
      cases hw : wordB st.data.toList with
      | true =>
        have wk := WK.out; rw [hw] at wk
        have he := HE.out; rw [hw] at he
        have WK1 := Lib.hid wk; have HE1 := Lib.hid he; clear wk he WK HE hw CV K
        go_wp2_with (go_at_call 173; refine WK1.out.mono ?_; rintro e w' ⟨rfl, rfl⟩)
        go_ret3
        exact wordPost_yes (HE1.out.trans (by simp)) (by omega)
      | false =>
        have wk := WK.out; rw [hw] at wk
        have he := HE.out; rw [hw] at he
        have WK1 := Lib.hid wk; have HE1 := Lib.hid he; clear wk he WK HE hw CV K
        go_wp2_with (go_at_call 173; refine WK1.out.mono ?_; rintro e w' ⟨rfl, rfl⟩)
        go_ret3
        exact wordPost_no (HE1.out.trans (if_neg (by simp)))
    · have HE : Hid (r = (⟨#[]⟩, -1)) := by
        show r = _
        rw [HR.out, if_pos (by omega)]
      go_wp2_with fail
      refine (cut_no _ _ _ _ _ _ HL.out (by omega) (by omega) (by omega)).mono ?_
      rintro e w' ⟨rfl, rfl⟩
      go_wp2
      go_ret3
      exact wordPost_no HE.out

def TookSB (r : ByteArray × Int) (w : World) (e : Ending) (w' : World) : Prop := e = .returned (.tuple #[.string r.1, .int .i64 r.2]) ∧ Below w.heap.size w w'

end Go.Proofs.YtfpbhedophlnkaaGreatDoor
namespace Go.Proofs.YtfpbhedophlnkaaGreatDoor
open Go.RowKit
set_option linter.unusedSimpArgs false
set_option linter.unusedVariables false

/-- Whether something was missing. -/
def ErV (er : Value) (p : Int) (s : Option Int) : Prop := (s = some p ∧ er = .nilIface) ∨ (s = none ∧ ∃ k1 k2 : Int, er = .iface 200 (.agg #[.int .i64 k1, .int .i64 k2]))
/-- The reader in block R over the bytes l. -/
def Rdr (w : World) (R : Nat) (b : Option Addr) (d : Nat) (l : List Int) (s : Option Int) : Prop :=
  ∃ (p : Int) (er : Value), w.heap[R]? = some (.cells #[.slice b l.length d, .int .i64 p, er] 116 (0, 0)) ∧ (-9223372036854775808 ≤ p ∧ p ≤ 9223372036854775807) ∧ ErV er p s ∧ Rd w .u8 b l ∧ By l ∧ (l.length ≤ d ∧ d ≤ maxLen) ∧ (∀ a, b = some a → l ≠ [] → a.block ≠ R)
def TookR (v : Value) (R : Nat) (b : Option Addr) (d : Nat) (l : List Int) (s : Option Int) (w : World) (e : Ending) (w' : World) : Prop :=
  e = .returned v ∧ Rdr w' R b d l s ∧ w.grownBy w' (some R)

section
variable {w w1 w' : World} {R d : Nat} {b : Option Addr} {l : List Int} {p q : Int} {er er' : Value} {s : Option Int}
theorem rdr_set1 (hh : w1.heap[R]? = some (.cells #[.slice b l.length d, .int .i64 p, er] 116 (0, 0))) (hr : Rd w1 .u8 b l) (hby : By l) (hd : l.length ≤ d ∧ d ≤ maxLen) (hne : ∀ a, b = some a → l ≠ [] → a.block ≠ R) (hq : -9223372036854775808 ≤ q ∧ q ≤ 9223372036854775807) (he : er = .nilIface) :
    Rdr (w1.setCell ⟨R, 1, none⟩ (.int .i64 q)) R b d l (some q) :=
  ⟨q, er, by rw [heap_setCell_same w1 R 1 _ _ _ hh]; rfl, hq, .inl ⟨rfl, he⟩, hr.far hne fun x hx => World.cell?_setCell_other _ _ _ _ (fun e => by subst e; exact hx rfl), hby, hd, hne⟩
theorem rdr_set2 {k1 k2 : Int} (hh : w1.heap[R]? = some (.cells #[.slice b l.length d, .int .i64 p, er] 116 (0, 0))) (hr : Rd w1 .u8 b l) (hby : By l) (hd : l.length ≤ d ∧ d ≤ maxLen) (hne : ∀ a, b = some a → l ≠ [] → a.block ≠ R) (hp : -9223372036854775808 ≤ p ∧ p ≤ 9223372036854775807) :
    Rdr (w1.setCell ⟨R, 2, none⟩ (.iface 200 (.agg #[.int .i64 k1, .int .i64 k2]))) R b d l none :=
  ⟨p, _, by rw [heap_setCell_same w1 R 2 _ _ _ hh]; rfl, hp, .inr ⟨rfl, k1, k2, rfl⟩, hr.far hne fun x hx => World.cell?_setCell_other _ _ _ _ (fun e => by subst e; exact hx rfl), hby, hd, hne⟩
theorem rdr_same (hh : w1.heap[R]? = some (.cells #[.slice b l.length d, .int .i64 p, er] 116 (0, 0))) (hr : Rd w1 .u8 b l) (hby : By l) (hd : l.length ≤ d ∧ d ≤ maxLen) (hne : ∀ a, b = some a → l ≠ [] → a.block ≠ R) (hp : -9223372036854775808 ≤ p ∧ p ≤ 9223372036854775807) (he : ErV er p s) : Rdr w1 R b d l s :=
  ⟨p, er, hh, hp, he, hr, hby, hd, hne⟩
theorem grown_set (h : w.grownBy w1 (some R)) (o : Nat) (v : Value) : w.grownBy (w1.setCell ⟨R, o, none⟩ v) (some R) :=
  grownBy_trans h ⟨rfl, rfl, rfl, by simp [World.setCell], fun i _ hi => heap_setCell_other w1 ⟨R, o, none⟩ i _ (fun e => hi (by simp [e]))⟩
theorem Rdr.below (h : Rdr w R b d l s) (hb : Below w.heap.size w w') : Rdr w' R b d l s := by
  obtain ⟨p, er, hh, hp, he, hr, hby, hd, hne⟩ := h
  refine ⟨p, er, ?_, hp, he, hr.below hb, hby, hd, hne⟩
  rw [hb.block R (by
    rcases Nat.lt_or_ge R w.heap.size with h1 | h1
    · exact h1
    · rw [Array.getElem?_eq_none h1] at hh; cases hh)]; exact hh
end

set_option maxRecDepth 100000 in
set_option maxHeartbeats 800000 in
theorem takeNum_any (R : Nat) (b : Option Addr) (d : Nat) (l : List Int) (s : Option Int) (w : World) (h : Rdr w R b d l s) :
    Calls Tryz.prog 236 #[.pointer (some ⟨R, 0, none⟩), .func (.func 234) #[.slice b l.length d] #[]] w (TookR (.int .i64 (numR l s).1) R b d l (numR l s).2 w) := by
  obtain ⟨p, er, hh, hp, he, hr, hby, hd, hne⟩ := h
  have c0 : w.cell? ⟨R, 0, none⟩ = some (.slice b l.length d) := cell_of_row w R 0 _ _ _ hh
  have c1 : w.cell? ⟨R, 1, none⟩ = some (.int .i64 p) := cell_of_row w R 1 _ _ _ hh
  have c2 : w.cell? ⟨R, 2, none⟩ = some er := cell_of_row w R 2 _ _ _ hh
  have f1 : w.frozen? ⟨R, 1, none⟩ = false := by simp [World.frozen?, hh]
  have f2 : w.frozen? ⟨R, 2, none⟩ = false := by simp [World.frozen?, hh]
  have hlm : l.length ≤ maxLen := Nat.le_trans hd.1 hd.2
  rcases he with ⟨rfl, rfl⟩ | ⟨rfl, k1, k2, rfl⟩
  · have C := Lib.hid (numAt_any b d l p w hr hby hlm hd.1 hd.2 hp.2 hp.1)
    have BD := Lib.hid (takeN_bd hby p)
    have HH := Lib.hid hh; have HR := Lib.hid hr; have HBY := Lib.hid hby; have HNE := Lib.hid hne; have HD := Lib.hid hd; have HP := Lib.hid hp
    clear hh hr hby hne hd hp
    have RL : Hid (numR l (some p) = if (takeN l p).2 = -1 then (0, none) else ((takeN l p).1, some (takeN l p).2)) := rfl
    obtain ⟨⟨x, y⟩, hxy⟩ : ∃ r, r = takeN l p := ⟨_, rfl⟩
    rw [← hxy] at C BD RL
    obtain ⟨rr, hrr⟩ : ∃ rr, rr = numR l (some p) := ⟨_, rfl⟩
    rw [← hrr] at RL ⊢
    simp only at RL
    clear hxy hrr
    go_enter Tryz.func236, Tryz.ntmps236
    go_wp2_with fail
    refine C.out.mono ?_
    clear C
    rintro e w' ⟨hh | hh, rfl⟩
    · obtain ⟨h1, rfl⟩ := hh
      simp only at h1
      have E : Hid (rr = (0, none)) := by show _ = _; rw [RL.out, if_pos h1]
      have RS := Lib.hid (rdr_set2 (k1 := 0) (k2 := p) HH.out HR.out HBY.out HD.out HNE.out HP.out)
      have GS := Lib.hid (grown_set (World.grownBy.refl w (some R)) 2 (.iface 200 (.agg #[.int .i64 0, .int .i64 p])))
      clear h1
      go_wp2_with fail
      go_ret
      rw [E.out]
      exact ⟨rfl, RS.out, GS.out⟩
    · obtain ⟨h1, rfl⟩ := hh
      simp only at h1 ⊢
      have E : Hid (rr = (x, some y)) := by show _ = _; rw [RL.out, if_neg h1]
      have hb := BD.out
      have RS := Lib.hid (rdr_set1 (q := y) HH.out HR.out HBY.out HD.out HNE.out (by unfold maxLen at hlm; omega) rfl)
      have GS := Lib.hid (grown_set (World.grownBy.refl w (some R)) 1 (.int .i64 y))
      clear h1 hb BD
      go_wp2_with fail
      go_ret
      rw [E.out]
      exact ⟨rfl, RS.out, GS.out⟩
  · have RS := Lib.hid (rdr_same (s := none) hh hr hby hd hne hp (.inr ⟨rfl, k1, k2, rfl⟩))
    clear hh hr hby hne hd hp
    go_enter Tryz.func236, Tryz.ntmps236
    go_wp2_with fail
    go_ret
    exact ⟨rfl, RS.out, World.grownBy.refl _ _⟩

set_option maxRecDepth 100000 in
set_option maxHeartbeats 800000 in
theorem takeWord_any (R : Nat) (b : Option Addr) (d : Nat) (l : List Int) (s : Option Int) (w : World) (h : Rdr w R b d l s) :
    Calls Tryz.prog 237 #[.pointer (some ⟨R, 0, none⟩), .func (.func 238) #[.slice b l.length d] #[]] w (TookR (.string (wordR l s).1) R b d l (wordR l s).2 w) := by
  obtain ⟨p, er, hh, hp, he, hr, hby, hd, hne⟩ := h
  have c0 : w.cell? ⟨R, 0, none⟩ = some (.slice b l.length d) := cell_of_row w R 0 _ _ _ hh
  have c1 : w.cell? ⟨R, 1, none⟩ = some (.int .i64 p) := cell_of_row w R 1 _ _ _ hh
  have c2 : w.cell? ⟨R, 2, none⟩ = some er := cell_of_row w R 2 _ _ _ hh
  have f1 : w.frozen? ⟨R, 1, none⟩ = false := by simp [World.frozen?, hh]
  have f2 : w.frozen? ⟨R, 2, none⟩ = false := by simp [World.frozen?, hh]
  have hlm : l.length ≤ maxLen := Nat.le_trans hd.1 hd.2
  rcases he with ⟨rfl, rfl⟩ | ⟨rfl, k1, k2, rfl⟩
  · have C := Lib.hid (wordAt_any b d l p w hr hby hlm hd.1 hd.2 hp.2 hp.1)
    have BD := Lib.hid (takeW_pl hby p)
    have HH := Lib.hid hh; have HR := Lib.hid hr; have HBY := Lib.hid hby; have HNE := Lib.hid hne; have HD := Lib.hid hd; have HP := Lib.hid hp
    clear hh hr hby hne hd hp
    have RL : Hid (wordR l (some p) = if (takeW l p).2 = -1 then (⟨#[]⟩, none) else ((takeW l p).1, some (takeW l p).2)) := rfl
    obtain ⟨⟨x, y⟩, hxy⟩ : ∃ r, r = takeW l p := ⟨_, rfl⟩
    rw [← hxy] at C BD RL
    obtain ⟨rr, hrr⟩ : ∃ rr, rr = wordR l (some p) := ⟨_, rfl⟩
    rw [← hrr] at RL ⊢
    simp only at RL
    clear hxy hrr
    go_enter Tryz.func237, Tryz.ntmps237
    go_wp2_with fail
    refine C.out.mono ?_
    clear C
    rintro e w' ⟨hh | hh, rfl⟩
    · obtain ⟨h1, k1, k2, rfl⟩ := hh
      have E : Hid (rr = (⟨#[]⟩, none)) := by show _ = _; rw [RL.out, if_pos (by injection h1)]
      have RS := Lib.hid (rdr_set2 (k1 := k1) (k2 := k2) HH.out HR.out HBY.out HD.out HNE.out HP.out)
      have GS := Lib.hid (grown_set (World.grownBy.refl w (some R)) 2 (.iface 200 (.agg #[.int .i64 k1, .int .i64 k2])))
      clear h1
      go_wp2_with fail
      go_ret
      rw [E.out]
      exact ⟨rfl, RS.out, GS.out⟩
    · obtain ⟨h1, rfl⟩ := hh
      simp only at h1 ⊢
      have E : Hid (rr = (x, some y)) := by show _ = _; rw [RL.out, if_neg h1]
      have hb := BD.out
      have RS := Lib.hid (rdr_set1 (q := y) HH.out HR.out HBY.out HD.out HNE.out (by unfold maxLen at hlm; omega) rfl)
      have GS := Lib.hid (grown_set (World.grownBy.refl w (some R)) 1 (.int .i64 y))
      clear h1 hb BD
      go_wp2_with fail
      go_ret
      rw [E.out]
      exact ⟨rfl, RS.out, GS.out⟩
  · have RS := Lib.hid (rdr_same (s := none) hh hr hby hd hne hp (.inr ⟨rfl, k1, k2, rfl⟩))
    clear hh hr hby hne hd hp
    go_enter Tryz.func237, Tryz.ntmps237
    go_wp2_with fail
    go_ret
    exact ⟨rfl, RS.out, World.grownBy.refl _ _⟩

def TookLR (xs : List Int) (R : Nat) (b : Option Addr) (d : Nat) (l : List Int) (s : Option Int) (w : World) (e : Ending) (w' : World) : Prop :=
  ∃ ao c, e = .returned (.slice ao xs.length c) ∧ Own w' w.heap.size 3 .i64 ao c xs ∧ Rdr w' R b d l s ∧ w.grownBy w' (some R)
theorem takeNs_plR {l : List Int} (hl : By l) (p : Int) : (takeNs l p).2 = -1 ∨ (0 ≤ (takeNs l p).2 ∧ (takeNs l p).2 ≤ l.length) := by
  unfold takeNs
  have bd := takeN_bd hl p
  split
  · exact .inl rfl
  · rename_i h
    cases hr : rdN l (takeN l p).2 (takeN l p).1.toNat with
    | none => exact .inl rfl
    | some x =>
      obtain ⟨acc, q⟩ := x
      have := rdN_bd hl (p0 := (takeN l p).2) (by omega) (by omega) _ _ _ hr
      right; simp only [Option.getD_some]; omega
set_option maxRecDepth 100000 in
set_option maxHeartbeats 800000 in
theorem takeList_any (R : Nat) (b : Option Addr) (d : Nat) (l : List Int) (s : Option Int) (w : World) (h : Rdr w R b d l s) :
    Calls Tryz.prog 287 #[.pointer (some ⟨R, 0, none⟩), .func (.func 288) #[.slice b l.length d] #[]] w (TookLR (listR l s).1 R b d l (listR l s).2 w) := by
  obtain ⟨p, er, hh, hp, he, hr, hby, hd, hne⟩ := h
  have c0 : w.cell? ⟨R, 0, none⟩ = some (.slice b l.length d) := cell_of_row w R 0 _ _ _ hh
  have c1 : w.cell? ⟨R, 1, none⟩ = some (.int .i64 p) := cell_of_row w R 1 _ _ _ hh
  have c2 : w.cell? ⟨R, 2, none⟩ = some er := cell_of_row w R 2 _ _ _ hh
  have hlm : l.length ≤ maxLen := Nat.le_trans hd.1 hd.2
  have hRl : R < w.heap.size := lt_of_block hh
  rcases he with ⟨rfl, rfl⟩ | ⟨rfl, k1, k2, rfl⟩
  · have C := Lib.hid (listAt_any b d l p w hr hby hlm hd.1 hd.2 hp.2 hp.1)
    have BD := Lib.hid (takeNs_plR hby p)
    have HH := Lib.hid hh; have HR := Lib.hid hr; have HBY := Lib.hid hby; have HNE := Lib.hid hne; have HD := Lib.hid hd; have HP := Lib.hid hp
    clear hh hr hby hne hd hp
    have RL : Hid (listR l (some p) = if (takeNs l p).2 = -1 then ([], none) else ((takeNs l p).1, some (takeNs l p).2)) := rfl
    obtain ⟨⟨x, y⟩, hxy⟩ : ∃ r, r = takeNs l p := ⟨_, rfl⟩
    rw [← hxy] at C BD RL
    obtain ⟨rr, hrr⟩ : ∃ rr, rr = listR l (some p) := ⟨_, rfl⟩
    rw [← hrr] at RL ⊢
    simp only at RL
    clear hxy hrr
    go_enter Tryz.func287, Tryz.ntmps287
    go_wp2_with fail
    refine C.out.mono ?_
    clear C
    rintro e w1 ⟨hh | hh, b1⟩
    · obtain ⟨h1, k1, k2, rfl⟩ := hh
      have hh1 := (b1.block R hRl).trans HH.out
      have f2 : w1.frozen? ⟨R, 2, none⟩ = false := by simp [World.frozen?, hh1]
      have d2 := cell_of_row w1 R 2 _ _ _ hh1
      have E : Hid (rr = ([], none)) := by show _ = _; rw [RL.out, if_pos (by injection h1)]
      have RS := Lib.hid (rdr_set2 (k1 := k1) (k2 := k2) hh1 (HR.out.below b1) HBY.out HD.out HNE.out HP.out)
      have GS := Lib.hid (grown_set (grownBy_below (World.grownBy.refl w (some R)) b1) 2 (.iface 200 (.agg #[.int .i64 k1, .int .i64 k2])))
      clear h1 hh1 b1
      go_wp2_with fail
      go_ret
      rw [E.out]
      exact ⟨none, 0, rfl, Own.none_, RS.out, GS.out⟩
    · obtain ⟨ao, c, h1, rfl, ho⟩ := hh
      simp only at h1 ho ⊢
      have hh1 := (b1.block R hRl).trans HH.out
      have f1 : w1.frozen? ⟨R, 1, none⟩ = false := by simp [World.frozen?, hh1]
      have d1 := cell_of_row w1 R 1 _ _ _ hh1
      have E : Hid (rr = (x, some y)) := by show _ = _; rw [RL.out, if_neg h1]
      have hb := BD.out
      have RS := Lib.hid (rdr_set1 (q := y) hh1 (HR.out.below b1) HBY.out HD.out HNE.out (by unfold maxLen at hlm; omega) rfl)
      have GS := Lib.hid (grown_set (grownBy_below (World.grownBy.refl w (some R)) b1) 1 (.int .i64 y))
      have OS := Lib.hid (ho.keep (w' := w1.setCell ⟨R, 1, none⟩ (.int .i64 y)) (fun a ha _ => Below.heap_setCell w1 ⟨R, 1, none⟩ _ a.block (by have := (ho.lt a ha).1; simp; omega)))
      clear h1 hb BD hh1 b1 ho
      go_wp2_with fail
      go_ret
      rw [E.out]
      exact ⟨ao, c, rfl, OS.out, RS.out, GS.out⟩
  · have RS := Lib.hid (rdr_same (s := none) hh hr hby hd hne hp (.inr ⟨rfl, k1, k2, rfl⟩))
    clear hh hr hby hne hd hp
    go_enter Tryz.func287, Tryz.ntmps287
    go_wp2_with fail
    go_ret
    exact ⟨none, 0, rfl, Own.none_, RS.out, World.grownBy.refl _ _⟩

set_option maxRecDepth 100000 in
theorem rList_any (R : Nat) (b : Option Addr) (d : Nat) (l : List Int) (s : Option Int) (w : World) (h : Rdr w R b d l s) :
    Calls Tryz.prog 246 #[.pointer (some ⟨R, 0, none⟩)] w (TookLR (listR l s).1 R b d l (listR l s).2 w) := by
  have T := Lib.hid (takeList_any R b d l s w h)
  obtain ⟨p, er, hh, _⟩ := h
  have c0 : w.cell? ⟨R, 0, none⟩ = some (.slice b l.length d) := cell_of_row w R 0 _ _ _ hh
  have hmf : ∀ (fn : Go.Fn) (first cap : Array Value) (w : World), (Instr.makeFunc fn first cap).run Tryz.prog w = .ok (.func fn first cap) w := fun _ _ _ _ => rfl
  clear hh
  go_enter Tryz.func246, Tryz.ntmps246
  go_wp2_with fail
  refine T.out.mono ?_
  rintro e w1 ⟨ao, c, rfl, h0, h1, h2⟩
  have H0 := Lib.hid h0; have H1 := Lib.hid h1; have H2 := Lib.hid h2; clear h0 h1 h2 T
  go_wp2_with fail
  go_ret
  exact ⟨ao, c, rfl, H0.out, H1.out, H2.out⟩

set_option maxRecDepth 100000 in
theorem rNum_any (R : Nat) (b : Option Addr) (d : Nat) (l : List Int) (s : Option Int) (w : World) (h : Rdr w R b d l s) :
    Calls Tryz.prog 179 #[.pointer (some ⟨R, 0, none⟩)] w (TookR (.int .i64 (numR l s).1) R b d l (numR l s).2 w) := by
  have T := Lib.hid (takeNum_any R b d l s w h)
  obtain ⟨p, er, hh, _⟩ := h
  have c0 : w.cell? ⟨R, 0, none⟩ = some (.slice b l.length d) := cell_of_row w R 0 _ _ _ hh
  have hmf : ∀ (fn : Go.Fn) (first cap : Array Value) (w : World), (Instr.makeFunc fn first cap).run Tryz.prog w = .ok (.func fn first cap) w := fun _ _ _ _ => rfl
  clear hh
  go_enter Tryz.func179, Tryz.ntmps179
  go_wp2_with fail
  refine T.out.mono ?_
  rintro e w' ⟨rfl, h1, h2⟩
  have H1 := Lib.hid h1; have H2 := Lib.hid h2; clear h1 h2 T
  go_wp2_with fail
  go_ret
  exact ⟨rfl, H1.out, H2.out⟩

set_option maxRecDepth 100000 in
theorem rWord_any (R : Nat) (b : Option Addr) (d : Nat) (l : List Int) (s : Option Int) (w : World) (h : Rdr w R b d l s) :
    Calls Tryz.prog 180 #[.pointer (some ⟨R, 0, none⟩)] w (TookR (.string (wordR l s).1) R b d l (wordR l s).2 w) := by
  have T := Lib.hid (takeWord_any R b d l s w h)
  obtain ⟨p, er, hh, _⟩ := h
  have c0 : w.cell? ⟨R, 0, none⟩ = some (.slice b l.length d) := cell_of_row w R 0 _ _ _ hh
  have hmf : ∀ (fn : Go.Fn) (first cap : Array Value) (w : World), (Instr.makeFunc fn first cap).run Tryz.prog w = .ok (.func fn first cap) w := fun _ _ _ _ => rfl
  clear hh
  go_enter Tryz.func180, Tryz.ntmps180
  go_wp2_with fail
  refine T.out.mono ?_
  rintro e w' ⟨rfl, h1, h2⟩
  have H1 := Lib.hid h1; have H2 := Lib.hid h2; clear h1 h2 T
  go_wp2_with fail
  go_ret
  exact ⟨rfl, H1.out, H2.out⟩

set_option maxRecDepth 100000 in
set_option maxHeartbeats 800000 in
theorem rFlag_any (R : Nat) (b : Option Addr) (d : Nat) (l : List Int) (s : Option Int) (w : World) (h : Rdr w R b d l s) :
    Calls Tryz.prog 245 #[.pointer (some ⟨R, 0, none⟩)] w (TookR (.bool (flagR l s).1) R b d l (flagR l s).2 w) := by
  have T := Lib.hid (rNum_any R b d l s w h)
  obtain ⟨p, er, hh, _⟩ := h
  have c1 : w.cell? ⟨R, 1, none⟩ = some (.int .i64 p) := cell_of_row w R 1 _ _ _ hh
  have FL : Hid (flagR l s = ((numR l s).1 == 1, if (numR l s).1 = 0 ∨ (numR l s).1 = 1 then (numR l s).2 else none)) := rfl
  obtain ⟨⟨x, s1⟩, hx⟩ : ∃ r, r = numR l s := ⟨_, rfl⟩
  rw [← hx] at T FL
  obtain ⟨rr, hrr⟩ : ∃ rr, rr = flagR l s := ⟨_, rfl⟩
  rw [← hrr] at FL ⊢
  simp only at FL
  clear hh hx hrr
  go_enter Tryz.func245, Tryz.ntmps245
  go_wp2_with fail
  refine T.out.mono ?_
  rintro e w1 ⟨rfl, h1, h2⟩
  simp only at h1 ⊢
  have H1 := Lib.hid h1; have H2 := Lib.hid h2
  clear T c1 h2
  obtain ⟨p1, er1, hh, hp, he, hr, hby, hd, hne⟩ := h1
  have c1 : w1.cell? ⟨R, 1, none⟩ = some (.int .i64 p1) := cell_of_row w1 R 1 _ _ _ hh
  have c2 : w1.cell? ⟨R, 2, none⟩ = some er1 := cell_of_row w1 R 2 _ _ _ hh
  have f2 : w1.frozen? ⟨R, 2, none⟩ = false := by simp [World.frozen?, hh]
  by_cases h0 : x = 0
  · subst h0
    have E : Hid (rr = (false, s1)) := by show _ = _; rw [FL.out]; simp
    clear hh hp he hr hby hd hne
    go_wp2_with fail
    go_ret
    rw [E.out]
    exact ⟨rfl, H1.out, H2.out⟩
  · by_cases h1 : x = 1
    · subst h1
      have E : Hid (rr = (true, s1)) := by show _ = _; rw [FL.out]; simp
      clear hh hp he hr hby hd hne
      go_wp2_with fail
      go_ret
      rw [E.out]
      exact ⟨rfl, H1.out, H2.out⟩
    · have E : Hid (rr = (false, none)) := by show _ = _; rw [FL.out]; simp [h0, h1]
      have RS := Lib.hid (rdr_set2 (k1 := 4) (k2 := p) hh hr hby hd hne hp)
      have GS := Lib.hid (grown_set H2.out 2 (.iface 200 (.agg #[.int .i64 4, .int .i64 p])))
      have n0 : (x != 0) = true := by simp [h0]
      have n1 : (x != 1) = true := by simp [h1]
      have n2 : (x == 1) = false := by simp [h1]
      clear hh hp he hr hby hd hne
      go_wp2_with fail
      go_ret
      rw [E.out]
      exact ⟨rfl, RS.out, GS.out⟩
end Go.Proofs.YtfpbhedophlnkaaGreatDoor
