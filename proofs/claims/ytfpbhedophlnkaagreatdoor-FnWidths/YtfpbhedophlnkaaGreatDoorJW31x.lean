/-
  The contract of impl.TakeNum. For every slice of bytes and every place, where the program's start has laid what package errors asks for. The contracts of spec.TakeNums, of the program's listAt and of impl.TakeNums. For every slice of bytes and every place. The contracts of spec.TakeWord, of the program's wordAt and of impl.TakeWord. For every slice of bytes and every place. The contract of spec.Unframe. For every slice of bytes.
-/
import Derived.Test.YtfpbhedophlnkaaGreatDoorJW30x
import Derived.Test.YtfpbhedophlnkaaGreatDoorJW26x
import Derived.Test.YtfpbhedophlnkaaGreatDoorJW7x
import Derived.Laws.BytesArg
import Derived.Test.YtfpbhedophlnkaaGreatDoorJW27x
import Derived.Test.YtfpbhedophlnkaaGreatDoorJW28x
namespace Go.Proofs.YtfpbhedophlnkaaGreatDoor
open Go.RowKit
set_option linter.unusedSimpArgs false
set_option linter.unusedVariables false

def TookB (r : Int × Int) (w : World) (e : Ending) (w' : World) : Prop := e = .returned (.tuple #[.int .i64 r.1, .int .i64 r.2]) ∧ Below w.heap.size w w'

end Go.Proofs.YtfpbhedophlnkaaGreatDoor
namespace Go.Proofs.YtfpbhedophlnkaaGreatDoor
open Go.RowKit
set_option linter.unusedSimpArgs false
set_option linter.unusedVariables false

/-- k numbers read from place p0 on, one behind the other, and the place behind them. -/
def rdN (l : List Int) (p0 : Int) : Nat → Option (List Int × Int)
  | 0 => some ([], p0)
  | k + 1 => match rdN l p0 k with
    | none => none
    | some (acc, p) => if (takeN l p).2 = -1 then none else some (acc ++ [(takeN l p).1], (takeN l p).2)
theorem rdN_yes {l : List Int} {p0 p x q : Int} {k : Nat} {acc : List Int} (h : rdN l p0 k = some (acc, p)) (ht : (x, q) = takeN l p) (hq : q ≠ -1) : rdN l p0 (k + 1) = some (acc ++ [x], q) := by
  rw [rdN, h]; simp only; rw [← ht]; simp only; rw [if_neg hq]
theorem rdN_no {l : List Int} {p0 p x q : Int} {k : Nat} {acc : List Int} (h : rdN l p0 k = some (acc, p)) (ht : (x, q) = takeN l p) (hq : q = -1) : rdN l p0 (k + 1) = none := by
  rw [rdN, h]; simp only; rw [← ht]; simp only; rw [if_pos hq]
theorem rdN_stays {l : List Int} {p0 : Int} {k : Nat} (h : rdN l p0 k = none) : ∀ m, k ≤ m → rdN l p0 m = none := by
  intro m hm
  induction m with
  | zero => obtain rfl : k = 0 := by omega
            exact h
  | succ m ih =>
    by_cases e : k = m + 1
    · rw [← e]; exact h
    · rw [rdN, ih (by omega)]
def takeNs (l : List Int) (at_ : Int) : List Int × Int :=
  if (takeN l at_).2 < 0 ∨ (takeN l at_).1 < 0 ∨ 300 < (takeN l at_).1 then ([], -1) else (rdN l (takeN l at_).2 (takeN l at_).1.toNat).getD ([], -1)
theorem rdN_bd {l : List Int} (hl : By l) {p0 : Int} (h0 : 0 ≤ p0) (h1 : p0 ≤ l.length) : ∀ (k : Nat) (acc : List Int) (p : Int), rdN l p0 k = some (acc, p) → acc.length = k ∧ 0 ≤ p ∧ p ≤ l.length := by
  intro k
  induction k with
  | zero =>
    intro acc p h
    rw [rdN] at h
    simp at h
    obtain ⟨rfl, rfl⟩ := h
    exact ⟨rfl, h0, h1⟩
  | succ k ih =>
    intro acc p h
    rw [rdN] at h
    rcases hk : rdN l p0 k with _ | ⟨acc', p'⟩
    · rw [hk] at h; cases h
    · rw [hk] at h
      simp only at h
      by_cases ht : (takeN l p').2 = -1
      · rw [if_pos ht] at h; cases h
      · rw [if_neg ht] at h
        simp at h
        obtain ⟨rfl, rfl⟩ := h
        have := ih acc' p' hk
        have bd := takeN_bd hl p'
        refine ⟨by simp; exact this.1, by omega, by omega⟩
/-- As 'Made', beside a place. -/
def TookL (r : List Int × Int) (w : World) (e : Ending) (w' : World) : Prop :=
  ∃ ao c, e = .returned (.tuple #[.slice ao r.1.length c, .int .i64 r.2]) ∧ Own w' w.heap.size 3 .i64 ao c r.1 ∧ Below w.heap.size w w'
theorem tookL_no {r : List Int × Int} {w w' : World} (h : r = ([], -1)) (hb : Below w.heap.size w w') : TookL r w (.returned (.tuple #[.slice none 0 0, .int .i64 (-1)])) w' := by
  rw [h]; exact ⟨none, 0, rfl, Own.none_, hb⟩
theorem tookL_yes {r : List Int × Int} {w w' : World} {acc : List Int} {p : Int} {ao : Option Addr} {c n : Nat} (h : r = (acc, p)) (hn : n = acc.length) (ho : Own w' w.heap.size 3 .i64 ao c acc) (hb : Below w.heap.size w w') : TookL r w (.returned (.tuple #[.slice ao n c, .int .i64 p])) w' := by
  rw [h, hn]; exact ⟨ao, c, rfl, ho, hb⟩

def SnRel (w wr : World) (l : List Int) (p0 : Int) (m : Nat) (nx v i : Value) : Prop :=
  ∃ (k : Nat) (acc : List Int) (p : Int) (ao : Option Addr) (c n : Nat), nx = .int .i64 p ∧ v = .slice ao n c ∧ i = .int .i64 k ∧ n = acc.length ∧ k ≤ m ∧ rdN l p0 k = some (acc, p) ∧ Own wr w.heap.size 3 .i64 ao c acc ∧ Below w.heap.size w wr

set_option maxRecDepth 100000 in
set_option maxHeartbeats 1600000 in
theorem specTakeNums_any (b : Option Addr) (d : Nat) (l : List Int) (at_ : Int) (w : World) (h : Rd w .u8 b l) (hby : By l) (hl : l.length ≤ maxLen) (ha : at_ ≤ 9223372036854775807) :
    Calls Tryz.prog 201 #[.slice b l.length d, .int .i64 at_] w (TookL (takeNs l at_) w) := by
  have C := Lib.hid (specTakeNum_any b d l at_ w h hby hl ha)
  have CA : Hid (∀ (p : Int) (w : World), Rd w .u8 b l → p ≤ 9223372036854775807 → Calls Tryz.prog 126 #[.slice b l.length d, .int .i64 p] w (Took (takeN l p) w)) := fun p w h hp => specTakeNum_any b d l p w h hby hl hp
  have bd := takeN_bd hby at_
  have HBY := Lib.hid hby; have H := Lib.hid h
  obtain ⟨r, hr⟩ : ∃ r, r = takeNs l at_ := ⟨_, rfl⟩
  rw [← hr]
  unfold takeNs at hr
  obtain ⟨⟨n, nx⟩, hnx⟩ : ∃ x, x = takeN l at_ := ⟨_, rfl⟩
  rw [← hnx] at C bd hr
  simp only at hr bd
  have HR := Lib.hid hr; clear hr hnx ha hby h
  unfold maxLen at hl
  by_cases h0 : nx < 0
  · have e : r = ([], -1) := by rw [HR.out, if_pos (.inl h0)]
    have HE := Lib.hid e; clear e
    have hb0 : decide (nx < 0) = true := by simpa using h0
    go_enter Tryz.func201, Tryz.ntmps201
    go_wp2_with (go_at_call 126; refine C.out.mono ?_; rintro e w' ⟨rfl, rfl⟩)
    go_ret2
    exact tookL_no HE.out (Below.refl _ _)
  have hb0 : decide (nx < 0) = false := by simpa using h0
  by_cases h1 : 0 ≤ n ∧ n ≤ 300
  · obtain ⟨m, rfl⟩ : ∃ m : Nat, n = m := ⟨n.toNat, by omega⟩
    have e : r = (rdN l nx m).getD ([], -1) := by rw [HR.out, if_neg (by omega), Int.toNat_natCast]
    have HE := Lib.hid e; clear e
    have hin : (decide ((0 : Int) ≤ m) && decide ((m : Int) ≤ 300)) = true := by simp; omega
    have HIN := Lib.hid hin; clear hin
    have hst : Own (w.alloc (Obj.cells #[] 3)) w.heap.size 3 .i64 (some ⟨w.heap.size, 0, none⟩) 0 [] := World.ownsRow_lit w #[] 0 (Nat.le_refl _) (Nat.zero_le _) rfl
    have HST := Lib.hid hst; clear hst
    have hnl : nx ≤ l.length := by omega
    have hn0 : 0 ≤ nx := by omega
    clear bd
    go_enter Tryz.func201, Tryz.ntmps201
    go_wp2_with (first | (go_at_call 126; refine C.out.mono ?_; rintro e w' ⟨rfl, rfl⟩) | (go_at_call 97; refine (l01In_any _ _ _ _).mono ?_; rintro e w' ⟨rfl, rfl⟩; rw [HIN.out]))
    go_loopw [7, 8, 9] (fun nx' v i wr => SnRel w wr l nx m nx' v i) (fun _ _ i _ => m - (intOf i).toNat)
    case atStart => exact ⟨0, [], nx, _, _, _, rfl, rfl, rfl, rfl, Nat.zero_le _, rfl, HST.out, (Below.refl _ _).alloc (Nat.le_refl _) _⟩
    case round =>
      obtain ⟨k, acc, p, ao, c, n', rfl, rfl, rfl, hn', hk, hrd, ho, hb⟩ := hrel
      have hbd := rdN_bd HBY.out hn0 hnl k acc p hrd
      have hacc : acc.length ≤ 300 := by omega
      have hp0 : 0 ≤ p := hbd.2.1
      have hp1 : p ≤ l.length := hbd.2.2
      have HNN := Lib.hid hn'; have HRD := Lib.hid hrd; have HO := Lib.hid ho; have HB := Lib.hid hb; have HLEN := Lib.hid hbd.1; clear hn' hrd ho hb hbd
      by_cases hlt : k < m
      · have CP := CA.out p wr (H.out.below HB.out) (by omega)
        have bd := takeN_bd HBY.out p
        obtain ⟨⟨x, q⟩, hxq⟩ : ∃ x, x = takeN l p := ⟨_, rfl⟩
        rw [← hxq] at CP bd
        simp only at bd
        have HXQ := Lib.hid hxq; have CP1 := Lib.hid CP; clear hxq CP
        by_cases hq : q < 0
        · have HN : Hid (r = ([], -1)) := by
            show r = _
            rw [HE.out, rdN_stays (rdN_no HRD.out HXQ.out (by omega)) m (by omega)]; rfl
          have hqb : decide (q < 0) = true := by simpa using hq
          clear bd
          go_wp2_with (go_at_call 126; refine CP1.out.mono ?_; rintro e w' ⟨rfl, rfl⟩)
          go_ret2
          exact tookL_no HN.out HB.out
        · have hqb : decide (q < 0) = false := by simpa using hq
          have R1 := Lib.hid (rdN_yes HRD.out HXQ.out (by omega))
          clear bd
          go_wp2_with (first | (go_at_call 126; refine CP1.out.mono ?_; rintro e w' ⟨rfl, rfl⟩) | (at_builtin; refine wpList_append1 _ rfl (.tmp 39) (.tmp 41) 47 rfl w.heap.size 3 .i64 8 Tryz.underlying47 Tryz.infoI64 ao c n' acc rfl HNN.out (HO.out.alloc _) wr.heap.size 1 x rfl (cell_one _ _ _) (by unfold maxLen; omega) (by omega) (base_le HB.out) ?_; intro ao' c' w1 ho' hg'; have HO' := Lib.hid ho'; have HG' := Lib.hid hg'; clear ho' hg'))
          go_roundw
          case rel => exact ⟨k + 1, acc ++ [x], q, ao', c', _, rfl, rfl, by go_num, by simp, by omega, R1.out, HO'.out, below_app1 HB.out HO.out HG'.out⟩
          case measure => simp [intOf]; omega
      · have e : r = (acc, p) := by
          rw [HE.out, show m = k by omega, HRD.out]; rfl
        have HN := Lib.hid e; clear e
        go_wp2
        go_ret2
        exact tookL_yes HN.out HNN.out HO.out HB.out
  · have e : r = ([], -1) := by rw [HR.out, if_pos (by omega)]
    have HE := Lib.hid e; clear e
    have hin : (decide (0 ≤ n) && decide (n ≤ 300)) = false := by simp; omega
    have HIN := Lib.hid hin; clear hin
    go_enter Tryz.func201, Tryz.ntmps201
    go_wp2_with (first | (go_at_call 126; refine C.out.mono ?_; rintro e w' ⟨rfl, rfl⟩) | (go_at_call 97; refine (l01In_any _ _ _ _).mono ?_; rintro e w' ⟨rfl, rfl⟩; rw [HIN.out]))
    go_ret2
    exact tookL_no HE.out (Below.refl _ _)
end Go.Proofs.YtfpbhedophlnkaaGreatDoor
namespace Go.Proofs.YtfpbhedophlnkaaGreatDoor
open Go.RowKit
set_option linter.unusedSimpArgs false
set_option linter.unusedVariables false

def takeW (l : List Int) (at_ : Int) : ByteArray × Int :=
  if (takeN l at_).2 < 0 ∨ (takeN l at_).1 < 1 ∨ 12 < (takeN l at_).1 ∨ (l.length : Int) - (takeN l at_).2 < (takeN l at_).1 then (⟨#[]⟩, -1)
  else if wordB (strOfNums ((l.drop (takeN l at_).2.toNat).take (takeN l at_).1.toNat)).data.toList then (strOfNums ((l.drop (takeN l at_).2.toNat).take (takeN l at_).1.toNat), (takeN l at_).2 + (takeN l at_).1) else (⟨#[]⟩, -1)
theorem strOf_size (m : List Int) : (strOfNums m).size = m.length := by simp [strOfNums, ByteArray.size]
theorem conv_str (w : World) (src : TypeId) (hs : Tryz.prog.underlying src = some (.slice 5)) (ao : Option Addr) (n c : Nat) (m : List Int) (hr : Rd w .u8 ao m) (hn : m.length = n) :
    (convert src 9 (.slice ao n c)).run Tryz.prog w = .ok (.string (strOfNums m)) w := by
  rcases hr with rfl | ⟨b, off, rfl, hc⟩
  · obtain rfl : n = 0 := by simpa using hn.symm
    rw [show strOfNums [] = ByteArray.empty from rfl]
    cases ao with
    | none => exact run_convert_bytes_nil (P := Tryz.prog) w src 5 hs Tryz.underlying5 0 c _ Tryz.underlying9
    | some a =>
      rw [run_convert_bytes_string (P := Tryz.prog) w src 9 5 _ 0 c hs Tryz.underlying5 Tryz.underlying9]
      rw [run_bytesToString w a 0 c [] rfl]; rfl
  · exact run_convert_bytes_arg (P := Tryz.prog) w src 5 hs Tryz.underlying5 b off n c m hn (fun i hi => hc i (by omega)) _ Tryz.underlying9
def TookS (r : ByteArray × Int) (w : World) (e : Ending) (w' : World) : Prop := e = .returned (.tuple #[.string r.1, .int .i64 r.2]) ∧ w = w'
theorem tookS_eq {r s : ByteArray × Int} {w w' : World} {e : Ending} (h : r = s) (k : TookS s w e w') : TookS r w e w' := by rw [h]; exact k

set_option maxRecDepth 100000 in
set_option maxHeartbeats 1600000 in
theorem specTakeWord_any (b : Option Addr) (d : Nat) (l : List Int) (at_ : Int) (w : World) (h : Rd w .u8 b l) (hby : By l) (hl : l.length ≤ maxLen) (hd : l.length ≤ d) (hd2 : d ≤ maxLen) (ha : at_ ≤ 9223372036854775807) :
    Calls Tryz.prog 199 #[.slice b l.length d, .int .i64 at_] w (TookS (takeW l at_) w) := by
  have C := Lib.hid (specTakeNum_any b d l at_ w h hby hl ha)
  have bd := takeN_bd hby at_
  obtain ⟨r, hr⟩ : ∃ r, r = takeW l at_ := ⟨_, rfl⟩
  rw [← hr]
  unfold takeW at hr
  obtain ⟨⟨n, nx⟩, hnx⟩ : ∃ x, x = takeN l at_ := ⟨_, rfl⟩
  rw [← hnx] at C bd hr
  simp only at hr bd
  have HR := Lib.hid hr; clear hr hnx ha hby
  unfold maxLen at hl hd2
  by_cases h0 : nx < 0
  · have e : r = (⟨#[]⟩, -1) := by rw [HR.out, if_pos (.inl h0)]
    have HE := Lib.hid e; clear e
    have hb0 : decide (nx < 0) = true := by simpa using h0
    go_enter Tryz.func199, Tryz.ntmps199
    go_wp2_with (go_at_call 126; refine C.out.mono ?_; rintro e w' ⟨rfl, rfl⟩)
    go_ret2
    exact tookS_eq HE.out ⟨rfl, rfl⟩
  have hb0 : decide (nx < 0) = false := by simpa using h0
  by_cases h1 : 1 ≤ n ∧ n ≤ 12
  · by_cases h2 : (l.length : Int) - nx < n
    · have e : r = (⟨#[]⟩, -1) := by rw [HR.out, if_pos (by omega)]
      have HE := Lib.hid e; clear e
      have hb2 : decide ((l.length : Int) - nx < n) = true := by simpa using h2
      have hin : (decide (1 ≤ n) && decide (n ≤ 12)) = true := by simp; omega
      have HIN := Lib.hid hin; clear hin
      go_enter Tryz.func199, Tryz.ntmps199
      go_wp2_with (first | (go_at_call 126; refine C.out.mono ?_; rintro e w' ⟨rfl, rfl⟩) | (go_at_call 97; refine (l01In_any _ _ _ _).mono ?_; rintro e w' ⟨rfl, rfl⟩; rw [HIN.out]))
      go_ret2
      exact tookS_eq HE.out ⟨rfl, rfl⟩
    · obtain ⟨p, rfl⟩ : ∃ p : Nat, nx = p := ⟨nx.toNat, by omega⟩
      obtain ⟨q, rfl⟩ : ∃ q : Nat, n = q := ⟨n.toNat, by omega⟩
      have e : r = if wordB (strOfNums ((l.drop p).take q)).data.toList then (strOfNums ((l.drop p).take q), ((p : Int) + q)) else (⟨#[]⟩, -1) := by rw [HR.out, if_neg (by omega)]; rfl
      have hb2 : decide ((l.length : Int) - p < q) = false := by simp; omega
      have hin : (decide ((1 : Int) ≤ q) && decide ((q : Int) ≤ 12)) = true := by simp; omega
      have HIN := Lib.hid hin; clear hin
      have hsz : ((l.drop p).take q).length = q := by simp; omega
      have RD : Hid (Rd w .u8 b l) := h
      rcases h with rfl | ⟨b1, off, rfl, hc⟩
      · simp at hsz; omega
      have RD2 : Rd w .u8 (some ⟨b1, off + p, none⟩) ((l.drop p).take q) := by
        refine .inr ⟨b1, off + p, rfl, fun i hi => ?_⟩
        have hi' : i < q := by omega
        have h1 := hc (p + i) (by omega)
        rw [Nat.add_assoc, h1, List.getD_eq_getElem?_getD, List.getD_eq_getElem?_getD, List.getElem?_take, if_pos hi', List.getElem?_drop]
      have hcv := conv_str w 22 Tryz.underlying22 _ q (d - p) _ RD2 hsz
      have hss := strOf_size ((l.drop p).take q)
      generalize strOfNums ((l.drop p).take q) = st at e hcv hss
      rw [hsz] at hss
      have hst : st.size ≤ maxLen := by unfold maxLen; omega
      have WK := Lib.hid (specWordOk_any st w hst)
      have HSS := Lib.hid hss; have HE := Lib.hid e
      have hdp : ¬ d = p := by omega
      clear hss e hc RD2 hsz h0 HR hst
      cases hw : wordB st.data.toList with
      | true =>
        have wk := WK.out; rw [hw] at wk
        have he := HE.out; rw [hw] at he
        have WK1 := Lib.hid wk; have HE1 := Lib.hid he; clear wk he WK HE hw
        go_enter Tryz.func199, Tryz.ntmps199
        go_wp2_with (first | (go_at_call 126; refine C.out.mono ?_; rintro e w' ⟨rfl, rfl⟩) | (go_at_call 97; refine (l01In_any _ _ _ _).mono ?_; rintro e w' ⟨rfl, rfl⟩; rw [HIN.out]) | (go_at_call 96; refine WK1.out.mono ?_; rintro e w' ⟨rfl, rfl⟩))
        go_ret2
        exact tookS_eq HE1.out ⟨rfl, rfl⟩
      | false =>
        have wk := WK.out; rw [hw] at wk
        have he := HE.out; rw [hw] at he
        have WK1 := Lib.hid wk; have HE1 := Lib.hid he; clear wk he WK HE hw
        go_enter Tryz.func199, Tryz.ntmps199
        go_wp2_with (first | (go_at_call 126; refine C.out.mono ?_; rintro e w' ⟨rfl, rfl⟩) | (go_at_call 97; refine (l01In_any _ _ _ _).mono ?_; rintro e w' ⟨rfl, rfl⟩; rw [HIN.out]) | (go_at_call 96; refine WK1.out.mono ?_; rintro e w' ⟨rfl, rfl⟩))
        go_ret2
        exact tookS_eq HE1.out ⟨rfl, rfl⟩
  · have e : r = (⟨#[]⟩, -1) := by rw [HR.out, if_pos (by omega)]
    have HE := Lib.hid e; clear e
    have hin : (decide (1 ≤ n) && decide (n ≤ 12)) = false := by simp; omega
    have HIN := Lib.hid hin; clear hin
    go_enter Tryz.func199, Tryz.ntmps199
    go_wp2_with (first | (go_at_call 126; refine C.out.mono ?_; rintro e w' ⟨rfl, rfl⟩) | (go_at_call 97; refine (l01In_any _ _ _ _).mono ?_; rintro e w' ⟨rfl, rfl⟩; rw [HIN.out]))
    go_ret2
    exact tookS_eq HE.out ⟨rfl, rfl⟩
end Go.Proofs.YtfpbhedophlnkaaGreatDoor
namespace Go.Proofs.YtfpbhedophlnkaaGreatDoor
open Go.RowKit
set_option linter.unusedSimpArgs false
set_option linter.unusedVariables false

/-- What stands behind the head: the number of bytes, these, and their sum, and nothing more. -/
def unfT (l : List Int) : Option (List Int) :=
  if (takeN l 2).2 < 0 ∨ (takeN l 2).1 < 0 ∨ 4000 < (takeN l 2).1 ∨ (l.length : Int) - (takeN l 2).2 < (takeN l 2).1 then none
  else if (takeN l ((takeN l 2).2 + (takeN l 2).1)).2 = l.length ∧ (takeN l ((takeN l 2).2 + (takeN l 2).1)).1 = chk ((l.drop (takeN l 2).2.toNat).take (takeN l 2).1.toNat) then some ((l.drop (takeN l 2).2.toNat).take (takeN l 2).1.toNat) else none
def unfL (l : List Int) : Option (List Int) := if l[0]? = some 80 ∧ l[1]? = some 83 then unfT l else none
def UnfPost (r : Option (List Int)) (w : World) (en : Ending) (w' : World) : Prop := Made2 w 5 .u8 (r.getD []) r.isSome en w'
theorem unf_no {r : Option (List Int)} {w w' : World} (h : r = none) (hb : Below w.heap.size w w') : UnfPost r w (.returned (.tuple #[.slice none 0 0, .bool false])) w' := by
  rw [h]; exact ⟨none, 0, rfl, Own.none_, hb⟩
theorem specCheckOf_n (ao : Option Addr) (c n : Nat) (l : List Int) (w : World) (h : Rd w .u8 ao l) (hb : By l) (hn : l.length ≤ maxLen) (e : l.length = n) :
    Calls Tryz.prog 119 #[.slice ao n c] w fun e w' => e = .returned (.int .i64 (chk l)) ∧ w = w' := by subst e; exact specCheckOf_any ao c l w h hb hn
theorem implCheckOf_n (ao : Option Addr) (c n : Nat) (l : List Int) (w : World) (h : Rd w .u8 ao l) (hb : By l) (hn : l.length ≤ maxLen) (e : l.length = n) :
    Calls Tryz.prog 118 #[.slice ao n c] w fun e w' => e = .returned (.int .i64 (chk l)) ∧ w = w' := by subst e; exact implCheckOf_any ao c l w h hb hn
theorem l01Bytes_n (b : Option Addr) (d n : Nat) (l : List Int) (w : World) (h : Rd w .u8 b l) (hn : l.length ≤ 70368744177664) (e : l.length = n) :
    Calls Tryz.prog 189 #[.slice b n d] w (Made w 5 .u8 l) := by subst e; exact l01Bytes_any b d l w h hn
theorem By.take_drop {l : List Int} (h : By l) (p q : Nat) : By ((l.drop p).take q) := fun z hz => h z (List.mem_of_mem_drop (List.mem_of_mem_take hz))
theorem rd_part {w : World} {b off p q : Nat} {l : List Int} (hc : ∀ i, i < l.length → w.cell? ⟨b, off + i, none⟩ = some (.int .u8 (l.getD i 0))) (hpq : p + q ≤ l.length) : Rd w .u8 (some ⟨b, off + p, none⟩) ((l.drop p).take q) := by
  refine .inr ⟨b, off + p, rfl, fun i hi => ?_⟩
  have hi' : i < q := by simp at hi; omega
  have h1 := hc (p + i) (by omega)
  rw [Nat.add_assoc, h1, List.getD_eq_getElem?_getD, List.getD_eq_getElem?_getD, List.getElem?_take, if_pos hi', List.getElem?_drop]

set_option maxRecDepth 100000 in
set_option maxHeartbeats 1600000 in
theorem specUnframe_any (b : Option Addr) (d : Nat) (l : List Int) (w : World) (h : Rd w .u8 b l) (hby : By l) (hl : l.length ≤ maxLen) (hd : l.length ≤ d) (hd2 : d ≤ maxLen) (hlim : l.length ≤ 1048576) :
    Calls Tryz.prog 125 #[.slice b l.length d] w (UnfPost (unfL l) w) := by
  have HL := Lib.hid hl
  unfold maxLen at hl hd2
  obtain ⟨r, hr⟩ : ∃ r, r = unfL l := ⟨_, rfl⟩
  rw [← hr]
  unfold unfL at hr
  by_cases h2 : l.length < 2
  · have hb2 : decide ((l.length : Int) < 2) = true := by simp; omega
    have e : r = none := by rw [hr, if_neg (by rw [List.getElem?_eq_none (show l.length ≤ 1 by omega)]; simp)]
    have HE := Lib.hid e; clear e hr h hby HL
    go_enter Tryz.func125, Tryz.ntmps125
    go_wp2
    go_ret2
    exact unf_no HE.out (Below.refl _ _)
  have hb2 : decide ((l.length : Int) < 2) = false := by simp; omega
  have i1 : (1 : Int) < l.length := by omega
  rcases h with rfl | ⟨b1, off, rfl, hc⟩
  · simp at h2
  have hx0 := List.getElem?_eq_getElem (show 0 < l.length by omega)
  have hx1 := List.getElem?_eq_getElem (show 1 < l.length by omega)
  have c0 : w.cell? ⟨b1, off, none⟩ = some (.int .u8 l[0]) := by have := hc 0 (by omega); rwa [List.getD_eq_getElem?_getD, hx0] at this
  have c1 : w.cell? ⟨b1, off + 1, none⟩ = some (.int .u8 l[1]) := by have := hc 1 (by omega); rwa [List.getD_eq_getElem?_getD, hx1] at this
  generalize l[0] = x0 at hx0 c0
  generalize l[1] = x1 at hx1 c1
  by_cases e0 : x0 = 80
  · by_cases e1 : x1 = 83
    · subst e0; subst e1
      rw [if_pos ⟨hx0, hx1⟩] at hr
      unfold unfT at hr
      have H : Hid (∀ w', Below w.heap.size w w' → Rd w' .u8 (some ⟨b1, off, none⟩) l) := fun w' hb => Rd.below (.inr ⟨b1, off, rfl, hc⟩) hb
      have C := Lib.hid (specTakeNum_any (some ⟨b1, off, none⟩) d l 2 w (.inr ⟨b1, off, rfl, hc⟩) hby HL.out (by omega))
      have CA : Hid (∀ p : Int, p ≤ 9223372036854775807 → Calls Tryz.prog 126 #[.slice (some ⟨b1, off, none⟩) l.length d, .int .i64 p] w (Took (takeN l p) w)) := fun p hp => specTakeNum_any _ d l p w (.inr ⟨b1, off, rfl, hc⟩) hby HL.out hp
      have bd := takeN_bd hby 2
      obtain ⟨⟨n, nx⟩, hnx⟩ : ∃ x, x = takeN l 2 := ⟨_, rfl⟩
      rw [← hnx] at C bd hr
      simp only at hr bd
      have HR := Lib.hid hr; have HC := Lib.hid hc; have HBY := Lib.hid hby; clear hr hnx hc hby hx0 hx1 h2
      by_cases h0 : nx < 0
      · have e : r = none := by rw [HR.out, if_pos (.inl h0)]
        have HE := Lib.hid e; clear e
        have hb0 : decide (nx < 0) = true := by simpa using h0
        go_enter Tryz.func125, Tryz.ntmps125
        go_wp2_with (go_at_call 126; refine C.out.mono ?_; rintro e w' ⟨rfl, rfl⟩)
        go_ret2
        exact unf_no HE.out (Below.refl _ _)
      have hb0 : decide (nx < 0) = false := by simpa using h0
      by_cases hn : 0 ≤ n ∧ n ≤ 4000
      · have hin : (decide (0 ≤ n) && decide (n ≤ 4000)) = true := by simp; omega
        have HIN := Lib.hid hin; clear hin
        by_cases hlen : (l.length : Int) - nx < n
        · have e : r = none := by rw [HR.out, if_pos (by omega)]
          have HE := Lib.hid e; clear e
          have hb3 : decide ((l.length : Int) - nx < n) = true := by simpa using hlen
          go_enter Tryz.func125, Tryz.ntmps125
          go_wp2_with (first | (go_at_call 126; refine C.out.mono ?_; rintro e w' ⟨rfl, rfl⟩) | (go_at_call 97; refine (l01In_any _ _ _ _).mono ?_; rintro e w' ⟨rfl, rfl⟩; rw [HIN.out]))
          go_ret2
          exact unf_no HE.out (Below.refl _ _)
        · obtain ⟨p, rfl⟩ : ∃ p : Nat, nx = p := ⟨nx.toNat, by omega⟩
          obtain ⟨q, rfl⟩ : ∃ q : Nat, n = q := ⟨n.toNat, by omega⟩
          have hb3 : decide ((l.length : Int) - p < q) = false := by simp; omega
          have hpq : (p : Int) + q ≤ l.length := by omega
          have e : r = if (takeN l ((p : Int) + q)).2 = l.length ∧ (takeN l ((p : Int) + q)).1 = chk ((l.drop p).take q) then some ((l.drop p).take q) else none := by rw [HR.out, if_neg (by omega)]; rfl
          have CP := Lib.hid (CA.out ((p : Int) + q) (by omega))
          have bq := takeN_bd HBY.out ((p : Int) + q)
          obtain ⟨⟨sm, en⟩, hse⟩ : ∃ x, x = takeN l ((p : Int) + q) := ⟨_, rfl⟩
          rw [← hse] at CP e bq
          simp only at e bq
          have HE := Lib.hid e; have BQ := Lib.hid bq; clear e hse bd bq h0 HR
          by_cases hen : en = l.length
          · have hnb : (en != (l.length : Int)) = false := by simp [hen]
            have hdp : ¬ d = p := by have := BQ.out; omega
            have hml : ((l.drop p).take q).length = q := by simp; omega
            have RD2 := rd_part HC.out (show p + q ≤ l.length by omega)
            have CK := Lib.hid (specCheckOf_n (some ⟨b1, off + p, none⟩) (d - p) q _ w RD2 (HBY.out.take_drop p q) (by unfold maxLen; omega) hml)
            have CB := Lib.hid (l01Bytes_n (some ⟨b1, off + p, none⟩) (d - p) q _ w RD2 (by omega) hml)
            have cb := chk_bd ((l.drop p).take q)
            generalize hm : (l.drop p).take q = m at CK CB HE cb hml
            generalize hck : chk m = ck at CK HE cb
            have HML := Lib.hid hml
            clear hm hml RD2 hck
            by_cases hs : sm = ck
            · have hsb : (sm != ck) = false := by simp [hs]
              have HE1 : Hid (r = some m) := by
                show r = _
                rw [HE.out, if_pos ⟨hen, hs⟩]
              clear hs hen hlen
              go_enter Tryz.func125, Tryz.ntmps125
              go_wp2_with fail
              refine C.out.mono ?_
              rintro e w' ⟨rfl, rfl⟩
              simp only
              go_wp2_with (go_at_call 97; refine (l01In_any _ _ _ _).mono ?_; rintro e w' ⟨rfl, rfl⟩; rw [HIN.out])
              refine CP.out.mono ?_
              rintro e w' ⟨rfl, rfl⟩
              simp only
              go_wp2_with fail
              refine CK.out.mono ?_
              rintro e w' ⟨rfl, rfl⟩
              go_wp2_with fail
              refine CB.out.mono ?_
              rintro e w1 ⟨ao, c, rfl, ho, hb⟩
              have HO := Lib.hid ho; have HB := Lib.hid hb; clear ho hb
              go_wp2
              go_ret2
              rw [HE1.out]
              exact ⟨ao, c, rfl, HO.out, HB.out⟩
            · have hsb : (sm != ck) = true := by simp [hs]
              have HE1 : Hid (r = none) := by
                show r = _
                rw [HE.out, if_neg (fun hh => hs hh.2)]
              clear hs hen hlen
              go_enter Tryz.func125, Tryz.ntmps125
              go_wp2_with fail
              refine C.out.mono ?_
              rintro e w' ⟨rfl, rfl⟩
              simp only
              go_wp2_with (go_at_call 97; refine (l01In_any _ _ _ _).mono ?_; rintro e w' ⟨rfl, rfl⟩; rw [HIN.out])
              refine CP.out.mono ?_
              rintro e w' ⟨rfl, rfl⟩
              simp only
              go_wp2_with fail
              refine CK.out.mono ?_
              rintro e w' ⟨rfl, rfl⟩
              go_wp2
              go_ret2
              exact unf_no HE1.out (Below.refl _ _)
          · have hnb : (en != (l.length : Int)) = true := by simp [hen]
            have HE1 : Hid (r = none) := by
              show r = _
              rw [HE.out, if_neg (fun hh => hen hh.1)]
            clear hen
            by_cases hdp : d = p
            · subst hdp
              go_enter Tryz.func125, Tryz.ntmps125
              go_wp2_with fail
              refine C.out.mono ?_
              rintro e w' ⟨rfl, rfl⟩
              simp only
              go_wp2_with (go_at_call 97; refine (l01In_any _ _ _ _).mono ?_; rintro e w' ⟨rfl, rfl⟩; rw [HIN.out])
              refine CP.out.mono ?_
              rintro e w' ⟨rfl, rfl⟩
              simp only
              go_wp2
              go_ret2
              exact unf_no HE1.out (Below.refl _ _)
            · go_enter Tryz.func125, Tryz.ntmps125
              go_wp2_with fail
              refine C.out.mono ?_
              rintro e w' ⟨rfl, rfl⟩
              simp only
              go_wp2_with (go_at_call 97; refine (l01In_any _ _ _ _).mono ?_; rintro e w' ⟨rfl, rfl⟩; rw [HIN.out])
              refine CP.out.mono ?_
              rintro e w' ⟨rfl, rfl⟩
              simp only
              go_wp2
              go_ret2
              exact unf_no HE1.out (Below.refl _ _)
      · have e : r = none := by rw [HR.out, if_pos (by omega)]
        have HE := Lib.hid e; clear e
        have hin : (decide (0 ≤ n) && decide (n ≤ 4000)) = false := by simp; omega
        have HIN := Lib.hid hin; clear hin
        go_enter Tryz.func125, Tryz.ntmps125
        go_wp2_with (first | (go_at_call 126; refine C.out.mono ?_; rintro e w' ⟨rfl, rfl⟩) | (go_at_call 97; refine (l01In_any _ _ _ _).mono ?_; rintro e w' ⟨rfl, rfl⟩; rw [HIN.out]))
        go_ret2
        exact unf_no HE.out (Below.refl _ _)
    · subst e0
      have e : r = none := by rw [hr, if_neg (by rw [hx1]; simp [e1])]
      have HE := Lib.hid e
      have hb1 : (x1 != 83) = true := by simp [e1]
      clear e hr hc hby hx0 hx1 e1 HL
      go_enter Tryz.func125, Tryz.ntmps125
      go_wp2
      go_ret2
      exact unf_no HE.out (Below.refl _ _)
  · have e : r = none := by rw [hr, if_neg (by rw [hx0]; simp [e0])]
    have HE := Lib.hid e
    have hb0 : (x0 != 80) = true := by simp [e0]
    clear e hr hc hby hx0 hx1 e0 HL
    go_enter Tryz.func125, Tryz.ntmps125
    go_wp2
    go_ret2
    exact unf_no HE.out (Below.refl _ _)
end Go.Proofs.YtfpbhedophlnkaaGreatDoor
