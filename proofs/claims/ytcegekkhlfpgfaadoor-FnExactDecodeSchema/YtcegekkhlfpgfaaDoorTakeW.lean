/-
  The contracts of spec.TakeWord, of the program's wordAt and of impl.TakeWord. For every slice of bytes and every place.
-/
import Derived.Test.YtcegekkhlfpgfaaDoorITake
import Derived.Test.YtcegekkhlfpgfaaDoorWord
import Derived.Laws.BytesArg
namespace Go.Proofs.YtcegekkhlfpgfaaDoor
open Go.RowKit
set_option linter.unusedSimpArgs false
set_option linter.unusedVariables false

def takeW (l : List Int) (at_ : Int) : ByteArray × Int :=
  if (takeN l at_).2 < 0 ∨ (takeN l at_).1 < 1 ∨ 12 < (takeN l at_).1 ∨ (l.length : Int) - (takeN l at_).2 < (takeN l at_).1 then (⟨#[]⟩, -1)
  else if wordB (strOfNums ((l.drop (takeN l at_).2.toNat).take (takeN l at_).1.toNat)).data.toList then (strOfNums ((l.drop (takeN l at_).2.toNat).take (takeN l at_).1.toNat), (takeN l at_).2 + (takeN l at_).1) else (⟨#[]⟩, -1)
theorem strOf_size (m : List Int) : (strOfNums m).size = m.length := by simp [strOfNums, ByteArray.size]
theorem conv_str (w : World) (src : TypeId) (hs : Tryd.prog.underlying src = some (.slice 5)) (ao : Option Addr) (n c : Nat) (m : List Int) (hr : Rd w .u8 ao m) (hn : m.length = n) :
    (convert src 9 (.slice ao n c)).run Tryd.prog w = .ok (.string (strOfNums m)) w := by
  rcases hr with rfl | ⟨b, off, rfl, hc⟩
  · obtain rfl : n = 0 := by simpa using hn.symm
    rw [show strOfNums [] = ByteArray.empty from rfl]
    cases ao with
    | none => exact run_convert_bytes_nil (P := Tryd.prog) w src 5 hs Tryd.underlying5 0 c _ Tryd.underlying9
    | some a =>
      rw [run_convert_bytes_string (P := Tryd.prog) w src 9 5 _ 0 c hs Tryd.underlying5 Tryd.underlying9]
      rw [run_bytesToString w a 0 c [] rfl]; rfl
  · exact run_convert_bytes_arg (P := Tryd.prog) w src 5 hs Tryd.underlying5 b off n c m hn (fun i hi => hc i (by omega)) _ Tryd.underlying9
def TookS (r : ByteArray × Int) (w : World) (e : Ending) (w' : World) : Prop := e = .returned (.tuple #[.string r.1, .int .i64 r.2]) ∧ w = w'
theorem tookS_eq {r s : ByteArray × Int} {w w' : World} {e : Ending} (h : r = s) (k : TookS s w e w') : TookS r w e w' := by rw [h]; exact k

set_option maxRecDepth 100000 in
set_option maxHeartbeats 1600000 in
theorem specTakeWord_any (b : Option Addr) (d : Nat) (l : List Int) (at_ : Int) (w : World) (h : Rd w .u8 b l) (hby : By l) (hl : l.length ≤ maxLen) (hd : l.length ≤ d) (hd2 : d ≤ maxLen) (ha : at_ ≤ 9223372036854775807) :
    Calls Tryd.prog 40 #[.slice b l.length d, .int .i64 at_] w (TookS (takeW l at_) w) := by
  have C := Lib.hid (specTakeNum_any b d l at_ w h hby hl ha)
  have bd := takeN_bd hby at_
  obtain ⟨r, hr⟩ : ∃ r, r = takeW l at_ := ⟨_, rfl⟩
  rw [← hr]
  unfold takeW at hr
  obtain ⟨⟨n, nx⟩, hnx⟩ : ∃ x, x = takeN l at_ := ⟨_, rfl⟩
  rw [← hnx] at C bd hr
  simp only at hr bd
  have HR := Lib.hid hr; clear hr hnx ha hby
  unfold maxLen at hl hd2
  by_cases h0 : nx < 0
  · have e : r = (⟨#[]⟩, -1) := by rw [HR.out, if_pos (.inl h0)]
    have HE := Lib.hid e; clear e
    have hb0 : decide (nx < 0) = true := by simpa using h0
    go_enter Tryd.func40, Tryd.ntmps40
    go_wp2_with (go_at_call 49; refine C.out.mono ?_; rintro e w' ⟨rfl, rfl⟩)
    go_ret2
    exact tookS_eq HE.out ⟨rfl, rfl⟩
  have hb0 : decide (nx < 0) = false := by simpa using h0
  by_cases h1 : 1 ≤ n ∧ n ≤ 12
  · by_cases h2 : (l.length : Int) - nx < n
    · have e : r = (⟨#[]⟩, -1) := by rw [HR.out, if_pos (by omega)]
      have HE := Lib.hid e; clear e
      have hb2 : decide ((l.length : Int) - nx < n) = true := by simpa using h2
      have hin : (decide (1 ≤ n) && decide (n ≤ 12)) = true := by simp; omega
      have HIN := Lib.hid hin; clear hin
      go_enter Tryd.func40, Tryd.ntmps40
      go_wp2_with (first | (go_at_call 49; refine C.out.mono ?_; rintro e w' ⟨rfl, rfl⟩) | (go_at_call 50; refine (l01In_any _ _ _ _).mono ?_; rintro e w' ⟨rfl, rfl⟩; rw [HIN.out]))
      go_ret2
      exact tookS_eq HE.out ⟨rfl, rfl⟩
    · obtain ⟨p, rfl⟩ : ∃ p : Nat, nx = p := ⟨nx.toNat, by omega⟩
      obtain ⟨q, rfl⟩ : ∃ q : Nat, n = q := ⟨n.toNat, by omega⟩
      have e : r = if wordB (strOfNums ((l.drop p).take q)).data.toList then (strOfNums ((l.drop p).take q), ((p : Int) + q)) else (⟨#[]⟩, -1) := by rw [HR.out, if_neg (by omega)]; rfl
      have hb2 : decide ((l.length : Int) - p < q) = false := by simp; omega
      have hin : (decide ((1 : Int) ≤ q) && decide ((q : Int) ≤ 12)) = true := by simp; omega
      have HIN := Lib.hid hin; clear hin
      have hsz : ((l.drop p).take q).length = q := by simp; omega
      have RD : Hid (Rd w .u8 b l) := h
      rcases h with rfl | ⟨b1, off, rfl, hc⟩
      · simp at hsz; omega
      have RD2 : Rd w .u8 (some ⟨b1, off + p, none⟩) ((l.drop p).take q) := by
        refine .inr ⟨b1, off + p, rfl, fun i hi => ?_⟩
        have hi' : i < q := by omega
        have h1 := hc (p + i) (by omega)
        rw [Nat.add_assoc, h1, List.getD_eq_getElem?_getD, List.getD_eq_getElem?_getD, List.getElem?_take, if_pos hi', List.getElem?_drop]
      have hcv := conv_str w 22 Tryd.underlying22 _ q (d - p) _ RD2 hsz
      have hss := strOf_size ((l.drop p).take q)
      generalize strOfNums ((l.drop p).take q) = st at e hcv hss
      rw [hsz] at hss
      have hst : st.size ≤ maxLen := by unfold maxLen; omega
      have WK := Lib.hid (specWordOk_any st w hst)
      have HSS := Lib.hid hss; have HE := Lib.hid e
      have hdp : ¬ d = p := by omega
      clear hss e hc RD2 hsz h0 HR hst
      cases hw : wordB st.data.toList with
      | true =>
        have wk := WK.out; rw [hw] at wk
        have he := HE.out; rw [hw] at he
        have WK1 := Lib.hid wk; have HE1 := Lib.hid he; clear wk he WK HE hw
        go_enter Tryd.func40, Tryd.ntmps40
        go_wp2_with (first | (go_at_call 49; refine C.out.mono ?_; rintro e w' ⟨rfl, rfl⟩) | (go_at_call 50; refine (l01In_any _ _ _ _).mono ?_; rintro e w' ⟨rfl, rfl⟩; rw [HIN.out]) | (go_at_call 33; refine WK1.out.mono ?_; rintro e w' ⟨rfl, rfl⟩))
        go_ret2
        exact tookS_eq HE1.out ⟨rfl, rfl⟩
      | false =>
        have wk := WK.out; rw [hw] at wk
        have he := HE.out; rw [hw] at he
        have WK1 := Lib.hid wk; have HE1 := Lib.hid he; clear wk he WK HE hw
        go_enter Tryd.func40, Tryd.ntmps40
        go_wp2_with (first | (go_at_call 49; refine C.out.mono ?_; rintro e w' ⟨rfl, rfl⟩) | (go_at_call 50; refine (l01In_any _ _ _ _).mono ?_; rintro e w' ⟨rfl, rfl⟩; rw [HIN.out]) | (go_at_call 33; refine WK1.out.mono ?_; rintro e w' ⟨rfl, rfl⟩))
        go_ret2
        exact tookS_eq HE1.out ⟨rfl, rfl⟩
  · have e : r = (⟨#[]⟩, -1) := by rw [HR.out, if_pos (by omega)]
    have HE := Lib.hid e; clear e
    have hin : (decide (1 ≤ n) && decide (n ≤ 12)) = false := by simp; omega
    have HIN := Lib.hid hin; clear hin
    go_enter Tryd.func40, Tryd.ntmps40
    go_wp2_with (first | (go_at_call 49; refine C.out.mono ?_; rintro e w' ⟨rfl, rfl⟩) | (go_at_call 50; refine (l01In_any _ _ _ _).mono ?_; rintro e w' ⟨rfl, rfl⟩; rw [HIN.out]))
    go_ret2
    exact tookS_eq HE.out ⟨rfl, rfl⟩
end Go.Proofs.YtcegekkhlfpgfaaDoor
