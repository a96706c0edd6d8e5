/-
  The contract of the program's numAt: the number that stands there and the place behind it; else its error. For every slice of bytes and every place. The contract of impl.TakeNum. For every slice of bytes and every place, where the program's start has laid what package errors asks for. The contracts of spec.TakeWord, of the program's wordAt and of impl.TakeWord. For every slice of bytes and every place.
-/
import Derived.Test.YtfpbhedophlnkaaGreatDoorJT48x
import Derived.Test.YtfpbhedophlnkaaGreatDoorJT8x
import Derived.Laws.BytesArg
namespace Go.Proofs.YtfpbhedophlnkaaGreatDoor
open Go.RowKit
set_option linter.unusedSimpArgs false
set_option linter.unusedVariables false

/-- What numAt answers: r is the number and the place behind it, (0, -1) where there is none. -/
def NumPost (r : Int × Int) (at_ : Int) (w : World) (e : Ending) (w' : World) : Prop :=
  ((r.2 = -1 ∧ e = .returned (.tuple #[.int .i64 0, .int .i64 0, .iface 200 (.agg #[.int .i64 0, .int .i64 at_])])) ∨ (r.2 ≠ -1 ∧ e = .returned (.tuple #[.int .i64 r.1, .int .i64 r.2, .nilIface]))) ∧ w = w'
theorem numPost_no {r : Int × Int} {at_ : Int} {w : World} (h : r = (0, -1)) : NumPost r at_ w (.returned (.tuple #[.int .i64 0, .int .i64 0, .iface 200 (.agg #[.int .i64 0, .int .i64 at_])])) w := by rw [h]; exact ⟨.inl ⟨rfl, rfl⟩, rfl⟩
theorem numPost_yes {r : Int × Int} {at_ x y : Int} {w : World} (h : r = (x, y)) (hy : y ≠ -1) : NumPost r at_ w (.returned (.tuple #[.int .i64 x, .int .i64 y, .nilIface])) w := by rw [h]; exact ⟨.inr ⟨hy, rfl⟩, rfl⟩
theorem cut_cell {w : World} {ao : Option Addr} {m : List Int} {n k : Nat} {v : Int} (hr : Rd w .u8 ao m) (hl : m.length = n) (hv : m[k]? = some v) : ∃ b off, ao = some ⟨b, off, none⟩ ∧ w.cell? ⟨b, off + k, none⟩ = some (.int .u8 v) := by
  have hk : k < m.length := (List.getElem?_eq_some_iff.1 hv).1
  rcases hr with rfl | ⟨b, off, rfl, hc⟩
  · simp at hk
  · refine ⟨b, off, rfl, ?_⟩
    rw [hc k hk, List.getD_eq_getElem?_getD, hv]; rfl
theorem cut_yes' (b : Option Addr) (d : Nat) (l : List Int) (x y : Int) (p q : Nat) (hx : x = p) (hy : y = q) (w : World) (hn : l.length ≤ maxLen) (hd : l.length ≤ d) (hd2 : d ≤ maxLen) (hr : Rd w .u8 b l) (h : p + q ≤ l.length) :
    Calls Tryz.prog 233 #[.slice b l.length d, .int .i64 x, .int .i64 y] w (CutOk w ((l.drop p).take q) q) := by
  subst hx; subst hy; exact cut_yes b d l p q w hn hd hd2 hr h

set_option maxRecDepth 100000 in
set_option maxHeartbeats 4000000 in
theorem numAt_any (b : Option Addr) (d : Nat) (l : List Int) (at_ : Int) (w : World) (h : Rd w .u8 b l) (hby : By l) (hl : l.length ≤ maxLen) (hd : l.length ≤ d) (hd2 : d ≤ maxLen) (ha : at_ ≤ 9223372036854775807) (ha' : -9223372036854775808 ≤ at_) :
    Calls Tryz.prog 234 #[.slice b l.length d, .int .i64 at_] w (NumPost (takeN l at_) at_ w) := by
  have HL := Lib.hid hl; have HD := Lib.hid hd; have HD2 := Lib.hid hd2; have H := Lib.hid h; have HBY := Lib.hid hby
  unfold maxLen at hl
  clear h hby hd hd2
  by_cases h0 : at_ < 0
  · have e : takeN l at_ = (0, -1) := by unfold takeN; rw [if_pos h0]
    have HE := Lib.hid e; clear e
    obtain ⟨r, hr⟩ : ∃ r, r = takeN l at_ := ⟨_, rfl⟩
    rw [← hr] at HE ⊢
    clear hr
    go_enter Tryz.func234, Tryz.ntmps234
    go_wp2
    refine wp_loop_rounds 1 ?_; rw [rounds_succ]; go_wp2_with fail
    refine (cut_no _ _ _ _ _ _ HL.out (by omega) (by omega) (by omega)).mono ?_
    rintro e w' ⟨rfl, rfl⟩
    go_wp2
    go_ret3
    exact numPost_no HE.out
  rw [show takeN l at_ = goN l at_.toNat 3 0 0 by unfold takeN; rw [if_neg h0]]
  obtain ⟨a, rfl⟩ : ∃ a : Nat, at_ = a := ⟨at_.toNat, by omega⟩
  rw [Int.toNat_natCast]
  obtain ⟨r, hr⟩ : ∃ r, r = goN l a 3 0 0 := ⟨_, rfl⟩
  rw [← hr]
  have HR := Lib.hid hr; clear hr h0 ha'
  go_enter Tryz.func234, Tryz.ntmps234
  go_wp2
  go_loop [7, 12] (fun u i => TRel l a r 3 u i) (fun _ i => 3 - (intOf i).toNat)
  case atStart => exact ⟨0, 0, 0, rfl, rfl, rfl, by omega, by omega, by decide, HR.out.symm⟩
  case round =>
    obtain ⟨k, ki, n, rfl, rfl, hki, hk, hn0, hn1, hg⟩ := hrel
    have HG := Lib.hid hg; have HN := Lib.hid hn1; clear hg hn1
    by_cases hk3 : k = 3
    · subst hk3
      obtain rfl : ki = 3 := by rw [hki]; rfl
      clear hki
      have e : r = (0, -1) := by rw [← HG.out]; rfl
      have HE := Lib.hid e; clear e
      go_wp2
      go_ret3
      exact numPost_no HE.out
    · rcases (show k = 0 ∨ k = 1 ∨ k = 2 by omega) with rfl | rfl | rfl
      · obtain rfl : ki = 0 := by rw [hki]; rfl
        have pw : (128 : Int) ^ 0 = 1 := by decide
        have PW := Lib.hid pw
        have hn1 : n < 1 := by have := HN.out; rw [pw] at this; exact this
        clear hki hk hk3 pw HN
        obtain rfl : n = 0 := by omega
        by_cases hin : a + 0 < l.length
        · have hlv := List.getElem?_eq_getElem hin
          have vb := HBY.out _ (List.getElem_mem hin)
          generalize l[a + 0] = v at hlv vb
          have HLV := Lib.hid hlv
          have HV : Hid (((l.drop a).take 1)[0]? = some v) := by
            show _ = some v
            rw [List.getElem?_take, if_pos (by omega), List.getElem?_drop]; exact hlv
          clear hlv
          by_cases h128 : 128 ≤ v
          · go_wp2_with fail
            refine (cut_yes' _ _ _ _ _ a 1 rfl rfl _ HL.out HD.out HD2.out H.out (by omega)).mono ?_
            rintro e w' ⟨ao, rfl, hrd, hlen, _, rfl⟩
            obtain ⟨b', off', hao, hcv⟩ := cut_cell hrd hlen HV.out
            subst hao
            clear hrd hlen
            rw [Nat.add_zero] at hcv
            go_wp2
            go_round
            case rel =>
              refine ⟨1, 1, _, rfl, rfl, rfl, by omega, by omega, ?_, ?_⟩
              · have e : (128 : Int) ^ 1 = 128 := by decide
                rw [e]; omega
              · rw [← HG.out, show 3 - 0 = (3 - 1) + 1 from rfl, goN_more HLV.out h128, PW.out]
                rw [Int.zero_add, Int.mul_one]
            case measure => simp [intOf]
          · by_cases hv0 : v = 0
            · subst hv0
              have HE : Hid (r = (0, (a : Int) + 1)) := by
                show r = _
                rw [← HG.out, show 3 - 0 = 2 + 1 from rfl, goN_ok HLV.out (by omega) (by rw [PW.out]; omega), PW.out]
                rfl
              have C := Lib.hid (unfoldNum_any 0 w (by omega) (by omega))
              go_wp2_with fail
              refine (cut_yes' _ _ _ _ _ a 1 rfl rfl _ HL.out HD.out HD2.out H.out (by omega)).mono ?_
              rintro e w' ⟨ao, rfl, hrd, hlen, _, rfl⟩
              obtain ⟨b', off', hao, hcv⟩ := cut_cell hrd hlen HV.out
              subst hao
              clear hrd hlen
              rw [Nat.add_zero] at hcv
              go_wp2_with (go_at_call 280; refine C.out.mono ?_; rintro e w' ⟨rfl, rfl⟩)
              go_ret3
              exact numPost_yes HE.out (by omega)
            · have hvb : (v == 0) = false := by simpa using hv0
              obtain ⟨m, hm⟩ : ∃ m, v % 128 = m := ⟨_, rfl⟩
              have hm0 : 0 ≤ m := by omega
              have hm1 : m ≤ 2097151 := by omega
              have EM : Hid (0 + v % 128 * 128 ^ 0 = m) := by
                show _ = m
                rw [PW.out]; omega
              have HV0 := Lib.hid hv0
              have hsm : m ≤ 2000000 := by omega
              clear hn0 hn1 hv0 hm1
              have HE : Hid (r = (unf m, (a : Int) + 0 + 1)) := by
                show r = _
                rw [← HG.out, show 3 - 0 = (3 - 1) + 1 from rfl, goN_ok HLV.out (by omega) (by rw [EM.out]; have := HV0.out; omega), EM.out]
                simp
              have hbb : decide (2000000 < m) = false := by simp; omega
              have C := Lib.hid (unfoldNum_any m w hm0 hsm)
              go_wp2_with fail
              refine (cut_yes' _ _ _ _ _ a 1 rfl rfl _ HL.out HD.out HD2.out H.out (by omega)).mono ?_
              rintro e w' ⟨ao, rfl, hrd, hlen, _, rfl⟩
              obtain ⟨b', off', hao, hcv⟩ := cut_cell hrd hlen HV.out
              subst hao
              clear hrd hlen
              rw [Nat.add_zero] at hcv
              go_wp2_with (go_at_call 280; refine C.out.mono ?_; rintro e w' ⟨rfl, rfl⟩)
              go_ret3
              exact numPost_yes (HE.out.trans (by simp)) (by omega)
        · have HE : Hid (r = (0, -1)) := by
            show r = _
            rw [← HG.out]; exact goN_out (by omega)
          go_wp2_with fail
          refine (cut_no _ _ _ _ _ _ HL.out (by omega) (by omega) (by omega)).mono ?_
          rintro e w' ⟨rfl, rfl⟩
          go_wp2
          go_ret3
          exact numPost_no HE.out
      · obtain rfl : ki = 1 := by rw [hki]; rfl
        have pw : (128 : Int) ^ 1 = 128 := by decide
        have PW := Lib.hid pw
        have hn1 : n < 128 := by have := HN.out; rw [pw] at this; exact this
        clear hki hk hk3 pw HN
        by_cases hin : a + 1 < l.length
        · have hlv := List.getElem?_eq_getElem hin
          have vb := HBY.out _ (List.getElem_mem hin)
          generalize l[a + 1] = v at hlv vb
          have HLV := Lib.hid hlv
          have HV : Hid (((l.drop a).take 2)[1]? = some v) := by
            show _ = some v
            rw [List.getElem?_take, if_pos (by omega), List.getElem?_drop]; exact hlv
          clear hlv
          by_cases h128 : 128 ≤ v
          · go_wp2_with fail
            refine (cut_yes' _ _ _ _ _ a 2 rfl rfl _ HL.out HD.out HD2.out H.out (by omega)).mono ?_
            rintro e w' ⟨ao, rfl, hrd, hlen, _, rfl⟩
            obtain ⟨b', off', hao, hcv⟩ := cut_cell hrd hlen HV.out
            subst hao
            clear hrd hlen
            skip
            go_wp2
            go_round
            case rel =>
              refine ⟨2, 2, _, rfl, rfl, rfl, by omega, by omega, ?_, ?_⟩
              · have e : (128 : Int) ^ 2 = 16384 := by decide
                rw [e]; omega
              · rw [← HG.out, show 3 - 1 = (3 - 2) + 1 from rfl, goN_more HLV.out h128, PW.out]

            case measure => simp [intOf]
          · by_cases hv0 : v = 0
            · subst hv0
              have HE : Hid (r = (0, -1)) := by
                show r = _
                rw [← HG.out, show 3 - 1 = (3 - 2) + 1 from rfl, goN_bad HLV.out (by omega) (by left; exact ⟨rfl, by omega⟩)]
              go_wp2_with fail
              refine (cut_yes' _ _ _ _ _ a 2 rfl rfl _ HL.out HD.out HD2.out H.out (by omega)).mono ?_
              rintro e w' ⟨ao, rfl, hrd, hlen, _, rfl⟩
              obtain ⟨b', off', hao, hcv⟩ := cut_cell hrd hlen HV.out
              subst hao
              clear hrd hlen
              skip
              go_wp2
              go_ret3
              exact numPost_no HE.out
            · have hvb : (v == 0) = false := by simpa using hv0
              obtain ⟨m, hm⟩ : ∃ m, n + v % 128 * 128 = m := ⟨_, rfl⟩
              have hm0 : 0 ≤ m := by omega
              have hm1 : m ≤ 2097151 := by omega
              have EM : Hid (n + v % 128 * 128 ^ 1 = m) := by
                show _ = m
                rw [PW.out]; omega
              have HV0 := Lib.hid hv0
              have hsm : m ≤ 2000000 := by omega
              clear hn0 hn1 hv0 hm1
              have HE : Hid (r = (unf m, (a : Int) + 1 + 1)) := by
                show r = _
                rw [← HG.out, show 3 - 1 = (3 - 2) + 1 from rfl, goN_ok HLV.out (by omega) (by rw [EM.out]; have := HV0.out; omega), EM.out]
                simp
              have hbb : decide (2000000 < m) = false := by simp; omega
              have C := Lib.hid (unfoldNum_any m w hm0 hsm)
              go_wp2_with fail
              refine (cut_yes' _ _ _ _ _ a 2 rfl rfl _ HL.out HD.out HD2.out H.out (by omega)).mono ?_
              rintro e w' ⟨ao, rfl, hrd, hlen, _, rfl⟩
              obtain ⟨b', off', hao, hcv⟩ := cut_cell hrd hlen HV.out
              subst hao
              clear hrd hlen
              skip
              go_wp2_with (go_at_call 280; refine C.out.mono ?_; rintro e w' ⟨rfl, rfl⟩)
              go_ret3
              exact numPost_yes (HE.out.trans (by simp)) (by omega)
        · have HE : Hid (r = (0, -1)) := by
            show r = _
            rw [← HG.out]; exact goN_out (by omega)
          go_wp2_with fail
          refine (cut_no _ _ _ _ _ _ HL.out (by omega) (by omega) (by omega)).mono ?_
          rintro e w' ⟨rfl, rfl⟩
          go_wp2
          go_ret3
          exact numPost_no HE.out
      · obtain rfl : ki = 2 := by rw [hki]; rfl
        have pw : (128 : Int) ^ 2 = 16384 := by decide
        have PW := Lib.hid pw
        have hn1 : n < 16384 := by have := HN.out; rw [pw] at this; exact this
        clear hki hk hk3 pw HN
        by_cases hin : a + 2 < l.length
        · have hlv := List.getElem?_eq_getElem hin
          have vb := HBY.out _ (List.getElem_mem hin)
          generalize l[a + 2] = v at hlv vb
          have HLV := Lib.hid hlv
          have HV : Hid (((l.drop a).take 3)[2]? = some v) := by
            show _ = some v
            rw [List.getElem?_take, if_pos (by omega), List.getElem?_drop]; exact hlv
          clear hlv
          by_cases h128 : 128 ≤ v
          · go_wp2_with fail
            refine (cut_yes' _ _ _ _ _ a 3 rfl rfl _ HL.out HD.out HD2.out H.out (by omega)).mono ?_
            rintro e w' ⟨ao, rfl, hrd, hlen, _, rfl⟩
            obtain ⟨b', off', hao, hcv⟩ := cut_cell hrd hlen HV.out
            subst hao
            clear hrd hlen
            skip
            go_wp2
            go_round
            case rel =>
              refine ⟨3, 3, _, rfl, rfl, rfl, by omega, by omega, ?_, ?_⟩
              · have e : (128 : Int) ^ 3 = 2097152 := by decide
                rw [e]; omega
              · rw [← HG.out, show 3 - 2 = (3 - 3) + 1 from rfl, goN_more HLV.out h128, PW.out]

            case measure => simp [intOf]
          · by_cases hv0 : v = 0
            · subst hv0
              have HE : Hid (r = (0, -1)) := by
                show r = _
                rw [← HG.out, show 3 - 2 = (3 - 3) + 1 from rfl, goN_bad HLV.out (by omega) (by left; exact ⟨rfl, by omega⟩)]
              go_wp2_with fail
              refine (cut_yes' _ _ _ _ _ a 3 rfl rfl _ HL.out HD.out HD2.out H.out (by omega)).mono ?_
              rintro e w' ⟨ao, rfl, hrd, hlen, _, rfl⟩
              obtain ⟨b', off', hao, hcv⟩ := cut_cell hrd hlen HV.out
              subst hao
              clear hrd hlen
              skip
              go_wp2
              go_ret3
              exact numPost_no HE.out
            · have hvb : (v == 0) = false := by simpa using hv0
              obtain ⟨m, hm⟩ : ∃ m, n + v % 128 * 16384 = m := ⟨_, rfl⟩
              have hm0 : 0 ≤ m := by omega
              have hm1 : m ≤ 2097151 := by omega
              have EM : Hid (n + v % 128 * 128 ^ 2 = m) := by
                show _ = m
                rw [PW.out]; omega
              have HV0 := Lib.hid hv0
              clear hn0 hn1 hv0
              by_cases hbig : 2000000 < m
              · have HE : Hid (r = (0, -1)) := by
                  show r = _
                  rw [← HG.out, show 3 - 2 = (3 - 3) + 1 from rfl, goN_bad HLV.out (by omega) (by right; rw [EM.out]; exact hbig)]
                have hbb : decide (2000000 < m) = true := by simpa using hbig
                go_wp2_with fail
                refine (cut_yes' _ _ _ _ _ a 3 rfl rfl _ HL.out HD.out HD2.out H.out (by omega)).mono ?_
                rintro e w' ⟨ao, rfl, hrd, hlen, _, rfl⟩
                obtain ⟨b', off', hao, hcv⟩ := cut_cell hrd hlen HV.out
                subst hao
                clear hrd hlen
                skip
                go_wp2
                go_ret3
                exact numPost_no HE.out
              have hsm : m ≤ 2000000 := by omega
              have HE : Hid (r = (unf m, (a : Int) + 2 + 1)) := by
                show r = _
                rw [← HG.out, show 3 - 2 = (3 - 3) + 1 from rfl, goN_ok HLV.out (by omega) (by rw [EM.out]; have := HV0.out; omega), EM.out]
                simp
              have hbb : decide (2000000 < m) = false := by simp; omega
              have C := Lib.hid (unfoldNum_any m w hm0 hsm)
              go_wp2_with fail
              refine (cut_yes' _ _ _ _ _ a 3 rfl rfl _ HL.out HD.out HD2.out H.out (by omega)).mono ?_
              rintro e w' ⟨ao, rfl, hrd, hlen, _, rfl⟩
              obtain ⟨b', off', hao, hcv⟩ := cut_cell hrd hlen HV.out
              subst hao
              clear hrd hlen
              skip
              go_wp2_with (go_at_call 280; refine C.out.mono ?_; rintro e w' ⟨rfl, rfl⟩)
              go_ret3
              exact numPost_yes (HE.out.trans (by simp)) (by omega)
        · have HE : Hid (r = (0, -1)) := by
            show r = _
            rw [← HG.out]; exact goN_out (by omega)
          go_wp2_with fail
          refine (cut_no _ _ _ _ _ _ HL.out (by omega) (by omega) (by omega)).mono ?_
          rintro e w' ⟨rfl, rfl⟩
          go_wp2
          go_ret3
          exact numPost_no HE.out
end Go.Proofs.YtfpbhedophlnkaaGreatDoor
namespace Go.Proofs.YtfpbhedophlnkaaGreatDoor
open Go.RowKit
set_option linter.unusedSimpArgs false
set_option linter.unusedVariables false

def TookB (r : Int × Int) (w : World) (e : Ending) (w' : World) : Prop := e = .returned (.tuple #[.int .i64 r.1, .int .i64 r.2]) ∧ Below w.heap.size w w'

end Go.Proofs.YtfpbhedophlnkaaGreatDoor
namespace Go.Proofs.YtfpbhedophlnkaaGreatDoor
open Go.RowKit
set_option linter.unusedSimpArgs false
set_option linter.unusedVariables false

def takeW (l : List Int) (at_ : Int) : ByteArray × Int :=
  if (takeN l at_).2 < 0 ∨ (takeN l at_).1 < 1 ∨ 12 < (takeN l at_).1 ∨ (l.length : Int) - (takeN l at_).2 < (takeN l at_).1 then (⟨#[]⟩, -1)
  else if wordB (strOfNums ((l.drop (takeN l at_).2.toNat).take (takeN l at_).1.toNat)).data.toList then (strOfNums ((l.drop (takeN l at_).2.toNat).take (takeN l at_).1.toNat), (takeN l at_).2 + (takeN l at_).1) else (⟨#[]⟩, -1)
theorem strOf_size (m : List Int) : (strOfNums m).size = m.length := by simp [strOfNums, ByteArray.size]
theorem conv_str (w : World) (src : TypeId) (hs : Tryz.prog.underlying src = some (.slice 5)) (ao : Option Addr) (n c : Nat) (m : List Int) (hr : Rd w .u8 ao m) (hn : m.length = n) :
    (convert src 9 (.slice ao n c)).run Tryz.prog w = .ok (.string (strOfNums m)) w := by
  rcases hr with rfl | ⟨b, off, rfl, hc⟩
  · obtain rfl : n = 0 := by simpa using hn.symm
    rw [show strOfNums [] = ByteArray.empty from rfl]
    cases ao with
    | none => exact run_convert_bytes_nil (P := Tryz.prog) w src 5 hs Tryz.underlying5 0 c _ Tryz.underlying9
    | some a =>
      rw [run_convert_bytes_string (P := Tryz.prog) w src 9 5 _ 0 c hs Tryz.underlying5 Tryz.underlying9]
      rw [run_bytesToString w a 0 c [] rfl]; rfl
  · exact run_convert_bytes_arg (P := Tryz.prog) w src 5 hs Tryz.underlying5 b off n c m hn (fun i hi => hc i (by omega)) _ Tryz.underlying9
def TookS (r : ByteArray × Int) (w : World) (e : Ending) (w' : World) : Prop := e = .returned (.tuple #[.string r.1, .int .i64 r.2]) ∧ w = w'
theorem tookS_eq {r s : ByteArray × Int} {w w' : World} {e : Ending} (h : r = s) (k : TookS s w e w') : TookS r w e w' := by rw [h]; exact k

set_option maxRecDepth 100000 in
set_option maxHeartbeats 1600000 in
theorem specTakeWord_any (b : Option Addr) (d : Nat) (l : List Int) (at_ : Int) (w : World) (h : Rd w .u8 b l) (hby : By l) (hl : l.length ≤ maxLen) (hd : l.length ≤ d) (hd2 : d ≤ maxLen) (ha : at_ ≤ 9223372036854775807) :
    Calls Tryz.prog 199 #[.slice b l.length d, .int .i64 at_] w (TookS (takeW l at_) w) := by
  have C := Lib.hid (specTakeNum_any b d l at_ w h hby hl ha)
  have bd := takeN_bd hby at_
  obtain ⟨r, hr⟩ : ∃ r, r = takeW l at_ := ⟨_, rfl⟩
  rw [← hr]
  unfold takeW at hr
  obtain ⟨⟨n, nx⟩, hnx⟩ : ∃ x, x = takeN l at_ := ⟨_, rfl⟩
  rw [← hnx] at C bd hr
  simp only at hr bd
  have HR := Lib.hid hr; clear hr hnx ha hby
  unfold maxLen at hl hd2
  by_cases h0 : nx < 0
  · have e : r = (⟨#[]⟩, -1) := by rw [HR.out, if_pos (.inl h0)]
    have HE := Lib.hid e; clear e
    have hb0 : decide (nx < 0) = true := by simpa using h0
    go_enter Tryz.func199, Tryz.ntmps199
    go_wp2_with (go_at_call 126; refine C.out.mono ?_; rintro e w' ⟨rfl, rfl⟩)
    go_ret2
    exact tookS_eq HE.out ⟨rfl, rfl⟩
  have hb0 : decide (nx < 0) = false := by simpa using h0
  by_cases h1 : 1 ≤ n ∧ n ≤ 12
  · by_cases h2 : (l.length : Int) - nx < n
    · have e : r = (⟨#[]⟩, -1) := by rw [HR.out, if_pos (by omega)]
      have HE := Lib.hid e; clear e
      have hb2 : decide ((l.length : Int) - nx < n) = true := by simpa using h2
      have hin : (decide (1 ≤ n) && decide (n ≤ 12)) = true := by simp; omega
      have HIN := Lib.hid hin; clear hin
      go_enter Tryz.func199, Tryz.ntmps199
      go_wp2_with (first | (go_at_call 126; refine C.out.mono ?_; rintro e w' ⟨rfl, rfl⟩) | (go_at_call 97; refine (l01In_any _ _ _ _).mono ?_; rintro e w' ⟨rfl, rfl⟩; rw [HIN.out]))
      go_ret2
      exact tookS_eq HE.out ⟨rfl, rfl⟩
    · obtain ⟨p, rfl⟩ : ∃ p : Nat, nx = p := ⟨nx.toNat, by omega⟩
      obtain ⟨q, rfl⟩ : ∃ q : Nat, n = q := ⟨n.toNat, by omega⟩
      have e : r = if wordB (strOfNums ((l.drop p).take q)).data.toList then (strOfNums ((l.drop p).take q), ((p : Int) + q)) else (⟨#[]⟩, -1) := by rw [HR.out, if_neg (by omega)]; rfl
      have hb2 : decide ((l.length : Int) - p < q) = false := by simp; omega
      have hin : (decide ((1 : Int) ≤ q) && decide ((q : Int) ≤ 12)) = true := by simp; omega
      have HIN := Lib.hid hin; clear hin
      have hsz : ((l.drop p).take q).length = q := by simp; omega
      have RD : Hid (Rd w .u8 b l) := h
      rcases h with rfl | ⟨b1, off, rfl, hc⟩
      · simp at hsz; omega
      have RD2 : Rd w .u8 (some ⟨b1, off + p, none⟩) ((l.drop p).take q) := by
        refine .inr ⟨b1, off + p, rfl, fun i hi => ?_⟩
        have hi' : i < q := by omega
        have h1 := hc (p + i) (by omega)
        rw [Nat.add_assoc, h1, List.getD_eq_getElem?_getD, List.getD_eq_getElem?_getD, List.getElem?_take, if_pos hi', List.getElem?_drop]
      have hcv := conv_str w 22 Tryz.underlying22 _ q (d - p) _ RD2 hsz
      have hss := strOf_size ((l.drop p).take q)
      generalize strOfNums ((l.drop p).take q) = st at e hcv hss
      rw [hsz] at hss
      have hst : st.size ≤ maxLen := by unfold maxLen; omega
      have WK := Lib.hid (specWordOk_any st w hst)
      have HSS := Lib.hid hss; have HE := Lib.hid e
      have hdp : ¬ d = p := by omega
      clear hss e hc RD2 hsz h0 HR hst
      cases hw : wordB st.data.toList with
      | true =>
        have wk := WK.out; rw [hw] at wk
        have he := HE.out; rw [hw] at he
        have WK1 := Lib.hid wk; have HE1 := Lib.hid he; clear wk he WK HE hw
        go_enter Tryz.func199, Tryz.ntmps199
        go_wp2_with (first | (go_at_call 126; refine C.out.mono ?_; rintro e w' ⟨rfl, rfl⟩) | (go_at_call 97; refine (l01In_any _ _ _ _).mono ?_; rintro e w' ⟨rfl, rfl⟩; rw [HIN.out]) | (go_at_call 96; refine WK1.out.mono ?_; rintro e w' ⟨rfl, rfl⟩))
        go_ret2
        exact tookS_eq HE1.out ⟨rfl, rfl⟩
      | false =>
        have wk := WK.out; rw [hw] at wk
        have he := HE.out; rw [hw] at he
        have WK1 := Lib.hid wk; have HE1 := Lib.hid he; clear wk he WK HE hw
        go_enter Tryz.func199, Tryz.ntmps199
        go_wp2_with (first | (go_at_call 126; refine C.out.mono ?_; rintro e w' ⟨rfl, rfl⟩) | (go_at_call 97; refine (l01In_any _ _ _ _).mono ?_; rintro e w' ⟨rfl, rfl⟩; rw [HIN.out]) | (go_at_call 96; refine WK1.out.mono ?_; rintro e w' ⟨rfl, rfl⟩))
        go_ret2
        exact tookS_eq HE1.out ⟨rfl, rfl⟩
  · have e : r = (⟨#[]⟩, -1) := by rw [HR.out, if_pos (by omega)]
    have HE := Lib.hid e; clear e
    have hin : (decide (1 ≤ n) && decide (n ≤ 12)) = false := by simp; omega
    have HIN := Lib.hid hin; clear hin
    go_enter Tryz.func199, Tryz.ntmps199
    go_wp2_with (first | (go_at_call 126; refine C.out.mono ?_; rintro e w' ⟨rfl, rfl⟩) | (go_at_call 97; refine (l01In_any _ _ _ _).mono ?_; rintro e w' ⟨rfl, rfl⟩; rw [HIN.out]))
    go_ret2
    exact tookS_eq HE.out ⟨rfl, rfl⟩
end Go.Proofs.YtfpbhedophlnkaaGreatDoor
