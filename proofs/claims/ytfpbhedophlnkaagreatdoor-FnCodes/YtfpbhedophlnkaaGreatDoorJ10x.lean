/-
  The contract of the program's numAt: the number that stands there and the place behind it; else its error. For every slice of bytes and every place. The contract of impl.TakeNum. For every slice of bytes and every place, where the program's start has laid what package errors asks for. The contracts of spec.TakeNums, of the program's listAt and of impl.TakeNums. For every slice of bytes and every place.
-/
import Derived.Test.YtfpbhedophlnkaaGreatDoorJ9x
import Derived.Test.YtfpbhedophlnkaaGreatDoorJ4x
import Derived.Test.YtfpbhedophlnkaaGreatDoorJ6x
namespace Go.Proofs.YtfpbhedophlnkaaGreatDoor
open Go.RowKit
set_option linter.unusedSimpArgs false
set_option linter.unusedVariables false

/-- What numAt answers: r is the number and the place behind it, (0, -1) where there is none. -/
def NumPost (r : Int × Int) (at_ : Int) (w : World) (e : Ending) (w' : World) : Prop :=
  ((r.2 = -1 ∧ e = .returned (.tuple #[.int .i64 0, .int .i64 0, .iface 200 (.agg #[.int .i64 0, .int .i64 at_])])) ∨ (r.2 ≠ -1 ∧ e = .returned (.tuple #[.int .i64 r.1, .int .i64 r.2, .nilIface]))) ∧ w = w'
theorem numPost_no {r : Int × Int} {at_ : Int} {w : World} (h : r = (0, -1)) : NumPost r at_ w (.returned (.tuple #[.int .i64 0, .int .i64 0, .iface 200 (.agg #[.int .i64 0, .int .i64 at_])])) w := by rw [h]; exact ⟨.inl ⟨rfl, rfl⟩, rfl⟩
theorem numPost_yes {r : Int × Int} {at_ x y : Int} {w : World} (h : r = (x, y)) (hy : y ≠ -1) : NumPost r at_ w (.returned (.tuple #[.int .i64 x, .int .i64 y, .nilIface])) w := by rw [h]; exact ⟨.inr ⟨hy, rfl⟩, rfl⟩
theorem cut_cell {w : World} {ao : Option Addr} {m : List Int} {n k : Nat} {v : Int} (hr : Rd w .u8 ao m) (hl : m.length = n) (hv : m[k]? = some v) : ∃ b off, ao = some ⟨b, off, none⟩ ∧ w.cell? ⟨b, off + k, none⟩ = some (.int .u8 v) := by
  have hk : k < m.length := (List.getElem?_eq_some_iff.1 hv).1
  rcases hr with rfl | ⟨b, off, rfl, hc⟩
  · simp at hk
  · refine ⟨b, off, rfl, ?_⟩
    rw [hc k hk, List.getD_eq_getElem?_getD, hv]; rfl
theorem cut_yes' (b : Option Addr) (d : Nat) (l : List Int) (x y : Int) (p q : Nat) (hx : x = p) (hy : y = q) (w : World) (hn : l.length ≤ maxLen) (hd : l.length ≤ d) (hd2 : d ≤ maxLen) (hr : Rd w .u8 b l) (h : p + q ≤ l.length) :
    Calls Tryz.prog 233 #[.slice b l.length d, .int .i64 x, .int .i64 y] w (CutOk w ((l.drop p).take q) q) := by
  subst hx; subst hy; exact cut_yes b d l p q w hn hd hd2 hr h

set_option maxRecDepth 100000 in
set_option maxHeartbeats 4000000 in
theorem numAt_any (b : Option Addr) (d : Nat) (l : List Int) (at_ : Int) (w : World) (h : Rd w .u8 b l) (hby : By l) (hl : l.length ≤ maxLen) (hd : l.length ≤ d) (hd2 : d ≤ maxLen) (ha : at_ ≤ 9223372036854775807) (ha' : -9223372036854775808 ≤ at_) :
    Calls Tryz.prog 234 #[.slice b l.length d, .int .i64 at_] w (NumPost (takeN l at_) at_ w) := by
  have HL := Lib.hid hl; have HD := Lib.hid hd; have HD2 := Lib.hid hd2; have H := Lib.hid h; have HBY := Lib.hid hby
  unfold maxLen at hl
  clear h hby hd hd2
  by_cases h0 : at_ < 0
  · have e : takeN l at_ = (0, -1) := by unfold takeN; rw [if_pos h0]
    have HE := Lib.hid e; clear e
    obtain ⟨r, hr⟩ : ∃ r, r = takeN l at_ := ⟨_, rfl⟩
    rw [← hr] at HE ⊢
    clear hr
    go_enter Tryz.func234, Tryz.ntmps234
    go_wp2
    refine wp_loop_rounds 1 ?_; rw [rounds_succ]; go_wp2_with fail
    refine (cut_no _ _ _ _ _ _ HL.out (by omega) (by omega) (by omega)).mono ?_
    rintro e w' ⟨rfl, rfl⟩
    go_wp2
    go_ret3
    exact numPost_no HE.out
  rw [show takeN l at_ = goN l at_.toNat 3 0 0 by unfold takeN; rw [if_neg h0]]
  obtain ⟨a, rfl⟩ : ∃ a : Nat, at_ = a := ⟨at_.toNat, by omega⟩
  rw [Int.toNat_natCast]
  obtain ⟨r, hr⟩ : ∃ r, r = goN l a 3 0 0 := ⟨_, rfl⟩
  rw [← hr]
  have HR := Lib.hid hr; clear hr h0 ha'
  go_enter Tryz.func234, Tryz.ntmps234
  go_wp2
  go_loop [7, 12] (fun u i => TRel l a r 3 u i) (fun _ i => 3 - (intOf i).toNat)
  case atStart => exact ⟨0, 0, 0, rfl, rfl, rfl, by omega, by omega, by decide, HR.out.symm⟩
  case round =>
    obtain ⟨k, ki, n, rfl, rfl, hki, hk, hn0, hn1, hg⟩ := hrel
    have HG := Lib.hid hg; have HN := Lib.hid hn1; clear hg hn1
    by_cases hk3 : k = 3
    · subst hk3
      obtain rfl : ki = 3 := by rw [hki]; rfl
      clear hki
      have e : r = (0, -1) := by rw [← HG.out]; rfl
      have HE := Lib.hid e; clear e
      go_wp2
      go_ret3
      exact numPost_no HE.out
    · rcases (show k = 0 ∨ k = 1 ∨ k = 2 by omega) with rfl | rfl | rfl
      · obtain rfl : ki = 0 := by rw [hki]; rfl
        have pw : (128 : Int) ^ 0 = 1 := by decide
        have PW := Lib.hid pw
        have hn1 : n < 1 := by have := HN.out; rw [pw] at this; exact this
        clear hki hk hk3 pw HN
        obtain rfl : n = 0 := by omega
        by_cases hin : a + 0 < l.length
        · have hlv := List.getElem?_eq_getElem hin
          have vb := HBY.out _ (List.getElem_mem hin)
          generalize l[a + 0] = v at hlv vb
          have HLV := Lib.hid hlv
          have HV : Hid (((l.drop a).take 1)[0]? = some v) := by
            show _ = some v
            rw [List.getElem?_take, if_pos (by omega), List.getElem?_drop]; exact hlv
          clear hlv
          by_cases h128 : 128 ≤ v
          · go_wp2_with fail
            refine (cut_yes' _ _ _ _ _ a 1 rfl rfl _ HL.out HD.out HD2.out H.out (by omega)).mono ?_
            rintro e w' ⟨ao, rfl, hrd, hlen, _, rfl⟩
            obtain ⟨b', off', hao, hcv⟩ := cut_cell hrd hlen HV.out
            subst hao
            clear hrd hlen
            rw [Nat.add_zero] at hcv
            go_wp2
            go_round
            case rel =>
              refine ⟨1, 1, _, rfl, rfl, rfl, by omega, by omega, ?_, ?_⟩
              · have e : (128 : Int) ^ 1 = 128 := by decide
                rw [e]; omega
              · rw [← HG.out, show 3 - 0 = (3 - 1) + 1 from rfl, goN_more HLV.out h128, PW.out]
                rw [Int.zero_add, Int.mul_one]
            case measure => simp [intOf]
          · by_cases hv0 : v = 0
            · subst hv0
              have HE : Hid (r = (0, (a : Int) + 1)) := by
                show r = _
                rw [← HG.out, show 3 - 0 = 2 + 1 from rfl, goN_ok HLV.out (by omega) (by rw [PW.out]; omega), PW.out]
                rfl
              have C := Lib.hid (unfoldNum_any 0 w (by omega) (by omega))
              go_wp2_with fail
              refine (cut_yes' _ _ _ _ _ a 1 rfl rfl _ HL.out HD.out HD2.out H.out (by omega)).mono ?_
              rintro e w' ⟨ao, rfl, hrd, hlen, _, rfl⟩
              obtain ⟨b', off', hao, hcv⟩ := cut_cell hrd hlen HV.out
              subst hao
              clear hrd hlen
              rw [Nat.add_zero] at hcv
              go_wp2_with (go_at_call 280; refine C.out.mono ?_; rintro e w' ⟨rfl, rfl⟩)
              go_ret3
              exact numPost_yes HE.out (by omega)
            · have hvb : (v == 0) = false := by simpa using hv0
              obtain ⟨m, hm⟩ : ∃ m, v % 128 = m := ⟨_, rfl⟩
              have hm0 : 0 ≤ m := by omega
              have hm1 : m ≤ 2097151 := by omega
              have EM : Hid (0 + v % 128 * 128 ^ 0 = m) := by
                show _ = m
                rw [PW.out]; omega
              have HV0 := Lib.hid hv0
              have hsm : m ≤ 2000000 := by omega
              clear hn0 hn1 hv0 hm1
              have HE : Hid (r = (unf m, (a : Int) + 0 + 1)) := by
                show r = _
                rw [← HG.out, show 3 - 0 = (3 - 1) + 1 from rfl, goN_ok HLV.out (by omega) (by rw [EM.out]; have := HV0.out; omega), EM.out]
                simp
              have hbb : decide (2000000 < m) = false := by simp; omega
              have C := Lib.hid (unfoldNum_any m w hm0 hsm)
              go_wp2_with fail
              refine (cut_yes' _ _ _ _ _ a 1 rfl rfl _ HL.out HD.out HD2.out H.out (by omega)).mono ?_
              rintro e w' ⟨ao, rfl, hrd, hlen, _, rfl⟩
              obtain ⟨b', off', hao, hcv⟩ := cut_cell hrd hlen HV.out
              subst hao
              clear hrd hlen
              rw [Nat.add_zero] at hcv
              go_wp2_with (go_at_call 280; refine C.out.mono ?_; rintro e w' ⟨rfl, rfl⟩)
              go_ret3
              exact numPost_yes (HE.out.trans (by simp)) (by omega)
        · have HE : Hid (r = (0, -1)) := by
            show r = _
            rw [← HG.out]; exact goN_out (by omega)
          go_wp2_with fail
          refine (cut_no _ _ _ _ _ _ HL.out (by omega) (by omega) (by omega)).mono ?_
          rintro e w' ⟨rfl, rfl⟩
          go_wp2
          go_ret3
          exact numPost_no HE.out
      · obtain rfl : ki = 1 := by rw [hki]; rfl
        have pw : (128 : Int) ^ 1 = 128 := by decide
        have PW := Lib.hid pw
        have hn1 : n < 128 := by have := HN.out; rw [pw] at this; exact this
        clear hki hk hk3 pw HN
        by_cases hin : a + 1 < l.length
        · have hlv := List.getElem?_eq_getElem hin
          have vb := HBY.out _ (List.getElem_mem hin)
          generalize l[a + 1] = v at hlv vb
          have HLV := Lib.hid hlv
          have HV : Hid (((l.drop a).take 2)[1]? = some v) := by
            show _ = some v
            rw [List.getElem?_take, if_pos (by omega), List.getElem?_drop]; exact hlv
          clear hlv
          by_cases h128 : 128 ≤ v
          · go_wp2_with fail
            refine (cut_yes' _ _ _ _ _ a 2 rfl rfl _ HL.out HD.out HD2.out H.out (by omega)).mono ?_
            rintro e w' ⟨ao, rfl, hrd, hlen, _, rfl⟩
            obtain ⟨b', off', hao, hcv⟩ := cut_cell hrd hlen HV.out
            subst hao
            clear hrd hlen
            skip
            go_wp2
            go_round
            case rel =>
              refine ⟨2, 2, _, rfl, rfl, rfl, by omega, by omega, ?_, ?_⟩
              · have e : (128 : Int) ^ 2 = 16384 := by decide
                rw [e]; omega
              · rw [← HG.out, show 3 - 1 = (3 - 2) + 1 from rfl, goN_more HLV.out h128, PW.out]

            case measure => simp [intOf]
          · by_cases hv0 : v = 0
            · subst hv0
              have HE : Hid (r = (0, -1)) := by
                show r = _
                rw [← HG.out, show 3 - 1 = (3 - 2) + 1 from rfl, goN_bad HLV.out (by omega) (by left; exact ⟨rfl, by omega⟩)]
              go_wp2_with fail
              refine (cut_yes' _ _ _ _ _ a 2 rfl rfl _ HL.out HD.out HD2.out H.out (by omega)).mono ?_
              rintro e w' ⟨ao, rfl, hrd, hlen, _, rfl⟩
              obtain ⟨b', off', hao, hcv⟩ := cut_cell hrd hlen HV.out
              subst hao
              clear hrd hlen
              skip
              go_wp2
              go_ret3
              exact numPost_no HE.out
            · have hvb : (v == 0) = false := by simpa using hv0
              obtain ⟨m, hm⟩ : ∃ m, n + v % 128 * 128 = m := ⟨_, rfl⟩
              have hm0 : 0 ≤ m := by omega
              have hm1 : m ≤ 2097151 := by omega
              have EM : Hid (n + v % 128 * 128 ^ 1 = m) := by
                show _ = m
                rw [PW.out]; omega
              have HV0 := Lib.hid hv0
              have hsm : m ≤ 2000000 := by omega
              clear hn0 hn1 hv0 hm1
              have HE : Hid (r = (unf m, (a : Int) + 1 + 1)) := by
                show r = _
                rw [← HG.out, show 3 - 1 = (3 - 2) + 1 from rfl, goN_ok HLV.out (by omega) (by rw [EM.out]; have := HV0.out; omega), EM.out]
                simp
              have hbb : decide (2000000 < m) = false := by simp; omega
              have C := Lib.hid (unfoldNum_any m w hm0 hsm)
              go_wp2_with fail
              refine (cut_yes' _ _ _ _ _ a 2 rfl rfl _ HL.out HD.out HD2.out H.out (by omega)).mono ?_
              rintro e w' ⟨ao, rfl, hrd, hlen, _, rfl⟩
              obtain ⟨b', off', hao, hcv⟩ := cut_cell hrd hlen HV.out
              subst hao
              clear hrd hlen
              skip
              go_wp2_with (go_at_call 280; refine C.out.mono ?_; rintro e w' ⟨rfl, rfl⟩)
              go_ret3
              exact numPost_yes (HE.out.trans (by simp)) (by omega)
        · have HE : Hid (r = (0, -1)) := by
            show r = _
            rw [← HG.out]; exact goN_out (by omega)
          go_wp2_with fail
          refine (cut_no _ _ _ _ _ _ HL.out (by omega) (by omega) (by omega)).mono ?_
          rintro e w' ⟨rfl, rfl⟩
          go_wp2
          go_ret3
          exact numPost_no HE.out
      · obtain rfl : ki = 2 := by rw [hki]; rfl
        have pw : (128 : Int) ^ 2 = 16384 := by decide
        have PW := Lib.hid pw
        have hn1 : n < 16384 := by have := HN.out; rw [pw] at this; exact this
        clear hki hk hk3 pw HN
        by_cases hin : a + 2 < l.length
        · have hlv := List.getElem?_eq_getElem hin
          have vb := HBY.out _ (List.getElem_mem hin)
          generalize l[a + 2] = v at hlv vb
          have HLV := Lib.hid hlv
          have HV : Hid (((l.drop a).take 3)[2]? = some v) := by
            show _ = some v
            rw [List.getElem?_take, if_pos (by omega), List.getElem?_drop]; exact hlv
          clear hlv
          by_cases h128 : 128 ≤ v
          · go_wp2_with fail
            refine (cut_yes' _ _ _ _ _ a 3 rfl rfl _ HL.out HD.out HD2.out H.out (by omega)).mono ?_
            rintro e w' ⟨ao, rfl, hrd, hlen, _, rfl⟩
            obtain ⟨b', off', hao, hcv⟩ := cut_cell hrd hlen HV.out
            subst hao
            clear hrd hlen
            skip
            go_wp2
            go_round
            case rel =>
              refine ⟨3, 3, _, rfl, rfl, rfl, by omega, by omega, ?_, ?_⟩
              · have e : (128 : Int) ^ 3 = 2097152 := by decide
                rw [e]; omega
              · rw [← HG.out, show 3 - 2 = (3 - 3) + 1 from rfl, goN_more HLV.out h128, PW.out]

            case measure => simp [intOf]
          · by_cases hv0 : v = 0
            · subst hv0
              have HE : Hid (r = (0, -1)) := by
                show r = _
                rw [← HG.out, show 3 - 2 = (3 - 3) + 1 from rfl, goN_bad HLV.out (by omega) (by left; exact ⟨rfl, by omega⟩)]
              go_wp2_with fail
              refine (cut_yes' _ _ _ _ _ a 3 rfl rfl _ HL.out HD.out HD2.out H.out (by omega)).mono ?_
              rintro e w' ⟨ao, rfl, hrd, hlen, _, rfl⟩
              obtain ⟨b', off', hao, hcv⟩ := cut_cell hrd hlen HV.out
              subst hao
              clear hrd hlen
              skip
              go_wp2
              go_ret3
              exact numPost_no HE.out
            · have hvb : (v == 0) = false := by simpa using hv0
              obtain ⟨m, hm⟩ : ∃ m, n + v % 128 * 16384 = m := ⟨_, rfl⟩
              have hm0 : 0 ≤ m := by omega
              have hm1 : m ≤ 2097151 := by omega
              have EM : Hid (n + v % 128 * 128 ^ 2 = m) := by
                show _ = m
                rw [PW.out]; omega
              have HV0 := Lib.hid hv0
              clear hn0 hn1 hv0
              by_cases hbig : 2000000 < m
              · have HE : Hid (r = (0, -1)) := by
                  show r = _
                  rw [← HG.out, show 3 - 2 = (3 - 3) + 1 from rfl, goN_bad HLV.out (by omega) (by right; rw [EM.out]; exact hbig)]
                have hbb : decide (2000000 < m) = true := by simpa using hbig
                go_wp2_with fail
                refine (cut_yes' _ _ _ _ _ a 3 rfl rfl _ HL.out HD.out HD2.out H.out (by omega)).mono ?_
                rintro e w' ⟨ao, rfl, hrd, hlen, _, rfl⟩
                obtain ⟨b', off', hao, hcv⟩ := cut_cell hrd hlen HV.out
                subst hao
                clear hrd hlen
                skip
                go_wp2
                go_ret3
                exact numPost_no HE.out
              have hsm : m ≤ 2000000 := by omega
              have HE : Hid (r = (unf m, (a : Int) + 2 + 1)) := by
                show r = _
                rw [← HG.out, show 3 - 2 = (3 - 3) + 1 from rfl, goN_ok HLV.out (by omega) (by rw [EM.out]; have := HV0.out; omega), EM.out]
                simp
              have hbb : decide (2000000 < m) = false := by simp; omega
              have C := Lib.hid (unfoldNum_any m w hm0 hsm)
              go_wp2_with fail
              refine (cut_yes' _ _ _ _ _ a 3 rfl rfl _ HL.out HD.out HD2.out H.out (by omega)).mono ?_
              rintro e w' ⟨ao, rfl, hrd, hlen, _, rfl⟩
              obtain ⟨b', off', hao, hcv⟩ := cut_cell hrd hlen HV.out
              subst hao
              clear hrd hlen
              skip
              go_wp2_with (go_at_call 280; refine C.out.mono ?_; rintro e w' ⟨rfl, rfl⟩)
              go_ret3
              exact numPost_yes (HE.out.trans (by simp)) (by omega)
        · have HE : Hid (r = (0, -1)) := by
            show r = _
            rw [← HG.out]; exact goN_out (by omega)
          go_wp2_with fail
          refine (cut_no _ _ _ _ _ _ HL.out (by omega) (by omega) (by omega)).mono ?_
          rintro e w' ⟨rfl, rfl⟩
          go_wp2
          go_ret3
          exact numPost_no HE.out
end Go.Proofs.YtfpbhedophlnkaaGreatDoor
namespace Go.Proofs.YtfpbhedophlnkaaGreatDoor
open Go.RowKit
set_option linter.unusedSimpArgs false
set_option linter.unusedVariables false

def TookB (r : Int × Int) (w : World) (e : Ending) (w' : World) : Prop := e = .returned (.tuple #[.int .i64 r.1, .int .i64 r.2]) ∧ Below w.heap.size w w'

end Go.Proofs.YtfpbhedophlnkaaGreatDoor
namespace Go.Proofs.YtfpbhedophlnkaaGreatDoor
open Go.RowKit
set_option linter.unusedSimpArgs false
set_option linter.unusedVariables false

/-- k numbers read from place p0 on, one behind the other, and the place behind them. -/
def rdN (l : List Int) (p0 : Int) : Nat → Option (List Int × Int)
  | 0 => some ([], p0)
  | k + 1 => match rdN l p0 k with
    | none => none
    | some (acc, p) => if (takeN l p).2 = -1 then none else some (acc ++ [(takeN l p).1], (takeN l p).2)
theorem rdN_yes {l : List Int} {p0 p x q : Int} {k : Nat} {acc : List Int} (h : rdN l p0 k = some (acc, p)) (ht : (x, q) = takeN l p) (hq : q ≠ -1) : rdN l p0 (k + 1) = some (acc ++ [x], q) := by
  rw [rdN, h]; simp only; rw [← ht]; simp only; rw [if_neg hq]
theorem rdN_no {l : List Int} {p0 p x q : Int} {k : Nat} {acc : List Int} (h : rdN l p0 k = some (acc, p)) (ht : (x, q) = takeN l p) (hq : q = -1) : rdN l p0 (k + 1) = none := by
  rw [rdN, h]; simp only; rw [← ht]; simp only; rw [if_pos hq]
theorem rdN_stays {l : List Int} {p0 : Int} {k : Nat} (h : rdN l p0 k = none) : ∀ m, k ≤ m → rdN l p0 m = none := by
  intro m hm
  induction m with
  | zero => obtain rfl : k = 0 := by omega
            exact h
  | succ m ih =>
    by_cases e : k = m + 1
    · rw [← e]; exact h
    · rw [rdN, ih (by omega)]
def takeNs (l : List Int) (at_ : Int) : List Int × Int :=
  if (takeN l at_).2 < 0 ∨ (takeN l at_).1 < 0 ∨ 300 < (takeN l at_).1 then ([], -1) else (rdN l (takeN l at_).2 (takeN l at_).1.toNat).getD ([], -1)
theorem rdN_bd {l : List Int} (hl : By l) {p0 : Int} (h0 : 0 ≤ p0) (h1 : p0 ≤ l.length) : ∀ (k : Nat) (acc : List Int) (p : Int), rdN l p0 k = some (acc, p) → acc.length = k ∧ 0 ≤ p ∧ p ≤ l.length := by
  intro k
  induction k with
  | zero =>
    intro acc p h
    rw [rdN] at h
    simp at h
    obtain ⟨rfl, rfl⟩ := h
    exact ⟨rfl, h0, h1⟩
  | succ k ih =>
    intro acc p h
    rw [rdN] at h
    rcases hk : rdN l p0 k with _ | ⟨acc', p'⟩
    · rw [hk] at h; cases h
    · rw [hk] at h
      simp only at h
      by_cases ht : (takeN l p').2 = -1
      · rw [if_pos ht] at h; cases h
      · rw [if_neg ht] at h
        simp at h
        obtain ⟨rfl, rfl⟩ := h
        have := ih acc' p' hk
        have bd := takeN_bd hl p'
        refine ⟨by simp; exact this.1, by omega, by omega⟩
/-- As 'Made', beside a place. -/
def TookL (r : List Int × Int) (w : World) (e : Ending) (w' : World) : Prop :=
  ∃ ao c, e = .returned (.tuple #[.slice ao r.1.length c, .int .i64 r.2]) ∧ Own w' w.heap.size 3 .i64 ao c r.1 ∧ Below w.heap.size w w'
theorem tookL_no {r : List Int × Int} {w w' : World} (h : r = ([], -1)) (hb : Below w.heap.size w w') : TookL r w (.returned (.tuple #[.slice none 0 0, .int .i64 (-1)])) w' := by
  rw [h]; exact ⟨none, 0, rfl, Own.none_, hb⟩
theorem tookL_yes {r : List Int × Int} {w w' : World} {acc : List Int} {p : Int} {ao : Option Addr} {c n : Nat} (h : r = (acc, p)) (hn : n = acc.length) (ho : Own w' w.heap.size 3 .i64 ao c acc) (hb : Below w.heap.size w w') : TookL r w (.returned (.tuple #[.slice ao n c, .int .i64 p])) w' := by
  rw [h, hn]; exact ⟨ao, c, rfl, ho, hb⟩

def SnRel (w wr : World) (l : List Int) (p0 : Int) (m : Nat) (nx v i : Value) : Prop :=
  ∃ (k : Nat) (acc : List Int) (p : Int) (ao : Option Addr) (c n : Nat), nx = .int .i64 p ∧ v = .slice ao n c ∧ i = .int .i64 k ∧ n = acc.length ∧ k ≤ m ∧ rdN l p0 k = some (acc, p) ∧ Own wr w.heap.size 3 .i64 ao c acc ∧ Below w.heap.size w wr

set_option maxRecDepth 100000 in
set_option maxHeartbeats 1600000 in
theorem specTakeNums_any (b : Option Addr) (d : Nat) (l : List Int) (at_ : Int) (w : World) (h : Rd w .u8 b l) (hby : By l) (hl : l.length ≤ maxLen) (ha : at_ ≤ 9223372036854775807) :
    Calls Tryz.prog 201 #[.slice b l.length d, .int .i64 at_] w (TookL (takeNs l at_) w) := by
  have C := Lib.hid (specTakeNum_any b d l at_ w h hby hl ha)
  have CA : Hid (∀ (p : Int) (w : World), Rd w .u8 b l → p ≤ 9223372036854775807 → Calls Tryz.prog 126 #[.slice b l.length d, .int .i64 p] w (Took (takeN l p) w)) := fun p w h hp => specTakeNum_any b d l p w h hby hl hp
  have bd := takeN_bd hby at_
  have HBY := Lib.hid hby; have H := Lib.hid h
  obtain ⟨r, hr⟩ : ∃ r, r = takeNs l at_ := ⟨_, rfl⟩
  rw [← hr]
  unfold takeNs at hr
  obtain ⟨⟨n, nx⟩, hnx⟩ : ∃ x, x = takeN l at_ := ⟨_, rfl⟩
  rw [← hnx] at C bd hr
  simp only at hr bd
  have HR := Lib.hid hr; clear hr hnx ha hby h
  unfold maxLen at hl
  by_cases h0 : nx < 0
  · have e : r = ([], -1) := by rw [HR.out, if_pos (.inl h0)]
    have HE := Lib.hid e; clear e
    have hb0 : decide (nx < 0) = true := by simpa using h0
    go_enter Tryz.func201, Tryz.ntmps201
    go_wp2_with (go_at_call 126; refine C.out.mono ?_; rintro e w' ⟨rfl, rfl⟩)
    go_ret2
    exact tookL_no HE.out (Below.refl _ _)
  have hb0 : decide (nx < 0) = false := by simpa using h0
  by_cases h1 : 0 ≤ n ∧ n ≤ 300
  · obtain ⟨m, rfl⟩ : ∃ m : Nat, n = m := ⟨n.toNat, by omega⟩
    have e : r = (rdN l nx m).getD ([], -1) := by rw [HR.out, if_neg (by omega), Int.toNat_natCast]
    have HE := Lib.hid e; clear e
    have hin : (decide ((0 : Int) ≤ m) && decide ((m : Int) ≤ 300)) = true := by simp; omega
    have HIN := Lib.hid hin; clear hin
    have hst : Own (w.alloc (Obj.cells #[] 3)) w.heap.size 3 .i64 (some ⟨w.heap.size, 0, none⟩) 0 [] := World.ownsRow_lit w #[] 0 (Nat.le_refl _) (Nat.zero_le _) rfl
    have HST := Lib.hid hst; clear hst
    have hnl : nx ≤ l.length := by omega
    have hn0 : 0 ≤ nx := by omega
    clear bd
    go_enter Tryz.func201, Tryz.ntmps201
    go_wp2_with (first | (go_at_call 126; refine C.out.mono ?_; rintro e w' ⟨rfl, rfl⟩) | (go_at_call 97; refine (l01In_any _ _ _ _).mono ?_; rintro e w' ⟨rfl, rfl⟩; rw [HIN.out]))
    go_loopw [7, 8, 9] (fun nx' v i wr => SnRel w wr l nx m nx' v i) (fun _ _ i _ => m - (intOf i).toNat)
    case atStart => exact ⟨0, [], nx, _, _, _, rfl, rfl, rfl, rfl, Nat.zero_le _, rfl, HST.out, (Below.refl _ _).alloc (Nat.le_refl _) _⟩
    case round =>
      obtain ⟨k, acc, p, ao, c, n', rfl, rfl, rfl, hn', hk, hrd, ho, hb⟩ := hrel
      have hbd := rdN_bd HBY.out hn0 hnl k acc p hrd
      have hacc : acc.length ≤ 300 := by omega
      have hp0 : 0 ≤ p := hbd.2.1
      have hp1 : p ≤ l.length := hbd.2.2
      have HNN := Lib.hid hn'; have HRD := Lib.hid hrd; have HO := Lib.hid ho; have HB := Lib.hid hb; have HLEN := Lib.hid hbd.1; clear hn' hrd ho hb hbd
      by_cases hlt : k < m
      · have CP := CA.out p wr (H.out.below HB.out) (by omega)
        have bd := takeN_bd HBY.out p
        obtain ⟨⟨x, q⟩, hxq⟩ : ∃ x, x = takeN l p := ⟨_, rfl⟩
        rw [← hxq] at CP bd
        simp only at bd
        have HXQ := Lib.hid hxq; have CP1 := Lib.hid CP; clear hxq CP
        by_cases hq : q < 0
        · have HN : Hid (r = ([], -1)) := by
            show r = _
            rw [HE.out, rdN_stays (rdN_no HRD.out HXQ.out (by omega)) m (by omega)]; rfl
          have hqb : decide (q < 0) = true := by simpa using hq
          clear bd
          go_wp2_with (go_at_call 126; refine CP1.out.mono ?_; rintro e w' ⟨rfl, rfl⟩)
          go_ret2
          exact tookL_no HN.out HB.out
        · have hqb : decide (q < 0) = false := by simpa using hq
          have R1 := Lib.hid (rdN_yes HRD.out HXQ.out (by omega))
          clear bd
          go_wp2_with (first | (go_at_call 126; refine CP1.out.mono ?_; rintro e w' ⟨rfl, rfl⟩) | (at_builtin; refine wpList_append1 _ rfl (.tmp 39) (.tmp 41) 47 rfl w.heap.size 3 .i64 8 Tryz.underlying47 Tryz.infoI64 ao c n' acc rfl HNN.out (HO.out.alloc _) wr.heap.size 1 x rfl (cell_one _ _ _) (by unfold maxLen; omega) (by omega) (base_le HB.out) ?_; intro ao' c' w1 ho' hg'; have HO' := Lib.hid ho'; have HG' := Lib.hid hg'; clear ho' hg'))
          go_roundw
          case rel => exact ⟨k + 1, acc ++ [x], q, ao', c', _, rfl, rfl, by go_num, by simp, by omega, R1.out, HO'.out, below_app1 HB.out HO.out HG'.out⟩
          case measure => simp [intOf]; omega
      · have e : r = (acc, p) := by
          rw [HE.out, show m = k by omega, HRD.out]; rfl
        have HN := Lib.hid e; clear e
        go_wp2
        go_ret2
        exact tookL_yes HN.out HNN.out HO.out HB.out
  · have e : r = ([], -1) := by rw [HR.out, if_pos (by omega)]
    have HE := Lib.hid e; clear e
    have hin : (decide (0 ≤ n) && decide (n ≤ 300)) = false := by simp; omega
    have HIN := Lib.hid hin; clear hin
    go_enter Tryz.func201, Tryz.ntmps201
    go_wp2_with (first | (go_at_call 126; refine C.out.mono ?_; rintro e w' ⟨rfl, rfl⟩) | (go_at_call 97; refine (l01In_any _ _ _ _).mono ?_; rintro e w' ⟨rfl, rfl⟩; rw [HIN.out]))
    go_ret2
    exact tookL_no HE.out (Below.refl _ _)
end Go.Proofs.YtfpbhedophlnkaaGreatDoor
