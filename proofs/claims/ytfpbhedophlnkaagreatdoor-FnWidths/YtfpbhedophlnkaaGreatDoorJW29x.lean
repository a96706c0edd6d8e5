/-
  The contract of spec.TakeNum. For every slice of bytes and every place. errors.As at the program's own error type, a struct of two numbers, asked by the address of a variable of that type: a nil error is not found; one of that type is. After the guide's worked example of errors.As at a concrete target.
-/
import Derived.Test.YtfpbhedophlnkaaGreatDoorJW26x
import Derived.Test.YtfpbhedophlnkaaGreatDoorRows
import Derived.Test.YtfpbhedophlnkaaGreatDoorJW3x
import Derived.WalkKit
import Derived.LaidEql
import Derived.Stop.Asserts
import Derived.RowKitTokens
namespace Go.Proofs.YtfpbhedophlnkaaGreatDoor
open Go.RowKit
set_option linter.unusedSimpArgs false
set_option linter.unusedVariables false

def Took (r : Int × Int) (w : World) (e : Ending) (w' : World) : Prop := e = .returned (.tuple #[.int .i64 r.1, .int .i64 r.2]) ∧ w = w'
theorem took_eq {r s : Int × Int} {w w' : World} {e : Ending} (h : r = s) (k : Took s w e w') : Took r w e w' := by rw [h]; exact k
theorem ret_pair {a b c d : Int} (h : a = c) (k : b = d) : Ending.returned (.tuple #[.int .i64 a, .int .i64 b]) = .returned (.tuple #[.int .i64 c, .int .i64 d]) := by rw [h, k]

theorem unf_odd {m : Int} (h0 : 0 ≤ m) (h1 : m ≤ 268435455) (hp : m % 2 = 1) : wrap64 (-(m + 1).tdiv 2) = unf m := by
  rw [Int.tdiv_eq_ediv_of_nonneg (by omega)]
  unfold unf wrap64
  rw [if_neg (by omega)]
  omega
theorem unf_even {m : Int} (hp : m % 2 = 0) : m / 2 = unf m := by unfold unf; rw [if_pos hp]
def TRel (l : List Int) (a : Nat) (r : Int × Int) (m : Nat) (u i : Value) : Prop :=
  ∃ (k : Nat) (ki n : Int), i = .int .i64 ki ∧ u = .int .i64 n ∧ ki = (k : Int) ∧ k ≤ m ∧ 0 ≤ n ∧ n < 128 ^ k ∧ goN l a (m - k) k n = r

set_option maxRecDepth 100000 in
set_option maxHeartbeats 4000000 in
theorem specTakeNum_any (b : Option Addr) (d : Nat) (l : List Int) (at_ : Int) (w : World) (h : Rd w .u8 b l) (hby : By l) (hl : l.length ≤ maxLen) (ha : at_ ≤ 9223372036854775807) :
    Calls Tryz.prog 126 #[.slice b l.length d, .int .i64 at_] w (Took (takeN l at_) w) := by
  unfold maxLen at hl
  by_cases h0 : at_ < 0
  · rw [show takeN l at_ = (0, -1) by unfold takeN; rw [if_pos h0]]
    have hd : decide (at_ < 0) = true := by simpa using h0
    go_enter Tryz.func126, Tryz.ntmps126
    go_wp2
    refine wp_loop_rounds 1 ?_; rw [rounds_succ]; go_wp2
    go_ret2
    exact ⟨rfl, rfl⟩
  rw [show takeN l at_ = goN l at_.toNat 4 0 0 by unfold takeN; rw [if_neg h0, goN_ext hby _ 3 0 0 (by omega) (by omega)]]
  obtain ⟨a, rfl⟩ : ∃ a : Nat, at_ = a := ⟨at_.toNat, by omega⟩
  rw [Int.toNat_natCast]
  obtain ⟨r, hr⟩ : ∃ r, r = goN l a 4 0 0 := ⟨_, rfl⟩
  rw [← hr]
  have hd : decide ((a : Int) < 0) = false := by simp
  have HR := Lib.hid hr; have HBY := Lib.hid hby; clear hr hby h0
  rcases h with rfl | ⟨b1, off, rfl, hc⟩
  · have e : r = (0, -1) := by rw [HR.out]; exact goN_out (by simp)
    have HE := Lib.hid e; clear e
    go_enter Tryz.func126, Tryz.ntmps126
    go_wp2
    refine wp_loop_rounds 1 ?_; rw [rounds_succ]; go_wp2
    go_ret2
    exact took_eq HE.out ⟨rfl, rfl⟩
  have HC := Lib.hid hc; clear hc
  go_enter Tryz.func126, Tryz.ntmps126
  go_wp2
  go_loop [6, 7] (fun u i => TRel l a r 4 u i) (fun _ i => 4 - (intOf i).toNat)
  case atStart => exact ⟨0, 0, 0, rfl, rfl, rfl, by omega, by omega, by decide, HR.out.symm⟩
  case round =>
    obtain ⟨k, ki, n, rfl, rfl, hki, hk, hn0, hn1, hg⟩ := hrel
    have HG := Lib.hid hg; have HN := Lib.hid hn1; clear hg hn1
    by_cases hk4 : k = 4
    · subst hk4
      obtain rfl : ki = 4 := by rw [hki]; rfl
      clear hki
      have e : r = (0, -1) := by rw [← HG.out]; rfl
      have HE := Lib.hid e; clear e
      go_wp2
      go_ret2
      exact took_eq HE.out ⟨rfl, rfl⟩
    · rcases (show k = 0 ∨ k = 1 ∨ k = 2 ∨ k = 3 by omega) with rfl | rfl | rfl | rfl
      · obtain rfl : ki = 0 := by rw [hki]; rfl
        have pw : (128 : Int) ^ 0 = 1 := by decide
        have PW := Lib.hid pw
        have hn1 : n < 1 := by have := HN.out; rw [pw] at this; exact this
        clear hki hk hk4 pw HN
        obtain rfl : n = 0 := by omega
        by_cases hin : a + 0 < l.length
        · obtain ⟨v, hv, hlv, hcv, _⟩ := Rd.at_ HC.out hin
          have vb := HBY.out v hv
          rw [Nat.add_zero] at hcv hin
          have HLV := Lib.hid hlv; clear hv hlv
          by_cases h128 : 128 ≤ v
          · go_wp2
            go_round
            case rel =>
              refine ⟨1, 1, _, rfl, rfl, rfl, by omega, by omega, ?_, ?_⟩
              · have e : (128 : Int) ^ 1 = 128 := by decide
                rw [e]; omega
              · rw [← HG.out, show 4 - 0 = (4 - 1) + 1 from rfl, goN_more HLV.out h128, PW.out]
                rw [Int.zero_add, Int.mul_one]
            case measure => simp [intOf]
          · by_cases hv0 : v = 0
            · subst hv0
              have HE : Hid (r = (0, (a : Int) + 1)) := by
                show r = _
                rw [← HG.out, show 4 - 0 = 3 + 1 from rfl, goN_ok HLV.out (by omega) (by rw [PW.out]; omega), PW.out]
                rfl
              go_wp2
              go_ret2
              exact took_eq HE.out ⟨rfl, rfl⟩
            · have hvb : (v == 0) = false := by simpa using hv0
              obtain ⟨m, hm⟩ : ∃ m, v % 128 = m := ⟨_, rfl⟩
              have hm0 : 0 ≤ m := by omega
              have hm1 : m ≤ 268435455 := by omega
              have EM : Hid (0 + v % 128 * 128 ^ 0 = m) := by
                show _ = m
                rw [PW.out]; omega
              have HV0 := Lib.hid hv0; clear hn0 hn1 hv0
              have hbig : ¬ 2000000 < m := by omega
              have HE : Hid (r = (unf m, (a : Int) + 0 + 1)) := by
                show r = _
                rw [← HG.out, show 4 - 0 = (4 - 1) + 1 from rfl, goN_ok HLV.out (by omega) (by rw [EM.out]; have := HV0.out; omega), EM.out]
                simp
              have ho := unf_bd hm0 (by omega)
              rcases (show m % 2 = 0 ∨ m % 2 = 1 by omega) with hp | hp
              · have hpb : (m % 2 == 1) = false := by rw [hp]; rfl
                have HY := Lib.hid (unf_even hp)
                rw [← unf_even hp] at ho
                clear hp
                go_wp2_with (go_at_call 188; refine (l01Number_t _ _ (by omega)).mono ?_; rintro e w' ⟨rfl, rfl⟩)
                go_ret2
                exact took_eq HE.out ⟨ret_pair HY.out (by simp), rfl⟩
              · have hpb : (m % 2 == 1) = true := by rw [hp]; rfl
                obtain ⟨y, hy⟩ : ∃ y, wrap64 (-(m + 1).tdiv 2) = y := ⟨_, rfl⟩
                have HY : Hid (y = unf m) := by
                  show y = _
                  rw [← hy]; exact unf_odd hm0 hm1 hp
                rw [← unf_odd hm0 hm1 hp, hy] at ho
                clear hp
                go_wp2_with (go_at_call 188; refine (l01Number_t _ _ (by omega)).mono ?_; rintro e w' ⟨rfl, rfl⟩)
                go_ret2
                exact took_eq HE.out ⟨ret_pair HY.out (by simp), rfl⟩
        · have HE : Hid (r = (0, -1)) := by
            show r = _
            rw [← HG.out]; exact goN_out (by omega)
          go_wp2
          go_ret2
          exact took_eq HE.out ⟨rfl, rfl⟩
      · obtain rfl : ki = 1 := by rw [hki]; rfl
        have pw : (128 : Int) ^ 1 = 128 := by decide
        have PW := Lib.hid pw
        have hn1 : n < 128 := by have := HN.out; rw [pw] at this; exact this
        clear hki hk hk4 pw HN
        by_cases hin : a + 1 < l.length
        · obtain ⟨v, hv, hlv, hcv, _⟩ := Rd.at_ HC.out hin
          have vb := HBY.out v hv
          have HLV := Lib.hid hlv; clear hv hlv
          by_cases h128 : 128 ≤ v
          · go_wp2
            go_round
            case rel =>
              refine ⟨2, 2, _, rfl, rfl, rfl, by omega, by omega, ?_, ?_⟩
              · have e : (128 : Int) ^ 2 = 16384 := by decide
                rw [e]; omega
              · rw [← HG.out, show 4 - 1 = (4 - 2) + 1 from rfl, goN_more HLV.out h128, PW.out]

            case measure => simp [intOf]
          · by_cases hv0 : v = 0
            · subst hv0
              have HE : Hid (r = (0, -1)) := by
                show r = _
                rw [← HG.out, show 4 - 1 = (4 - 2) + 1 from rfl, goN_bad HLV.out (by omega) (by left; exact ⟨rfl, by omega⟩)]
              go_wp2
              all_goals
                go_ret2
                exact took_eq HE.out ⟨rfl, rfl⟩
            · have hvb : (v == 0) = false := by simpa using hv0
              obtain ⟨m, hm⟩ : ∃ m, n + v % 128 * 128 = m := ⟨_, rfl⟩
              have hm0 : 0 ≤ m := by omega
              have hm1 : m ≤ 268435455 := by omega
              have EM : Hid (n + v % 128 * 128 ^ 1 = m) := by
                show _ = m
                rw [PW.out]; omega
              have HV0 := Lib.hid hv0; clear hn0 hn1 hv0
              by_cases hbig : 2000000 < m
              · have HE : Hid (r = (0, -1)) := by
                  show r = _
                  rw [← HG.out, show 4 - 1 = (4 - 2) + 1 from rfl, goN_bad HLV.out (by omega) (by right; rw [EM.out]; exact hbig)]
                have ho := unf_out hbig
                rcases (show m % 2 = 0 ∨ m % 2 = 1 by omega) with hp | hp
                · have hpb : (m % 2 == 1) = false := by rw [hp]; rfl
                  rw [← unf_even hp] at ho
                  clear hp
                  go_wp2_with (go_at_call 188; refine (l01Number_f _ _ (by omega)).mono ?_; rintro e w' ⟨rfl, rfl⟩)
                  go_ret2
                  exact took_eq HE.out ⟨rfl, rfl⟩
                · have hpb : (m % 2 == 1) = true := by rw [hp]; rfl
                  obtain ⟨y, hy⟩ : ∃ y, wrap64 (-(m + 1).tdiv 2) = y := ⟨_, rfl⟩
                  rw [← unf_odd hm0 hm1 hp, hy] at ho
                  clear hp
                  go_wp2_with (go_at_call 188; refine (l01Number_f _ _ (by omega)).mono ?_; rintro e w' ⟨rfl, rfl⟩)
                  go_ret2
                  exact took_eq HE.out ⟨rfl, rfl⟩
              · have HE : Hid (r = (unf m, (a : Int) + 1 + 1)) := by
                  show r = _
                  rw [← HG.out, show 4 - 1 = (4 - 2) + 1 from rfl, goN_ok HLV.out (by omega) (by rw [EM.out]; have := HV0.out; omega), EM.out]
                  simp
                have ho := unf_bd hm0 (by omega)
                rcases (show m % 2 = 0 ∨ m % 2 = 1 by omega) with hp | hp
                · have hpb : (m % 2 == 1) = false := by rw [hp]; rfl
                  have HY := Lib.hid (unf_even hp)
                  rw [← unf_even hp] at ho
                  clear hp
                  go_wp2_with (go_at_call 188; refine (l01Number_t _ _ (by omega)).mono ?_; rintro e w' ⟨rfl, rfl⟩)
                  go_ret2
                  exact took_eq HE.out ⟨ret_pair HY.out (by simp), rfl⟩
                · have hpb : (m % 2 == 1) = true := by rw [hp]; rfl
                  obtain ⟨y, hy⟩ : ∃ y, wrap64 (-(m + 1).tdiv 2) = y := ⟨_, rfl⟩
                  have HY : Hid (y = unf m) := by
                    show y = _
                    rw [← hy]; exact unf_odd hm0 hm1 hp
                  rw [← unf_odd hm0 hm1 hp, hy] at ho
                  clear hp
                  go_wp2_with (go_at_call 188; refine (l01Number_t _ _ (by omega)).mono ?_; rintro e w' ⟨rfl, rfl⟩)
                  go_ret2
                  exact took_eq HE.out ⟨ret_pair HY.out (by simp), rfl⟩
        · have HE : Hid (r = (0, -1)) := by
            show r = _
            rw [← HG.out]; exact goN_out (by omega)
          go_wp2
          go_ret2
          exact took_eq HE.out ⟨rfl, rfl⟩
      · obtain rfl : ki = 2 := by rw [hki]; rfl
        have pw : (128 : Int) ^ 2 = 16384 := by decide
        have PW := Lib.hid pw
        have hn1 : n < 16384 := by have := HN.out; rw [pw] at this; exact this
        clear hki hk hk4 pw HN
        by_cases hin : a + 2 < l.length
        · obtain ⟨v, hv, hlv, hcv, _⟩ := Rd.at_ HC.out hin
          have vb := HBY.out v hv
          have HLV := Lib.hid hlv; clear hv hlv
          by_cases h128 : 128 ≤ v
          · go_wp2
            go_round
            case rel =>
              refine ⟨3, 3, _, rfl, rfl, rfl, by omega, by omega, ?_, ?_⟩
              · have e : (128 : Int) ^ 3 = 2097152 := by decide
                rw [e]; omega
              · rw [← HG.out, show 4 - 2 = (4 - 3) + 1 from rfl, goN_more HLV.out h128, PW.out]

            case measure => simp [intOf]
          · by_cases hv0 : v = 0
            · subst hv0
              have HE : Hid (r = (0, -1)) := by
                show r = _
                rw [← HG.out, show 4 - 2 = (4 - 3) + 1 from rfl, goN_bad HLV.out (by omega) (by left; exact ⟨rfl, by omega⟩)]
              go_wp2
              all_goals
                go_ret2
                exact took_eq HE.out ⟨rfl, rfl⟩
            · have hvb : (v == 0) = false := by simpa using hv0
              obtain ⟨m, hm⟩ : ∃ m, n + v % 128 * 16384 = m := ⟨_, rfl⟩
              have hm0 : 0 ≤ m := by omega
              have hm1 : m ≤ 268435455 := by omega
              have EM : Hid (n + v % 128 * 128 ^ 2 = m) := by
                show _ = m
                rw [PW.out]; omega
              have HV0 := Lib.hid hv0; clear hn0 hn1 hv0
              by_cases hbig : 2000000 < m
              · have HE : Hid (r = (0, -1)) := by
                  show r = _
                  rw [← HG.out, show 4 - 2 = (4 - 3) + 1 from rfl, goN_bad HLV.out (by omega) (by right; rw [EM.out]; exact hbig)]
                have ho := unf_out hbig
                rcases (show m % 2 = 0 ∨ m % 2 = 1 by omega) with hp | hp
                · have hpb : (m % 2 == 1) = false := by rw [hp]; rfl
                  rw [← unf_even hp] at ho
                  clear hp
                  go_wp2_with (go_at_call 188; refine (l01Number_f _ _ (by omega)).mono ?_; rintro e w' ⟨rfl, rfl⟩)
                  go_ret2
                  exact took_eq HE.out ⟨rfl, rfl⟩
                · have hpb : (m % 2 == 1) = true := by rw [hp]; rfl
                  obtain ⟨y, hy⟩ : ∃ y, wrap64 (-(m + 1).tdiv 2) = y := ⟨_, rfl⟩
                  rw [← unf_odd hm0 hm1 hp, hy] at ho
                  clear hp
                  go_wp2_with (go_at_call 188; refine (l01Number_f _ _ (by omega)).mono ?_; rintro e w' ⟨rfl, rfl⟩)
                  go_ret2
                  exact took_eq HE.out ⟨rfl, rfl⟩
              · have HE : Hid (r = (unf m, (a : Int) + 2 + 1)) := by
                  show r = _
                  rw [← HG.out, show 4 - 2 = (4 - 3) + 1 from rfl, goN_ok HLV.out (by omega) (by rw [EM.out]; have := HV0.out; omega), EM.out]
                  simp
                have ho := unf_bd hm0 (by omega)
                rcases (show m % 2 = 0 ∨ m % 2 = 1 by omega) with hp | hp
                · have hpb : (m % 2 == 1) = false := by rw [hp]; rfl
                  have HY := Lib.hid (unf_even hp)
                  rw [← unf_even hp] at ho
                  clear hp
                  go_wp2_with (go_at_call 188; refine (l01Number_t _ _ (by omega)).mono ?_; rintro e w' ⟨rfl, rfl⟩)
                  go_ret2
                  exact took_eq HE.out ⟨ret_pair HY.out (by simp), rfl⟩
                · have hpb : (m % 2 == 1) = true := by rw [hp]; rfl
                  obtain ⟨y, hy⟩ : ∃ y, wrap64 (-(m + 1).tdiv 2) = y := ⟨_, rfl⟩
                  have HY : Hid (y = unf m) := by
                    show y = _
                    rw [← hy]; exact unf_odd hm0 hm1 hp
                  rw [← unf_odd hm0 hm1 hp, hy] at ho
                  clear hp
                  go_wp2_with (go_at_call 188; refine (l01Number_t _ _ (by omega)).mono ?_; rintro e w' ⟨rfl, rfl⟩)
                  go_ret2
                  exact took_eq HE.out ⟨ret_pair HY.out (by simp), rfl⟩
        · have HE : Hid (r = (0, -1)) := by
            show r = _
            rw [← HG.out]; exact goN_out (by omega)
          go_wp2
          go_ret2
          exact took_eq HE.out ⟨rfl, rfl⟩
      · obtain rfl : ki = 3 := by rw [hki]; rfl
        have pw : (128 : Int) ^ 3 = 2097152 := by decide
        have PW := Lib.hid pw
        have hn1 : n < 2097152 := by have := HN.out; rw [pw] at this; exact this
        clear hki hk hk4 pw HN
        by_cases hin : a + 3 < l.length
        · obtain ⟨v, hv, hlv, hcv, _⟩ := Rd.at_ HC.out hin
          have vb := HBY.out v hv
          have HLV := Lib.hid hlv; clear hv hlv
          by_cases h128 : 128 ≤ v
          · go_wp2
            go_round
            case rel =>
              refine ⟨4, 4, _, rfl, rfl, rfl, by omega, by omega, ?_, ?_⟩
              · have e : (128 : Int) ^ 4 = 268435456 := by decide
                rw [e]; omega
              · rw [← HG.out, show 4 - 3 = (4 - 4) + 1 from rfl, goN_more HLV.out h128, PW.out]

            case measure => simp [intOf]
          · by_cases hv0 : v = 0
            · subst hv0
              have HE : Hid (r = (0, -1)) := by
                show r = _
                rw [← HG.out, show 4 - 3 = (4 - 4) + 1 from rfl, goN_bad HLV.out (by omega) (by left; exact ⟨rfl, by omega⟩)]
              go_wp2
              all_goals
                go_ret2
                exact took_eq HE.out ⟨rfl, rfl⟩
            · have hvb : (v == 0) = false := by simpa using hv0
              obtain ⟨m, hm⟩ : ∃ m, n + v % 128 * 2097152 = m := ⟨_, rfl⟩
              have hm0 : 0 ≤ m := by omega
              have hm1 : m ≤ 268435455 := by omega
              have EM : Hid (n + v % 128 * 128 ^ 3 = m) := by
                show _ = m
                rw [PW.out]; omega
              have HV0 := Lib.hid hv0; clear hn0 hn1 hv0
              by_cases hbig : 2000000 < m
              · have HE : Hid (r = (0, -1)) := by
                  show r = _
                  rw [← HG.out, show 4 - 3 = (4 - 4) + 1 from rfl, goN_bad HLV.out (by omega) (by right; rw [EM.out]; exact hbig)]
                have ho := unf_out hbig
                rcases (show m % 2 = 0 ∨ m % 2 = 1 by omega) with hp | hp
                · have hpb : (m % 2 == 1) = false := by rw [hp]; rfl
                  rw [← unf_even hp] at ho
                  clear hp
                  go_wp2_with (go_at_call 188; refine (l01Number_f _ _ (by omega)).mono ?_; rintro e w' ⟨rfl, rfl⟩)
                  go_ret2
                  exact took_eq HE.out ⟨rfl, rfl⟩
                · have hpb : (m % 2 == 1) = true := by rw [hp]; rfl
                  obtain ⟨y, hy⟩ : ∃ y, wrap64 (-(m + 1).tdiv 2) = y := ⟨_, rfl⟩
                  rw [← unf_odd hm0 hm1 hp, hy] at ho
                  clear hp
                  go_wp2_with (go_at_call 188; refine (l01Number_f _ _ (by omega)).mono ?_; rintro e w' ⟨rfl, rfl⟩)
                  go_ret2
                  exact took_eq HE.out ⟨rfl, rfl⟩
              · have HE : Hid (r = (unf m, (a : Int) + 3 + 1)) := by
                  show r = _
                  rw [← HG.out, show 4 - 3 = (4 - 4) + 1 from rfl, goN_ok HLV.out (by omega) (by rw [EM.out]; have := HV0.out; omega), EM.out]
                  simp
                have ho := unf_bd hm0 (by omega)
                rcases (show m % 2 = 0 ∨ m % 2 = 1 by omega) with hp | hp
                · have hpb : (m % 2 == 1) = false := by rw [hp]; rfl
                  have HY := Lib.hid (unf_even hp)
                  rw [← unf_even hp] at ho
                  clear hp
                  go_wp2_with (go_at_call 188; refine (l01Number_t _ _ (by omega)).mono ?_; rintro e w' ⟨rfl, rfl⟩)
                  go_ret2
                  exact took_eq HE.out ⟨ret_pair HY.out (by simp), rfl⟩
                · have hpb : (m % 2 == 1) = true := by rw [hp]; rfl
                  obtain ⟨y, hy⟩ : ∃ y, wrap64 (-(m + 1).tdiv 2) = y := ⟨_, rfl⟩
                  have HY : Hid (y = unf m) := by
                    show y = _
                    rw [← hy]; exact unf_odd hm0 hm1 hp
                  rw [← unf_odd hm0 hm1 hp, hy] at ho
                  clear hp
                  go_wp2_with (go_at_call 188; refine (l01Number_t _ _ (by omega)).mono ?_; rintro e w' ⟨rfl, rfl⟩)
                  go_ret2
                  exact took_eq HE.out ⟨ret_pair HY.out (by simp), rfl⟩
        · have HE : Hid (r = (0, -1)) := by
            show r = _
            rw [← HG.out]; exact goN_out (by omega)
          go_wp2
          go_ret2
          exact took_eq HE.out ⟨rfl, rfl⟩
end Go.Proofs.YtfpbhedophlnkaaGreatDoor
namespace Go.Proofs.YtfpbhedophlnkaaGreatDoor
open Go.RowKit Go.Extern.Stop Go.Stop Go.Extern
set_option linter.unusedSimpArgs false
set_option linter.unusedVariables false

theorem as_nil (t : Value) (w : World) :
    Calls Tryz.prog 235 #[.nilIface, t] w fun e w' => e = .returned (.bool false) ∧ w = w' := by
  go_enter Tryz.func235, Tryz.ntmps235
  go_wp2
  go_ret
  exact ⟨rfl, rfl⟩

theorem valueOfP (t : Addr) (w : World) : (ReflectliteValue.unpack (.iface 250 (.pointer (some t)))).run Tryz.prog w
    = .ok (.agg #[.pointer (some ⟨9, 250, none⟩), .pointer (some ⟨w.heap.size, 0, none⟩), .int .u64 150]) (w.alloc (.cells #[.pointer (some t)] 250)) := by kernel_rfl
theorem typeP (a : Addr) (w : World) : (ReflectliteValue.methodAny (ReflectliteValue.valueError "reflectlite.Value.Type" 0) (fun t _ _ _ => ReflectliteType.toType t) #[.agg #[.pointer (some ⟨9, 250, none⟩), .pointer (some a), .int .u64 150]]).run Tryz.prog w
    = .ok (.iface 327 (.agg #[.pointer (some ⟨9, 250, none⟩)])) w := by kernel_rfl
theorem methodKind (h : Value) (w : World) : (Go.method 490 327 (.agg #[h]) "Kind").run Tryz.prog w = .ok (349, h) w := by kernel_rfl
theorem kindP (w : World) : ((ReflectliteType.abiMethod fun t => (fun a : Nat => Value.int IntKind.u8 (a : Int)) <$> Rtype.kind t) #[.pointer (some ⟨9, 250, none⟩)]).run Tryz.prog w = .ok (.int .u8 22) w := by kernel_rfl
theorem kindS (w : World) : ((ReflectliteType.abiMethod fun t => (fun a : Nat => Value.int IntKind.u8 (a : Int)) <$> Rtype.kind t) #[.pointer (some ⟨9, 200, none⟩)]).run Tryz.prog w = .ok (.int .u8 25) w := by kernel_rfl

theorem rlm (z : Sem Value) (f : TypeId → Addr → Nat → Nat → Sem Value) (v : Value) :
    ReflectliteValue.method z f #[v] = (do match ← ReflectliteValue.parts v with | none => z | some (t, a, fl) => f t a fl (fl % 32)) := rfl
theorem partsP (a : Addr) (w : World) : (ReflectliteValue.parts (.agg #[.pointer (some ⟨9, 250, none⟩), .pointer (some a), .int .u64 150])).run Tryz.prog w = .ok (some (250, a, 150)) w := by kernel_rfl
theorem isNilP (a p : Addr) (W : World) (ha : W.cell? a = some (.pointer (some p))) :
    (ReflectliteValue.method (ReflectliteValue.valueError "reflectlite.Value.IsNil" 0) ReflectliteValue.isNil #[.agg #[.pointer (some ⟨9, 250, none⟩), .pointer (some a), .int .u64 150]]).run Tryz.prog W = .ok (.bool false) W := by
  rw [rlm]
  simp only [Sem.run_bind, partsP, Result.andThen]
  simp [ReflectliteValue.isNil, loadVar, isAgg, underlying, Tryz.underlying250, ha, Result.andThen]

theorem methodElem (h : Value) (w : World) : (Go.method 490 327 (.agg #[h]) "Elem").run Tryz.prog w = .ok (384, .agg #[h]) w := by kernel_rfl
theorem methodImplements (h : Value) (w : World) : (Go.method 490 327 (.agg #[h]) "Implements").run Tryz.prog w = .ok (385, .agg #[h]) w := by kernel_rfl
theorem methodAssignableTo (h : Value) (w : World) : (Go.method 490 327 (.agg #[h]) "AssignableTo").run Tryz.prog w = .ok (382, .agg #[h]) w := by kernel_rfl
theorem elemP (w : World) : (ReflectliteType.method ReflectliteType.elem #[.agg #[.pointer (some ⟨9, 250, none⟩)]]).run Tryz.prog w = .ok (.iface 327 (.agg #[.pointer (some ⟨9, 200, none⟩)])) w := by kernel_rfl
theorem implementsS (w : World) : (ReflectliteType.relation "Implements" ReflectliteType.implements_ #[.agg #[.pointer (some ⟨9, 200, none⟩)], .iface 327 (.agg #[.pointer (some ⟨9, 114, none⟩)])]).run Tryz.prog w = .ok (.bool true) w := by kernel_rfl
theorem typeOfS (v : Value) (w : World) : (ReflectliteType.typeOf #[.iface 200 v]).run Tryz.prog w = .ok (.iface 327 (.agg #[.pointer (some ⟨9, 200, none⟩)])) w := by kernel_rfl
theorem assignableS (w : World) : (ReflectliteType.relation "AssignableTo" ReflectliteType.assignableTo #[.agg #[.pointer (some ⟨9, 200, none⟩)], .iface 327 (.agg #[.pointer (some ⟨9, 200, none⟩)])]).run Tryz.prog w = .ok (.bool true) w := by kernel_rfl
theorem valueOfS (x y : Value) (w : World) : (ReflectliteValue.unpack (.iface 200 (.agg #[x, y]))).run Tryz.prog w
    = .ok (.agg #[.pointer (some ⟨9, 200, none⟩), .pointer (some ⟨w.heap.size, 0, none⟩), .int .u64 153]) (w.alloc (.cells #[x, y] 200)) := by kernel_rfl

theorem elemOfP (w : World) : (Rtype.elem? 250).run Tryz.prog w = .ok (some 200) w := by kernel_rfl
theorem mkS (p : Addr) (w : World) : (ReflectliteValue.mk 200 p ReflectliteValue.flagAddr).run Tryz.prog w = .ok (.agg #[.pointer (some ⟨9, 200, none⟩), .pointer (some p), .int .u64 409]) w := by kernel_rfl
theorem elemVP (a p : Addr) (W : World) (ha : W.cell? a = some (.pointer (some p))) :
    (ReflectliteValue.method (ReflectliteValue.valueError "reflectlite.Value.Elem" 0) ReflectliteValue.elem #[.agg #[.pointer (some ⟨9, 250, none⟩), .pointer (some a), .int .u64 150]]).run Tryz.prog W
      = .ok (.agg #[.pointer (some ⟨9, 200, none⟩), .pointer (some p), .int .u64 409]) W := by
  rw [rlm]
  simp only [Sem.run_bind, partsP, Result.andThen]
  simp [ReflectliteValue.elem, loadVar, isAgg, underlying, Tryz.underlying250, ha, Result.andThen, elemOfP, mkS]
theorem partsSa (a : Addr) (w : World) : (ReflectliteValue.parts (.agg #[.pointer (some ⟨9, 200, none⟩), .pointer (some a), .int .u64 409])).run Tryz.prog w = .ok (some (200, a, 409)) w := by kernel_rfl
theorem partsS (a : Addr) (w : World) : (ReflectliteValue.parts (.agg #[.pointer (some ⟨9, 200, none⟩), .pointer (some a), .int .u64 153])).run Tryz.prog w = .ok (some (200, a, 153)) w := by kernel_rfl
theorem directS (w : World) : (Rtype.directlyAssignable 200 200).run Tryz.prog w = .ok true w := by kernel_rfl
theorem sizeS (w : World) : (sizeOf 200).run Tryz.prog w = .ok 2 w := by kernel_rfl
/-- The shape of (Value).Set as far as it is walked here: what it does beside is left open. -/
theorem set_form (v x : Value) : ∃ (s1 s2 : String) (r : TypeId → Addr → TypeId → Value → Sem Value), ReflectliteValue.set #[v, x] = (do
    let (some (dst, a, fl), some (src, b, _)) := (← ReflectliteValue.parts v, ← ReflectliteValue.parts x) | unsupported (.noEntry s1)
    if fl / ReflectliteValue.flagAddr % 2 == 0 then unsupported (.noEntry s2)
    let val ← loadVar src b
    if (← Rtype.directlyAssignable dst src) then
      storeVar dst a val
      pure (.tuple #[])
    else r dst a src val) := ⟨_, _, fun _dst _a _src _val => _, rfl⟩
end Go.Proofs.YtfpbhedophlnkaaGreatDoor
