/-
  Contracts of spec.WordOk and impl.WordOk: both answer whether the text is a word, and change nothing. For every text.
-/
import Derived.Test.YtfpbhedophlnkaaDoorRows
import Derived.Test.YtfpbhedophlnkaaDoorPure
import Derived.Test.YtfpbhedophlnkaaDoorMem
import Derived.WalkKit
import Derived.WalkSpells
import Derived.WalkLawsBesides
import Derived.Lib.Hide
namespace Go.Proofs.YtfpbhedophlnkaaDoor
open Go.RowKit
set_option linter.unusedSimpArgs false
set_option linter.unusedVariables false


theorem l01In_any (x a b : Int) (w : World) :
    Calls Tryd.prog 35 #[.int .i64 x, .int .i64 a, .int .i64 b] w fun e w' => e = .returned (.bool (decide (a ≤ x) && decide (x ≤ b))) ∧ w = w' := by
  by_cases h1 : a ≤ x
  · by_cases h2 : x ≤ b
    · go_enter Tryd.func35, Tryd.ntmps35
      go_wp2
      go_ret
      exact ⟨ret_bool (by simp [h1, h2]), rfl⟩
    · have h3 : b < x := by omega
      go_enter Tryd.func35, Tryd.ntmps35
      go_wp2
      go_ret
      exact ⟨ret_bool (by simp [h2]), rfl⟩
  · have h3 : x < a := by omega
    have h4 : decide (a ≤ x) = false := by simp; omega
    go_enter Tryd.func35, Tryd.ntmps35
    go_wp2
    go_ret
    exact ⟨ret_bool (by simp), rfl⟩

set_option maxHeartbeats 400000 in
theorem specWordOk_any (s : ByteArray) (w : World) (hs : s.size ≤ maxLen) :
    Calls Tryd.prog 36 #[.string s] w fun e w' => e = .returned (.bool (wordB s.data.toList)) ∧ w = w' := by
  unfold maxLen at hs
  by_cases h1 : 1 ≤ s.size ∧ s.size ≤ 12
  · obtain ⟨h1, h2⟩ := h1
    have h1' : (1 : Int) ≤ s.size := by omega
    have h2' : (s.size : Int) ≤ 12 := by omega
    by_cases h3 : s[0].toNat < 97
    · have hfin : wordB s.data.toList = false := wordB_head (by omega) h3
      have HF := Lib.hid hfin; clear hfin
      go_enter Tryd.func36, Tryd.ntmps36
      go_wp2_with (go_at_call 35; refine (l01In_any _ _ _ _).mono ?_; rintro e w' ⟨rfl, rfl⟩)
      go_ret
      exact ⟨ret_bool HF.out.symm, rfl⟩
    · go_enter Tryd.func36, Tryd.ntmps36
      go_wp2_with (go_at_call 35; refine (l01In_any _ _ _ _).mono ?_; rintro e w' ⟨rfl, rfl⟩)
      go_loop [3] (fun i => ∃ k : Nat, k ≤ s.size ∧ i = .int .i64 k ∧ allB (s.data.toList.take k) = true) (fun i => s.size - (intOf i).toNat)
      case atStart => exact ⟨0, Nat.zero_le _, rfl, rfl⟩
      case round =>
        obtain ⟨k, hk, rfl, hall⟩ := hrel
        have HA := Lib.hid hall; clear hall
        by_cases hlt : k < s.size
        · go_wp2
          all_goals first
            | (go_ret; exact ⟨ret_bool (wordB_no hlt (charF (by omega))).symm, rfl⟩)
            | (go_round
               case rel => exact ⟨k + 1, by omega, by go_num, by rw [allB_take_succ s k hlt, HA.out, charT (by omega)]; rfl⟩
               case measure => simp [intOf]; omega)
        · go_wp2
          go_ret
          exact ⟨ret_bool (wordB_yes (by omega) (by omega) (by omega) k (by omega) HA.out).symm, rfl⟩
  · have hfin : wordB s.data.toList = false := wordB_len h1
    have HF := Lib.hid hfin; clear hfin
    have h3 : (decide ((1 : Int) ≤ s.size) && decide ((s.size : Int) ≤ 12)) = false := by simp; omega
    have H3 := Lib.hid h3; clear h3
    go_enter Tryd.func36, Tryd.ntmps36
    go_wp2_with (go_at_call 35; refine (l01In_any _ _ _ _).mono ?_; rintro e w' ⟨rfl, rfl⟩; rw [H3.out])
    go_ret
    exact ⟨ret_bool HF.out.symm, rfl⟩

theorem isDigit_t (c : Nat) (w : World) (h1 : 48 ≤ c) (h2 : c ≤ 57) : Calls Tryd.prog 95 #[.int .u8 c] w fun e w' => e = .returned (.bool true) ∧ w = w' := by
  have h3 : (48 : Int) ≤ c := by omega
  have h4 : (c : Int) ≤ 57 := by omega
  go_enter Tryd.func95, Tryd.ntmps95
  go_wp2
  go_ret
  exact ⟨ret_bool (by simp), rfl⟩
theorem isDigit_f (c : Nat) (w : World) (h : c < 48 ∨ 57 < c) : Calls Tryd.prog 95 #[.int .u8 c] w fun e w' => e = .returned (.bool false) ∧ w = w' := by
  by_cases h1 : 48 ≤ c
  · have h3 : (57 : Int) < c := by omega
    go_enter Tryd.func95, Tryd.ntmps95
    go_wp2
    go_ret
    exact ⟨ret_bool (by simp; omega), rfl⟩
  · have h4 : decide ((48 : Int) ≤ (c : Int)) = false := by simp; omega
    go_enter Tryd.func95, Tryd.ntmps95
    go_wp2
    go_ret
    exact ⟨rfl, rfl⟩
theorem isLetter_t (c : Nat) (w : World) (h1 : 97 ≤ c) (h2 : c ≤ 122) : Calls Tryd.prog 96 #[.int .u8 c] w fun e w' => e = .returned (.bool true) ∧ w = w' := by
  have h3 : (97 : Int) ≤ c := by omega
  have h4 : (c : Int) ≤ 122 := by omega
  go_enter Tryd.func96, Tryd.ntmps96
  go_wp2
  go_ret
  exact ⟨ret_bool (by simp), rfl⟩
theorem isLetter_f (c : Nat) (w : World) (h : c < 97 ∨ 122 < c) : Calls Tryd.prog 96 #[.int .u8 c] w fun e w' => e = .returned (.bool false) ∧ w = w' := by
  by_cases h1 : 97 ≤ c
  · have h3 : (122 : Int) < c := by omega
    go_enter Tryd.func96, Tryd.ntmps96
    go_wp2
    go_ret
    exact ⟨ret_bool (by simp; omega), rfl⟩
  · have h4 : decide ((97 : Int) ≤ (c : Int)) = false := by simp; omega
    go_enter Tryd.func96, Tryd.ntmps96
    go_wp2
    go_ret
    exact ⟨rfl, rfl⟩

set_option maxHeartbeats 800000 in
theorem implWordOk_any (s : ByteArray) (w : World) (hs : s.size ≤ maxLen) :
    Calls Tryd.prog 94 #[.string s] w fun e w' => e = .returned (.bool (wordB s.data.toList)) ∧ w = w' := by
  unfold maxLen at hs
  by_cases h0 : s.size < 1
  · have HF := Lib.hid (wordB_len (s := s) (by omega))
    have h1 : decide ((s.size : Int) < 1) = true := by simp; omega
    go_enter Tryd.func94, Tryd.ntmps94
    go_wp2
    go_ret
    exact ⟨ret_bool HF.out.symm, rfl⟩
  by_cases h2 : 12 < s.size
  · have HF := Lib.hid (wordB_len (s := s) (by omega))
    have h1 : decide ((s.size : Int) < 1) = false := by simp; omega
    have h3 : decide ((12 : Int) < (s.size : Int)) = true := by simp; omega
    go_enter Tryd.func94, Tryd.ntmps94
    go_wp2
    go_ret
    exact ⟨ret_bool HF.out.symm, rfl⟩
  have hp : 0 < s.size := by omega
  have h1 : decide ((s.size : Int) < 1) = false := by simp; omega
  have h3 : decide ((12 : Int) < (s.size : Int)) = false := by simp; omega
  by_cases hd : 48 ≤ s[0].toNat ∧ s[0].toNat ≤ 57
  · obtain ⟨hd1, hd2⟩ := hd
    have HF := Lib.hid (wordB_head (s := s) (by omega) (by omega))
    go_enter Tryd.func94, Tryd.ntmps94
    go_wp2_with (go_at_call 95; refine (isDigit_t _ _ hd1 hd2).mono ?_; rintro e w' ⟨rfl, rfl⟩)
    go_ret
    exact ⟨ret_bool HF.out.symm, rfl⟩
  · have hd' : s[0].toNat < 48 ∨ 57 < s[0].toNat := by omega
    go_enter Tryd.func94, Tryd.ntmps94
    go_wp2_with (go_at_call 95; refine (isDigit_f _ _ hd').mono ?_; rintro e w' ⟨rfl, rfl⟩)
    go_loop [19] (fun i => ∃ k : Nat, k ≤ s.size ∧ i = .int .i64 k ∧ allB (s.data.toList.take k) = true) (fun i => s.size - (intOf i).toNat)
    case atStart => exact ⟨0, Nat.zero_le _, rfl, rfl⟩
    case round =>
      obtain ⟨k, hk, rfl, hall⟩ := hrel
      have HA := Lib.hid hall; clear hall
      by_cases hlt : k < s.size
      · by_cases hl : 97 ≤ s[k].toNat ∧ s[k].toNat ≤ 122
        · obtain ⟨hl1, hl2⟩ := hl
          go_wp2_with (go_at_call 96; refine (isLetter_t _ _ hl1 hl2).mono ?_; rintro e w' ⟨rfl, rfl⟩)
          go_round
          case rel => exact ⟨k + 1, by omega, by go_num, by rw [allB_take_succ s k hlt, HA.out, charT (by omega)]; rfl⟩
          case measure => simp [intOf]; omega
        · have hl' : s[k].toNat < 97 ∨ 122 < s[k].toNat := by omega
          by_cases hg : 48 ≤ s[k].toNat ∧ s[k].toNat ≤ 57
          · obtain ⟨hg1, hg2⟩ := hg
            go_wp2_with (first | (go_at_call 96; refine (isLetter_f _ _ hl').mono ?_; rintro e w' ⟨rfl, rfl⟩) | (go_at_call 95; refine (isDigit_t _ _ hg1 hg2).mono ?_; rintro e w' ⟨rfl, rfl⟩))
            go_round
            case rel => exact ⟨k + 1, by omega, by go_num, by rw [allB_take_succ s k hlt, HA.out, charT (by omega)]; rfl⟩
            case measure => simp [intOf]; omega
          · have hg' : s[k].toNat < 48 ∨ 57 < s[k].toNat := by omega
            have HF := Lib.hid (wordB_no hlt (charF (by omega)))
            go_wp2_with (first | (go_at_call 96; refine (isLetter_f _ _ hl').mono ?_; rintro e w' ⟨rfl, rfl⟩) | (go_at_call 95; refine (isDigit_f _ _ hg').mono ?_; rintro e w' ⟨rfl, rfl⟩))
            go_ret
            exact ⟨ret_bool HF.out.symm, rfl⟩
      · have h0c : charB s[0].toNat = true := by
          have e : s.data.toList.take k = s.data.toList := List.take_of_length_le (by simp; omega)
          have ha := HA.out; rw [e] at ha
          cases hc : charB s[0].toNat with
          | true => rfl
          | false => rw [allB_false_of s 0 (by omega) hc] at ha; cases ha
        have := char_of h0c
        go_wp2
        go_ret
        exact ⟨ret_bool (wordB_yes (by omega) (by omega) (by omega) k (by omega) HA.out).symm, rfl⟩
end Go.Proofs.YtfpbhedophlnkaaDoor
