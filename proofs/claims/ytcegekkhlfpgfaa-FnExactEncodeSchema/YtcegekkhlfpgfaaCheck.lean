/-
  Contracts of spec.CheckOf and impl.CheckOf: both answer the check sum of the bytes that the slice reads as, and change nothing. For every slice of bytes.
-/
import Derived.Test.YtcegekkhlfpgfaaRows
import Derived.Test.YtcegekkhlfpgfaaMem
import Derived.WalkKit
import Derived.WalkSpells
import Derived.WalkLawsBesides
namespace Go.Proofs.Ytcegekkhlfpgfaa
open Go.RowKit
set_option linter.unusedSimpArgs false
set_option linter.unusedVariables false

def chk (l : List Int) : Int := l.foldl (fun s c => (269 * s + c) % 999983) 5
theorem chk_snoc (l : List Int) (z : Int) : chk (l ++ [z]) = (269 * chk l + z) % 999983 := by unfold chk; rw [List.foldl_append]; rfl
theorem chk_bd (l : List Int) : 0 ≤ chk l ∧ chk l < 999983 := by
  rcases List.eq_nil_or_concat l with rfl | ⟨l', z, rfl⟩
  · exact ⟨by decide, by decide⟩
  · rw [List.concat_eq_append, chk_snoc]; omega

set_option maxHeartbeats 400000 in
theorem specCheckOf_any (ao : Option Addr) (c : Nat) (l : List Int) (w : World) (h : Rd w .u8 ao l) (hb : By l) (hn : l.length ≤ maxLen) :
    Calls Try.prog 51 #[.slice ao l.length c] w fun e w' => e = .returned (.int .i64 (chk l)) ∧ w = w' := by
  unfold maxLen at hn
  rcases h with rfl | ⟨b, off, rfl, hc⟩
  · go_enter Try.func51, Try.ntmps51
    go_wp2
    refine wp_loop_rounds 1 ?_; rw [rounds_succ]; go_wp2
    go_ret
    exact ⟨rfl, rfl⟩
  · go_enter Try.func51, Try.ntmps51
    go_wp2
    go_loop [3, 4] (fun s i => ∃ k : Nat, k ≤ l.length ∧ i = .int .i64 k ∧ s = .int .i64 (chk (l.take k))) (fun _ i => l.length - (intOf i).toNat)
    case atStart => exact ⟨0, Nat.zero_le _, rfl, rfl⟩
    case round =>
      obtain ⟨k, hk, rfl, rfl⟩ := hrel
      have bd := chk_bd (l.take k)
      by_cases hlt : k < l.length
      · obtain ⟨z, hz, _, hcz, ht⟩ := Rd.at_ hc hlt
        have zb := hb z hz
        have HT := Lib.hid ht; clear ht hc
        go_wp2
        go_round
        case rel => exact ⟨k + 1, by omega, by go_num, by rw [HT.out, chk_snoc]⟩
        case measure => simp [intOf]; omega
      · go_wp2
        go_ret
        exact ⟨ret_int (by rw [List.take_of_length_le (by omega)]), rfl⟩

set_option maxHeartbeats 400000 in
theorem implCheckOf_any (ao : Option Addr) (c : Nat) (l : List Int) (w : World) (h : Rd w .u8 ao l) (hb : By l) (hn : l.length ≤ maxLen) :
    Calls Try.prog 52 #[.slice ao l.length c] w fun e w' => e = .returned (.int .i64 (chk l)) ∧ w = w' := by
  unfold maxLen at hn
  rcases h with rfl | ⟨b, off, rfl, hc⟩
  · go_enter Try.func52, Try.ntmps52
    go_wp2
    refine wp_loop_rounds 1 ?_; rw [rounds_succ]; go_wp2
    go_ret
    exact ⟨rfl, rfl⟩
  · go_enter Try.func52, Try.ntmps52
    go_wp2
    go_loop [3, 8] (fun s i => ∃ k : Nat, k ≤ l.length ∧ i = .int .i64 k ∧ s = .int .i64 (chk (l.take k))) (fun _ i => l.length - (intOf i).toNat)
    case atStart => exact ⟨0, Nat.zero_le _, rfl, rfl⟩
    case round =>
      obtain ⟨k, hk, rfl, rfl⟩ := hrel
      have bd := chk_bd (l.take k)
      by_cases hlt : k < l.length
      · obtain ⟨z, hz, _, hcz, ht⟩ := Rd.at_ hc hlt
        have zb := hb z hz
        have HT := Lib.hid ht; clear ht hc
        go_wp2
        go_round
        case rel => exact ⟨k + 1, by omega, by go_num, by rw [HT.out, chk_snoc, Int.mul_comm 269]⟩
        case measure => simp [intOf]; omega
      · go_wp2
        go_ret
        exact ⟨ret_int (by rw [List.take_of_length_le (by omega)]), rfl⟩
end Go.Proofs.Ytcegekkhlfpgfaa
