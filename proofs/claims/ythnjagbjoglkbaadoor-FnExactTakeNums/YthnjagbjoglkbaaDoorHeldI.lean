/-
  Contract of heldIntS. For every slice of int.
-/
import Derived.Test.YthnjagbjoglkbaaDoorSlice
namespace Go.Proofs.YthnjagbjoglkbaaDoor
open Go.RowKit

set_option maxHeartbeats 800000 in
theorem heldIntS_any (ao : Option Addr) (c n : Nat) (m : Int) (w : World) (h : Rd w .i64 ao (marksL id m n)) (h0 : 0 ≤ m) (hm : m + n ≤ 4611686018427387904) :
    Calls Tryd.prog 34 #[.slice ao n c, .int .i64 m] w fun e w' => e = .returned (.int .i64 (m + n)) ∧ w = w' := by
  rcases h with h | ⟨b, off, rfl, hc⟩
  · have hn : n = 0 := by have := congrArg List.length h; rw [marksL_len] at this; simpa using this
    subst hn
    clear h
    go_enter Tryd.func34, Tryd.ntmps34
    go_wp2
    refine wp_loop_rounds 1 ?_; rw [rounds_succ]; go_wp2
    go_ret
    exact ⟨ret_int (by simp), rfl⟩
  · have hc' : ∀ i : Nat, i < n → w.cell? ⟨b, off + i, none⟩ = some (.int .i64 (id (m + (i : Int)))) := by
      intro i hi
      rw [hc i (by rw [marksL_len]; exact hi), List.getD_eq_getElem?_getD, marksL_get _ _ _ _ hi]; rfl
    have HC := Lib.hid hc'; clear hc hc'
    go_enter Tryd.func34, Tryd.ntmps34
    go_wp2
    go_loop [1, 5] (fun q i => ∃ j : Nat, j ≤ n ∧ i = .int .i64 j ∧ q = .int .i64 (m + j)) (fun _ i => n - (intOf i).toNat)
    case atStart => exact ⟨0, Nat.zero_le _, rfl, by simp⟩
    case round =>
      obtain ⟨j, hj, rfl, rfl⟩ := hrel
      by_cases hlt : j < n
      · have hcz := HC.out j hlt
        go_wp2
        go_round
        case rel => exact ⟨j + 1, by omega, by go_num, by go_num⟩
        case measure => simp [intOf]; omega
      · obtain rfl : j = n := by omega
        go_wp2
        go_ret
        exact ⟨rfl, rfl⟩
end Go.Proofs.YthnjagbjoglkbaaDoor
