/-
  The contract of laws.at at a number from 0 to 2, its value told: for every slice of bytes that is no longer than the law lets by. And the byte that a law turns.
-/
import Derived.Test.YtcegekkhlfpgfaaDoorDraw4
import Derived.Test.YtcegekkhlfpgfaaDoorRound2
namespace Go.Proofs.YtcegekkhlfpgfaaDoor
open Go.RowKit
set_option linter.unusedSimpArgs false
set_option linter.unusedVariables false

def atV (code : List Int) (k : Nat) : Int := if k < code.length then code.getD k 0 else ((k : Int) * 13 + code.length * 5) % 256
theorem atV_bd {code : List Int} (hby : By code) (k : Nat) : 0 ≤ atV code k ∧ atV code k ≤ 255 := by
  unfold atV
  split
  · rename_i h
    rw [List.getD_eq_getElem?_getD, List.getElem?_eq_getElem h]
    have := hby _ (List.getElem_mem h)
    simp
    omega
  · omega
set_option maxRecDepth 100000 in
theorem at_val (ao : Option Addr) (d : Nat) (code : List Int) (i : Int) (k : Nat) (w : World) (hi : i = k) (hr : Rd w .u8 ao code) (hby : By code) (hl : code.length ≤ 1048576) (h1 : k ≤ 2) :
    Calls Tryd.prog 38 #[.slice ao code.length d, .int .i64 i] w fun e w' => e = .returned (.int .i64 (atV code k)) ∧ w' = w := by
  have hl' : (code.length : Int) ≤ 1048576 := by omega
  subst hi
  by_cases hlt : k < code.length
  · rcases hr with rfl | ⟨b1, off, rfl, hc⟩
    · simp at hlt
    · obtain ⟨z, hz, hz2, hcz, _⟩ := Rd.at_ hc hlt
      have zb := hby z hz
      have HV : Hid (atV code k = z) := Lib.hid (by unfold atV; rw [if_pos hlt, List.getD_eq_getElem?_getD, hz2]; rfl)
      clear hz hz2 hc hby hl
      go_enter Tryd.func38, Tryd.ntmps38
      go_wp2
      go_ret
      exact ⟨by rw [HV.out]; rfl, rfl⟩
  · have HV : Hid (atV code k = ((k : Int) * 13 + code.length * 5) % 256) := Lib.hid (by unfold atV; rw [if_neg hlt])
    clear hr hby hl
    go_enter Tryd.func38, Tryd.ntmps38
    go_wp2
    go_ret
    exact ⟨by rw [HV.out]; rfl, rfl⟩
end Go.Proofs.YtcegekkhlfpgfaaDoor
