/-
  How long what is read out of bytes can be. No program, no walk.
-/
import Derived.Test.YtfpbhedophlnkaaGreatDoorCodR
namespace Go.Proofs.YtfpbhedophlnkaaGreatDoor
open Go.RowKit
set_option linter.unusedSimpArgs false
set_option linter.unusedVariables false

theorem takeNs_300 {l : List Int} (hl : By l) (p : Int) : (takeNs l p).1.length ≤ 300 := by
  unfold takeNs
  have bd := takeN_bd hl p
  split
  · simp
  · rename_i h
    rcases hk : rdN l (takeN l p).2 (takeN l p).1.toNat with _ | ⟨acc, q⟩
    · simp
    · have := (rdN_bd hl (by omega) (by omega) _ _ _ hk).1
      simp; omega
theorem listR_300 {l : List Int} (hl : By l) (s : Option Int) : (listR l s).1.length ≤ 300 := by
  unfold listR; repeat' split
  · simp
  · simp
  · exact takeNs_300 hl _
theorem wordR_12 (l : List Int) (s : Option Int) : (wordR l s).1.size ≤ 12 := by
  unfold wordR; repeat' split
  · exact Nat.zero_le _
  · exact Nat.zero_le _
  · exact takeW_12 _ _
theorem fieldR_cols {l : List Int} (hl : By l) (k : Int) (s : Option Int) : (fieldR l k s).1.cols.length ≤ 300 := by
  unfold fieldR; repeat' split
  all_goals first | exact listR_300 hl _ | simp
theorem fieldR_name (l : List Int) (k : Int) (s : Option Int) : (fieldR l k s).1.name.size ≤ 12 := by
  unfold fieldR; repeat' split
  all_goals first | exact wordR_12 l _ | exact Nat.zero_le _
theorem wordR_pl {l : List Int} (hl : By l) (s : Option Int) : Pl l (wordR l s).2 := by
  unfold wordR
  split
  · exact Pl.none_
  · split
    · exact Pl.none_
    · rename_i p h
      intro q hq
      injection hq with hq
      have := takeW_pl hl p
      omega
theorem takeNs_pl {l : List Int} (hl : By l) (p : Int) : (takeNs l p).2 = -1 ∨ (0 ≤ (takeNs l p).2 ∧ (takeNs l p).2 ≤ l.length) := by
  unfold takeNs
  have bd := takeN_bd hl p
  split
  · left; rfl
  · rename_i h
    rcases hk : rdN l (takeN l p).2 (takeN l p).1.toNat with _ | ⟨acc, q⟩
    · left; rfl
    · right
      have := (rdN_bd hl (by omega) (by omega) _ _ _ hk).2
      simpa using this
theorem listR_pl {l : List Int} (hl : By l) (s : Option Int) : Pl l (listR l s).2 := by
  unfold listR
  split
  · exact Pl.none_
  · split
    · exact Pl.none_
    · rename_i p h
      intro q hq
      injection hq with hq
      have := takeNs_pl hl p
      omega
theorem fieldR_pl {l : List Int} (hl : By l) (k : Int) {s : Option Int} (hs : Pl l s) : Pl l (fieldR l k s).2 := by
  unfold fieldR
  repeat' split
  all_goals first | exact wordR_pl hl _ | exact numR_pl hl _ | exact listR_pl hl _ | exact hs
theorem nodeR_pl {l : List Int} (hl : By l) (s : Option Int) : Pl l (nodeR l s).2 := by
  unfold nodeR
  split
  · exact fieldR_pl hl _ (numR_pl hl s)
  · exact Pl.none_
end Go.Proofs.YtfpbhedophlnkaaGreatDoor
