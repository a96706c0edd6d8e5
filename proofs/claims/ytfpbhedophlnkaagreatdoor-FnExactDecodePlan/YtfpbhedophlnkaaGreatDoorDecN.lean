/-
  A plan read out of bytes: the call that answers nodes beside a number; bounds. No program, no walk.
-/
import Derived.Test.YtfpbhedophlnkaaGreatDoorRCntN
import Derived.Test.YtfpbhedophlnkaaGreatDoorUnfB
import Derived.Test.YtfpbhedophlnkaaGreatDoorKH
namespace Go.Proofs.YtfpbhedophlnkaaGreatDoor
open Go.RowKit
set_option linter.unusedSimpArgs false
set_option linter.unusedVariables false

/-- The call returned nodes of its own beside a number, and nothing that was there has turned. -/
def MadeN2 (res : List Nd × Int) (w : World) (e : Ending) (w' : World) : Prop :=
  ∃ ao c, e = .returned (.tuple #[.slice ao res.1.length c, .int .i64 res.2]) ∧ OwnN w' w.heap.size ao c res.1 ∧ Below w.heap.size w w'
theorem madeN2_no {res : List Nd × Int} {x : Int} {w w' : World} (h : res = ([], x)) (hb : Below w.heap.size w w') : MadeN2 res w (.returned (.tuple #[.slice none 0 0, .int .i64 x])) w' := by
  rw [h]; exact ⟨none, 0, rfl, .inl rfl, hb⟩
theorem madeN2_yes {res : List Nd × Int} {x : Int} {w w' : World} {acc : List Nd} {ao : Option Addr} {c n : Nat} (h : res = (acc, x)) (hn : n = acc.length) (ho : OwnN w' w.heap.size ao c acc) (hb : Below w.heap.size w w') : MadeN2 res w (.returned (.tuple #[.slice ao n c, .int .i64 x])) w' := by
  rw [h, hn]; exact ⟨ao, c, rfl, ho, hb⟩
theorem decP_small {l : List Int} (hl : By l) : (decP l).1.length ≤ 40 ∧ ∀ n ∈ (decP l).1, n.cols.length ≤ 300 := by
  unfold decP
  cases hu : unfL l with
  | none => simp
  | some m =>
    simp only
    cases hc : countNd m (some 0) 40 with
    | none => simp
    | some x =>
      obtain ⟨acc, q⟩ := x
      simp only
      split
      · simp
      · split
        · exact ⟨countNd_40 hc, countNd_cols (unfL_by hl hu) hc⟩
        · simp
end Go.Proofs.YtfpbhedophlnkaaGreatDoor
