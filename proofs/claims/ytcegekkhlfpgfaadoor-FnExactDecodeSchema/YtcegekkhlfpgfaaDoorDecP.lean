/-
  A schema read out of bytes, as plain lists; the call that answers tables beside a bool. No program, no walk.
-/
import Derived.Test.YtcegekkhlfpgfaaDoorRCntP
import Derived.Test.YtcegekkhlfpgfaaDoorUnf
import Derived.Test.YtcegekkhlfpgfaaDoorTbP
namespace Go.Proofs.YtcegekkhlfpgfaaDoor
open Go.RowKit
set_option linter.unusedSimpArgs false
set_option linter.unusedVariables false

def decQ (l : List Int) : Option (List Tb) :=
  match unfL l with
  | none => none
  | some m => match countT m (some 0) 8 with
    | none => none
    | some (acc, q) => if q = m.length ∧ schemaB acc = true then some acc else none
/-- The call returned tables of its own beside a bool, and nothing that was there has turned. -/
def MadeT2 (res : Option (List Tb)) (w : World) (e : Ending) (w' : World) : Prop :=
  ∃ ao c, e = .returned (.tuple #[.slice ao (res.getD []).length c, .bool res.isSome]) ∧ OwnT w' w.heap.size ao c (res.getD []) ∧ Below w.heap.size w w'
theorem madeT2_no {res : Option (List Tb)} {w w' : World} (h : res = none) (hb : Below w.heap.size w w') : MadeT2 res w (.returned (.tuple #[.slice none 0 0, .bool false])) w' := by
  rw [h]; exact ⟨none, 0, rfl, OwnT.none_, hb⟩
theorem madeT2_yes {res : Option (List Tb)} {w w' : World} {acc : List Tb} {ao : Option Addr} {c n : Nat} (h : res = some acc) (hn : n = acc.length) (ho : OwnT w' w.heap.size ao c acc) (hb : Below w.heap.size w w') : MadeT2 res w (.returned (.tuple #[.slice ao n c, .bool true])) w' := by
  rw [h, hn]; exact ⟨ao, c, rfl, ho, hb⟩
theorem unfL_4000 {l m : List Int} (h : unfL l = some m) : m.length ≤ 4000 := by
  unfold unfL unfT at h
  split at h
  · split at h
    · cases h
    · split at h
      · injection h with h; rw [← h]; simp; omega
      · cases h
  · cases h
theorem unfL_by {l m : List Int} (hl : By l) (h : unfL l = some m) : By m := by
  unfold unfL unfT at h
  split at h
  · split at h
    · cases h
    · split at h
      · injection h with h; rw [← h]; exact hl.take_drop _ _
      · cases h
  · cases h
end Go.Proofs.YtcegekkhlfpgfaaDoor
