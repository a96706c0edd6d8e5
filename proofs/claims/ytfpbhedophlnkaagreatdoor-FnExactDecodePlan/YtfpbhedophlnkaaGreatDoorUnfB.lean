/-
  What is in a frame: how long, and of bytes. No program, no walk.
-/
import Derived.Test.YtfpbhedophlnkaaGreatDoorUnf
namespace Go.Proofs.YtfpbhedophlnkaaGreatDoor
open Go.RowKit
set_option linter.unusedSimpArgs false
set_option linter.unusedVariables false

theorem unfL_4000 {l m : List Int} (h : unfL l = some m) : m.length ≤ 4000 := by
  unfold unfL unfT at h
  split at h
  · split at h
    · cases h
    · split at h
      · injection h with h; rw [← h]; simp; omega
      · cases h
  · cases h
theorem unfL_by {l m : List Int} (hl : By l) (h : unfL l = some m) : By m := by
  unfold unfL unfT at h
  split at h
  · split at h
    · cases h
    · split at h
      · injection h with h; rw [← h]; exact hl.take_drop _ _
      · cases h
  · cases h
end Go.Proofs.YtfpbhedophlnkaaGreatDoor
