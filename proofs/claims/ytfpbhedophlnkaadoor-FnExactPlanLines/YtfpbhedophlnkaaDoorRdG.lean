/-
  One number of a slice that reads. No program, no walk.
-/
import Derived.Test.YtfpbhedophlnkaaDoorMem
namespace Go.Proofs.YtfpbhedophlnkaaDoor
open Go.RowKit
set_option linter.unusedSimpArgs false
set_option linter.unusedVariables false

theorem Rd.get {w : World} {k : IntKind} {ao : Option Addr} {l : List Int} {i : Nat} (h : Rd w k ao l) (hi : i < l.length) :
    ∃ b off z, ao = some ⟨b, off, none⟩ ∧ l[i]? = some z ∧ w.cell? ⟨b, off + i, none⟩ = some (.int k z) := by
  rcases h with rfl | ⟨b, off, rfl, hc⟩
  · simp at hi
  · obtain ⟨z, _, h1, h2, _⟩ := Rd.at_ hc hi
    exact ⟨b, off, z, rfl, h1, h2⟩
end Go.Proofs.YtfpbhedophlnkaaDoor
