/-
  What is kept where one block alone has turned. No program, no walk.
-/
import Derived.Test.YtfpbhedophlnkaaGreatDoorMem
namespace Go.Proofs.YtfpbhedophlnkaaGreatDoor
open Go.RowKit
set_option linter.unusedSimpArgs false
set_option linter.unusedVariables false

theorem grownBy_trans {a b c : World} {row : Option Nat} (h : a.grownBy b row) (k : b.grownBy c row) : a.grownBy c row :=
  ⟨k.os.trans h.os, k.tape.trans h.tape, k.output.trans h.output, Nat.le_trans h.size k.size, fun i hi hne => (k.block i (Nat.lt_of_lt_of_le hi h.size) hne).trans (h.block i hi hne)⟩
theorem grownBy_below {a b c : World} {row : Option Nat} (h : a.grownBy b row) (k : Below b.heap.size b c) : a.grownBy c row :=
  ⟨k.os.trans h.os, k.tape.trans h.tape, k.output.trans h.output, Nat.le_trans h.size k.size, fun i hi hne => (k.block i (Nat.lt_of_lt_of_le hi h.size)).trans (h.block i hi hne)⟩
theorem Rd.far {w w' : World} {k : IntKind} {ao : Option Addr} {l : List Int} {g : Nat} (h : Rd w k ao l) (hne : ∀ a, ao = some a → l ≠ [] → a.block ≠ g) (hk : ∀ p : Addr, p.block ≠ g → w'.cell? p = w.cell? p) : Rd w' k ao l := by
  rcases h with rfl | ⟨b, off, rfl, hc⟩
  · exact .inl rfl
  · by_cases hl : l = []
    · exact .inl hl
    · exact .inr ⟨b, off, rfl, fun i hi => (hk ⟨b, off + i, none⟩ (hne ⟨b, off, none⟩ rfl hl)).trans (hc i hi)⟩
end Go.Proofs.YtfpbhedophlnkaaGreatDoor
