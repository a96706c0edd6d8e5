/-
  Contract of the program's reader's end. For every slice of bytes and every place.
-/
import Derived.Test.YtfpbhedophlnkaaGreatDoorKT2
import Derived.Deep.QuietTactic
import Derived.BigQuiet
namespace Go.Proofs.YtfpbhedophlnkaaGreatDoor
open Go.RowKit
set_option linter.unusedSimpArgs false
set_option linter.unusedVariables false

set_option maxRecDepth 100000 in
theorem rEnd_any (R : Nat) (b : Option Addr) (d : Nat) (l : List Int) (p : Int) (w : World) (h : Rdr w R b d l (some p)) :
    Calls Tryz.prog 95 #[.pointer (some ⟨R, 0, none⟩)] w fun e w' => e = .returned (.bool (p == l.length)) ∧ Below w.heap.size w w' := by
  obtain ⟨q, er, hh, hp, he, _⟩ := h
  obtain rfl : q = p := by
    rcases he with ⟨hs, _⟩ | ⟨hs, _⟩
    · injection hs with hs; exact hs.symm
    · cases hs
  have c0 : w.cell? ⟨R, 0, none⟩ = some (.slice b l.length d) := cell_of_row w R 0 _ _ _ hh
  have c1 : w.cell? ⟨R, 1, none⟩ = some (.int .i64 q) := cell_of_row w R 1 _ _ _ hh
  clear hh he hp
  go_enter Tryz.func95, Tryz.ntmps95
  go_wp2_with fail
  go_quiet (fail)
  go_wp2_with fail
  go_ret
  exact ⟨rfl, below_drewN (Below.refl _ _) _⟩
end Go.Proofs.YtfpbhedophlnkaaGreatDoor
