/-
  A slice of one slice of bytes, made in place. No program, no walk.
-/
import Derived.Test.YtcegekkhlfpgfaaBhd
namespace Go.Proofs.Ytcegekkhlfpgfaa
open Go.RowKit
set_option linter.unusedSimpArgs false
set_option linter.unusedVariables false

theorem ownB_one {w : World} {base : Nat} {a : Option Addr} {c : Nat} {l : List Int} (h : Own w base 5 .u8 a c l) (hb : base ≤ w.heap.size) : OwnB (w.alloc (.cells #[.slice a l.length c] 26)) base (some ⟨w.heap.size, 0, none⟩) 1 [l] := by
  refine ⟨[.slice a l.length c], ⟨rfl, .inr ⟨w.heap.size, 1, _, rfl, hb, heap_alloc_new w _, Nat.le_refl _, by unfold maxLen; omega, rfl, rfl⟩⟩, rfl, fun i m hi => ?_⟩
  match i, hi with
  | 0, hi => cases hi; exact ⟨a, c, rfl, h.alloc _⟩

end Go.Proofs.Ytcegekkhlfpgfaa
