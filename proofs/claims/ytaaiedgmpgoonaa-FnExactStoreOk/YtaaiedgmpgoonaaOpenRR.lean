/-
  What a walk is told of a slice of lists of rows that came in: it reads as one. No walk.
-/
import Derived.Test.YtaaiedgmpgoonaaGrR
import Derived.Test.YtaaiedgmpgoonaaOpenR
namespace Go.Proofs.Ytaaiedgmpgoonaa
open Go.RowKit Go.ChangeShapes Go.WideShapes Go.Deep
set_option linter.unusedSimpArgs false
set_option linter.unusedVariables false

section
variable {H : Type} {enc : TypeId × Value → H} {w : World} {base : Nat} {held : Bool}
theorem open_slice_shape {fuel : Nat} {v : Value} {x : DataW H × List MemPlace} (h : DataW.trod enc Try.prog w base (fun _ => true) held fuel 53 [v] = some x) : ∃ a len cap, v = .slice a len cap := by
  rcases open_slice Try.underlying53 h with ⟨hcs, _⟩ | ⟨y, len', cap', m, n, D, Pl, hcs, _⟩
  · simp at hcs; exact ⟨_, _, _, hcs⟩
  · simp at hcs; exact ⟨_, _, _, hcs⟩
theorem open_rowss {fuel : Nat} {a : Option Addr} {len cap : Nat} {x : DataW H × List MemPlace} (h : DataW.trod enc Try.prog w base (fun _ => true) held fuel 41 [.slice a len cap] = some x) :
    ∃ l : List (List (List Int)), len = l.length ∧ l.length ≤ cap ∧ cap ≤ maxLen ∧ RdRR w a l := by
  have c1 : Try.prog.cellsOf 53 = 1 := by kernel_rfl
  rcases open_slice Try.underlying41 h with ⟨hcs, _⟩ | ⟨y, len', cap', m, n, D, Pl, hcs, _, hl, hm, hmm, _, hi⟩
  · simp at hcs
    obtain ⟨rfl, rfl, rfl⟩ := hcs
    exact ⟨[], rfl, Nat.zero_le _, Nat.zero_le _, .inl rfl⟩
  · simp at hcs
    obtain ⟨rfl, rfl, rfl⟩ := hcs
    by_cases h0 : len = 0
    · subst h0; exact ⟨[], rfl, Nat.zero_le _, hm, .inl rfl⟩
    · rw [c1] at hi
      simp only [if_true] at hmm
      obtain ⟨b, off, spot⟩ := y
      have one : ∀ cs' : List Value, cs'.length = 1 → ∃ v, cs' = [v] := by
        intro cs' h; match cs', h with | [v], _ => exact ⟨v, rfl⟩
      have hspot : spot = none := by
        obtain ⟨cs', hc, ht⟩ := hi 0 (by omega)
        have hlen := (World.cells?_some hc).2.1
        obtain ⟨v, rfl⟩ := one cs' (by omega)
        have := (World.cells?_some hc).2.2 0 (by omega)
        simpa [Addr.add] using World.cell?_spot (this.trans rfl)
      subst hspot
      obtain ⟨l, hl', hh⟩ := rows_of (fun i r => ∃ a c, RowsAt w b (off + i) r a c) len (fun i him => by
        obtain ⟨cs', hc, ht⟩ := hi i (by omega)
        have hlen := (World.cells?_some hc).2.1
        obtain ⟨v, rfl⟩ := one cs' (by omega)
        obtain ⟨a', len', c', rfl⟩ := open_slice_shape ht
        obtain ⟨r, rfl, h1, h2, hr⟩ := open_rows ht
        have hat := (World.cells?_some hc).2.2 0 (by omega)
        rw [add_add_eq] at hat
        refine ⟨r, a', c', ?_, hr, h1, h2⟩
        have := hat
        simpa using this)
      exact ⟨l, hl'.symm, by omega, hm, .inr ⟨b, off, rfl, hh⟩⟩
end
end Go.Proofs.Ytaaiedgmpgoonaa
