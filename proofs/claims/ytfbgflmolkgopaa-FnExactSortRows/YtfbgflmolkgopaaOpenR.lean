/-
  What a walk is told of a slice of rows that came in: it reads as one. No walk.
-/
import Derived.Test.YtfbgflmolkgopaaGr
import Derived.Test.YtfbgflmolkgopaaOpenN
namespace Go.Proofs.Ytfbgflmolkgopaa
open Go.RowKit Go.ChangeShapes Go.WideShapes Go.Deep
set_option linter.unusedSimpArgs false
set_option linter.unusedVariables false

theorem rows_of {α : Type} (P : Nat → α → Prop) : ∀ len : Nat, (∀ i, i < len → ∃ r, P i r) → ∃ l : List α, l.length = len ∧ ∀ i r, l[i]? = some r → P i r := by
  intro len
  induction len with
  | zero => intro _; exact ⟨[], rfl, fun i n h => by simp at h⟩
  | succ k ih =>
    intro h
    obtain ⟨l, hl, hh⟩ := ih fun i hi => h i (by omega)
    obtain ⟨n, hn⟩ := h k (by omega)
    refine ⟨l ++ [n], by simp [hl], fun i m hm => ?_⟩
    rcases Nat.lt_or_ge i l.length with h1 | h1
    · rw [List.getElem?_append_left h1] at hm; exact hh i m hm
    · rw [List.getElem?_append_right h1] at hm
      have : i = k := by
        rcases Nat.lt_or_ge (i - l.length) 1 with h2 | h2
        · omega
        · rw [List.getElem?_eq_none (by simpa using h2)] at hm; cases hm
      subst this
      rw [hl, Nat.sub_self] at hm
      simp at hm; subst hm; exact hn
section
variable {H : Type} {enc : TypeId × Value → H} {w : World} {base : Nat} {held : Bool}
theorem open_rows {fuel : Nat} {a : Option Addr} {len cap : Nat} {x : DataW H × List MemPlace} (h : DataW.trod enc Try.prog w base (fun _ => true) held fuel 40 [.slice a len cap] = some x) :
    ∃ l : List (List Int), len = l.length ∧ l.length ≤ cap ∧ cap ≤ maxLen ∧ RdR w a l := by
  have c1 : Try.prog.cellsOf 32 = 1 := by kernel_rfl
  rcases open_slice Try.underlying40 h with ⟨hcs, _⟩ | ⟨y, len', cap', m, n, D, Pl, hcs, _, hl, hm, hmm, _, hi⟩
  · simp at hcs
    obtain ⟨rfl, rfl, rfl⟩ := hcs
    exact ⟨[], rfl, Nat.zero_le _, Nat.zero_le _, .inl rfl⟩
  · simp at hcs
    obtain ⟨rfl, rfl, rfl⟩ := hcs
    by_cases h0 : len = 0
    · subst h0; exact ⟨[], rfl, Nat.zero_le _, hm, .inl rfl⟩
    · rw [c1] at hi
      simp only [if_true] at hmm
      obtain ⟨b, off, spot⟩ := y
      have one : ∀ cs' : List Value, cs'.length = 1 → ∃ v, cs' = [v] := by
        intro cs' h; match cs', h with | [v], _ => exact ⟨v, rfl⟩
      have hspot : spot = none := by
        obtain ⟨cs', hc, ht⟩ := hi 0 (by omega)
        have hlen := (World.cells?_some hc).2.1
        obtain ⟨v, rfl⟩ := one cs' (by omega)
        have := (World.cells?_some hc).2.2 0 (by omega)
        simpa [Addr.add] using World.cell?_spot (this.trans rfl)
      subst hspot
      obtain ⟨l, hl', hh⟩ := rows_of (fun i r => ∃ a c, RowAt w b (off + i) r a c) len (fun i him => by
        obtain ⟨cs', hc, ht⟩ := hi i (by omega)
        have hlen := (World.cells?_some hc).2.1
        obtain ⟨v, rfl⟩ := one cs' (by omega)
        obtain ⟨a', c', r, rfl, hr, h1, h2⟩ := open_colsN ht
        have hat := (World.cells?_some hc).2.2 0 (by omega)
        rw [add_add_eq] at hat
        refine ⟨r, a', c', ?_, hr, h1, h2⟩
        have := hat
        simpa using this)
      exact ⟨l, hl'.symm, by omega, hm, .inr ⟨b, off, rfl, hh⟩⟩
/-- A slice of numbers that came in, each of which is one. -/
theorem open_intsR {fuel : Nat} {a : Option Addr} {len cap : Nat} {x : DataW H × List MemPlace} (h : DataW.trod enc Try.prog w base (fun _ => true) held fuel 32 [.slice a len cap] = some x) :
    ∃ l : List Int, len = l.length ∧ l.length ≤ cap ∧ cap ≤ maxLen ∧ Rd w .i64 a l ∧ ∀ z ∈ l, (Lit.int .i64 z).wf = true := by
  rcases open_ints Try.underlying32 Try.underlying3 (by kernel_rfl) h with ⟨hcs, _⟩ | ⟨y, l, c, zs, hcs, _, hl, hm, hz, _, hcell, hwz⟩
  · simp at hcs
    obtain ⟨rfl, rfl, rfl⟩ := hcs
    exact ⟨[], rfl, Nat.zero_le _, Nat.zero_le _, .inl rfl, fun z h => by cases h⟩
  · simp at hcs
    obtain ⟨rfl, rfl, rfl⟩ := hcs
    have hr : IsRow .i64 w (some y) len cap zs := .inr ⟨_, rfl, hl, hm, by simpa using hz, hcell, hwz⟩
    obtain ⟨l', hl', h1, hrd, h2⟩ := hr.rd
    subst hl'
    exact ⟨l', rfl, hl, hm, hrd, by first | exact h2 | exact h1⟩
end
end Go.Proofs.Ytfbgflmolkgopaa
