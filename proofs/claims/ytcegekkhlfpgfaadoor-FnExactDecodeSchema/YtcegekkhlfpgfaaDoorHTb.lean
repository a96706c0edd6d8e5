/-
  Contracts of the helpers over tables: szTable, szTableS, toTable, toTableS, eqTable, eqTableS. For every slice of tables.
-/
import Derived.Test.YtcegekkhlfpgfaaDoorTb
import Derived.Deep.RegionWith
namespace Go.Proofs.YtcegekkhlfpgfaaDoor
open Go.RowKit
set_option linter.unusedSimpArgs false
set_option linter.unusedVariables false

/-- A table's value. -/
abbrev tbV (t : Tb) : Value := .agg #[.string t.name, .int .i64 t.width]
theorem Tryd.infoTable : (Tryd.prog.info? 71).map (fun i => (i.zero, i.size, i.bytes)) = some (some (.agg #[.string ⟨#[]⟩, .int .i64 0]), 2, 24) := by kernel_rfl
def szB (t : Tb) (left : Int) : Int := if left - (t.name.size : Int) < 0 then -1 else left - t.name.size

/-- How many letters there are. -/
def totT (l : List Tb) : Nat := (l.map fun t => t.name.size).sum
theorem totT_take {l : List Tb} {k : Nat} {t : Tb} (h : l[k]? = some t) : totT (l.take (k + 1)) = totT (l.take k) + t.name.size := by
  rw [List.take_add_one, h]; simp [totT]
def SzPostT (w : World) (l : List Tb) (left : Int) (e : Ending) (w' : World) : Prop :=
  ∃ r : Int, e = .returned (.int .i64 r) ∧ Below w.heap.size w w' ∧ (r = -1 ∨ (0 ≤ r ∧ r + l.length + totT l = left))
theorem szB_neg {t : Tb} {left : Int} (h : szB t left < 0) : szB t left = -1 := by unfold szB at h ⊢; split <;> omega
theorem szB_pos {t : Tb} {left : Int} (h : 0 ≤ szB t left) : szB t left + t.name.size = left := by unfold szB at h ⊢; split <;> omega

/-- A row of tables of which the first j are laid. -/
def PartT (w : World) (base g c m : Nat) (l : List Tb) (j : Nat) : Prop :=
  ∃ xs, w.ownsRow base 71 2 (.slice (some ⟨g, 0, none⟩) m c) m xs ∧ xs.take (j * 2) = tbC (l.take j)
theorem PartT.below {w w' : World} {base g c m : Nat} {l : List Tb} {j : Nat} (h : PartT w base g c m l j) (hb : Below w.heap.size w w') : PartT w' base g c m l j := by
  obtain ⟨xs, h1, h2⟩ := h
  have hg := (h1.lt g rfl).2
  refine ⟨xs, ⟨h1.1, ?_⟩, h2⟩
  rcases h1.2 with h3 | ⟨g', cap, cur, hv, hb', hg', r⟩
  · exact .inl h3
  · refine .inr ⟨g', cap, cur, hv, hb', ?_, r⟩
    simp only [Value.slice.injEq, Option.some.injEq, Addr.mk.injEq, and_true] at hv
    rw [hb.block g' (by rw [← hv.1]; exact hg)]; exact hg'
theorem take_set2 {xs : List Value} {j : Nat} {u v : Value} (h : j * 2 + 1 < xs.length) : (((xs.set (j * 2) u).set (j * 2 + 1) v).take ((j + 1) * 2)) = xs.take (j * 2) ++ [u, v] := by
  apply List.ext_getElem?
  intro i
  rw [List.getElem?_take]
  by_cases hi : i < (j + 1) * 2
  · rw [if_pos hi]
    by_cases h1 : i < j * 2
    · rw [List.getElem?_set_ne (by omega), List.getElem?_set_ne (by omega), List.getElem?_append_left (by simp; omega), List.getElem?_take_of_lt h1]
    · rw [List.getElem?_append_right (by simp; omega)]
      have hl : (xs.take (j * 2)).length = j * 2 := by simp; omega
      rw [hl]
      by_cases h2 : i = j * 2
      · subst h2; rw [List.getElem?_set_ne (by omega), List.getElem?_set_self (by omega)]; simp
      · obtain rfl : i = j * 2 + 1 := by omega
        rw [List.getElem?_set_self (by simp; omega), show j * 2 + 1 - j * 2 = 1 by omega]; rfl
  · rw [if_neg hi, List.getElem?_eq_none (by simp; omega)]
theorem PartT.put {w : World} {base g c m : Nat} {l : List Tb} {j : Nat} {t : Tb} (h : PartT w base g c m l j) (hj : j < m) (ht : l[j]? = some t) :
    PartT ((w.setCell ⟨g, j * 2, none⟩ (.string t.name)).setCell ⟨g, j * 2 + 1, none⟩ (.int .i64 t.width)) base g c m l (j + 1) := by
  obtain ⟨xs, h1, h2⟩ := h
  have s0 := (h1.stored (j * 2) (.string t.name)).1
  have s1 := (s0.stored (j * 2 + 1) (.int .i64 t.width)).1
  refine ⟨_, s1, ?_⟩
  rw [take_set2 (by rw [h1.1]; omega), h2, List.take_add_one, ht, tbC_app]; rfl
theorem PartT.some_ {w : World} {base g c m : Nat} {l : List Tb} {j : Nat} (h : PartT w base g c m l j) {o : Nat} (ho : o < m * 2) : ∃ y, w.cell? ⟨g, o, none⟩ = some y := by
  obtain ⟨xs, h1, _⟩ := h
  exact ⟨xs[o]'(by rw [h1.1]; exact ho), by rw [World.ownsRow.cellAt h1 o ho, List.getElem?_eq_getElem]⟩
theorem PartT.frozen {w : World} {base g c m : Nat} {l : List Tb} {j : Nat} (h : PartT w base g c m l j) (o : Nat) : w.frozen? ⟨g, o, none⟩ = false := by
  obtain ⟨xs, h1, _⟩ := h
  exact World.ownsRow.frozenAt h1 o
theorem PartT.own {w : World} {base g c : Nat} {l : List Tb} (h : PartT w base g c l.length l l.length) (hs : ∀ t ∈ l, t.name.size ≤ maxLen) : OwnT w base (some ⟨g, 0, none⟩) c l := by
  obtain ⟨xs, h1, h2⟩ := h
  rw [List.take_of_length_le (by rw [h1.1]; omega), List.take_length] at h2
  subst h2
  exact ⟨h1, hs⟩

end Go.Proofs.YtcegekkhlfpgfaaDoor
