/-
  What a walk is told of a table, or of a slice of tables, that came in: it reads as one. No walk.
-/
import Derived.Test.YtcegekkhlfpgfaaTb
import Derived.Test.YtcegekkhlfpgfaaRows
import Derived.Deep.Slices
import Derived.Deep.Fields
import Derived.ChangeSame
import Derived.WalkKit
import Derived.ProofKit
namespace Go.Proofs.Ytcegekkhlfpgfaa
open Go.RowKit Go.ChangeShapes Go.WideShapes Go.Deep
set_option linter.unusedSimpArgs false
set_option linter.unusedVariables false

/-- The two values of a table. -/
def tbL (t : Tb) : List Value := [.string t.name, .int .i64 t.width]
theorem len2 {α : Type} {l : List α} (h : l.length = 2) : ∃ a0 a1, l = [a0, a1] := by
  match l, h with
  | [a0, a1], _ => exact ⟨a0, a1, rfl⟩
theorem add_add_eqT (b off p t : Nat) : ((⟨b, off, none⟩ : Addr).add p).add t = ⟨b, off + p + t, none⟩ := by
  unfold Addr.add
  by_cases q1 : p = 0 <;> by_cases q2 : t = 0 <;> simp [q1, q2]

section
variable {H : Type} {enc : TypeId × Value → H} {w : World} {base : Nat} {held : Bool}
theorem open_tbL {fuel : Nat} {cs : List Value} {x : DataW H × List MemPlace} (h : DataW.trod enc Try.prog w base (fun _ => true) held fuel 75 cs = some x) :
    ∃ t, cs = tbL t ∧ t.name.size ≤ maxLen ∧ (Lit.int .i64 t.width).wf = true := by
  obtain ⟨ys, m, _, _, hlen, hyl, hf⟩ := DataW.trod_struct Try.underlying75 h
  have h2 : cs.length = 2 := hlen.trans (by kernel_rfl)
  have y2 : ys.length = 2 := hyl
  have k0 : DataW.trod enc Try.prog w base (fun _ => true) held m 9 ((cs.drop 0).take (Try.prog.cellsOf 9)) = ys[0]? := hf 0 _ rfl
  have k1 : DataW.trod enc Try.prog w base (fun _ => true) held m 3 ((cs.drop 1).take (Try.prog.cellsOf 3)) = ys[1]? := hf 1 _ rfl
  have ci : Try.prog.cellsOf 3 = 1 := by kernel_rfl
  have cs' : Try.prog.cellsOf 9 = 1 := by kernel_rfl
  rw [cs'] at k0
  rw [ci] at k1
  obtain ⟨c0, c1, rfl⟩ := len2 h2
  obtain ⟨y0, y1, rfl⟩ := len2 y2
  clear hf h hlen hyl ci cs' h2 y2
  obtain ⟨name, e0, _, hs⟩ := DataW.trod_string Try.underlying9 (show DataW.trod enc Try.prog w base (fun _ => true) held m 9 [c0] = some y0 from k0)
  obtain ⟨width, e1, hw⟩ := DataW.trod_int Try.underlying3 (show DataW.trod enc Try.prog w base (fun _ => true) held m 3 [c1] = some y1 from k1)
  simp only [List.cons.injEq, and_true] at e0 e1
  subst e0 e1
  exact ⟨⟨name, width⟩, rfl, hs, hw.2⟩
theorem tables_of (w : World) (b off : Nat) : ∀ len : Nat, (∀ i, i < len → ∃ t, TbAt w b (off + i * 2) t) → ∃ l : List Tb, l.length = len ∧ ∀ i t, l[i]? = some t → TbAt w b (off + i * 2) t := by
  intro len
  induction len with
  | zero => intro _; exact ⟨[], rfl, fun i n h => by simp at h⟩
  | succ k ih =>
    intro h
    obtain ⟨l, hl, hh⟩ := ih fun i hi => h i (by omega)
    obtain ⟨n, hn⟩ := h k (by omega)
    refine ⟨l ++ [n], by simp [hl], fun i m hm => ?_⟩
    rcases Nat.lt_or_ge i l.length with h1 | h1
    · rw [List.getElem?_append_left h1] at hm; exact hh i m hm
    · rw [List.getElem?_append_right h1] at hm
      have : i = k := by
        rcases Nat.lt_or_ge (i - l.length) 1 with h2 | h2
        · omega
        · rw [List.getElem?_eq_none (by simpa using h2)] at hm; cases hm
      subst this
      rw [hl, Nat.sub_self] at hm
      simp at hm; subst hm; exact hn
theorem open_tables {fuel : Nat} {a : Option Addr} {len cap : Nat} {x : DataW H × List MemPlace} (h : DataW.trod enc Try.prog w base (fun _ => true) held fuel 45 [.slice a len cap] = some x) :
    ∃ l : List Tb, len = l.length ∧ l.length ≤ maxLen ∧ RdT w a l := by
  have c7 : Try.prog.cellsOf 75 = 2 := by kernel_rfl
  rcases open_slice Try.underlying45 h with ⟨hcs, _⟩ | ⟨y, len', cap', m, n, D, Pl, hcs, _, hl, hm, hmm, _, hi⟩
  · simp at hcs
    obtain ⟨rfl, rfl, rfl⟩ := hcs
    exact ⟨[], rfl, Nat.zero_le _, .inl rfl⟩
  · simp at hcs
    obtain ⟨rfl, rfl, rfl⟩ := hcs
    by_cases h0 : len = 0
    · subst h0; exact ⟨[], rfl, Nat.zero_le _, .inl rfl⟩
    · rw [c7] at hi
      simp only [if_true] at hmm
      obtain ⟨b, off, spot⟩ := y
      have hspot : spot = none := by
        obtain ⟨cs', hc, ht⟩ := hi 0 (by omega)
        obtain ⟨t', rfl, _⟩ := open_tbL ht
        have := (World.cells?_some hc).2.2 0 (by omega)
        simpa [Addr.add] using World.cell?_spot (this.trans rfl)
      subst hspot
      obtain ⟨l, hl', hh⟩ := tables_of w b off len (fun i him => by
        obtain ⟨cs', hc, ht⟩ := hi i (by omega)
        obtain ⟨t', rfl, h1, h2⟩ := open_tbL ht
        have hat := (World.cells?_some hc).2.2
        have key : ∀ t, t < 2 → w.cell? ⟨b, off + i * 2 + t, none⟩ = (tbL t')[t]? := by
          intro t ht'
          rw [← hat t ht', add_add_eqT]
        exact ⟨t', key 0 (by omega), key 1 (by omega), h1⟩)
      exact ⟨l, hl'.symm, by omega, .inr ⟨b, off, rfl, hh⟩⟩
end
end Go.Proofs.Ytcegekkhlfpgfaa
