/-
  What a walk is told of a node, or of a slice of nodes, that came in: it reads as one. No walk.
-/
import Derived.Test.YtfbgflmolkgopaaRead
import Derived.Test.YtfbgflmolkgopaaArg
import Derived.Test.YtfbgflmolkgopaaRows
import Derived.Deep.Slices
import Derived.Deep.Fields
import Derived.ChangeSame
import Derived.WalkKit
import Derived.ProofKit
namespace Go.Proofs.Ytfbgflmolkgopaa
open Go.RowKit Go.ChangeShapes Go.WideShapes Go.Deep
set_option linter.unusedSimpArgs false
set_option linter.unusedVariables false

/-- The seven values of a node. -/
def ndL (n : Nd) (a : Option Addr) (c : Nat) : List Value := [.int .i64 n.kind, .string n.name, .int .i64 n.col, .int .i64 n.op, .int .i64 n.num, .bool n.slot, .slice a n.cols.length c]

theorem len7 {α : Type} {l : List α} (h : l.length = 7) : ∃ a0 a1 a2 a3 a4 a5 a6, l = [a0, a1, a2, a3, a4, a5, a6] := by
  match l, h with
  | [a0, a1, a2, a3, a4, a5, a6], _ => exact ⟨a0, a1, a2, a3, a4, a5, a6, rfl⟩
theorem add_add_eq (b off p t : Nat) : ((⟨b, off, none⟩ : Addr).add p).add t = ⟨b, off + p + t, none⟩ := by
  unfold Addr.add
  by_cases q1 : p = 0 <;> by_cases q2 : t = 0 <;> simp [q1, q2]

section
variable {H : Type} {enc : TypeId × Value → H} {w : World} {base : Nat} {held : Bool}

theorem open_colsN {fuel : Nat} {v : Value} {x : DataW H × List MemPlace} (h : DataW.trod enc Try.prog w base (fun _ => true) held fuel 32 [v] = some x) :
    ∃ (a : Option Addr) (c : Nat) (l : List Int), v = .slice a l.length c ∧ Rd w .i64 a l ∧ l.length ≤ c ∧ c ≤ maxLen := by
  rcases open_ints Try.underlying32 Try.underlying3 (by kernel_rfl) h with ⟨hcs, _⟩ | ⟨y, l, c, zs, hcs, _, hl, hm, hz, _, hcell, hwz⟩
  · simp at hcs
    subst hcs
    exact ⟨none, 0, [], rfl, .inl rfl, Nat.zero_le _, Nat.zero_le _⟩
  · simp at hcs
    subst hcs
    have hr : IsRow .i64 w (some y) l c zs := .inr ⟨_, rfl, hl, hm, by simpa using hz, hcell, hwz⟩
    obtain ⟨l', hl', _, hrd, _⟩ := hr.rd
    subst hl'
    exact ⟨some y, c, l', rfl, hrd, hl, hm⟩

theorem nodes_of (w : World) (b off : Nat) : ∀ len : Nat, (∀ i, i < len → ∃ n a c, NdAt w b (off + i * 7) n a c) → ∃ l : List Nd, l.length = len ∧ ∀ i n, l[i]? = some n → ∃ a c, NdAt w b (off + i * 7) n a c := by
  intro len
  induction len with
  | zero => intro _; exact ⟨[], rfl, fun i n h => by simp at h⟩
  | succ k ih =>
    intro h
    obtain ⟨l, hl, hh⟩ := ih fun i hi => h i (by omega)
    obtain ⟨n, hn⟩ := h k (by omega)
    refine ⟨l ++ [n], by simp [hl], fun i m hm => ?_⟩
    rcases Nat.lt_or_ge i l.length with h1 | h1
    · rw [List.getElem?_append_left h1] at hm; exact hh i m hm
    · rw [List.getElem?_append_right h1] at hm
      have : i = k := by
        rcases Nat.lt_or_ge (i - l.length) 1 with h2 | h2
        · omega
        · rw [List.getElem?_eq_none (by simpa using h2)] at hm; cases hm
      subst this
      rw [hl, Nat.sub_self] at hm
      simp at hm; subst hm; exact hn

end
end Go.Proofs.Ytfbgflmolkgopaa
