/-
  Words for slices of strings in memory: what a slice reads as, what the call itself owns, and how both are carried from world to world. No walk.
-/
import Derived.Test.YtfpbhedophlnkaaDoorMText
namespace Go.Proofs.YtfpbhedophlnkaaDoor
open Go.RowKit
set_option linter.unusedSimpArgs false
set_option linter.unusedVariables false

/-- The slice that begins at 'ao' reads as the strings l. -/
def RdS (w : World) (ao : Option Addr) (l : List ByteArray) : Prop :=
  l = [] ∨ ∃ b off, ao = some ⟨b, off, none⟩ ∧ ∀ i, i < l.length → w.cell? ⟨b, off + i, none⟩ = some (.string (l.getD i ByteArray.empty))

/-- A row of the call's own: a slice value of it, with the strings l. -/
def OwnS (w : World) (base : Nat) (ao : Option Addr) (c : Nat) (l : List ByteArray) : Prop :=
  w.ownsRow base 9 1 (.slice ao l.length c) l.length (l.map Value.string)

/-- The call returned a slice of its own with the strings l, and nothing that was there has turned. -/
def MadeS (w : World) (l : List ByteArray) (en : Ending) (w' : World) : Prop :=
  ∃ ao c, en = .returned (.slice ao l.length c) ∧ OwnS w' w.heap.size ao c l ∧ Below w.heap.size w w'

section
variable {w w' : World} {base : Nat} {ao : Option Addr} {c : Nat} {l : List ByteArray}

theorem RdS.keep (h : RdS w ao l) (hk : ∀ a p : Addr, ao = some a → p.block = a.block → p.block < w.heap.size → w'.cell? p = w.cell? p) : RdS w' ao l := by
  rcases h with rfl | ⟨b, off, rfl, hc⟩
  · exact .inl rfl
  · refine .inr ⟨b, off, rfl, fun i hi => ?_⟩
    have h1 := hc i hi
    rw [hk ⟨b, off, none⟩ ⟨b, off + i, none⟩ rfl rfl (World.block_lt_of_cell? w ⟨b, off + i, none⟩ h1)]
    exact h1
theorem RdS.below (h : RdS w ao l) (hb : Below w.heap.size w w') : RdS w' ao l := h.keep fun _ _ _ _ hp => hb.cell hp
theorem RdS.at_ {b off : Nat} {i : Nat} (hc : ∀ i, i < l.length → w.cell? ⟨b, off + i, none⟩ = some (.string (l.getD i ByteArray.empty))) (hi : i < l.length) :
    ∃ z, z ∈ l ∧ l[i]? = some z ∧ w.cell? ⟨b, off + i, none⟩ = some (.string z) ∧ l.take (i + 1) = l.take i ++ [z] := by
  refine ⟨l[i], List.getElem_mem hi, List.getElem?_eq_getElem hi, ?_, List.take_succ_eq_append_getElem hi⟩
  have := hc i hi
  rwa [List.getD_eq_getElem?_getD, List.getElem?_eq_getElem hi] at this

theorem OwnS.form (h : OwnS w base ao c l) : (ao = none ∧ c = 0 ∧ l = []) ∨ ∃ g, ao = some ⟨g, 0, none⟩ ∧ base ≤ g ∧ g < w.heap.size := by
  rcases h.2 with ⟨hv, hn⟩ | ⟨g, cap, cur, hv, hb, hg, _⟩
  · simp only [Value.slice.injEq] at hv
    exact .inl ⟨hv.1, hv.2.2, List.eq_nil_of_length_eq_zero hn⟩
  · simp only [Value.slice.injEq] at hv
    refine .inr ⟨g, hv.1, hb, ?_⟩
    rcases Nat.lt_or_ge g w.heap.size with hlt | hge
    · exact hlt
    · rw [Array.getElem?_eq_none hge] at hg; cases hg
theorem OwnS.lt (h : OwnS w base ao c l) : ∀ a, ao = some a → base ≤ a.block ∧ a.block < w.heap.size := by
  rcases h.form with ⟨rfl, _⟩ | ⟨g, rfl, h1, h2⟩
  · intro a ha; cases ha
  · intro a ha; cases ha; exact ⟨h1, h2⟩
theorem OwnS.len_le (h : OwnS w base ao c l) : l.length ≤ maxLen := by
  rcases h.2 with ⟨_, hn⟩ | ⟨g, cap, cur, _, _, _, h1, h2, _⟩
  · rw [hn]; exact Nat.zero_le _
  · exact Nat.le_trans h1 h2
theorem OwnS.cell {g : Nat} (h : OwnS w base (some ⟨g, 0, none⟩) c l) (i : Nat) (hi : i < l.length) : w.cell? ⟨g, i, none⟩ = some (.string (l.getD i ByteArray.empty)) := by
  have := World.ownsRow.cellAt h i (by omega)
  rw [this, List.getElem?_map, List.getD_eq_getElem?_getD, List.getElem?_eq_getElem hi]; rfl
theorem OwnS.rd (h : OwnS w base ao c l) : RdS w ao l := by
  rcases h.form with ⟨_, _, rfl⟩ | ⟨g, rfl, _⟩
  · exact .inl rfl
  · exact .inr ⟨g, 0, rfl, fun i hi => by rw [Nat.zero_add]; exact h.cell i hi⟩
theorem OwnS.keep (h : OwnS w base ao c l) (hk : ∀ a : Addr, ao = some a → a.block < w.heap.size → w'.heap[a.block]? = w.heap[a.block]?) : OwnS w' base ao c l := by
  refine ⟨h.1, ?_⟩
  have hl := h.lt
  rcases h.2 with h2 | ⟨g, cap, cur, hv, hb, hg, r⟩
  · exact .inl h2
  · refine .inr ⟨g, cap, cur, hv, hb, ?_, r⟩
    simp only [Value.slice.injEq] at hv
    rw [hk _ hv.1 (hl _ hv.1).2]; exact hg
theorem OwnS.below (h : OwnS w base ao c l) (hb : Below w.heap.size w w') : OwnS w' base ao c l := h.keep fun _ _ hlt => hb.block _ hlt
theorem OwnS.grown {row : Option Nat} (h : OwnS w base ao c l) (hg : w.grownBy w' row) (hne : ∀ a, ao = some a → some a.block ≠ row) : OwnS w' base ao c l :=
  h.keep fun a ha hlt => hg.block _ hlt (hne a ha)
theorem OwnS.base_le {base' : Nat} (h : OwnS w base ao c l) (hb : base' ≤ base) : OwnS w base' ao c l := by
  refine ⟨h.1, ?_⟩
  rcases h.2 with h2 | ⟨g, cap, cur, hv, hg, r⟩
  · exact .inl h2
  · exact .inr ⟨g, cap, cur, hv, Nat.le_trans hb hg, r⟩
theorem OwnS.none_ : OwnS w base none 0 [] := World.ownsRow_nil _ _ _ _
theorem OwnS.apart {ao' : Option Addr} (h : OwnS w base ao c l) (hg : w.grownBy w' (ao'.map (·.block))) (hne : ∀ a b, ao = some a → ao' = some b → a.block ≠ b.block) : OwnS w' base ao c l :=
  h.grown hg (by
    intro a ha
    cases ao' with
    | none => simp
    | some b => simp; exact hne a b ha rfl)
end

/-- Whether two rows of strings are the same. -/
def eqSs (a b : List ByteArray) : Bool := decide (a.map ByteArray.toList = b.map ByteArray.toList)
theorem eqSs_no {l m : List ByteArray} {j : Nat} {x y : ByteArray} (h : ¬ x.toList = y.toList) (hx : l[j]? = some x) (hy : m[j]? = some y) : eqSs l m = false := by
  unfold eqSs; simp only [decide_eq_false_iff_not]
  intro he
  have h1 : (l.map ByteArray.toList)[j]? = some x.toList := by rw [List.getElem?_map, hx]; rfl
  have h2 : (m.map ByteArray.toList)[j]? = some y.toList := by rw [List.getElem?_map, hy]; rfl
  rw [he, h2] at h1
  exact h (by injection h1 with h1; exact h1.symm)
theorem eqSs_yes {l m : List ByteArray} {j : Nat} (h : l.length = m.length) (hj : l.length ≤ j) (ht : (l.take j).map ByteArray.toList = (m.take j).map ByteArray.toList) : eqSs l m = true := by
  unfold eqSs; rw [List.take_of_length_le hj, List.take_of_length_le (by omega)] at ht; simpa using ht
theorem eqSs_refl (l : List ByteArray) : eqSs l l = true := by unfold eqSs; simp

/-- What marking lays into n cells from the number m on. -/
def marksS (m : Int) (n : Nat) : List ByteArray := (List.range n).map fun (i : Nat) => mtext (m + (i : Int))
theorem marksS_len (m : Int) (n : Nat) : (marksS m n).length = n := by simp [marksS]
theorem marksS_succ (m : Int) (n : Nat) : marksS m (n + 1) = marksS m n ++ [mtext (m + (n : Int))] := by simp [marksS, List.range_succ]
theorem marksS_get (m : Int) (n i : Nat) (h : i < n) : (marksS m n)[i]? = some (mtext (m + (i : Int))) := by simp [marksS, h]
theorem marksS_step (m : Int) (l : List ByteArray) (j : Nat) (h : j < l.length) : (marksS m j ++ l.drop j).set j (mtext (m + (j : Int))) = marksS m (j + 1) ++ l.drop (j + 1) := by
  rw [List.set_append_right _ _ (by rw [marksS_len]; exact Nat.le_refl _), marksS_len, Nat.sub_self, marksS_succ, List.append_assoc, List.drop_eq_getElem_cons h]
  rfl
theorem map_set_str (l : List ByteArray) (i : Nat) (z : ByteArray) : (l.map Value.string).set i (.string z) = (l.set i z).map Value.string := by
  rw [List.map_set]
end Go.Proofs.YtfpbhedophlnkaaDoor
