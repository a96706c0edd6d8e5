/-
  Words for slices of integers in memory: what a slice reads as, what the call itself owns, and how both are carried from world to world. No program, no walk.
-/
import Derived.Below
import Derived.OwnWalk
import Derived.Laws.OwnMore
import Derived.Deep.Draws
import Derived.Lib.Hide
namespace Go.Proofs.YtfpbhedophlnkaaDoor
open Go.RowKit
set_option linter.unusedSimpArgs false
set_option linter.unusedVariables false

theorem ret_bool {a b : Bool} (h : a = b) : Ending.returned (.bool a) = .returned (.bool b) := by rw [h]
theorem ret_slice {ao : Option Addr} {n m c : Nat} (h : n = m) : Ending.returned (.slice ao n c) = .returned (.slice ao m c) := by rw [h]
theorem ret_int {k : IntKind} {a b : Int} (h : a = b) : Ending.returned (.int k a) = .returned (.int k b) := by rw [h]

/-- The slice that begins at 'ao' reads as the numbers l. -/
def Rd (w : World) (k : IntKind) (ao : Option Addr) (l : List Int) : Prop :=
  l = [] ∨ ∃ b off, ao = some ⟨b, off, none⟩ ∧ ∀ i, i < l.length → w.cell? ⟨b, off + i, none⟩ = some (.int k (l.getD i 0))

/-- A row of the call's own: a slice value of it, with the numbers l. -/
def Own (w : World) (base : Nat) (e : TypeId) (k : IntKind) (ao : Option Addr) (c : Nat) (l : List Int) : Prop :=
  w.ownsRow base e 1 (.slice ao l.length c) l.length (l.map (Value.int k))

/-- Bytes. -/
def By (l : List Int) : Prop := ∀ z ∈ l, 0 ≤ z ∧ z < 256

/-- The call returned a slice of its own with the numbers l, and nothing that was there has turned. -/
def Made (w : World) (e : TypeId) (k : IntKind) (l : List Int) (en : Ending) (w' : World) : Prop :=
  ∃ ao c, en = .returned (.slice ao l.length c) ∧ Own w' w.heap.size e k ao c l ∧ Below w.heap.size w w'

/-- As 'Made', beside a bool. -/
def Made2 (w : World) (e : TypeId) (k : IntKind) (l : List Int) (ok : Bool) (en : Ending) (w' : World) : Prop :=
  ∃ ao c, en = .returned (.tuple #[.slice ao l.length c, .bool ok]) ∧ Own w' w.heap.size e k ao c l ∧ Below w.heap.size w w'
theorem ret_two {ao : Option Addr} {n m c : Nat} {b : Bool} (h : n = m) : Ending.returned (.tuple #[.slice ao n c, .bool b]) = .returned (.tuple #[.slice ao m c, .bool b]) := by rw [h]

section
variable {w w' : World} {base : Nat} {e : TypeId} {k : IntKind} {ao : Option Addr} {c : Nat} {l : List Int}

theorem Rd.nil : Rd w k ao [] := .inl rfl
theorem Rd.keep (h : Rd w k ao l) (hk : ∀ a p : Addr, ao = some a → p.block = a.block → p.block < w.heap.size → w'.cell? p = w.cell? p) : Rd w' k ao l := by
  rcases h with rfl | ⟨b, off, rfl, hc⟩
  · exact .inl rfl
  · refine .inr ⟨b, off, rfl, fun i hi => ?_⟩
    have h1 := hc i hi
    rw [hk ⟨b, off, none⟩ ⟨b, off + i, none⟩ rfl rfl (World.block_lt_of_cell? w ⟨b, off + i, none⟩ h1)]
    exact h1
theorem Rd.below (h : Rd w k ao l) (hb : Below w.heap.size w w') : Rd w' k ao l := h.keep fun _ _ _ _ hp => hb.cell hp
theorem Rd.grown {row : Option Nat} (h : Rd w k ao l) (hg : w.grownBy w' row) (hne : ∀ a, ao = some a → some a.block ≠ row) : Rd w' k ao l :=
  h.keep fun a p ha hp hlt => World.cell?_of_block (hg.block p.block hlt (by rw [hp]; exact hne a ha))
/-- What a round needs of the element at its place. -/
theorem Rd.at_ {b off : Nat} {i : Nat} (hc : ∀ i, i < l.length → w.cell? ⟨b, off + i, none⟩ = some (.int k (l.getD i 0))) (hi : i < l.length) :
    ∃ z, z ∈ l ∧ l[i]? = some z ∧ w.cell? ⟨b, off + i, none⟩ = some (.int k z) ∧ l.take (i + 1) = l.take i ++ [z] := by
  refine ⟨l[i], List.getElem_mem hi, List.getElem?_eq_getElem hi, ?_, List.take_succ_eq_append_getElem hi⟩
  have := hc i hi
  rwa [List.getD_eq_getElem?_getD, List.getElem?_eq_getElem hi] at this

theorem Own.form (h : Own w base e k ao c l) : (ao = none ∧ c = 0 ∧ l = []) ∨ ∃ g, ao = some ⟨g, 0, none⟩ ∧ base ≤ g ∧ g < w.heap.size := by
  rcases h.2 with ⟨hv, hn⟩ | ⟨g, cap, cur, hv, hb, hg, _⟩
  · simp only [Value.slice.injEq] at hv
    exact .inl ⟨hv.1, hv.2.2, List.eq_nil_of_length_eq_zero hn⟩
  · simp only [Value.slice.injEq] at hv
    refine .inr ⟨g, hv.1, hb, ?_⟩
    rcases Nat.lt_or_ge g w.heap.size with hlt | hge
    · exact hlt
    · rw [Array.getElem?_eq_none hge] at hg; cases hg
theorem Own.nilcap (h : Own w base e k ao c l) : ao = none → c = 0 := by
  rcases h.form with ⟨_, hc, _⟩ | ⟨g, rfl, _⟩
  · exact fun _ => hc
  · intro hh; cases hh
theorem Own.cap_ge (h : Own w base e k ao c l) : l.length ≤ c := by
  rcases h.2 with ⟨hv, hn⟩ | ⟨g, cap, cur, hv, _, _, h1, _⟩
  · omega
  · simp only [Value.slice.injEq] at hv; omega
theorem Own.cap_le (h : Own w base e k ao c l) : c ≤ maxLen := by
  rcases h.2 with ⟨hv, _⟩ | ⟨g, cap, cur, hv, _, _, _, h2, _⟩
  · simp only [Value.slice.injEq] at hv; rw [hv.2.2]; exact Nat.zero_le _
  · simp only [Value.slice.injEq] at hv; rw [hv.2.2]; exact h2
theorem Own.lt (h : Own w base e k ao c l) : ∀ a, ao = some a → base ≤ a.block ∧ a.block < w.heap.size := by
  rcases h.form with ⟨rfl, _⟩ | ⟨g, rfl, h1, h2⟩
  · intro a ha; cases ha
  · intro a ha; cases ha; exact ⟨h1, h2⟩
theorem Own.len_le (h : Own w base e k ao c l) : l.length ≤ maxLen := by
  rcases h.2 with ⟨_, hn⟩ | ⟨g, cap, cur, _, _, _, h1, h2, _⟩
  · rw [hn]; exact Nat.zero_le _
  · exact Nat.le_trans h1 h2
theorem Own.cell {g : Nat} (h : Own w base e k (some ⟨g, 0, none⟩) c l) (i : Nat) (hi : i < l.length) : w.cell? ⟨g, i, none⟩ = some (.int k (l.getD i 0)) := by
  have := World.ownsRow.cellAt h i (by omega)
  rw [this, List.getElem?_map, List.getD_eq_getElem?_getD, List.getElem?_eq_getElem hi]; rfl
theorem Own.rd (h : Own w base e k ao c l) : Rd w k ao l := by
  rcases h.form with ⟨_, _, rfl⟩ | ⟨g, rfl, _⟩
  · exact .inl rfl
  · exact .inr ⟨g, 0, rfl, fun i hi => by rw [Nat.zero_add]; exact h.cell i hi⟩
theorem Own.keep (h : Own w base e k ao c l) (hk : ∀ a : Addr, ao = some a → a.block < w.heap.size → w'.heap[a.block]? = w.heap[a.block]?) : Own w' base e k ao c l := by
  refine ⟨h.1, ?_⟩
  have hl := h.lt
  rcases h.2 with h2 | ⟨g, cap, cur, hv, hb, hg, r⟩
  · exact .inl h2
  · refine .inr ⟨g, cap, cur, hv, hb, ?_, r⟩
    simp only [Value.slice.injEq] at hv
    rw [hk _ hv.1 (hl _ hv.1).2]; exact hg
theorem Own.below (h : Own w base e k ao c l) (hb : Below w.heap.size w w') : Own w' base e k ao c l := h.keep fun _ _ hlt => hb.block _ hlt
theorem Own.grown {row : Option Nat} (h : Own w base e k ao c l) (hg : w.grownBy w' row) (hne : ∀ a, ao = some a → some a.block ≠ row) : Own w' base e k ao c l :=
  h.keep fun a ha hlt => hg.block _ hlt (hne a ha)
theorem Own.base_le {base' : Nat} (h : Own w base e k ao c l) (hb : base' ≤ base) : Own w base' e k ao c l := by
  refine ⟨h.1, ?_⟩
  rcases h.2 with h2 | ⟨g, cap, cur, hv, hg, r⟩
  · exact .inl h2
  · exact .inr ⟨g, cap, cur, hv, Nat.le_trans hb hg, r⟩
theorem Own.alloc (h : Own w base e k ao c l) (o : Obj) : Own (w.alloc o) base e k ao c l := h.below ((Below.refl _ _).alloc (Nat.le_refl _) o)
theorem Own.none_ : Own w base e k none 0 [] := World.ownsRow_nil _ _ _ _
theorem By.nil : By [] := by intro z hz; cases hz
theorem By.app {a b : List Int} (ha : By a) (hb : By b) : By (a ++ b) := by
  intro z hz; rcases List.mem_append.1 hz with h | h
  · exact ha z h
  · exact hb z h
theorem By.one {z : Int} (h0 : 0 ≤ z) (h1 : z < 256) : By [z] := by intro y hy; simp at hy; subst hy; exact ⟨h0, h1⟩
theorem below_step {B : Nat} {a b d : World} (h : Below B a b) (hB : B ≤ a.heap.size) (k : Below b.heap.size b d) : Below B a d := h.trans (k.mono (Nat.le_trans hB h.size))
theorem below_grow {B : Nat} {a b d : World} {ao : Option Addr} (h : Below B a b) (hB : B ≤ a.heap.size) (k : b.grownBy d (ao.map (·.block))) (hr : ∀ x, ao = some x → B ≤ x.block) : Below B a d :=
  h.grown k (Nat.le_trans hB h.size) (by
    intro g hg
    cases ao with
    | none => cases hg
    | some x => simp at hg; subst hg; exact hr x rfl)
/-- Two rows whose blocks differ: what is done to the second leaves the first. -/
theorem Own.apart {ao' : Option Addr} (h : Own w base e k ao c l) (hg : w.grownBy w' (ao'.map (·.block))) (hne : ∀ a b, ao = some a → ao' = some b → a.block ≠ b.block) : Own w' base e k ao c l :=
  h.grown hg (by
    intro a ha
    cases ao' with
    | none => simp
    | some b => simp; exact hne a b ha rfl)
theorem below_of_grown {B : Nat} {row : Option Nat} (hg : w.grownBy w' row) (hB : B ≤ w.heap.size) (hr : ∀ g, row = some g → B ≤ g) : Below B w w' :=
  (Below.refl B w).grown hg hB hr
end
theorem cell_one (w : World) (v : Value) (t : TypeId) : (w.alloc (Obj.cells #[v] t)).cell? ⟨w.heap.size, 0, none⟩ = some v := by
  rw [World.cell?_alloc_new]; rfl
end Go.Proofs.YtfpbhedophlnkaaDoor
