/-
  Words for slices of integers in memory: what a slice reads as, what the call itself owns, and how both are carried from world to world. No program, no walk. What a walk is told of a slice of integers that came in, and that it reads as a list. No program, no walk. Plain facts on rows of integers that are compared, filled and marked. No walk. Contracts of the helpers over slices of bytes: eqByteS, toByteS, markByteS, heldByteS. For every slice of bytes.
-/
import Derived.Below
import Derived.OwnWalk
import Derived.Laws.OwnMore
import Derived.Deep.Draws
import Derived.Lib.Hide
import Derived.WalkKit
import Derived.ProofKit
import Derived.Test.YtfpbhedophlnkaaGreatDoorRows
import Derived.WalkSpells
import Derived.WalkLawsBesides
import Derived.Deep.QuietTactic
import Derived.BigQuiet
namespace Go.Proofs.YtfpbhedophlnkaaGreatDoor
open Go.RowKit
set_option linter.unusedSimpArgs false
set_option linter.unusedVariables false

theorem ret_bool {a b : Bool} (h : a = b) : Ending.returned (.bool a) = .returned (.bool b) := by rw [h]
theorem ret_slice {ao : Option Addr} {n m c : Nat} (h : n = m) : Ending.returned (.slice ao n c) = .returned (.slice ao m c) := by rw [h]
theorem ret_int {k : IntKind} {a b : Int} (h : a = b) : Ending.returned (.int k a) = .returned (.int k b) := by rw [h]

/-- The slice that begins at 'ao' reads as the numbers l. -/
def Rd (w : World) (k : IntKind) (ao : Option Addr) (l : List Int) : Prop :=
  l = [] ∨ ∃ b off, ao = some ⟨b, off, none⟩ ∧ ∀ i, i < l.length → w.cell? ⟨b, off + i, none⟩ = some (.int k (l.getD i 0))

/-- A row of the call's own: a slice value of it, with the numbers l. -/
def Own (w : World) (base : Nat) (e : TypeId) (k : IntKind) (ao : Option Addr) (c : Nat) (l : List Int) : Prop :=
  w.ownsRow base e 1 (.slice ao l.length c) l.length (l.map (Value.int k))

/-- Bytes. -/
def By (l : List Int) : Prop := ∀ z ∈ l, 0 ≤ z ∧ z < 256

/-- The call returned a slice of its own with the numbers l, and nothing that was there has turned. -/
def Made (w : World) (e : TypeId) (k : IntKind) (l : List Int) (en : Ending) (w' : World) : Prop :=
  ∃ ao c, en = .returned (.slice ao l.length c) ∧ Own w' w.heap.size e k ao c l ∧ Below w.heap.size w w'

/-- As 'Made', beside a bool. -/
def Made2 (w : World) (e : TypeId) (k : IntKind) (l : List Int) (ok : Bool) (en : Ending) (w' : World) : Prop :=
  ∃ ao c, en = .returned (.tuple #[.slice ao l.length c, .bool ok]) ∧ Own w' w.heap.size e k ao c l ∧ Below w.heap.size w w'
theorem ret_two {ao : Option Addr} {n m c : Nat} {b : Bool} (h : n = m) : Ending.returned (.tuple #[.slice ao n c, .bool b]) = .returned (.tuple #[.slice ao m c, .bool b]) := by rw [h]

section
variable {w w' : World} {base : Nat} {e : TypeId} {k : IntKind} {ao : Option Addr} {c : Nat} {l : List Int}

theorem Rd.nil : Rd w k ao [] := .inl rfl
theorem Rd.keep (h : Rd w k ao l) (hk : ∀ a p : Addr, ao = some a → p.block = a.block → p.block < w.heap.size → w'.cell? p = w.cell? p) : Rd w' k ao l := by
  rcases h with rfl | ⟨b, off, rfl, hc⟩
  · exact .inl rfl
  · refine .inr ⟨b, off, rfl, fun i hi => ?_⟩
    have h1 := hc i hi
    rw [hk ⟨b, off, none⟩ ⟨b, off + i, none⟩ rfl rfl (World.block_lt_of_cell? w ⟨b, off + i, none⟩ h1)]
    exact h1
theorem Rd.below (h : Rd w k ao l) (hb : Below w.heap.size w w') : Rd w' k ao l := h.keep fun _ _ _ _ hp => hb.cell hp
theorem Rd.grown {row : Option Nat} (h : Rd w k ao l) (hg : w.grownBy w' row) (hne : ∀ a, ao = some a → some a.block ≠ row) : Rd w' k ao l :=
  h.keep fun a p ha hp hlt => World.cell?_of_block (hg.block p.block hlt (by rw [hp]; exact hne a ha))
/-- What a round needs of the element at its place. -/
theorem Rd.at_ {b off : Nat} {i : Nat} (hc : ∀ i, i < l.length → w.cell? ⟨b, off + i, none⟩ = some (.int k (l.getD i 0))) (hi : i < l.length) :
    ∃ z, z ∈ l ∧ l[i]? = some z ∧ w.cell? ⟨b, off + i, none⟩ = some (.int k z) ∧ l.take (i + 1) = l.take i ++ [z] := by
  refine ⟨l[i], List.getElem_mem hi, List.getElem?_eq_getElem hi, ?_, List.take_succ_eq_append_getElem hi⟩
  have := hc i hi
  rwa [List.getD_eq_getElem?_getD, List.getElem?_eq_getElem hi] at this

theorem Own.form (h : Own w base e k ao c l) : (ao = none ∧ c = 0 ∧ l = []) ∨ ∃ g, ao = some ⟨g, 0, none⟩ ∧ base ≤ g ∧ g < w.heap.size := by
  rcases h.2 with ⟨hv, hn⟩ | ⟨g, cap, cur, hv, hb, hg, _⟩
  · simp only [Value.slice.injEq] at hv
    exact .inl ⟨hv.1, hv.2.2, List.eq_nil_of_length_eq_zero hn⟩
  · simp only [Value.slice.injEq] at hv
    refine .inr ⟨g, hv.1, hb, ?_⟩
    rcases Nat.lt_or_ge g w.heap.size with hlt | hge
    · exact hlt
    · rw [Array.getElem?_eq_none hge] at hg; cases hg
theorem Own.nilcap (h : Own w base e k ao c l) : ao = none → c = 0 := by
  rcases h.form with ⟨_, hc, _⟩ | ⟨g, rfl, _⟩
  · exact fun _ => hc
  · intro hh; cases hh
theorem Own.cap_ge (h : Own w base e k ao c l) : l.length ≤ c := by
  rcases h.2 with ⟨hv, hn⟩ | ⟨g, cap, cur, hv, _, _, h1, _⟩
  · omega
  · simp only [Value.slice.injEq] at hv; omega
theorem Own.cap_le (h : Own w base e k ao c l) : c ≤ maxLen := by
  rcases h.2 with ⟨hv, _⟩ | ⟨g, cap, cur, hv, _, _, _, h2, _⟩
  · simp only [Value.slice.injEq] at hv; rw [hv.2.2]; exact Nat.zero_le _
  · simp only [Value.slice.injEq] at hv; rw [hv.2.2]; exact h2
theorem Own.lt (h : Own w base e k ao c l) : ∀ a, ao = some a → base ≤ a.block ∧ a.block < w.heap.size := by
  rcases h.form with ⟨rfl, _⟩ | ⟨g, rfl, h1, h2⟩
  · intro a ha; cases ha
  · intro a ha; cases ha; exact ⟨h1, h2⟩
theorem Own.len_le (h : Own w base e k ao c l) : l.length ≤ maxLen := by
  rcases h.2 with ⟨_, hn⟩ | ⟨g, cap, cur, _, _, _, h1, h2, _⟩
  · rw [hn]; exact Nat.zero_le _
  · exact Nat.le_trans h1 h2
theorem Own.cell {g : Nat} (h : Own w base e k (some ⟨g, 0, none⟩) c l) (i : Nat) (hi : i < l.length) : w.cell? ⟨g, i, none⟩ = some (.int k (l.getD i 0)) := by
  have := World.ownsRow.cellAt h i (by omega)
  rw [this, List.getElem?_map, List.getD_eq_getElem?_getD, List.getElem?_eq_getElem hi]; rfl
theorem Own.rd (h : Own w base e k ao c l) : Rd w k ao l := by
  rcases h.form with ⟨_, _, rfl⟩ | ⟨g, rfl, _⟩
  · exact .inl rfl
  · exact .inr ⟨g, 0, rfl, fun i hi => by rw [Nat.zero_add]; exact h.cell i hi⟩
theorem Own.keep (h : Own w base e k ao c l) (hk : ∀ a : Addr, ao = some a → a.block < w.heap.size → w'.heap[a.block]? = w.heap[a.block]?) : Own w' base e k ao c l := by
  refine ⟨h.1, ?_⟩
  have hl := h.lt
  rcases h.2 with h2 | ⟨g, cap, cur, hv, hb, hg, r⟩
  · exact .inl h2
  · refine .inr ⟨g, cap, cur, hv, hb, ?_, r⟩
    simp only [Value.slice.injEq] at hv
    rw [hk _ hv.1 (hl _ hv.1).2]; exact hg
theorem Own.below (h : Own w base e k ao c l) (hb : Below w.heap.size w w') : Own w' base e k ao c l := h.keep fun _ _ hlt => hb.block _ hlt
theorem Own.grown {row : Option Nat} (h : Own w base e k ao c l) (hg : w.grownBy w' row) (hne : ∀ a, ao = some a → some a.block ≠ row) : Own w' base e k ao c l :=
  h.keep fun a ha hlt => hg.block _ hlt (hne a ha)
theorem Own.base_le {base' : Nat} (h : Own w base e k ao c l) (hb : base' ≤ base) : Own w base' e k ao c l := by
  refine ⟨h.1, ?_⟩
  rcases h.2 with h2 | ⟨g, cap, cur, hv, hg, r⟩
  · exact .inl h2
  · exact .inr ⟨g, cap, cur, hv, Nat.le_trans hb hg, r⟩
theorem Own.alloc (h : Own w base e k ao c l) (o : Obj) : Own (w.alloc o) base e k ao c l := h.below ((Below.refl _ _).alloc (Nat.le_refl _) o)
theorem Own.none_ : Own w base e k none 0 [] := World.ownsRow_nil _ _ _ _
theorem By.nil : By [] := by intro z hz; cases hz
theorem By.app {a b : List Int} (ha : By a) (hb : By b) : By (a ++ b) := by
  intro z hz; rcases List.mem_append.1 hz with h | h
  · exact ha z h
  · exact hb z h
theorem By.one {z : Int} (h0 : 0 ≤ z) (h1 : z < 256) : By [z] := by intro y hy; simp at hy; subst hy; exact ⟨h0, h1⟩
theorem below_step {B : Nat} {a b d : World} (h : Below B a b) (hB : B ≤ a.heap.size) (k : Below b.heap.size b d) : Below B a d := h.trans (k.mono (Nat.le_trans hB h.size))
theorem below_grow {B : Nat} {a b d : World} {ao : Option Addr} (h : Below B a b) (hB : B ≤ a.heap.size) (k : b.grownBy d (ao.map (·.block))) (hr : ∀ x, ao = some x → B ≤ x.block) : Below B a d :=
  h.grown k (Nat.le_trans hB h.size) (by
    intro g hg
    cases ao with
    | none => cases hg
    | some x => simp at hg; subst hg; exact hr x rfl)
/-- Two rows whose blocks differ: what is done to the second leaves the first. -/
theorem Own.apart {ao' : Option Addr} (h : Own w base e k ao c l) (hg : w.grownBy w' (ao'.map (·.block))) (hne : ∀ a b, ao = some a → ao' = some b → a.block ≠ b.block) : Own w' base e k ao c l :=
  h.grown hg (by
    intro a ha
    cases ao' with
    | none => simp
    | some b => simp; exact hne a b ha rfl)
theorem below_of_grown {B : Nat} {row : Option Nat} (hg : w.grownBy w' row) (hB : B ≤ w.heap.size) (hr : ∀ g, row = some g → B ≤ g) : Below B w w' :=
  (Below.refl B w).grown hg hB hr
end
theorem cell_one (w : World) (v : Value) (t : TypeId) : (w.alloc (Obj.cells #[v] t)).cell? ⟨w.heap.size, 0, none⟩ = some v := by
  rw [World.cell?_alloc_new]; rfl
end Go.Proofs.YtfpbhedophlnkaaGreatDoor
namespace Go.Proofs.YtfpbhedophlnkaaGreatDoor
open Go.RowKit
set_option linter.unusedSimpArgs false
set_option linter.unusedVariables false

/-- A slice of integers that came in: nil; or a row of 'cap' cells, the numbers 'zs', of which the first 'len' are its elements. -/
def IsRow (k : IntKind) (w : World) (a : Option Addr) (len cap : Nat) (zs : List Int) : Prop :=
  (a = none ∧ len = 0 ∧ cap = 0 ∧ zs = []) ∨
  ∃ x, a = some x ∧ len ≤ cap ∧ cap ≤ maxLen ∧ zs.length = cap ∧ (∀ i, i < zs.length → w.cell? (x.add i) = some (.int k (zs.getD i 0))) ∧ ∀ n ∈ zs, (Lit.int k n).wf = true

theorem IsRow.rd {k : IntKind} {w : World} {a : Option Addr} {len cap : Nat} {zs : List Int} (h : IsRow k w a len cap zs) :
    ∃ l : List Int, len = l.length ∧ l.length ≤ maxLen ∧ Rd w k a l ∧ ∀ n ∈ l, (Lit.int k n).wf = true := by
  rcases h with ⟨rfl, rfl, rfl, rfl⟩ | ⟨x, rfl, hl, hm, hz, hc, hw⟩
  · exact ⟨[], rfl, Nat.zero_le _, .inl rfl, by intro n hn; cases hn⟩
  · refine ⟨zs.take len, by simp; omega, by simp; omega, ?_, fun n hn => hw n (List.mem_of_mem_take hn)⟩
    by_cases h0 : len = 0
    · left; subst h0; rfl
    · right
      obtain ⟨b, off, spot⟩ := x
      have h1 := hc 0 (by omega)
      have hspot : spot = none := by simpa [Addr.add] using World.cell?_spot h1
      subst hspot
      refine ⟨b, off, rfl, fun i hi => ?_⟩
      have hi' : i < len := by simp at hi; omega
      have h2 := hc i (by omega)
      rw [List.getD_eq_getElem?_getD, List.getElem?_take, if_pos hi', ← List.getD_eq_getElem?_getD, ← h2]
      unfold Addr.add
      split
      · rename_i h; subst h; rfl
      · rfl
theorem by_of_wf {l : List Int} (h : ∀ n ∈ l, (Lit.int .u8 n).wf = true) : By l := by
  intro z hz
  have := h z hz
  simp [Lit.wf, IntKind.min, IntKind.max, IntKind.signed, IntKind.bits] at this
  exact ⟨by omega, by omega⟩
end Go.Proofs.YtfpbhedophlnkaaGreatDoor
namespace Go.Proofs.YtfpbhedophlnkaaGreatDoor
open Go.RowKit
set_option linter.unusedSimpArgs false
set_option linter.unusedVariables false

def eqL (a b : List Int) : Bool := decide (a = b)

theorem eqL_no {l m : List Int} {j : Nat} {x y : Int} (h : ¬ x = y) (hx : l[j]? = some x) (hy : m[j]? = some y) : eqL l m = false := by
  unfold eqL; simp; rintro rfl; rw [hx] at hy; exact h (by injection hy)
theorem eqL_yes {l m : List Int} {j : Nat} (h : l.length = m.length) (hj : l.length ≤ j) (ht : l.take j = m.take j) : eqL l m = true := by
  unfold eqL; simp; rw [List.take_of_length_le hj, List.take_of_length_le (by omega)] at ht; exact ht
theorem eqL_refl (l : List Int) : eqL l l = true := by unfold eqL; simp
theorem below_drewN {B : Nat} {a w : World} (h : Below B a w) (n : Nat) : Below B a (w.drewN n) := ⟨h.os, h.tape, h.output, h.size, h.block⟩

def fillL (l : List Int) (k : Nat) : List Int := l.take k ++ List.replicate (l.length - k) 0
theorem fillL_zero (l : List Int) : fillL l 0 = List.replicate l.length 0 := by simp [fillL]
theorem fillL_len (l : List Int) (k : Nat) (h : k ≤ l.length) : (fillL l k).length = l.length := by simp [fillL]; omega
theorem fillL_all (l : List Int) (k : Nat) (h : l.length ≤ k) : fillL l k = l := by
  simp [fillL, List.take_of_length_le h, Nat.sub_eq_zero_of_le h]
theorem fillL_step (l : List Int) (k : Nat) (z : Int) (h : k < l.length) (ht : l.take (k + 1) = l.take k ++ [z]) : (fillL l k).set k z = fillL l (k + 1) := by
  have e : l.length - k = (l.length - (k + 1)) + 1 := by omega
  have hk : (l.take k).length = k := by simp; omega
  simp only [fillL]
  rw [ht, e, List.replicate_succ, List.set_append_right _ _ (by omega), hk, Nat.sub_self]
  simp
theorem map_set_int (k : IntKind) (l : List Int) (i : Nat) (z : Int) : (l.map (Value.int k)).set i (.int k z) = (l.set i z).map (Value.int k) := by
  rw [List.map_set]
theorem made_ints (k : IntKind) (n : Nat) : (madeCells (Value.int k 0).cells (n * 1)).toList = (List.replicate n (0 : Int)).map (Value.int k) := by
  rw [Nat.mul_one, show (Value.int k 0).cells = #[.int k 0] from rfl, toList_madeCells_one]; simp
theorem Tryz.infoI64 : (Tryz.prog.info? 3).map (fun i => (i.zero, i.size, i.bytes)) = some (some (.int .i64 0), 1, 8) := by kernel_rfl

theorem toS_round {w wr : World} {e : TypeId} {k : IntKind} {g : Nat} {l : List Int} {j : Nat} {z : Int} (hj : j < l.length) (ht : l.take (j + 1) = l.take j ++ [z]) (hg : w.heap.size ≤ g)
    (ho : wr.ownsRow w.heap.size e 1 (.slice (some ⟨g, 0, none⟩) l.length l.length) l.length ((fillL l j).map (Value.int k))) (hb : Below w.heap.size w wr) :
    (wr.setCell ⟨g, j, none⟩ (.int k z)).ownsRow w.heap.size e 1 (.slice (some ⟨g, 0, none⟩) l.length l.length) l.length ((fillL l (j + 1)).map (Value.int k)) ∧ Below w.heap.size w (wr.setCell ⟨g, j, none⟩ (.int k z)) := by
  have h1 := (ho.stored j (.int k z)).1
  rw [map_set_int, fillL_step l j z hj ht] at h1
  exact ⟨h1, hb.setCell hg _⟩
theorem toS_cell {w wr : World} {e : TypeId} {k : IntKind} {g : Nat} {l : List Int} {j : Nat} (hj : j < l.length)
    (ho : wr.ownsRow w.heap.size e 1 (.slice (some ⟨g, 0, none⟩) l.length l.length) l.length ((fillL l j).map (Value.int k))) : ∃ y, wr.cell? ⟨g, j, none⟩ = some (.int k y) := by
  have h := ho.cellAt j (by omega)
  have hl : j < (fillL l j).length := by rw [fillL_len l j (by omega)]; exact hj
  rw [List.getElem?_map, List.getElem?_eq_getElem hl] at h
  exact ⟨_, h⟩

/-- What marking lays into n cells from the number m on. -/
def marksL (f : Int → Int) (m : Int) (n : Nat) : List Int := (List.range n).map fun (i : Nat) => f (m + (i : Int))
theorem marksL_len (f : Int → Int) (m : Int) (n : Nat) : (marksL f m n).length = n := by simp [marksL]
theorem marksL_succ (f : Int → Int) (m : Int) (n : Nat) : marksL f m (n + 1) = marksL f m n ++ [f (m + (n : Int))] := by simp [marksL, List.range_succ]
theorem marksL_get (f : Int → Int) (m : Int) (n i : Nat) (h : i < n) : (marksL f m n)[i]? = some (f (m + (i : Int))) := by simp [marksL, h]
theorem marks_step (f : Int → Int) (m : Int) (l : List Int) (j : Nat) (h : j < l.length) : (marksL f m j ++ l.drop j).set j (f (m + (j : Int))) = marksL f m (j + 1) ++ l.drop (j + 1) := by
  rw [List.set_append_right _ _ (by rw [marksL_len]; exact Nat.le_refl _), marksL_len, Nat.sub_self, marksL_succ, List.append_assoc, List.drop_eq_getElem_cons h]
  rfl
def Marked (w : World) (f : Int → Int) (k : IntKind) (ao : Option Addr) (n : Nat) (m : Int) (en : Ending) (w' : World) : Prop :=
  en = .returned (.int .i64 (m + n)) ∧ Rd w' k ao (marksL f m n) ∧ w.grownBy w' (ao.map (·.block))
def MarkRel (w wr : World) (base : Nat) (e : TypeId) (k : IntKind) (f : Int → Int) (m : Int) (g : Nat) (c : Nat) (l : List Int) (j : Nat) : Prop :=
  wr.ownsRow base e 1 (.slice (some ⟨g, 0, none⟩) l.length c) l.length ((marksL f m j ++ l.drop j).map (Value.int k)) ∧ w.grownBy wr (some g)
theorem MarkRel.cell {w wr : World} {base : Nat} {e : TypeId} {k : IntKind} {f : Int → Int} {m : Int} {g c : Nat} {l : List Int} {j : Nat} (h : MarkRel w wr base e k f m g c l j) (hj : j < l.length) :
    ∃ y, wr.cell? ⟨g, j, none⟩ = some (.int k y) := by
  have h1 := h.1.cellAt j (by omega)
  have hl : j < (marksL f m j ++ l.drop j).length := by simp [marksL_len]; omega
  rw [List.getElem?_map, List.getElem?_eq_getElem hl] at h1
  exact ⟨_, h1⟩
theorem MarkRel.step {w wr : World} {base : Nat} {e : TypeId} {k : IntKind} {f : Int → Int} {m : Int} {g c : Nat} {l : List Int} {j : Nat} (h : MarkRel w wr base e k f m g c l j) (hj : j < l.length) :
    MarkRel w (wr.setCell ⟨g, j, none⟩ (.int k (f (m + (j : Int))))) base e k f m g c l (j + 1) := by
  have h1 := h.1.stored j (.int k (f (m + (j : Int))))
  rw [map_set_int, marks_step f m l j hj] at h1
  refine ⟨h1.1, ⟨h1.2.os.trans h.2.os, h1.2.tape.trans h.2.tape, h1.2.output.trans h.2.output, Nat.le_trans h.2.size h1.2.size, fun i hi hne => (h1.2.block i (Nat.lt_of_lt_of_le hi h.2.size) hne).trans (h.2.block i hi hne)⟩⟩
theorem MarkRel.done {w wr : World} {base : Nat} {e : TypeId} {k : IntKind} {f : Int → Int} {m : Int} {g c : Nat} {l : List Int} {j : Nat} (h : MarkRel w wr base e k f m g c l j) (hj : j = l.length) :
    Rd wr k (some ⟨g, 0, none⟩) (marksL f m l.length) := by
  subst hj
  refine .inr ⟨g, 0, rfl, fun i hi => ?_⟩
  rw [marksL_len] at hi
  rw [Nat.zero_add, h.1.cellAt i (by omega), List.drop_length, List.append_nil, List.getElem?_map, List.getD_eq_getElem?_getD, marksL_get f m _ i hi]; rfl

end Go.Proofs.YtfpbhedophlnkaaGreatDoor
namespace Go.Proofs.YtfpbhedophlnkaaGreatDoor
open Go.RowKit
set_option linter.unusedSimpArgs false
set_option linter.unusedVariables false

set_option maxHeartbeats 800000 in
theorem eqByteS_any (a b : Option Addr) (c d : Nat) (l m : List Int) (w : World) (h : Rd w .u8 a l) (k : Rd w .u8 b m) (hn : l.length ≤ maxLen) (hm : m.length ≤ maxLen) :
    Calls Tryz.prog 61 #[.slice a l.length c, .slice b m.length d] w fun e w' => e = .returned (.bool (eqL l m)) ∧ Below w.heap.size w w' := by
  unfold maxLen at hn hm
  by_cases hlen : l.length = m.length
  · have hne : ((l.length : Int) != (m.length : Int)) = false := by simp [hlen]
    have HL := Lib.hid hlen; clear hlen
    rcases h with rfl | ⟨b1, o1, rfl, hc⟩
    · have hm0 : m = [] := List.eq_nil_of_length_eq_zero HL.out.symm
      subst hm0
      clear hne
      go_enter Tryz.func61, Tryz.ntmps61
      go_wp2
      refine wp_loop_rounds 1 ?_; rw [rounds_succ]; go_wp2
      go_ret
      exact ⟨rfl, Below.refl _ _⟩
    · rcases k with rfl | ⟨b2, o2, rfl, kc⟩
      · have hl0 : l = [] := List.eq_nil_of_length_eq_zero HL.out
        subst hl0
        clear hne hc
        go_enter Tryz.func61, Tryz.ntmps61
        go_wp2
        refine wp_loop_rounds 1 ?_; rw [rounds_succ]; go_wp2
        go_ret
        exact ⟨rfl, Below.refl _ _⟩
      · have HC := Lib.hid hc; have KC := Lib.hid kc; clear hc kc
        go_enter Tryz.func61, Tryz.ntmps61
        go_wp2
        go_loopw [5] (fun i wr => ∃ j q : Nat, j ≤ l.length ∧ i = .int .i64 j ∧ l.take j = m.take j ∧ wr = w.drewN q) (fun i _ => l.length - (intOf i).toNat)
        case atStart => exact ⟨0, 0, Nat.zero_le _, rfl, rfl, rfl⟩
        case round =>
          obtain ⟨j, q, hj, rfl, ht, rfl⟩ := hrel
          have HT := Lib.hid ht; clear ht
          by_cases hlt : j < l.length
          · have hlt2 : j < m.length := by have := HL.out; omega
            obtain ⟨x, _, hx, hcx, htx⟩ := Rd.at_ HC.out hlt
            obtain ⟨y, _, hy, hcy, hty⟩ := Rd.at_ KC.out hlt2
            have X := Lib.hid hx; have Y := Lib.hid hy; have TX := Lib.hid htx; have TY := Lib.hid hty
            clear hx hy htx hty
            have i1 : (j : Int) < (l.length : Int) := by omega
            have i2 : (j : Int) < (m.length : Int) := by omega
            by_cases hxy : x = y
            · subst hxy
              have hb : (x != x) = false := by simp
              go_wp2
              go_quiet (fail)
              go_wp2
              go_roundw
              case rel => exact ⟨j + 1, _, by omega, by go_num, by rw [TX.out, TY.out, HT.out], by first | rfl | rw [World.drewN_drewN]⟩
              case measure => simp [intOf]; omega
            · have hb : (x != y) = true := by simp [hxy]
              have HF := Lib.hid (eqL_no hxy X.out Y.out)
              clear hxy
              go_wp2
              go_quiet (fail)
              go_wp2
              go_ret
              exact ⟨ret_bool HF.out.symm, by first | exact below_drewN (Below.refl _ _) _ | exact below_drewN (below_drewN (Below.refl _ _) _) _⟩
          · go_wp2
            go_ret
            exact ⟨ret_bool (eqL_yes HL.out (by omega) HT.out).symm, below_drewN (Below.refl _ _) _⟩
  · have hne : ((l.length : Int) != (m.length : Int)) = true := by simp; omega
    have HF : Hid (eqL l m = false) := by
      show eqL l m = false
      unfold eqL; simp; rintro rfl; exact hlen rfl
    go_enter Tryz.func61, Tryz.ntmps61
    go_wp2
    go_ret
    exact ⟨ret_bool HF.out.symm, Below.refl _ _⟩

theorem Tryz.infoU8 : (Tryz.prog.info? 5).map (fun i => (i.zero, i.size, i.bytes)) = some (some (.int .u8 0), 1, 1) := by kernel_rfl
set_option maxHeartbeats 800000 in
theorem toByteS_any (a : Option Addr) (c : Nat) (l : List Int) (w : World) (h : Rd w .u8 a l) (hn : l.length ≤ 281474976710656) :
    Calls Tryz.prog 59 #[.slice a l.length c] w (Made w 5 .u8 l) := by
  obtain ⟨i0, hi, hz0, hz1, hz2⟩ := info_parts Tryz.infoU8
  have H := Lib.hid h; clear h
  rcases H.out with rfl | ⟨b, off, rfl, _⟩
  · go_enter Tryz.func59, Tryz.ntmps59
    go_wp2_with (at_make; refine wpList_make_full _ rfl (.tmp 6) (.tmp 6) 22 rfl w.heap.size 5 i0 (.int .u8 0) 1 Tryz.underlying22 hi hz0 hz1 .i64 .i64 _ _ 0 rfl rfl rfl rfl (by omega) (by unfold maxLen; omega) (Nat.le_refl _) ?_; intro w1 hown hgrow)
    refine wp_loop_rounds 1 ?_; rw [rounds_succ]; go_wp2
    go_ret
    rw [made_ints] at hown
    exact ⟨_, _, rfl, hown, below_of_grown hgrow (Nat.le_refl _) (by intro g hg; cases hg)⟩
  · go_enter Tryz.func59, Tryz.ntmps59
    go_wp2_with (at_make; refine wpList_make_full _ rfl (.tmp 6) (.tmp 6) 22 rfl w.heap.size 5 i0 (.int .u8 0) 1 Tryz.underlying22 hi hz0 hz1 .i64 .i64 _ _ l.length rfl rfl rfl rfl (by rw [hz2]; omega) (by unfold maxLen; omega) (Nat.le_refl _) ?_; intro w1 hown hgrow)
    rw [made_ints, ← fillL_zero] at hown
    have hbel : Below w.heap.size w w1 := below_of_grown hgrow (Nat.le_refl _) (by intro g hg; cases hg)
    clear hgrow hi hz0 hz1 hz2
    go_loopw [4] (fun i wr => ∃ j : Nat, j ≤ l.length ∧ i = .int .i64 j ∧ wr.ownsRow w.heap.size 5 1 (.slice (some ⟨w.heap.size, 0, none⟩) l.length l.length) l.length ((fillL l j).map (Value.int .u8)) ∧ Below w.heap.size w wr) (fun i _ => l.length - (intOf i).toNat)
    case atStart => exact ⟨0, Nat.zero_le _, rfl, hown, hbel⟩
    case round =>
      clear hown hbel
      obtain ⟨j, hj, rfl, ho, hb⟩ := hrel
      by_cases hlt : j < l.length
      · obtain ⟨b', off', heq, hc⟩ : ∃ b' off', (some ⟨b, off, none⟩ : Option Addr) = some ⟨b', off', none⟩ ∧ ∀ i, i < l.length → wr.cell? ⟨b', off' + i, none⟩ = some (.int .u8 (l.getD i 0)) := by
          rcases H.out.below hb with rfl | h'
          · simp at hlt
          · exact h'
        simp only [Option.some.injEq, Addr.mk.injEq, and_true] at heq
        obtain ⟨rfl, rfl⟩ := heq
        obtain ⟨z, _, _, hcz, ht⟩ := Rd.at_ hc hlt
        obtain ⟨y, hy⟩ := toS_cell hlt ho
        have hf := ho.frozenAt j
        have R := Lib.hid (toS_round hlt ht (Nat.le_refl _) ho hb)
        clear ht hc ho hb
        go_wp2
        go_roundw
        case rel => exact ⟨j + 1, by omega, by go_num, R.out.1, R.out.2⟩
        case measure => simp [intOf]; omega
      · go_wp2
        go_ret
        refine ⟨_, _, rfl, ?_, hb⟩
        rw [fillL_all l j (by omega)] at ho
        exact ho

set_option maxHeartbeats 800000 in
theorem markByteS_any (base : Nat) (ao : Option Addr) (c : Nat) (l : List Int) (m : Int) (w : World) (h : Own w base 5 .u8 ao c l) (h0 : 0 ≤ m) (hm : m + l.length ≤ 4611686018427387904) :
    Calls Tryz.prog 62 #[.slice ao l.length c, .int .i64 m] w (Marked w IntKind.u8.wrap .u8 ao l.length m) := by
  rcases h.form with ⟨rfl, rfl, rfl⟩ | ⟨g, rfl, _⟩
  · go_enter Tryz.func62, Tryz.ntmps62
    go_wp2
    refine wp_loop_rounds 1 ?_; rw [rounds_succ]; go_wp2
    go_ret
    exact ⟨ret_int (by simp), .inl rfl, World.grownBy.refl _ _⟩
  · have hs : MarkRel w w base 5 .u8 IntKind.u8.wrap m g c l 0 := ⟨by have h' := h; unfold Own at h'; simpa [marksL] using h', World.grownBy.refl _ _⟩
    clear h
    go_enter Tryz.func62, Tryz.ntmps62
    go_wp2
    go_loopw [1, 5] (fun q i wr => ∃ j : Nat, j ≤ l.length ∧ i = .int .i64 j ∧ q = .int .i64 (m + j) ∧ MarkRel w wr base 5 .u8 IntKind.u8.wrap m g c l j) (fun _ i _ => l.length - (intOf i).toNat)
    case atStart => exact ⟨0, Nat.zero_le _, rfl, by simp, hs⟩
    case round =>
      clear hs
      obtain ⟨j, hj, rfl, rfl, hr⟩ := hrel
      by_cases hlt : j < l.length
      · obtain ⟨y, hy⟩ := hr.cell hlt
        have hf := hr.1.frozenAt j
        have R := Lib.hid (hr.step hlt)
        clear hr
        go_wp2
        go_roundw
        case rel => exact ⟨j + 1, by omega, by go_num, by go_num, R.out⟩
        case measure => simp [intOf]; omega
      · have e : j = l.length := by omega
        have D := Lib.hid (hr.done e)
        have G := Lib.hid hr.2
        clear hr
        subst e
        go_wp2
        go_ret
        exact ⟨rfl, D.out, G.out⟩

end Go.Proofs.YtfpbhedophlnkaaGreatDoor
