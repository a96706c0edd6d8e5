/-
  Plain facts on rows of integers that are compared, filled and marked. No walk.
-/
import Derived.Test.YtfpbhedophlnkaaDoorRows
import Derived.Test.YtfpbhedophlnkaaDoorMem
import Derived.WalkKit
import Derived.WalkSpells
import Derived.WalkLawsBesides
import Derived.Deep.QuietTactic
import Derived.BigQuiet
namespace Go.Proofs.YtfpbhedophlnkaaDoor
open Go.RowKit
set_option linter.unusedSimpArgs false
set_option linter.unusedVariables false

def eqL (a b : List Int) : Bool := decide (a = b)

theorem eqL_no {l m : List Int} {j : Nat} {x y : Int} (h : ¬ x = y) (hx : l[j]? = some x) (hy : m[j]? = some y) : eqL l m = false := by
  unfold eqL; simp; rintro rfl; rw [hx] at hy; exact h (by injection hy)
theorem eqL_yes {l m : List Int} {j : Nat} (h : l.length = m.length) (hj : l.length ≤ j) (ht : l.take j = m.take j) : eqL l m = true := by
  unfold eqL; simp; rw [List.take_of_length_le hj, List.take_of_length_le (by omega)] at ht; exact ht
theorem eqL_refl (l : List Int) : eqL l l = true := by unfold eqL; simp
theorem below_drewN {B : Nat} {a w : World} (h : Below B a w) (n : Nat) : Below B a (w.drewN n) := ⟨h.os, h.tape, h.output, h.size, h.block⟩

def fillL (l : List Int) (k : Nat) : List Int := l.take k ++ List.replicate (l.length - k) 0
theorem fillL_zero (l : List Int) : fillL l 0 = List.replicate l.length 0 := by simp [fillL]
theorem fillL_len (l : List Int) (k : Nat) (h : k ≤ l.length) : (fillL l k).length = l.length := by simp [fillL]; omega
theorem fillL_all (l : List Int) (k : Nat) (h : l.length ≤ k) : fillL l k = l := by
  simp [fillL, List.take_of_length_le h, Nat.sub_eq_zero_of_le h]
theorem fillL_step (l : List Int) (k : Nat) (z : Int) (h : k < l.length) (ht : l.take (k + 1) = l.take k ++ [z]) : (fillL l k).set k z = fillL l (k + 1) := by
  have e : l.length - k = (l.length - (k + 1)) + 1 := by omega
  have hk : (l.take k).length = k := by simp; omega
  simp only [fillL]
  rw [ht, e, List.replicate_succ, List.set_append_right _ _ (by omega), hk, Nat.sub_self]
  simp
theorem map_set_int (k : IntKind) (l : List Int) (i : Nat) (z : Int) : (l.map (Value.int k)).set i (.int k z) = (l.set i z).map (Value.int k) := by
  rw [List.map_set]
theorem made_ints (k : IntKind) (n : Nat) : (madeCells (Value.int k 0).cells (n * 1)).toList = (List.replicate n (0 : Int)).map (Value.int k) := by
  rw [Nat.mul_one, show (Value.int k 0).cells = #[.int k 0] from rfl, toList_madeCells_one]; simp
theorem Tryd.infoI64 : (Tryd.prog.info? 3).map (fun i => (i.zero, i.size, i.bytes)) = some (some (.int .i64 0), 1, 8) := by kernel_rfl

theorem toS_round {w wr : World} {e : TypeId} {k : IntKind} {g : Nat} {l : List Int} {j : Nat} {z : Int} (hj : j < l.length) (ht : l.take (j + 1) = l.take j ++ [z]) (hg : w.heap.size ≤ g)
    (ho : wr.ownsRow w.heap.size e 1 (.slice (some ⟨g, 0, none⟩) l.length l.length) l.length ((fillL l j).map (Value.int k))) (hb : Below w.heap.size w wr) :
    (wr.setCell ⟨g, j, none⟩ (.int k z)).ownsRow w.heap.size e 1 (.slice (some ⟨g, 0, none⟩) l.length l.length) l.length ((fillL l (j + 1)).map (Value.int k)) ∧ Below w.heap.size w (wr.setCell ⟨g, j, none⟩ (.int k z)) := by
  have h1 := (ho.stored j (.int k z)).1
  rw [map_set_int, fillL_step l j z hj ht] at h1
  exact ⟨h1, hb.setCell hg _⟩
theorem toS_cell {w wr : World} {e : TypeId} {k : IntKind} {g : Nat} {l : List Int} {j : Nat} (hj : j < l.length)
    (ho : wr.ownsRow w.heap.size e 1 (.slice (some ⟨g, 0, none⟩) l.length l.length) l.length ((fillL l j).map (Value.int k))) : ∃ y, wr.cell? ⟨g, j, none⟩ = some (.int k y) := by
  have h := ho.cellAt j (by omega)
  have hl : j < (fillL l j).length := by rw [fillL_len l j (by omega)]; exact hj
  rw [List.getElem?_map, List.getElem?_eq_getElem hl] at h
  exact ⟨_, h⟩

/-- What marking lays into n cells from the number m on. -/
def marksL (f : Int → Int) (m : Int) (n : Nat) : List Int := (List.range n).map fun (i : Nat) => f (m + (i : Int))
theorem marksL_len (f : Int → Int) (m : Int) (n : Nat) : (marksL f m n).length = n := by simp [marksL]
theorem marksL_succ (f : Int → Int) (m : Int) (n : Nat) : marksL f m (n + 1) = marksL f m n ++ [f (m + (n : Int))] := by simp [marksL, List.range_succ]
theorem marksL_get (f : Int → Int) (m : Int) (n i : Nat) (h : i < n) : (marksL f m n)[i]? = some (f (m + (i : Int))) := by simp [marksL, h]
theorem marks_step (f : Int → Int) (m : Int) (l : List Int) (j : Nat) (h : j < l.length) : (marksL f m j ++ l.drop j).set j (f (m + (j : Int))) = marksL f m (j + 1) ++ l.drop (j + 1) := by
  rw [List.set_append_right _ _ (by rw [marksL_len]; exact Nat.le_refl _), marksL_len, Nat.sub_self, marksL_succ, List.append_assoc, List.drop_eq_getElem_cons h]
  rfl
def Marked (w : World) (f : Int → Int) (k : IntKind) (ao : Option Addr) (n : Nat) (m : Int) (en : Ending) (w' : World) : Prop :=
  en = .returned (.int .i64 (m + n)) ∧ Rd w' k ao (marksL f m n) ∧ w.grownBy w' (ao.map (·.block))
def MarkRel (w wr : World) (base : Nat) (e : TypeId) (k : IntKind) (f : Int → Int) (m : Int) (g : Nat) (c : Nat) (l : List Int) (j : Nat) : Prop :=
  wr.ownsRow base e 1 (.slice (some ⟨g, 0, none⟩) l.length c) l.length ((marksL f m j ++ l.drop j).map (Value.int k)) ∧ w.grownBy wr (some g)
theorem MarkRel.cell {w wr : World} {base : Nat} {e : TypeId} {k : IntKind} {f : Int → Int} {m : Int} {g c : Nat} {l : List Int} {j : Nat} (h : MarkRel w wr base e k f m g c l j) (hj : j < l.length) :
    ∃ y, wr.cell? ⟨g, j, none⟩ = some (.int k y) := by
  have h1 := h.1.cellAt j (by omega)
  have hl : j < (marksL f m j ++ l.drop j).length := by simp [marksL_len]; omega
  rw [List.getElem?_map, List.getElem?_eq_getElem hl] at h1
  exact ⟨_, h1⟩
theorem MarkRel.step {w wr : World} {base : Nat} {e : TypeId} {k : IntKind} {f : Int → Int} {m : Int} {g c : Nat} {l : List Int} {j : Nat} (h : MarkRel w wr base e k f m g c l j) (hj : j < l.length) :
    MarkRel w (wr.setCell ⟨g, j, none⟩ (.int k (f (m + (j : Int))))) base e k f m g c l (j + 1) := by
  have h1 := h.1.stored j (.int k (f (m + (j : Int))))
  rw [map_set_int, marks_step f m l j hj] at h1
  refine ⟨h1.1, ⟨h1.2.os.trans h.2.os, h1.2.tape.trans h.2.tape, h1.2.output.trans h.2.output, Nat.le_trans h.2.size h1.2.size, fun i hi hne => (h1.2.block i (Nat.lt_of_lt_of_le hi h.2.size) hne).trans (h.2.block i hi hne)⟩⟩
theorem MarkRel.done {w wr : World} {base : Nat} {e : TypeId} {k : IntKind} {f : Int → Int} {m : Int} {g c : Nat} {l : List Int} {j : Nat} (h : MarkRel w wr base e k f m g c l j) (hj : j = l.length) :
    Rd wr k (some ⟨g, 0, none⟩) (marksL f m l.length) := by
  subst hj
  refine .inr ⟨g, 0, rfl, fun i hi => ?_⟩
  rw [marksL_len] at hi
  rw [Nat.zero_add, h.1.cellAt i (by omega), List.drop_length, List.append_nil, List.getElem?_map, List.getD_eq_getElem?_getD, marksL_get f m _ i hi]; rfl

end Go.Proofs.YtfpbhedophlnkaaDoor
