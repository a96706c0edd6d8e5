/-
  Plain facts on rows that are sorted block by block. No program, no walk.
-/
import Derived.Test.YtfpbhedophlnkaaGreatDoorJR11x
namespace Go.Proofs.YtfpbhedophlnkaaGreatDoor
set_option linter.unusedSimpArgs false
set_option linter.unusedVariables false

section
variable {α : Type} {lt : α → α → Bool}
/-- Sorted blocks of one length, the last one perhaps shorter. -/
inductive Ch (lt : α → α → Bool) (bs : Nat) : List α → Prop
  | last (l : List α) : l.length ≤ bs → Asc lt l → Ch lt bs l
  | cons (x l : List α) : x.length = bs → Asc lt x → Ch lt bs l → Ch lt bs (x ++ l)
inductive Full (lt : α → α → Bool) (bs : Nat) : List α → Prop
  | nil : Full lt bs []
  | snoc (X z : List α) : Full lt bs X → z.length = bs → Asc lt z → Full lt bs (X ++ z)
theorem Full.ch {bs : Nat} {X : List α} (h : Full lt bs X) : ∀ l, Ch lt bs l → Ch lt bs (X ++ l) := by
  induction h with
  | nil => intro l hl; exact hl
  | snoc X z _ hz ha ih =>
    intro l hl
    rw [List.append_assoc]
    exact ih _ (Ch.cons z l hz ha hl)
theorem Ch.done {bs : Nat} {Y : List α} (h : Ch lt bs Y) (hl : Y.length ≤ bs) : Asc lt Y := by
  cases h with
  | last _ _ ha => exact ha
  | cons x l hx ha _ =>
    have : l = [] := List.eq_nil_of_length_eq_zero (by simp at hl; omega)
    subst this; simpa using ha
theorem Ch.more {bs : Nat} {Y : List α} (h : Ch lt bs Y) (hl : bs < Y.length) : ∃ x l, Y = x ++ l ∧ x.length = bs ∧ Asc lt x ∧ Ch lt bs l := by
  cases h with
  | last _ h1 _ => omega
  | cons x l hx ha hc => exact ⟨x, l, rfl, hx, ha, hc⟩
theorem Ch.take {bs : Nat} {Y : List α} (h : Ch lt bs Y) (hl : bs ≤ Y.length) : ∃ x l, Y = x ++ l ∧ x.length = bs ∧ Asc lt x ∧ Ch lt bs l := by
  rcases Nat.lt_or_eq_of_le hl with h1 | h1
  · exact h.more h1
  · exact ⟨Y, [], by simp, h1.symm, h.done (by omega), Ch.last [] (Nat.zero_le _) Asc.nil⟩
theorem Ch.two {bs : Nat} {Y : List α} (h : Ch lt bs Y) (h0 : 0 < bs) (hl : 2 * bs ≤ Y.length) : ∃ x y l, Y = x ++ y ++ l ∧ x.length = bs ∧ y.length = bs ∧ Asc lt x ∧ Asc lt y ∧ Ch lt bs l := by
  obtain ⟨x, l, rfl, hx, ax, hc⟩ := h.more (by omega)
  obtain ⟨y, l', rfl, hy, ay, hc'⟩ := hc.take (by simp at hl; omega)
  exact ⟨x, y, l', by simp, hx, hy, ax, ay, hc'⟩

/-- A row that has been sorted in part: what it holds, in which order. -/
def Same (lt : α → α → Bool) (d D : List α) : Prop := SE lt d D ∧ d.Perm D
theorem Same.refl (D : List α) : Same lt D D := ⟨SE.refl D, List.Perm.refl D⟩
theorem Same.put {X Y Z T D : List α} (h : Same lt (X ++ Y ++ T) D) (k : St lt Z Y) : Same lt (X ++ Z ++ T) D :=
  ⟨(((SE.refl X).app k.2.1).app (SE.refl T)).trans h.1, ((k.2.2.append_left X).append_right T).trans h.2⟩
theorem Same.len {d D : List α} (h : Same lt d D) : d.length = D.length := h.2.length_eq
theorem Same.st {d D : List α} (h : Same lt d D) (ha : Asc lt d) : St lt d D := ⟨ha, h.1, h.2⟩
end
end Go.Proofs.YtfpbhedophlnkaaGreatDoor
