/-
  Reading a node, a plan and a schema out of bytes, as plain lists: one thing behind the other; once something is missing nothing more is read. No program, no walk.
-/
import Derived.Test.YtfpbhedophlnkaaGreatDoorKP
import Derived.Test.YtfpbhedophlnkaaGreatDoorNodes
namespace Go.Proofs.YtfpbhedophlnkaaGreatDoor
open Go.RowKit
set_option linter.unusedSimpArgs false
set_option linter.unusedVariables false

/-- A number at the place that is reached; none where something was missing already. -/
def numR (l : List Int) (s : Option Int) : Int × Option Int :=
  match s with
  | none => (0, none)
  | some p => if (takeN l p).2 = -1 then (0, none) else ((takeN l p).1, some (takeN l p).2)
def wordR (l : List Int) (s : Option Int) : ByteArray × Option Int :=
  match s with
  | none => (⟨#[]⟩, none)
  | some p => if (takeW l p).2 = -1 then (⟨#[]⟩, none) else ((takeW l p).1, some (takeW l p).2)
def listR (l : List Int) (s : Option Int) : List Int × Option Int :=
  match s with
  | none => ([], none)
  | some p => if (takeNs l p).2 = -1 then ([], none) else ((takeNs l p).1, some (takeNs l p).2)
def flagR (l : List Int) (s : Option Int) : Bool × Option Int :=
  ((numR l s).1 == 1, if (numR l s).1 = 0 ∨ (numR l s).1 = 1 then (numR l s).2 else none)
/-- What stands behind a node's kind. -/
def fieldR (l : List Int) (k : Int) (s : Option Int) : Nd × Option Int :=
  if k = 0 then (⟨0, (wordR l s).1, 0, 0, 0, false, []⟩, (wordR l s).2)
  else if k = 1 then
    (⟨1, ⟨#[]⟩, (numR l s).1, (numR l (numR l s).2).1, (numR l (flagR l (numR l (numR l s).2).2).2).1, (flagR l (numR l (numR l s).2).2).1, []⟩, (numR l (flagR l (numR l (numR l s).2).2).2).2)
  else if k = 2 then (⟨2, ⟨#[]⟩, 0, 0, 0, false, (listR l s).1⟩, (listR l s).2)
  else if k = 3 then (⟨3, ⟨#[]⟩, (numR l s).1, 0, (numR l (numR l s).2).1, false, []⟩, (numR l (numR l s).2).2)
  else if k = 5 then (⟨5, ⟨#[]⟩, (numR l s).1, 0, 0, false, []⟩, (numR l s).2)
  else if k = 6 then (⟨6, ⟨#[]⟩, 0, 0, (numR l (flagR l s).2).1, (flagR l s).1, []⟩, (numR l (flagR l s).2).2)
  else (⟨k, ⟨#[]⟩, 0, 0, 0, false, []⟩, s)
/-- A node, whether it is one or not, and the place behind it; none where something is missing or it is none. -/
def nodeR (l : List Int) (s : Option Int) : Nd × Option Int :=
  ((fieldR l (numR l s).1 (numR l s).2).1, if nodeB (fieldR l (numR l s).1 (numR l s).2).1 then (fieldR l (numR l s).1 (numR l s).2).2 else none)
def zeroNd : Nd := ⟨0, ⟨#[]⟩, 0, 0, 0, false, []⟩
def takeNd (l : List Int) (p : Int) : Nd × Int :=
  match (nodeR l (some p)).2 with
  | none => (zeroNd, -1)
  | some q => ((nodeR l (some p)).1, q)

theorem numR_none (l : List Int) : numR l none = (0, none) := rfl
theorem wordR_none (l : List Int) : wordR l none = (⟨#[]⟩, none) := rfl
theorem listR_none (l : List Int) : listR l none = ([], none) := rfl
theorem flagR_none (l : List Int) : flagR l none = (false, none) := rfl
theorem fieldR_none (l : List Int) (k : Int) : (fieldR l k none).2 = none := by
  unfold fieldR
  repeat' split
  all_goals first | rfl | simp [numR_none, flagR_none]

theorem takeW_pl {l : List Int} (hl : By l) (p : Int) : (takeW l p).2 = -1 ∨ (0 ≤ (takeW l p).2 ∧ (takeW l p).2 ≤ l.length) := by
  unfold takeW
  have := takeN_bd hl p
  repeat' split
  all_goals first | (left; rfl) | (right; simp only; omega) | (simp only; omega)
theorem takeW_12 (l : List Int) (p : Int) : (takeW l p).1.size ≤ 12 := by
  unfold takeW
  repeat' split
  · exact Nat.zero_le _
  · rw [strOf_size]; simp; omega
  · exact Nat.zero_le _
/-- A place of the bytes. -/
def Pl (l : List Int) (s : Option Int) : Prop := ∀ p, s = some p → 0 ≤ p ∧ p ≤ l.length
theorem Pl.none_ {l : List Int} : Pl l none := by intro p h; cases h
theorem numR_pl {l : List Int} (hl : By l) (s : Option Int) : Pl l (numR l s).2 := by
  unfold numR
  split
  · exact Pl.none_
  · split
    · exact Pl.none_
    · rename_i p h
      intro q hq
      injection hq with hq
      have := takeN_bd hl p
      omega
theorem numR_bd {l : List Int} (hl : By l) (s : Option Int) : -1000000 ≤ (numR l s).1 ∧ (numR l s).1 ≤ 1000000 := by
  unfold numR
  split
  · exact ⟨by decide, by decide⟩
  · split
    · exact ⟨by decide, by decide⟩
    · rename_i p h
      have := takeN_bd hl p
      omega
theorem flagR_pl {l : List Int} (hl : By l) (s : Option Int) : Pl l (flagR l s).2 := by
  unfold flagR
  simp only
  split
  · exact numR_pl hl s
  · exact Pl.none_
end Go.Proofs.YtfpbhedophlnkaaGreatDoor
