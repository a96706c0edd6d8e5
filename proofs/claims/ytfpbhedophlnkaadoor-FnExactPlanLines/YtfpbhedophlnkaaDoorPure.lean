/-
  Plain facts on lists of bytes and on numbers, used by the proofs of this seat. No program, no walk.
-/
namespace Go.Proofs.YtfpbhedophlnkaaDoor
set_option linter.unusedSimpArgs false
set_option linter.unusedVariables false

/-- A letter a .. z or a digit. -/
def charB (c : Nat) : Bool := (decide (97 ≤ c) && decide (c ≤ 122)) || (decide (48 ≤ c) && decide (c ≤ 57))
def allB (l : List UInt8) : Bool := l.all fun c => charB c.toNat
/-- What chapter 1 calls a word. -/
def wordB (l : List UInt8) : Bool := decide (1 ≤ l.length) && decide (l.length ≤ 12) && decide (97 ≤ (l.headD 0).toNat) && allB l

theorem allB_take_succ (s : ByteArray) (k : Nat) (h : k < s.size) : allB (s.data.toList.take (k + 1)) = (allB (s.data.toList.take k) && charB s[k].toNat) := by
  have e : s.data.toList.take (k + 1) = s.data.toList.take k ++ [s[k]] := by rw [List.take_succ_eq_append_getElem (by simpa using h)]; rfl
  rw [e]; unfold allB; simp
theorem allB_false_of (s : ByteArray) (k : Nat) (h : k < s.size) (hc : charB s[k].toNat = false) : allB s.data.toList = false := by
  unfold allB
  rw [List.all_eq_false]
  exact ⟨s[k], by simp [ByteArray.getElem_eq_getElem_data], by simp [hc]⟩
theorem head_eq (s : ByteArray) (h : 0 < s.size) : s.data.toList.headD 0 = s[0] := by
  rcases s with ⟨⟨l⟩⟩
  cases l with
  | nil => simp [ByteArray.size] at h
  | cons a l => rfl
theorem charT {n : Nat} (h : (97 ≤ n ∧ n ≤ 122) ∨ (48 ≤ n ∧ n ≤ 57)) : charB n = true := by unfold charB; simp; omega
theorem charF {n : Nat} (h : ¬ ((97 ≤ n ∧ n ≤ 122) ∨ (48 ≤ n ∧ n ≤ 57))) : charB n = false := by
  cases hc : charB n with
  | false => rfl
  | true => exact absurd (by unfold charB at hc; simpa using hc) h
theorem char_of {n : Nat} (h : charB n = true) : (97 ≤ n ∧ n ≤ 122) ∨ (48 ≤ n ∧ n ≤ 57) := by unfold charB at h; simpa using h
theorem wordB_no {s : ByteArray} {k : Nat} (h : k < s.size) (hc : charB s[k].toNat = false) : wordB s.data.toList = false := by
  unfold wordB; rw [allB_false_of s k h hc]; simp
theorem wordB_head {s : ByteArray} (h : 0 < s.size) (hc : s[0].toNat < 97) : wordB s.data.toList = false := by
  unfold wordB; rw [head_eq s h]; simp; omega
theorem wordB_len {s : ByteArray} (h : ¬ (1 ≤ s.size ∧ s.size ≤ 12)) : wordB s.data.toList = false := by
  unfold wordB; simp; omega
theorem wordB_yes {s : ByteArray} (h1 : 1 ≤ s.size) (h2 : s.size ≤ 12) (h3 : 97 ≤ s[0].toNat) (k : Nat) (hk : s.size ≤ k) (ha : allB (s.data.toList.take k) = true) : wordB s.data.toList = true := by
  rw [List.take_of_length_le (by simpa using hk)] at ha
  unfold wordB; rw [head_eq s (by omega), ha]; simp; omega
end Go.Proofs.YtfpbhedophlnkaaDoor
