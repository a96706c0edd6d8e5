/-
  A text read rune by rune: bytes below 128 stand for themselves, whatever else stands in a rune is 128 or more. Plain facts; no program, no walk.
-/
import Derived.Test.YtfpbhedophlnkaaWordsP
import Derived.Laws.RangeAny
import Derived.Lib.DecodeN
namespace Go.Proofs.Ytfpbhedophlnkaa
set_option linter.unusedSimpArgs false
set_option linter.unusedVariables false

theorem get_of {s : ByteArray} {i : Nat} {c : UInt8} (h : s.data.toList[i]? = some c) : s.get! i = c := by
  rw [Array.getElem?_toList] at h
  obtain ⟨hi, he⟩ := Array.getElem?_eq_some_iff.1 h
  show s.data.get!Internal i = c
  rw [Array.get!Internal_eq_getElem!, getElem!_pos s.data i hi]; exact he
theorem dec_rune (s : ByteArray) (pos : Nat) (c : UInt8) (h : s.data.toList[pos]? = some c) :
    1 ≤ (Utf8.decode s pos).2 ∧ pos + (Utf8.decode s pos).2 ≤ s.size ∧
    ((c.toNat < 128 ∧ Utf8.decode s pos = (c.toNat, 1)) ∨ (128 ≤ c.toNat ∧ 128 ≤ (Utf8.decode s pos).1 ∧ ∀ i, pos ≤ i → i < pos + (Utf8.decode s pos).2 → ∀ d, s.data.toList[i]? = some d → 128 ≤ d.toNat)) := by
  have hlt : pos < s.size := by
    have := (List.getElem?_eq_some_iff.1 h).1
    rw [Array.length_toList] at this; exact this
  have h0 := get_of h
  rw [Lib.decode_at, h0]
  have hd : ∀ k (d : UInt8), s.data.toList[pos + k]? = some d → (s.get! (pos + k)).toNat = d.toNat := fun k d hk => by rw [get_of hk]
  generalize hb1 : (s.get! (pos + 1)).toNat = b1 at *
  generalize hb2 : (s.get! (pos + 2)).toNat = b2 at *
  generalize hb3 : (s.get! (pos + 3)).toNat = b3 at *
  have d1 : ∀ d : UInt8, s.data.toList[pos + 1]? = some d → b1 = d.toNat := fun d hk => by rw [← hb1]; exact hd 1 d hk
  have d2 : ∀ d : UInt8, s.data.toList[pos + 2]? = some d → b2 = d.toNat := fun d hk => by rw [← hb2]; exact hd 2 d hk
  have d3 : ∀ d : UInt8, s.data.toList[pos + 3]? = some d → b3 = d.toNat := fun d hk => by rw [← hb3]; exact hd 3 d hk
  clear hd hb1 hb2 hb3 h0
  have one : ∀ (x : Nat), 128 ≤ c.toNat → ∀ i, pos ≤ i → i < pos + 1 → ∀ d, s.data.toList[i]? = some d → 128 ≤ d.toNat := fun x hc i h1 h2 d hk => by
    obtain rfl : i = pos := by omega
    rw [h] at hk; cases hk; exact hc
  have upto : ∀ m, 128 ≤ c.toNat → m ≤ 4 → (2 ≤ m → 128 ≤ b1) → (3 ≤ m → 128 ≤ b2) → (4 ≤ m → 128 ≤ b3) → ∀ i, pos ≤ i → i < pos + m → ∀ d, s.data.toList[i]? = some d → 128 ≤ d.toNat := fun m hc hm h1 h2 h3 i hi1 hi2 d hk => by
    have hcs : i = pos ∨ i = pos + 1 ∨ i = pos + 2 ∨ i = pos + 3 := by omega
    rcases hcs with rfl | rfl | rfl | rfl
    · rw [h] at hk; cases hk; exact hc
    · rw [← d1 d hk]; exact h1 (by omega)
    · rw [← d2 d hk]; exact h2 (by omega)
    · rw [← d3 d hk]; exact h3 (by omega)
  unfold Lib.decodeN
  split
  · rename_i hc
    exact ⟨by simp, by simp only; omega, .inl ⟨hc, rfl⟩⟩
  · rename_i hc
    have hc' : 128 ≤ c.toNat := by omega
    repeat' split
    all_goals simp only
    all_goals first
      | exact ⟨by omega, by omega, .inr ⟨hc', by omega, upto 1 hc' (by omega) (by omega) (by omega) (by omega)⟩⟩
      | exact ⟨by omega, by omega, .inr ⟨hc', by omega, upto 2 hc' (by omega) (by omega) (by omega) (by omega)⟩⟩
      | exact ⟨by omega, by omega, .inr ⟨hc', by omega, upto 3 hc' (by omega) (by omega) (by omega) (by omega)⟩⟩
      | exact ⟨by omega, by omega, .inr ⟨hc', by omega, upto 4 hc' (by omega) (by omega) (by omega) (by omega)⟩⟩
theorem blank_lt {c : UInt8} (h : blankB c = true) : c.toNat = 32 ∨ c.toNat = 10 := by
  unfold blankB at h
  simp at h
  rcases h with rfl | rfl
  · left; rfl
  · right; rfl
theorem blank_of {c : UInt8} (h : c.toNat = 32 ∨ c.toNat = 10) : blankB c = true := by
  unfold blankB
  simp
  rcases h with h | h
  · left; exact UInt8.toNat_inj.1 h
  · right; exact UInt8.toNat_inj.1 h
theorem blank_not {c : UInt8} (h : ¬ (c.toNat = 32 ∨ c.toNat = 10)) : blankB c = false := by
  cases hb : blankB c with
  | false => rfl
  | true => exact absurd (blank_lt hb) h
end Go.Proofs.Ytfpbhedophlnkaa
