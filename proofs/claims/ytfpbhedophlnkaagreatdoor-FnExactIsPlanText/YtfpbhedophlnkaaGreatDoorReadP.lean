/-
  Digits and what they are worth. Plain facts; no walk.
-/
import Derived.Test.YtfpbhedophlnkaaGreatDoorKX
namespace Go.Proofs.YtfpbhedophlnkaaGreatDoor
set_option linter.unusedSimpArgs false
set_option linter.unusedVariables false

/-- What some digits are worth. -/
def valD (l : List UInt8) : Nat := l.foldl (fun a c => 10 * a + (c.toNat - 48)) 0
theorem valD_snoc (l : List UInt8) (c : UInt8) : valD (l ++ [c]) = 10 * valD l + (c.toNat - 48) := by simp [valD]
theorem dig_toNat (u : Nat) : (UInt8.ofNat (48 + u % 10)).toNat = 48 + u % 10 := by rw [UInt8.toNat_ofNat']; omega
theorem valD_dec (u : Nat) : valD (Lib.decDigits u) = u := by
  induction u using Nat.strongRecOn with
  | _ u ih =>
    by_cases h : u < 10
    · rw [dec_one h]
      have := dig_toNat u
      rw [Nat.mod_eq_of_lt h] at this
      show 10 * 0 + ((UInt8.ofNat (48 + u)).toNat - 48) = u
      rw [this]; omega
    · rw [dec_ten (by omega), valD_snoc, ih (u / 10) (by omega), dig_toNat]; omega
theorem dec_digit (u : Nat) : ∀ c ∈ Lib.decDigits u, 48 ≤ c.toNat ∧ c.toNat ≤ 57 := by
  induction u using Nat.strongRecOn with
  | _ u ih =>
    by_cases h : u < 10
    · rw [dec_one h]
      have := dig_toNat u
      rw [Nat.mod_eq_of_lt h] at this
      intro c hc
      rw [List.mem_singleton] at hc
      subst hc; omega
    · rw [dec_ten (by omega)]
      intro c hc
      rcases List.mem_append.1 hc with hc | hc
      · exact ih (u / 10) (by omega) c hc
      · rw [List.mem_singleton] at hc
        subst hc; rw [dig_toNat]; omega
theorem dec_pos (u : Nat) : 1 ≤ (Lib.decDigits u).length := by
  by_cases h : u < 10
  · rw [dec_one h]; simp
  · rw [dec_ten (by omega)]; simp
theorem dec_len {u : Nat} (h : u ≤ 1000000) : (Lib.decDigits u).length ≤ 7 := by
  by_cases h0 : u = 0
  · subst h0; rw [dec_one (by omega)]; simp
  · have := leftD_len 7 u (by have : (10 : Nat) ^ 7 = 10000000 := by decide
                              omega)
    unfold leftD at this
    rwa [if_neg h0] at this
theorem valD_acc : ∀ (l : List UInt8) (a : Nat), (∀ c ∈ l, 48 ≤ c.toNat ∧ c.toNat ≤ 57) → l.foldl (fun a c => 10 * a + (c.toNat - 48)) a < (a + 1) * 10 ^ l.length
  | [], a, _ => by simp
  | c :: r, a, h => by
    have h1 := valD_acc r (10 * a + (c.toNat - 48)) (fun d hd => h d (by simp [hd]))
    have h2 := h c (by simp)
    rw [List.foldl_cons, List.length_cons, Nat.pow_succ]
    have h3 : (10 * a + (c.toNat - 48) + 1) * 10 ^ r.length ≤ (10 * (a + 1)) * 10 ^ r.length := Nat.mul_le_mul_right _ (by omega)
    have h4 : (10 * (a + 1)) * 10 ^ r.length = (a + 1) * (10 ^ r.length * 10) := by rw [Nat.mul_comm 10 (a + 1), Nat.mul_assoc, Nat.mul_comm 10]
    omega
theorem valD_lt {l : List UInt8} (h : ∀ c ∈ l, 48 ≤ c.toNat ∧ c.toNat ≤ 57) : valD l < 10 ^ l.length := by
  have := valD_acc l 0 h
  simpa [valD] using this
theorem numT_list (x : Int) : (numT x).data.toList = Lib.itoa x := by simp [numT]
theorem numT_inj {x y : Int} (h : numT x = numT y) : x = y := by
  have h1 : Lib.itoa x = Lib.itoa y := by rw [← numT_list, ← numT_list, h]
  unfold Lib.itoa at h1
  have key : ∀ (u v : Nat), Lib.decDigits u ≠ 45 :: Lib.decDigits v := fun u v hh => by
    have := dec_digit u 45 (by rw [hh]; simp)
    simp at this
  split at h1 <;> split at h1
  · have h2 := congrArg valD (List.cons.inj h1).2
    rw [valD_dec, valD_dec] at h2; omega
  · exact absurd h1.symm (key _ _)
  · exact absurd h1 (key _ _)
  · have h2 := congrArg valD h1
    rw [valD_dec, valD_dec] at h2; omega
end Go.Proofs.YtfpbhedophlnkaaGreatDoor
