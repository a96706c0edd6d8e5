/-
  Contract of spec.l01Parts: a text parted at each byte of one kind. For every text that is not too long, and every byte. Digits and what they are worth. Plain facts; no walk.
-/
import Derived.Test.YtfpbhedophlnkaaGreatDoorJR24x
import Derived.WalkKit
namespace Go.Proofs.YtfpbhedophlnkaaGreatDoor
open Go.RowKit
set_option linter.unusedSimpArgs false
set_option linter.unusedVariables false

def mkB (x : List UInt8) : ByteArray := ⟨x.toArray⟩
def partsSP (b : UInt8) (s : ByteArray) : List ByteArray := (splitB b s.data.toList).map mkB
def PRel (w : World) (s : ByteArray) (b : UInt8) (wr : World) (o a i : Value) : Prop :=
  ∃ (k m n : Nat) (ao : Option Addr) (c : Nat) (out : List ByteArray), o = .slice ao n c ∧ a = .int .i64 m ∧ i = .int .i64 k ∧ n = out.length ∧ OwnS wr w.heap.size ao c out ∧ Below w.heap.size w wr ∧ out.length ≤ k ∧ k ≤ s.size + 1 ∧
    ((k ≤ s.size ∧ m ≤ k ∧ partsSP b s = out ++ (splitB b (s.data.toList.drop m)).map mkB ∧ ∀ z ∈ (s.data.toList.drop m).take (k - m), z ≠ b) ∨ (k = s.size + 1 ∧ partsSP b s = out))
theorem ext_mk (s : ByteArray) (m k : Nat) : s.extract m k = mkB ((s.data.toList.drop m).take (k - m)) := by
  apply ByteArray.ext
  unfold mkB
  rw [ByteArray.data_extract]
  apply Array.toList_inj.1
  simp [Array.toList_extract, List.extract_eq_take_drop]
theorem cell_one_p (w : World) (y : ByteArray) (t : TypeId) : ∀ i, i < [y].length → (w.alloc (.cells #[.string y] t)).cell? ⟨w.heap.size, i, none⟩ = some (.string ([y].getD i ByteArray.empty)) := by
  intro i hi
  obtain rfl : i = 0 := by simp at hi; omega
  rw [World.cell?_alloc_new]; rfl

theorem p_hit {w w1 : World} {s : ByteArray} {b : UInt8} {k m : Nat} {ao : Option Addr} {c : Nat} {out : List ByteArray} (hlt : k < s.size) (hmk : m ≤ k) (hok : out.length ≤ k) (hp : partsSP b s = out ++ (splitB b (s.data.toList.drop m)).map mkB) (hno : ∀ z ∈ (s.data.toList.drop m).take (k - m), z ≠ b) (hx : s.data.toList[k]? = some b)
    (ho : OwnS w1 w.heap.size ao c (out ++ [s.extract m k])) (hb : Below w.heap.size w w1) : PRel w s b w1 (.slice ao (out ++ [s.extract m k]).length c) (.int .i64 ((k : Int) + 1)) (.int .i64 ((k : Int) + 1)) := by
  refine ⟨k + 1, k + 1, _, ao, c, _, rfl, by simp, by simp, rfl, ho, hb, by simp; omega, by omega, .inl ⟨hlt, Nat.le_refl _, ?_, by simp⟩⟩
  have hd : s.data.toList.drop m = (s.data.toList.drop m).take (k - m) ++ b :: s.data.toList.drop (k + 1) := by
    have h1 := (List.take_append_drop (k - m) (s.data.toList.drop m)).symm
    rw [List.drop_drop, show m + (k - m) = k by omega] at h1
    have hl := (List.getElem?_eq_some_iff.1 hx).1
    have h2 : s.data.toList.drop k = b :: s.data.toList.drop (k + 1) := by
      rw [List.drop_eq_getElem_cons hl]
      rw [List.getElem?_eq_getElem hl] at hx
      injection hx with hx
      rw [hx]
    rw [h2] at h1
    exact h1
  rw [hp]
  conv => lhs; rw [hd]
  rw [split_hit _ hno, ext_mk]
  simp
theorem p_on {w w1 : World} {s : ByteArray} {b z0 : UInt8} {k m n : Nat} {ao : Option Addr} {c : Nat} {out : List ByteArray} (hlt : k < s.size) (hmk : m ≤ k) (hok : out.length ≤ k) (hp : partsSP b s = out ++ (splitB b (s.data.toList.drop m)).map mkB) (hno : ∀ z ∈ (s.data.toList.drop m).take (k - m), z ≠ b) (hx : s.data.toList[k]? = some z0) (hz : z0 ≠ b) (hn : n = out.length)
    (ho : OwnS w1 w.heap.size ao c out) (hb : Below w.heap.size w w1) : PRel w s b w1 (.slice ao n c) (.int .i64 m) (.int .i64 ((k : Int) + 1)) := by
  refine ⟨k + 1, m, _, ao, c, _, rfl, rfl, by simp, hn, ho, hb, by omega, by omega, .inl ⟨hlt, by omega, hp, ?_⟩⟩
  intro z hzm
  rw [show k + 1 - m = (k - m) + 1 by omega, List.take_add_one, List.getElem?_drop, show m + (k - m) = k by omega, hx] at hzm
  rcases List.mem_append.1 hzm with h | h
  · exact hno z h
  · simp at h; rw [h]; exact hz
theorem p_end {w w1 : World} {s : ByteArray} {b : UInt8} {m : Nat} {ao : Option Addr} {c : Nat} {out : List ByteArray} (hmk : m ≤ s.size) (hok : out.length ≤ s.size) (hp : partsSP b s = out ++ (splitB b (s.data.toList.drop m)).map mkB) (hno : ∀ z ∈ (s.data.toList.drop m).take (s.size - m), z ≠ b)
    (ho : OwnS w1 w.heap.size ao c (out ++ [s.extract m s.size])) (hb : Below w.heap.size w w1) : PRel w s b w1 (.slice ao (out ++ [s.extract m s.size]).length c) (.int .i64 ((s.size : Int) + 1)) (.int .i64 ((s.size : Int) + 1)) := by
  have hl : s.data.toList.length = s.size := by rw [Array.length_toList]; rfl
  have he : (s.data.toList.drop m).take (s.size - m) = s.data.toList.drop m := List.take_of_length_le (by simp [hl])
  rw [he] at hno
  refine ⟨s.size + 1, s.size + 1, _, ao, c, _, rfl, by simp, by simp, rfl, ho, hb, by simp; omega, by omega, .inr ⟨rfl, ?_⟩⟩
  rw [hp, split_no hno, ext_mk, he]
  rfl

end Go.Proofs.YtfpbhedophlnkaaGreatDoor
namespace Go.Proofs.YtfpbhedophlnkaaGreatDoor
set_option linter.unusedSimpArgs false
set_option linter.unusedVariables false

/-- What some digits are worth. -/
def valD (l : List UInt8) : Nat := l.foldl (fun a c => 10 * a + (c.toNat - 48)) 0
theorem valD_snoc (l : List UInt8) (c : UInt8) : valD (l ++ [c]) = 10 * valD l + (c.toNat - 48) := by simp [valD]
theorem dig_toNat (u : Nat) : (UInt8.ofNat (48 + u % 10)).toNat = 48 + u % 10 := by rw [UInt8.toNat_ofNat']; omega
theorem valD_dec (u : Nat) : valD (Lib.decDigits u) = u := by
  induction u using Nat.strongRecOn with
  | _ u ih =>
    by_cases h : u < 10
    · rw [dec_one h]
      have := dig_toNat u
      rw [Nat.mod_eq_of_lt h] at this
      show 10 * 0 + ((UInt8.ofNat (48 + u)).toNat - 48) = u
      rw [this]; omega
    · rw [dec_ten (by omega), valD_snoc, ih (u / 10) (by omega), dig_toNat]; omega
theorem dec_digit (u : Nat) : ∀ c ∈ Lib.decDigits u, 48 ≤ c.toNat ∧ c.toNat ≤ 57 := by
  induction u using Nat.strongRecOn with
  | _ u ih =>
    by_cases h : u < 10
    · rw [dec_one h]
      have := dig_toNat u
      rw [Nat.mod_eq_of_lt h] at this
      intro c hc
      rw [List.mem_singleton] at hc
      subst hc; omega
    · rw [dec_ten (by omega)]
      intro c hc
      rcases List.mem_append.1 hc with hc | hc
      · exact ih (u / 10) (by omega) c hc
      · rw [List.mem_singleton] at hc
        subst hc; rw [dig_toNat]; omega
theorem dec_pos (u : Nat) : 1 ≤ (Lib.decDigits u).length := by
  by_cases h : u < 10
  · rw [dec_one h]; simp
  · rw [dec_ten (by omega)]; simp
theorem dec_len {u : Nat} (h : u ≤ 1000000) : (Lib.decDigits u).length ≤ 7 := by
  by_cases h0 : u = 0
  · subst h0; rw [dec_one (by omega)]; simp
  · have := leftD_len 7 u (by have : (10 : Nat) ^ 7 = 10000000 := by decide
                              omega)
    unfold leftD at this
    rwa [if_neg h0] at this
theorem valD_acc : ∀ (l : List UInt8) (a : Nat), (∀ c ∈ l, 48 ≤ c.toNat ∧ c.toNat ≤ 57) → l.foldl (fun a c => 10 * a + (c.toNat - 48)) a < (a + 1) * 10 ^ l.length
  | [], a, _ => by simp
  | c :: r, a, h => by
    have h1 := valD_acc r (10 * a + (c.toNat - 48)) (fun d hd => h d (by simp [hd]))
    have h2 := h c (by simp)
    rw [List.foldl_cons, List.length_cons, Nat.pow_succ]
    have h3 : (10 * a + (c.toNat - 48) + 1) * 10 ^ r.length ≤ (10 * (a + 1)) * 10 ^ r.length := Nat.mul_le_mul_right _ (by omega)
    have h4 : (10 * (a + 1)) * 10 ^ r.length = (a + 1) * (10 ^ r.length * 10) := by rw [Nat.mul_comm 10 (a + 1), Nat.mul_assoc, Nat.mul_comm 10]
    omega
theorem valD_lt {l : List UInt8} (h : ∀ c ∈ l, 48 ≤ c.toNat ∧ c.toNat ≤ 57) : valD l < 10 ^ l.length := by
  have := valD_acc l 0 h
  simpa [valD] using this
theorem numT_list (x : Int) : (numT x).data.toList = Lib.itoa x := by simp [numT]
theorem numT_inj {x y : Int} (h : numT x = numT y) : x = y := by
  have h1 : Lib.itoa x = Lib.itoa y := by rw [← numT_list, ← numT_list, h]
  unfold Lib.itoa at h1
  have key : ∀ (u v : Nat), Lib.decDigits u ≠ 45 :: Lib.decDigits v := fun u v hh => by
    have := dec_digit u 45 (by rw [hh]; simp)
    simp at this
  split at h1 <;> split at h1
  · have h2 := congrArg valD (List.cons.inj h1).2
    rw [valD_dec, valD_dec] at h2; omega
  · exact absurd h1.symm (key _ _)
  · exact absurd h1 (key _ _)
  · have h2 := congrArg valD h1
    rw [valD_dec, valD_dec] at h2; omega
end Go.Proofs.YtfpbhedophlnkaaGreatDoor
