/-
  Contract of spec.l01Num: a number as a text. For every number.
-/
import Derived.Test.YtfpbhedophlnkaaDoorMem
import Derived.Test.YtfpbhedophlnkaaDoorPure
import Derived.Test.YtfpbhedophlnkaaDoorStrs
import Derived.Laws.IdiomStrings
import Derived.Lib.ItoaNum
import Derived.WalkKit
namespace Go.Proofs.YtfpbhedophlnkaaDoor
open Go.RowKit
set_option linter.unusedSimpArgs false
set_option linter.unusedVariables false

theorem dec_ten {u : Nat} (h : 10 ≤ u) : Lib.decDigits u = Lib.decDigits (u / 10) ++ [UInt8.ofNat (48 + u % 10)] := by
  rw [Lib.decDigits, dif_neg (by omega)]
theorem dec_one {u : Nat} (h : u < 10) : Lib.decDigits u = [UInt8.ofNat (48 + u)] := by
  rw [Lib.decDigits, dif_pos h]
/-- What is left of the digits when out is done: those of u, none where u is 0. -/
def leftD (u : Nat) : List UInt8 := if u = 0 then [] else Lib.decDigits u
theorem leftD_step {u : Nat} (h : u ≠ 0) : leftD u = leftD (u / 10) ++ [UInt8.ofNat (48 + u % 10)] := by
  unfold leftD
  rw [if_neg h]
  by_cases h10 : u < 10
  · rw [dec_one h10, if_pos (by omega), Nat.mod_eq_of_lt h10]; rfl
  · rw [dec_ten (by omega), if_neg (by omega)]
theorem leftD_len : ∀ (k u : Nat), u < 10 ^ k → (leftD u).length ≤ k
  | 0, u, h => by simp at h; subst h; simp [leftD]
  | k + 1, u, h => by
    by_cases h0 : u = 0
    · subst h0; simp [leftD]
    · rw [leftD_step h0]
      have := leftD_len k (u / 10) (by rw [Nat.pow_succ] at h; omega)
      simp; omega
/-- A number's text, as bytes. -/
def numT (x : Int) : ByteArray := ⟨(Lib.itoa x).toArray⟩
theorem conv_one (P : Program) (src dst e : TypeId) (hs : P.underlying src = some (.slice e)) (he : P.underlying e = some (.int .u8)) (hd : P.underlying dst = some .string) (w : World) (u : Nat) (x : Int) (hx : x = ((48 + u % 10 : Nat) : Int)) :
    Sem.run P (convert src dst (.slice (some ⟨w.heap.size, 0, none⟩) 1 1)) (w.alloc (.cells #[.int .u8 x] e)) = .ok (.string ⟨#[UInt8.ofNat (48 + u % 10)]⟩) (w.alloc (.cells #[.int .u8 x] e)) := by
  refine run_convert_bytes_back (P := P) _ src dst e ⟨w.heap.size, 0, none⟩ 1 [UInt8.ofNat (48 + u % 10)] hs he hd ?_
  intro j hj
  obtain rfl : j = 0 := by simp at hj; omega
  rw [show (⟨w.heap.size, 0, none⟩ : Addr).add 0 = ⟨w.heap.size, 0, none⟩ from rfl, World.cell?_alloc_new]
  have : (UInt8.ofNat (48 + u % 10)).toNat = 48 + u % 10 := by rw [UInt8.toNat_ofNat']; omega
  simp [this, hx]
  try omega

def NumRel (w : World) (u : Nat) (wr : World) (s i : Value) : Prop :=
  ∃ (y : Nat) (X : ByteArray), i = .int .i64 y ∧ s = .string X ∧ y ≤ u ∧ leftD u = leftD y ++ X.data.toList ∧ Below w.heap.size w wr
theorem num_next {w w1 : World} {u y : Nat} {X : ByteArray} (h0 : y ≠ 0) (hy : y ≤ u) (hX : leftD u = leftD y ++ X.data.toList) (hb : Below w.heap.size w w1) (S : ByteArray) (hS : S.data.toList = UInt8.ofNat (48 + y % 10) :: X.data.toList) (z : Int) (hz : z = ((y / 10 : Nat) : Int)) : NumRel w u w1 (.string S) (.int .i64 z) := by
  refine ⟨y / 10, S, by rw [hz], rfl, by omega, ?_, hb⟩
  rw [hX, leftD_step h0, hS]; simp

set_option maxRecDepth 100000 in
set_option maxHeartbeats 1600000 in
theorem numPos_any (u : Nat) (hu : 0 < u) (hb63 : u < 9223372036854775808) (w : World) :
    Calls Tryd.prog 21 #[.int .i64 u] w fun e w' => e = .returned (.string (numT u)) ∧ Below w.heap.size w w' := by
  have hu' : (0 : Int) < (u : Int) := by omega
  have hu'' : ((u : Int) == 0) = false := by simp; omega
  have P0 := Lib.hid (show NumRel w u w (.string ⟨#[]⟩) (.int .i64 u) from ⟨u, _, rfl, rfl, Nat.le_refl _, by simp, Below.refl _ _⟩)
  have L := Lib.hid (leftD_len 19 u (by have : (10 : Nat) ^ 19 = 10000000000000000000 := by decide
                                        omega))
  go_enter Tryd.func21, Tryd.ntmps21
  go_wp2_with fail
  go_loopw [3, 0] (fun s i wr => NumRel w u wr s i) (fun _ i _ => (intOf i).toNat)
  case atStart => exact P0.out
  case round =>
    clear P0
    obtain ⟨y, X, rfl, rfl, hy, hX, hb⟩ := hrel
    have HX := Lib.hid hX; have HB := Lib.hid hb
    have hxs : X.size ≤ 19 := by
      have h1 : X.data.toList.length = X.size := by rw [Array.length_toList]; rfl
      have h2 := L.out
      rw [hX, List.length_append, h1] at h2
      omega
    clear hX hb
    by_cases h0 : y = 0
    · subst h0
      have E := Lib.hid (show X = numT u by
        have h1 := HX.out
        simp only [leftD, if_true, List.nil_append] at h1
        rw [if_neg (by omega)] at h1
        apply ByteArray.ext
        unfold numT Lib.itoa
        rw [if_neg (by omega), Int.toNat_natCast, h1])
      go_wp2_with fail
      go_ret
      rw [E.out]
      exact ⟨rfl, HB.out⟩
    · have hy0 : (0 : Int) < (y : Int) := by omega
      have hy1 : ((y : Int) == 0) = false := by simp; omega
      have hy2 : ((y : Int) != 0) = true := by simp; omega
      have hy3 : (y : Int) ≤ 9223372036854775807 := by omega
      have hm0 : (0 : Int) ≤ (y : Int) % 10 := by omega
      have hm9 : (y : Int) % 10 ≤ 9 := by omega
      have H0 := Lib.hid h0; clear h0
      have hcv := conv_one Tryd.prog 57 9 5 Tryd.underlying57 Tryd.underlying5 Tryd.underlying9 wr y (48 + (y : Int) % 10) (by omega)
      have e1 : ¬ (9223372036854775807 < 1 + X.size) := by omega
      go_wp2_with fail
      go_roundw
      case rel => exact num_next H0.out hy HX.out (HB.out.alloc HB.out.size _) _ (by simp [ByteArray.data_append]) _ (by omega)
      case measure => simp [intOf]; omega

/-- Below 0: the digits that are left, and the sign in front at the end. -/
def NumRelN (w : World) (u : Nat) (wr : World) (s i : Value) : Prop :=
  ∃ (y : Nat) (X : ByteArray), i = .int .i64 (-(y : Int)) ∧ s = .string X ∧ y ≤ u ∧ leftD u = leftD y ++ X.data.toList ∧ Below w.heap.size w wr
theorem numN_next {w w1 : World} {u y : Nat} {X : ByteArray} (h0 : y ≠ 0) (hy : y ≤ u) (hX : leftD u = leftD y ++ X.data.toList) (hb : Below w.heap.size w w1) (S : ByteArray) (hS : S.data.toList = UInt8.ofNat (48 + y % 10) :: X.data.toList) (z : Int) (hz : z = -((y / 10 : Nat) : Int)) : NumRelN w u w1 (.string S) (.int .i64 z) := by
  refine ⟨y / 10, S, by rw [hz], rfl, by omega, ?_, hb⟩
  rw [hX, leftD_step h0, hS]; simp
theorem tmod_neg_nat (y : Nat) : Int.tmod (-(y : Int)) 10 = -((y % 10 : Nat) : Int) := by
  rw [Int.neg_tmod, Int.tmod_eq_emod_of_nonneg (by omega)]; omega
theorem tdiv_neg_nat (y : Nat) : Int.tdiv (-(y : Int)) 10 = -((y / 10 : Nat) : Int) := by
  rw [Int.neg_tdiv, Int.tdiv_eq_ediv_of_nonneg (by omega)]; omega

set_option maxRecDepth 100000 in
set_option maxHeartbeats 1600000 in
theorem numNeg_any (u : Nat) (hu : 0 < u) (hb63 : u ≤ 9223372036854775808) (w : World) :
    Calls Tryd.prog 21 #[.int .i64 (-(u : Int))] w fun e w' => e = .returned (.string (numT (-(u : Int)))) ∧ Below w.heap.size w w' := by
  have hu' : (-(u : Int)) < 0 := by omega
  have hu'' : (-(u : Int) == 0) = false := by simp; omega
  have hu3 : ¬ ((u : Int) = 0) := by omega
  have P0 := Lib.hid (show NumRelN w u w (.string ⟨#[]⟩) (.int .i64 (-(u : Int))) from ⟨u, _, rfl, rfl, Nat.le_refl _, by simp, Below.refl _ _⟩)
  have L := Lib.hid (leftD_len 19 u (by have : (10 : Nat) ^ 19 = 10000000000000000000 := by decide
                                        omega))
  go_enter Tryd.func21, Tryd.ntmps21
  go_wp2_with fail
  go_loopw [3, 0] (fun s i wr => NumRelN w u wr s i) (fun _ i _ => (-(intOf i)).toNat)
  case atStart => exact P0.out
  case round =>
    clear P0
    obtain ⟨y, X, rfl, rfl, hy, hX, hb⟩ := hrel
    have HX := Lib.hid hX; have HB := Lib.hid hb
    have hxs : X.size ≤ 19 := by
      have h1 : X.data.toList.length = X.size := by rw [Array.length_toList]; rfl
      have h2 := L.out
      rw [hX, List.length_append, h1] at h2
      omega
    clear hX hb
    by_cases h0 : y = 0
    · subst h0
      have E := Lib.hid (show (⟨#[45]⟩ : ByteArray) ++ X = numT (-(u : Int)) by
        have h1 := HX.out
        simp only [leftD, if_true, List.nil_append] at h1
        rw [if_neg (by omega)] at h1
        apply ByteArray.ext
        unfold numT Lib.itoa
        rw [if_pos (by omega), Int.natAbs_neg, Int.natAbs_natCast, h1]
        simp [ByteArray.data_append])
      have e1 : ¬ (9223372036854775807 < 1 + X.size) := by omega
      go_wp2_with fail
      go_ret
      rw [E.out]
      exact ⟨rfl, HB.out⟩
    · have hy0 : (0 : Int) < (y : Int) := by omega
      have hy1 : ((-(y : Int)) != 0) = true := by simp; omega
      have hy2 : ((-(y : Int)) == 0) = false := by simp; omega
      have hy4 : ¬ ((y : Int) = 0) := by omega
      have H0 := Lib.hid h0; clear h0
      have e1 : ¬ (9223372036854775807 < 1 + X.size) := by omega
      have ht := tmod_neg_nat y
      have htd := tdiv_neg_nat y
      by_cases hm : y % 10 = 0
      · have hcv := conv_one Tryd.prog 57 9 5 Tryd.underlying57 Tryd.underlying5 Tryd.underlying9 wr y 48 (by omega)
        rw [hm] at ht hcv
        go_wp2_with fail
        go_roundw
        case rel => exact numN_next H0.out hy HX.out (HB.out.alloc HB.out.size _) _ (by rw [hm]; simp [ByteArray.data_append]) _ (by omega)
        case measure => simp [intOf]; omega
      · have hcv := conv_one Tryd.prog 57 9 5 Tryd.underlying57 Tryd.underlying5 Tryd.underlying9 wr y (48 + (y : Int) % 10) (by omega)
        have hmp : (0 : Int) < (y : Int) % 10 := by omega
        have hm9 : (y : Int) % 10 ≤ 9 := by omega
        have hml : -((y : Int) % 10) < 0 := by omega
        have hy9 : (y : Int) ≤ 9223372036854775808 := by omega
        clear hm
        go_wp2_with fail
        go_roundw
        case rel => exact numN_next H0.out hy HX.out (HB.out.alloc HB.out.size _) _ (by simp [ByteArray.data_append]) _ (by omega)
        case measure => simp [intOf]; omega

theorem num_all (x : Int) (h0 : -9223372036854775808 ≤ x) (h1 : x ≤ 9223372036854775807) (w : World) :
    Calls Tryd.prog 21 #[.int .i64 x] w fun e w' => e = .returned (.string (numT x)) ∧ Below w.heap.size w w' := by
  by_cases hz : x = 0
  · subst hz
    go_enter Tryd.func21, Tryd.ntmps21
    go_wp2_with fail
    go_ret
    have E : numT 0 = ⟨#[48]⟩ := by
      unfold numT Lib.itoa
      rw [if_neg (by omega), show (0 : Int).toNat = 0 from rfl, dec_one (by omega)]; rfl
    rw [E]
    exact ⟨rfl, Below.refl _ _⟩
  · by_cases hp : 0 < x
    · have := numPos_any x.toNat (by omega) (by omega) w
      rwa [Int.toNat_of_nonneg (by omega)] at this
    · have := numNeg_any (-x).toNat (by omega) (by omega) w
      rw [Int.toNat_of_nonneg (by omega), Int.neg_neg] at this
      exact this
end Go.Proofs.YtfpbhedophlnkaaDoor
