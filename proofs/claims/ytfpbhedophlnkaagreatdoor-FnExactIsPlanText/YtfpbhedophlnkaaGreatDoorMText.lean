/-
  Contract of markText: it answers one text for one number. For every number that is not too great.
-/
import Derived.Test.YtfpbhedophlnkaaGreatDoorHN
import Derived.Laws.Strings
import Derived.Laws.IdiomStrings
namespace Go.Proofs.YtfpbhedophlnkaaGreatDoor
open Go.RowKit
set_option linter.unusedSimpArgs false
set_option linter.unusedVariables false

/-- The decimal digits of a number, at most f of them. -/
def digF : Nat → Nat → List UInt8
  | 0, _ => []
  | f + 1, n => if n = 0 then [] else digF f (n / 10) ++ [UInt8.ofNat (48 + n % 10)]
/-- The mark of a number. -/
def mtext (k : Int) : ByteArray := if k ≤ 0 then ⟨#[109, 48]⟩ else ⟨(109 :: digF 20 k.toNat).toArray⟩
theorem digF_step {f n : Nat} (h : 0 < n) : digF (f + 1) n = digF f (n / 10) ++ [UInt8.ofNat (48 + n % 10)] := by
  simp only [digF]; rw [if_neg (by omega)]
theorem digF_zero (f : Nat) : digF f 0 = [] := by cases f <;> simp [digF]
theorem digF_len : ∀ f n, (digF f n).length ≤ f
  | 0, _ => Nat.le_refl _
  | f + 1, n => by
    simp only [digF]; split
    · simp
    · have := digF_len f (n / 10); simp; omega
theorem mtext_size (k : Int) : (mtext k).size ≤ 21 := by
  unfold mtext; split
  · decide
  · have := digF_len 20 k.toNat
    simp [ByteArray.size]; omega

theorem app_bytes (a b : List UInt8) : ((⟨a.toArray⟩ : ByteArray) ++ (⟨b.toArray⟩ : ByteArray)) = ⟨(a ++ b).toArray⟩ := by
  apply ByteArray.ext
  simp

set_option maxRecDepth 100000 in
set_option maxHeartbeats 1600000 in
theorem markText_any (k : Int) (w : World) (hk : k ≤ 1000000000000) :
    Calls Tryz.prog 142 #[.int .i64 k] w fun e w' => e = .returned (.string (mtext k)) ∧ Below w.heap.size w w' := by
  by_cases h0 : k ≤ 0
  · have E := Lib.hid (show mtext k = ⟨#[109, 48]⟩ by unfold mtext; rw [if_pos h0])
    go_enter Tryz.func142, Tryz.ntmps142
    go_wp2_with fail
    go_ret
    exact ⟨by rw [E.out]; rfl, Below.refl _ _⟩
  · have h1 : 0 < k := by omega
    have E := Lib.hid (show mtext k = ⟨(109 :: digF 20 k.toNat).toArray⟩ by unfold mtext; rw [if_neg h0])
    have D0 := Lib.hid (show ∃ (f : Nat) (q : Nat) (L : List UInt8), digF 20 k.toNat = digF f q ++ L ∧ q < 10 ^ f ∧ (k = q ∧ L = []) from ⟨20, k.toNat, [], by simp, by omega, by omega, rfl⟩)
    clear h0
    go_enter Tryz.func142, Tryz.ntmps142
    go_wp2_with fail
    go_loopw [0, 3] (fun q s wr => ∃ (f n : Nat) (L : List UInt8), digF 20 k.toNat = digF f n ++ L ∧ n < 10 ^ f ∧ n ≤ 1000000000000 ∧ q = .int .i64 n ∧ s = .string ⟨L.toArray⟩ ∧ L.length + f = 20 ∧ Below w.heap.size w wr) (fun q _ _ => (intOf q).toNat)
    case atStart => exact ⟨20, k.toNat, [], by simp, by omega, by omega, by rw [Int.toNat_of_nonneg (by omega)], rfl, rfl, Below.refl _ _⟩
    case round =>
      obtain ⟨f, n, L, hd, hlt, hn, rfl, rfl, hlen, hb⟩ := hrel
      have HD := Lib.hid hd; have HL := Lib.hid hlt; have HB := Lib.hid hb; have HE := Lib.hid hlen
      clear hd hlt hb hlen
      by_cases hz : 0 < n
      · obtain ⟨f, rfl⟩ : ∃ f', f = f' + 1 := by
          cases f with
          | zero => have := HL.out; omega
          | succ f => exact ⟨f, rfl⟩
        have hconv : (convert 22 9 (.slice (some ⟨wr.heap.size, 0, none⟩) 1 1)).run Tryz.prog (wr.alloc (.cells #[.int .u8 (48 + (n : Int) % 10)] 5)) = .ok (.string ⟨#[UInt8.ofNat (48 + n % 10)]⟩) (wr.alloc (.cells #[.int .u8 (48 + (n : Int) % 10)] 5)) :=
          run_convert_bytes_back (P := Tryz.prog) _ 22 9 5 ⟨wr.heap.size, 0, none⟩ 1 [UInt8.ofNat (48 + n % 10)] Tryz.underlying22 Tryz.underlying5 Tryz.underlying9 (by
            intro j hj
            obtain rfl : j = 0 := by simpa using hj
            simp [Addr.add]
            omega)
        have hL : L.length ≤ 20 := by have := HE.out; omega
        have S := Lib.hid (digF_step (f := f) hz)
        have HBA := Lib.hid (HB.out.alloc HB.out.size (.cells #[.int .u8 (48 + (n : Int) % 10)] 5))
        go_wp2_with fail
        go_roundw
        case rel => exact ⟨f, n / 10, UInt8.ofNat (48 + n % 10) :: L, by rw [HD.out, S.out]; simp, by have := HL.out; rw [Nat.pow_succ] at this; omega, by omega, by go_num, by rw [app_bytes]; simp, by have := HE.out; simp; omega, HBA.out⟩
        case measure => simp [intOf]; omega
      · obtain rfl : n = 0 := by omega
        have hL : L.length ≤ 20 := by have := HE.out; omega
        go_wp2_with fail
        go_ret
        refine ⟨?_, HB.out⟩
        rw [E.out, HD.out, digF_zero]
        exact congrArg (fun x => Ending.returned (.string x)) (app_bytes [109] L)
end Go.Proofs.YtfpbhedophlnkaaGreatDoor
