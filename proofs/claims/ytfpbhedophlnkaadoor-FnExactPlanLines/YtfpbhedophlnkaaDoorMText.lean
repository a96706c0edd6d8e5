/-
  Contract of markText: it answers one text for one number. For every number that is not too great.
-/
import Derived.Test.YtfpbhedophlnkaaDoorHN
import Derived.Laws.Strings
import Derived.Laws.IdiomStrings
namespace Go.Proofs.YtfpbhedophlnkaaDoor
open Go.RowKit
set_option linter.unusedSimpArgs false
set_option linter.unusedVariables false

/-- The decimal digits of a number, at most f of them. -/
def digF : Nat → Nat → List UInt8
  | 0, _ => []
  | f + 1, n => if n = 0 then [] else digF f (n / 10) ++ [UInt8.ofNat (48 + n % 10)]
/-- The mark of a number. -/
def mtext (k : Int) : ByteArray := if k ≤ 0 then ⟨#[109, 48]⟩ else ⟨(109 :: digF 20 k.toNat).toArray⟩
theorem digF_step {f n : Nat} (h : 0 < n) : digF (f + 1) n = digF f (n / 10) ++ [UInt8.ofNat (48 + n % 10)] := by
  simp only [digF]; rw [if_neg (by omega)]
theorem digF_zero (f : Nat) : digF f 0 = [] := by cases f <;> simp [digF]
theorem digF_len : ∀ f n, (digF f n).length ≤ f
  | 0, _ => Nat.le_refl _
  | f + 1, n => by
    simp only [digF]; split
    · simp
    · have := digF_len f (n / 10); simp; omega
theorem mtext_size (k : Int) : (mtext k).size ≤ 21 := by
  unfold mtext; split
  · decide
  · have := digF_len 20 k.toNat
    simp [ByteArray.size]; omega

theorem app_bytes (a b : List UInt8) : ((⟨a.toArray⟩ : ByteArray) ++ (⟨b.toArray⟩ : ByteArray)) = ⟨(a ++ b).toArray⟩ := by
  apply ByteArray.ext
  simp

end Go.Proofs.YtfpbhedophlnkaaDoor
