/-
  The walk of FnExactWordsOf.
-/
import Derived.Test.YtfpbhedophlnkaaRows
import Derived.Test.YtfpbhedophlnkaaIWords
import Derived.Test.YtfpbhedophlnkaaStrQ
namespace Go.Proofs.Ytfpbhedophlnkaa.fnExactWordsOf
open Go.RowKit
set_option linter.unusedSimpArgs false
set_option linter.unusedVariables false
set_option linter.unusedVariables false

theorem wordsO_len (s : ByteArray) : (wordsO s).length ≤ 2000 := by
  unfold wordsO
  split
  · simp
  · exact wordsL_acc (by omega)
set_option maxRecDepth 100000 in
set_option maxHeartbeats 1600000 in
theorem walk (s : ByteArray) (hs : s.size ≤ maxLen) (w : World) :
    Calls Try.prog 3 #[.string s] w fun e w' => e = .returned (.bool true) ∧ Below w.heap.size w w' := by
  have hs' : s.size ≤ 9223372036854775807 := by unfold maxLen at hs; omega
  by_cases h : 1048576 < s.size
  · have h' : (1048576 : Int) < s.size := by omega
    go_enter Try.func3, Try.ntmps3
    go_wp2
    go_ret
    exact ⟨rfl, Below.refl _ _⟩
  have h' : (s.size : Int) ≤ 1048576 := by omega
  have SP := Lib.hid (fun w => specWordsOf_any s w hs')
  have IP := Lib.hid (fun w => implWordsOf_any s w hs')
  have kl := wordsO_len s
  generalize wordsO s = ks at SP IP kl
  have km : ks.length ≤ maxLen := by unfold maxLen; omega
  clear h hs hs'
  go_enter Try.func3, Try.ntmps3
  go_wp2_with fail
  refine (SP.out _).mono ?_
  rintro e w3 ⟨a3, c3, rfl, o3, b3⟩
  have B3 := Lib.hid b3
  have O3 := Lib.hid o3
  have L3 := Lib.hid (fun x hx => (o3.lt x hx).2)
  clear o3 b3
  go_wp2_with fail
  refine (IP.out _).mono ?_
  rintro e w5 ⟨a5, c5, rfl, o5, b5⟩
  have B5 := Lib.hid (below_step B3.out (Nat.le_refl _) b5)
  have O5 := Lib.hid (O3.out.below b5)
  have G5 := Lib.hid o5
  clear o5 b5 O3
  go_wp2_with fail
  refine (eqStringS_any a5 a3 c5 c3 ks ks _ G5.out.rd O5.out.rd km km).mono ?_
  rintro e w10 ⟨rfl, b10⟩
  rw [eqSs_refl]
  have B10 := Lib.hid (below_step B5.out (Nat.le_refl _) b10)
  have O10 := Lib.hid (O5.out.below b10)
  have G10 := Lib.hid (G5.out.below b10)
  clear b10 O5 G5
  go_wp2_with fail
  refine (markStringS_any _ a5 c5 ks 1 _ G10.out (by omega) (by omega)).mono ?_
  rintro e w11 ⟨rfl, m11, g11⟩
  have ha5 : ∀ x, a5 = some x → w.heap.size ≤ x.block := fun x hx => Nat.le_trans B3.out.size (G10.out.lt x hx).1
  have B11 := Lib.hid (below_grow B10.out (Nat.le_refl _) g11 ha5)
  have O11 := Lib.hid (O10.out.apart g11 (fun x y hx hy => by have := L3.out x hx; have := (G10.out.lt y hy).1; omega))
  have M11 := Lib.hid m11.rd
  clear m11 g11 O10 G10 ha5
  go_wp2_with fail
  refine (heldStringS_any a5 c5 ks.length 1 _ M11.out (by omega) (by omega)).mono ?_
  rintro e wh ⟨rfl, bh⟩
  have Bh := Lib.hid (below_step B11.out (Nat.le_refl _) bh)
  have Oh := Lib.hid (O11.out.below bh)
  have Mh := Lib.hid (M11.out.below bh)
  clear bh O11 M11
  go_wp2_with fail
  refine (IP.out _).mono ?_
  rintro e w13 ⟨a13, c13, rfl, o13, b13⟩
  have B13 := Lib.hid (below_step Bh.out (Nat.le_refl _) b13)
  have O13 := Lib.hid (Oh.out.below b13)
  have M13 := Lib.hid (Mh.out.below b13)
  have H13 := Lib.hid o13
  clear o13 b13 Oh Mh
  go_wp2_with fail
  refine (eqStringS_any a13 a3 c13 c3 ks ks _ H13.out.rd O13.out.rd km km).mono ?_
  rintro e w14 ⟨rfl, b14⟩
  rw [eqSs_refl]
  have B14 := Lib.hid (below_step B13.out (Nat.le_refl _) b14)
  have M14 := Lib.hid (M13.out.below b14)
  clear b14 O13 M13 H13
  go_wp2_with fail
  refine (heldStringS_any a5 c5 ks.length 1 _ M14.out (by omega) (by omega)).mono ?_
  rintro e w15 ⟨rfl, b15⟩
  have B15 := Lib.hid (below_step B14.out (Nat.le_refl _) b15); clear b15
  go_wp2_with fail
  go_ret
  exact ⟨rfl, B15.out⟩
end Go.Proofs.Ytfpbhedophlnkaa.fnExactWordsOf
