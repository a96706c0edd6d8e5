/-
  For every text, FnExactPutWord answers true (impl.PutWord answers as the model spec.PutWord, in memory of its own). No condition.
-/
import Derived.Test.YthnjagbjoglkbaaRows
import Derived.Test.YthnjagbjoglkbaaPutWord
import Derived.WalkKit
import Derived.ProofKit
import Derived.OpenShut
import Derived.ShutString
import Derived.ChangeOld
import Derived.Below
namespace Go.Proofs.Ythnjagbjoglkbaa.fnExactPutWord
open Go.ChangeShapes Go.WideShapes Go.ChangeAt Go.RowKit
open Go.ChangeMaps (open_string shut_string)
set_option linter.unusedVariables false      -- a walk need not use every 'w<i>' (that an integer argument fits its kind)

theorem own : ownKnob Try.prog.godebug = none := by kernel_rfl

/-! ### STEP 1: THE WALK: the Go text returns true. 'Grown w w'': the world has at most new blocks (Derived/RowKit3.lean). Part the cases AHEAD of 'go_enter' where a test parts the walk; take each callee by a contract of your own. -/
set_option maxRecDepth 100000 in
theorem walk (a0 : ByteArray) (w0 : a0.size ≤ maxLen) (w : World) :
    Calls Try.prog 5 #[.string a0] w fun e w' => e = .returned (.bool true) ∧ Below w.heap.size w w' := by
  by_cases h : 1048576 < a0.size
  · have h' : (1048576 : Int) < a0.size := by omega
    go_enter Try.func5, Try.ntmps5
    go_wp2
    go_ret
    exact ⟨rfl, Below.refl _ _⟩
  have h' : (a0.size : Int) ≤ 1048576 := by omega
  obtain ⟨l, hl⟩ : ∃ l, l = putW a0 := ⟨_, rfl⟩
  have S : Hid (∀ w, Calls Try.prog 16 #[.string a0] w (Made w 5 .u8 l)) := by rw [hl]; exact fun w => specPutWord_any a0 w w0
  have I : Hid (∀ w, Calls Try.prog 17 #[.string a0] w (Made w 5 .u8 l)) := by rw [hl]; exact fun w => implPutWord_any a0 w w0
  have hn : l.length ≤ 15 := by rw [hl]; exact putW_len a0
  have hm : l.length ≤ maxLen := by unfold maxLen; omega
  have HM := Lib.hid hm
  clear hl hm h
  go_enter Try.func5, Try.ntmps5
  go_wp2_with fail
  refine (S.out _).mono ?_
  rintro e w1 ⟨a1, c1, rfl, o1, b1⟩
  have O1 := Lib.hid o1; have B1 := Lib.hid b1; clear o1 b1
  go_wp2_with fail
  refine (I.out _).mono ?_
  rintro e w2 ⟨a2, c2, rfl, o2, b2⟩
  have hne : ∀ a b, a1 = some a → a2 = some b → a.block ≠ b.block := fun a b ha hb => by have := (O1.out.lt a ha).2; have := (o2.lt b hb).1; omega
  have h2 : ∀ b, a2 = some b → w.heap.size ≤ b.block := fun b hb => Nat.le_trans B1.out.size (o2.lt b hb).1
  have O1b := Lib.hid (O1.out.below b2)
  have T2 := Lib.hid (below_step B1.out (Nat.le_refl _) b2)
  have O2 := Lib.hid o2; have NE := Lib.hid hne; have H2 := Lib.hid h2; clear o2 b2 hne h2 O1 B1
  go_wp2_with fail
  refine (eqByteS_any _ _ _ _ _ _ _ O2.out.rd O1b.out.rd HM.out HM.out).mono ?_
  rintro e w3 ⟨rfl, b3⟩
  rw [eqL_refl]
  have O1c := Lib.hid (O1b.out.below b3)
  have O2c := Lib.hid (O2.out.below b3)
  have T3 := Lib.hid (below_step T2.out (Nat.le_refl _) b3)
  clear O1b O2 b3 T2
  go_wp2_with fail
  refine (markByteS_any _ _ _ _ 1 _ O2c.out (by omega) (by omega)).mono ?_
  rintro e w4 ⟨rfl, r4, g4⟩
  have O1d := Lib.hid (O1c.out.apart g4 NE.out)
  have T4 := Lib.hid (below_grow T3.out (Nat.le_refl _) g4 H2.out)
  have R4 := Lib.hid r4
  clear r4 g4 O1c O2c T3
  go_wp2_with fail
  refine (heldByteS_any _ _ _ 1 _ R4.out (by omega) (by omega)).mono ?_
  rintro e w' ⟨rfl, rfl⟩
  go_wp2_with fail
  refine (I.out _).mono ?_
  rintro e w5 ⟨a5, c5, rfl, o5, b5⟩
  have O1e := Lib.hid (O1d.out.below b5)
  have R5 := Lib.hid (R4.out.below b5)
  have T5 := Lib.hid (below_step T4.out (Nat.le_refl _) b5)
  have O5 := Lib.hid o5
  clear o5 b5 O1d R4 T4
  go_wp2_with fail
  refine (eqByteS_any _ _ _ _ _ _ _ O5.out.rd O1e.out.rd HM.out HM.out).mono ?_
  rintro e w6 ⟨rfl, b6⟩
  rw [eqL_refl]
  have R6 := Lib.hid (R5.out.below b6)
  have T6 := Lib.hid (below_step T5.out (Nat.le_refl _) b6)
  clear b6 R5 T5 O1e O5
  go_wp2_with fail
  refine (heldByteS_any _ _ _ 1 _ R6.out (by omega) (by omega)).mono ?_
  rintro e w' ⟨rfl, rfl⟩
  go_wp2
  go_ret
  exact ⟨rfl, T6.out⟩

/-! ### THE ROW's STEP: WRITTEN OUT: LEAVE IT -/
set_option maxRecDepth 100000 in
theorem lifted (os : Os) (started : os.Started) (H : Type) (enc : TypeId × Value → H) :
    ReturnsInHanded {} Try.checked os 5 .any (Rows.fnExactPutWordSpec.pre6 enc Try.prog Try.f5 Rows.fnExactPutWordRow.domain false) (Rows.fnExactPutWordSpec.post enc Try.prog Try.f5 false true false false) := by
  refine returnsInHanded_of_change (C := Try.checked) own started (by kernel_rfl) Try.func5
    (ChangeSpec.witness6 (enc := enc) (C := Try.checked) false ⟨#[], #[.string ByteArray.empty], []⟩ 8 (by kernel_rfl) (by kernel_rfl) (by kernel_rfl) (by kernel_rfl)) ?_
  intro W base args ds gs before hval0 hW hcnd _
  have hval : ∀ (j : Nat) t v, Try.f5.params[j]? = some t → args[j]? = some v → Value.okWide Try.prog W .any base t v := hval0
  have hW' := hW
  obtain ⟨p, q, hA0, hV, rfl, hfz, hnd⟩ := hW
  have hA : DataW.TrodAll enc Try.prog W 0 (fun _ => true) true Try.f5.params.toList args.toList ds p := hA0
  rw [Try.params5] at hA hval
  obtain ⟨v0, vs0, d0, ds0, p0, q0, hargs, rfl, rfl, h0, r0⟩ := trodAll_cons hA
  obtain ⟨rfl, rfl, rfl⟩ := trodAll_nil r0
  obtain rfl : args = #[v0] := by cases args; simp_all
  obtain ⟨rfl, rfl⟩ := trodVars_none hV
  obtain ⟨a0, rfl, rfl, rfl, w0⟩ := open_string Try.underlying9 (hval 0 9 v0 rfl rfl) h0
  clear hA0 hval0
  simp only [List.append_nil] at hW'
  refine (walk a0 w0 W).mono fun e W' ⟨he, bel⟩ => ?_
  subst he
  exact ⟨_, rfl, _, _, _, [], _, [], hW', trodAll_mk1 (shut_bool Try.underlying4 _), (trodAll_cons_mk (shut_string Try.underlying9 w0) trodAll_mk0), rfl, bel.frame _, fun h => by cases h⟩

theorem over : Rows.fnExactPutWordRow.holds Try.pinned (OpenSpec.ofChange Rows.fnExactPutWordSpec) :=
  OpenClaim.holds_of_wide 5 Try.f5 rfl rfl rfl rfl rfl rfl rfl ⟨rfl, rfl, rfl, rfl, rfl⟩ rfl rfl rfl rfl rfl (by kernel_rfl) Try.func5 (by kernel_rfl)
    (of_decide_eq_true (by kernel_rfl)) (by unfold Func.isWrapper; first | (rw [if_pos (by decide +kernel)]; kernel_rfl) | (rw [if_neg (by decide +kernel)]; exact ⟨rfl, rfl⟩))
    (fun os started H enc _ => lifted os started H enc)

/-- ████ THE STATEMENT ████ -/
theorem proved : Rows.FnExactPutWordSaid :=
  over
#print axioms proved
end Go.Proofs.Ythnjagbjoglkbaa.fnExactPutWord
