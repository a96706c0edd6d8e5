/-
  The walk of FnExactParseSchema.
-/
import Derived.Test.YtdkiaahcmoafdaaGreatDoorRows
import Derived.Test.YtdkiaahcmoafdaaGreatDoorIPar
import Derived.Test.YtdkiaahcmoafdaaGreatDoorHTq
namespace Go.Proofs.YtdkiaahcmoafdaaGreatDoor.fnExactParseSchema
open Go.RowKit
set_option linter.unusedSimpArgs false
set_option linter.unusedVariables false
set_option linter.unusedVariables false

/-- What both answer is one. -/
def Fact (s : ByteArray) (l : List Tb) (ok : Bool) : Prop := (ok = true ∧ schemaB l = true ∧ s.data.toList = schT l) ∨ (ok = false ∧ l = [] ∧ ∀ m, schemaB m = true → s.data.toList ≠ schT m)
theorem one {s : ByteArray} {l l' : List Tb} {ok ok' : Bool} (h : Fact s l ok) (k : Fact s l' ok') : l' = l ∧ ok' = ok := by
  rcases h with ⟨rfl, h2, h3⟩ | ⟨rfl, rfl, h3⟩
  · rcases k with ⟨rfl, k2, k3⟩ | ⟨rfl, rfl, k3⟩
    · exact ⟨sch_inj k2 h2 (by rw [← k3, ← h3]), rfl⟩
    · exact absurd h3 (k3 l h2)
  · rcases k with ⟨rfl, k2, k3⟩ | ⟨rfl, rfl, k3⟩
    · exact absurd k3 (h3 l' k2)
    · exact ⟨rfl, rfl⟩
theorem few {s : ByteArray} {l : List Tb} {ok : Bool} (h : Fact s l ok) : l.length ≤ 8 := by
  rcases h with ⟨_, h2, _⟩ | ⟨_, rfl, _⟩
  · exact (schemaB_iff.1 h2).1
  · simp

set_option maxRecDepth 100000 in
set_option maxHeartbeats 1600000 in
theorem walk (w : World) (s : ByteArray) (hx : s.size ≤ maxLen) (hg : Glob w) :
    Calls Tryz.prog 3 #[.string s] w fun e w' => e = .returned (.bool true) ∧ Below w.heap.size w w' := by
  have HX := Lib.hid hx; have HG := Lib.hid hg; clear hg
  unfold maxLen at hx
  by_cases hbig : 1048576 < s.size
  · have hbig' : (1048576 : Int) < s.size := by omega
    go_enter Tryz.func3, Tryz.ntmps3
    go_wp2_with fail
    go_ret
    exact ⟨rfl, Below.refl _ _⟩
  have hbig' : (s.size : Int) ≤ 1048576 := by omega
  have hle : s.size ≤ 1048576 := by omega
  clear hbig
  go_enter Tryz.func3, Tryz.ntmps3
  go_wp2_with fail
  refine (specParse_any s _ HX.out).mono ?_
  rintro e w1 ⟨l, ok, ⟨a1, c1, rfl, o1, b1⟩, f1⟩
  have F1 : Fact s l ok := f1
  have hl8 := few F1
  have FF := Lib.hid F1
  have B1 := Lib.hid b1; have O1 := Lib.hid o1
  have L1 := Lib.hid (fun x hx => (o1.lt x hx).2)
  clear f1 F1 b1 o1
  have hm : l.length ≤ maxLen := by unfold maxLen; omega
  have hq : (ok != ok) = false := by simp
  have hq' : (!ok == ok) = false := by cases ok <;> rfl
  go_wp2_with fail
  refine (implParse_any s _ hle (HG.out.below B1.out)).mono ?_
  rintro e w2 ⟨l', ok', ⟨a2, c2, rfl, o2, b2⟩, f2⟩
  obtain ⟨rfl, rfl⟩ : l' = l ∧ ok' = ok := one FF.out f2
  have B2 := Lib.hid (below_step B1.out (Nat.le_refl _) b2); have O2 := Lib.hid (O1.out.below b2); have G2 := Lib.hid o2
  clear f2 b2 o2
  go_wp2_with fail
  refine (eqTableS_any a2 a1 c2 c1 l' l' _ G2.out.rd O2.out.rd hm hm).mono ?_
  rintro e w3 ⟨rfl, b3⟩
  rw [eqTs_refl]
  have B3 := Lib.hid (below_step B2.out (Nat.le_refl _) b3); have O3 := Lib.hid (O2.out.below b3); have G3 := Lib.hid (G2.out.below b3)
  clear b3
  go_wp2_with fail
  refine (markTableS_any _ a2 c2 l' 1 _ G3.out (by omega) (by omega)).mono ?_
  rintro e w4 ⟨rfl, m4, g4⟩
  have B4 := Lib.hid (below_grow B3.out (Nat.le_refl _) g4 (fun x hx => Nat.le_trans B1.out.size (G3.out.lt x hx).1))
  have O4 := Lib.hid (O3.out.apart g4 (fun x y hx hy => by have := L1.out x hx; have := (G3.out.lt y hy).1; omega))
  have M4 := Lib.hid m4
  clear m4 g4
  go_wp2_with fail
  refine (heldTableS_any _ a2 c2 l'.length 1 _ M4.out (by omega) (by omega)).mono ?_
  rintro e w5 ⟨rfl, b5⟩
  have B5 := Lib.hid (below_step B4.out (Nat.le_refl _) b5); have O5 := Lib.hid (O4.out.below b5); have M5 := Lib.hid (M4.out.below b5)
  clear b5
  have q1 : ((1 : Int) + 2 * (l'.length : Int) != 1 + 2 * (l'.length : Int)) = false := by simp
  go_wp2_with fail
  refine (implParse_any s _ hle (HG.out.below B5.out)).mono ?_
  rintro e w6 ⟨l6, ok6, ⟨a6, c6, rfl, o6, b6⟩, f6⟩
  obtain ⟨rfl, rfl⟩ : l6 = l' ∧ ok6 = ok' := one FF.out f6
  have B6 := Lib.hid (below_step B5.out (Nat.le_refl _) b6); have O6 := Lib.hid (O5.out.below b6); have M6 := Lib.hid (M5.out.below b6); have H6 := Lib.hid o6.rd
  clear f6 b6 o6
  go_wp2_with fail
  refine (eqTableS_any a6 a1 c6 c1 l6 l6 _ H6.out O6.out.rd hm hm).mono ?_
  rintro e w7 ⟨rfl, b7⟩
  rw [eqTs_refl]
  have B7 := Lib.hid (below_step B6.out (Nat.le_refl _) b7); have M7 := Lib.hid (M6.out.below b7)
  clear b7
  go_wp2_with fail
  refine (heldTableS_any _ a2 c2 l6.length 1 _ M7.out (by omega) (by omega)).mono ?_
  rintro e w8 ⟨rfl, b8⟩
  have B8 := Lib.hid (below_step B7.out (Nat.le_refl _) b8)
  clear b8
  go_wp2_with fail
  go_ret
  exact ⟨rfl, B8.out⟩
end Go.Proofs.YtdkiaahcmoafdaaGreatDoor.fnExactParseSchema
