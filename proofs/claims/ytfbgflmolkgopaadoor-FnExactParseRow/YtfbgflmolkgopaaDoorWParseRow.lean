/-
  The walk of FnExactParseRow.
-/
import Derived.Test.YtfbgflmolkgopaaDoorRows
import Derived.Test.YtfbgflmolkgopaaDoorIRow
import Derived.Test.YtfbgflmolkgopaaDoorIntS
namespace Go.Proofs.YtfbgflmolkgopaaDoor.fnExactParseRow
open Go.RowKit
set_option linter.unusedSimpArgs false
set_option linter.unusedVariables false
set_option linter.unusedVariables false

/-- What both answer is one. -/
def Fact (s : ByteArray) (l : List Int) (ok : Bool) : Prop := (ok = true ∧ Vals l ∧ s.data.toList = rowT l) ∨ (ok = false ∧ l = [] ∧ ∀ m, Vals m → s.data.toList ≠ rowT m)
theorem one {s : ByteArray} {l l' : List Int} {ok ok' : Bool} (h : Fact s l ok) (k : Fact s l' ok') : l' = l ∧ ok' = ok := by
  rcases h with ⟨rfl, h2, h3⟩ | ⟨rfl, rfl, h3⟩
  · rcases k with ⟨rfl, k2, k3⟩ | ⟨rfl, rfl, k3⟩
    · exact ⟨rowT_inj (by rw [← k3, ← h3]), rfl⟩
    · exact absurd h3 (k3 l h2)
  · rcases k with ⟨rfl, k2, k3⟩ | ⟨rfl, rfl, k3⟩
    · exact absurd k3 (h3 l' k2)
    · exact ⟨rfl, rfl⟩
theorem few {s : ByteArray} {l : List Int} {ok : Bool} (h : Fact s l ok) : l.length ≤ 64 := by
  rcases h with ⟨_, h2, _⟩ | ⟨_, rfl, _⟩
  · exact h2.2
  · simp
theorem of_post {s : ByteArray} {w w' : World} {e : Ending} (h : RowPost s w e w') : ∃ (l : List Int) (ok : Bool), (∃ (a : Option Addr) (c : Nat), e = .returned (.tuple #[.slice a l.length c, .bool ok]) ∧ Own w' w.heap.size 3 .i64 a c l ∧ Below w.heap.size w w') ∧ Fact s l ok := by
  rcases h with ⟨l, a, c, he, hv, ht, ho, hb⟩ | ⟨he, hb, hn⟩
  · exact ⟨l, true, ⟨a, c, he, ho, hb⟩, .inl ⟨rfl, hv, ht⟩⟩
  · exact ⟨[], false, ⟨none, 0, he, Own.none_, hb⟩, .inr ⟨rfl, rfl, hn⟩⟩

set_option maxRecDepth 100000 in
set_option maxHeartbeats 1600000 in
theorem walk (w : World) (s : ByteArray) (hx : s.size ≤ maxLen) (hg : Glob w) :
    Calls Tryd.prog 3 #[.string s] w fun e w' => e = .returned (.bool true) ∧ Below w.heap.size w w' := by
  have HX := Lib.hid hx; have HG := Lib.hid hg; clear hg
  unfold maxLen at hx
  by_cases hbig : 1048576 < s.size
  · have hbig' : (1048576 : Int) < s.size := by omega
    go_enter Tryd.func3, Tryd.ntmps3
    go_wp2_with fail
    go_ret
    exact ⟨rfl, Below.refl _ _⟩
  have hbig' : (s.size : Int) ≤ 1048576 := by omega
  have hle : s.size ≤ 1048576 := by omega
  clear hbig
  go_enter Tryd.func3, Tryd.ntmps3
  go_wp2_with fail
  refine ((specParseRow_any s _ HX.out).mono fun _ _ h => of_post h).mono ?_
  rintro e w1 ⟨l, ok, ⟨a1, c1, rfl, o1, b1⟩, f1⟩
  have F1 : Fact s l ok := f1
  have hl8 := few F1
  have FF := Lib.hid F1
  have B1 := Lib.hid b1; have O1 := Lib.hid o1
  have L1 := Lib.hid (fun x hx => (o1.lt x hx).2)
  clear f1 F1 b1 o1
  have hm : l.length ≤ maxLen := by unfold maxLen; omega
  have hq : (ok != ok) = false := by simp
  have hq' : (!ok == ok) = false := by cases ok <;> rfl
  go_wp2_with fail
  refine ((implParseRow_any s _ hle (HG.out.below B1.out)).mono fun _ _ h => of_post h).mono ?_
  rintro e w2 ⟨l', ok', ⟨a2, c2, rfl, o2, b2⟩, f2⟩
  obtain ⟨rfl, rfl⟩ : l' = l ∧ ok' = ok := one FF.out f2
  have B2 := Lib.hid (below_step B1.out (Nat.le_refl _) b2); have O2 := Lib.hid (O1.out.below b2); have G2 := Lib.hid o2
  clear f2 b2 o2
  go_wp2_with fail
  refine (eqIntS_any a2 a1 c2 c1 l' l' _ G2.out.rd O2.out.rd hm hm).mono ?_
  rintro e w3 ⟨rfl, b3⟩
  rw [eqL_refl]
  have B3 := Lib.hid (below_step B2.out (Nat.le_refl _) b3); have O3 := Lib.hid (O2.out.below b3); have G3 := Lib.hid (G2.out.below b3)
  clear b3
  go_wp2_with fail
  refine (markIntS_any _ a2 c2 l' 1 _ G3.out (by omega) (by omega)).mono ?_
  rintro e w4 ⟨rfl, m4, g4⟩
  have B4 := Lib.hid (below_grow B3.out (Nat.le_refl _) g4 (fun x hx => Nat.le_trans B1.out.size (G3.out.lt x hx).1))
  have O4 := Lib.hid (O3.out.apart g4 (fun x y hx hy => by have := L1.out x hx; have := (G3.out.lt y hy).1; omega))
  have M4 := Lib.hid m4
  clear m4 g4
  go_wp2_with fail
  refine (heldIntS_any a2 c2 l'.length 1 _ M4.out (by omega) (by omega)).mono ?_
  rintro e w5 ⟨rfl, rfl⟩
  have q1 : ((1 : Int) + (l'.length : Int) != 1 + (l'.length : Int)) = false := by simp
  go_wp2_with fail
  refine ((implParseRow_any s _ hle (HG.out.below B4.out)).mono fun _ _ h => of_post h).mono ?_
  rintro e w6 ⟨l6, ok6, ⟨a6, c6, rfl, o6, b6⟩, f6⟩
  obtain ⟨rfl, rfl⟩ : l6 = l' ∧ ok6 = ok' := one FF.out f6
  have B6 := Lib.hid (below_step B4.out (Nat.le_refl _) b6); have O6 := Lib.hid (O4.out.below b6); have M6 := Lib.hid (M4.out.below b6); have H6 := Lib.hid o6.rd
  clear f6 b6 o6
  go_wp2_with fail
  refine (eqIntS_any a6 a1 c6 c1 l6 l6 _ H6.out O6.out.rd hm hm).mono ?_
  rintro e w7 ⟨rfl, b7⟩
  rw [eqL_refl]
  have B7 := Lib.hid (below_step B6.out (Nat.le_refl _) b7); have M7 := Lib.hid (M6.out.below b7)
  clear b7
  go_wp2_with fail
  refine (heldIntS_any a2 c2 l6.length 1 _ M7.out (by omega) (by omega)).mono ?_
  rintro e w8 ⟨rfl, rfl⟩
  go_wp2_with fail
  go_ret
  exact ⟨rfl, B7.out⟩
end Go.Proofs.YtfbgflmolkgopaaDoor.fnExactParseRow
