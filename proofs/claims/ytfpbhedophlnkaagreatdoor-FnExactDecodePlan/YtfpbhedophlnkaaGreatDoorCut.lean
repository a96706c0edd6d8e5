/-
  The contracts of the program's cut, unfoldNum and isMissing.
-/
import Derived.Test.YtfpbhedophlnkaaGreatDoorTakeS
import Derived.Test.YtfpbhedophlnkaaGreatDoorAs2
import Derived.WalkSpells
import Derived.WalkLawsBesides
namespace Go.Proofs.YtfpbhedophlnkaaGreatDoor
open Go.RowKit
set_option linter.unusedSimpArgs false
set_option linter.unusedVariables false

def CutOk (w : World) (l : List Int) (n : Nat) (e : Ending) (w' : World) : Prop :=
  ∃ ao, e = .returned (.tuple #[.slice ao n n, .bool true]) ∧ Rd w .u8 ao l ∧ l.length = n ∧ (ao = none → n = 0) ∧ w = w'

theorem ret_cut {ao : Option Addr} {n m : Nat} {b : Bool} (h : n = m) : Ending.returned (.tuple #[.slice ao n n, .bool b]) = .returned (.tuple #[.slice ao m m, .bool b]) := by rw [h]
set_option maxRecDepth 100000 in
theorem cut_no (b : Option Addr) (d n : Nat) (x y : Int) (w : World) (hn : n ≤ maxLen) (h : ¬ (0 ≤ x ∧ 0 ≤ y ∧ x ≤ n ∧ y ≤ n - x)) (hy : -9223372036854775808 ≤ x) (hy : x ≤ 9223372036854775807) :
    Calls Tryz.prog 233 #[.slice b n d, .int .i64 x, .int .i64 y] w fun e w' => e = .returned (.tuple #[.slice none 0 0, .bool false]) ∧ w = w' := by
  unfold maxLen at hn
  by_cases h1 : x < 0
  · have hb : decide (x < 0) = true := by simpa using h1
    go_enter Tryz.func233, Tryz.ntmps233
    go_wp2
    go_ret2
    exact ⟨rfl, rfl⟩
  have hb1 : decide (x < 0) = false := by simpa using h1
  by_cases h2 : y < 0
  · have hb : decide (y < 0) = true := by simpa using h2
    go_enter Tryz.func233, Tryz.ntmps233
    go_wp2
    go_ret2
    exact ⟨rfl, rfl⟩
  have hb2 : decide (y < 0) = false := by simpa using h2
  by_cases h3 : (n : Int) < x
  · have hb : decide ((n : Int) < x) = true := by simpa using h3
    go_enter Tryz.func233, Tryz.ntmps233
    go_wp2
    go_ret2
    exact ⟨rfl, rfl⟩
  have hb3 : decide ((n : Int) < x) = false := by simpa using h3
  have h4 : (n : Int) - x < y := by omega
  have hb4 : decide ((n : Int) - x < y) = true := by simpa using h4
  clear h
  go_enter Tryz.func233, Tryz.ntmps233
  go_wp2
  go_ret2
  exact ⟨rfl, rfl⟩

set_option maxRecDepth 100000 in
theorem cut_yes (b : Option Addr) (d : Nat) (l : List Int) (x y : Nat) (w : World) (hn : l.length ≤ maxLen) (hd : l.length ≤ d) (hd2 : d ≤ maxLen) (hr : Rd w .u8 b l) (h : x + y ≤ l.length) :
    Calls Tryz.prog 233 #[.slice b l.length d, .int .i64 x, .int .i64 y] w (CutOk w ((l.drop x).take y) y) := by
  unfold maxLen at hn hd2
  have hb1 : decide ((x : Int) < 0) = false := by simp
  have hb2 : decide ((y : Int) < 0) = false := by simp
  have hb3 : decide (l.length < x) = false := by simp; omega
  have hb4 : decide ((l.length : Int) - x < y) = false := by simp; omega
  by_cases hy0 : y = 0
  · subst hy0
    rw [List.take_zero]
    have HX : Hid (b = none → 0 = 0) := fun _ => rfl
    rcases hr with rfl | ⟨b1, off, rfl, hc⟩
    · obtain rfl : x = 0 := by simpa using h
      cases b with
      | none =>
        go_enter Tryz.func233, Tryz.ntmps233
        go_wp2
        go_ret2
        exact ⟨_, rfl, Rd.nil, rfl, fun _ => rfl, rfl⟩
      | some a =>
        go_enter Tryz.func233, Tryz.ntmps233
        go_wp2
        go_ret2
        exact ⟨_, rfl, Rd.nil, rfl, fun _ => rfl, rfl⟩
    · clear hc
      go_enter Tryz.func233, Tryz.ntmps233
      go_wp2
      all_goals
        go_ret2
        exact ⟨_, rfl, Rd.nil, rfl, fun _ => rfl, rfl⟩
  · rcases hr with rfl | ⟨b1, off, rfl, hc⟩
    · exact absurd h (by simp; omega)
    · have RD : Hid (Rd w .u8 (some ⟨b1, off + x, none⟩) ((l.drop x).take y)) := by
        refine .inr ⟨b1, off + x, rfl, fun i hi => ?_⟩
        have hi' : i < y := by simp at hi; omega
        have h1 := hc (x + i) (by omega)
        rw [Nat.add_assoc, h1, List.getD_eq_getElem?_getD, List.getD_eq_getElem?_getD, List.getElem?_take, if_pos hi', List.getElem?_drop]
      have HL : Hid (((l.drop x).take y).length = y) := by
        show _ = y
        simp; omega
      obtain ⟨m, hm⟩ : ∃ m, m = (l.drop x).take y := ⟨_, rfl⟩
      rw [← hm] at RD HL ⊢
      clear hc hm
      go_enter Tryz.func233, Tryz.ntmps233
      go_wp2
      go_ret2
      exact ⟨_, ret_cut (by omega), RD.out, HL.out, (fun h => by cases h), rfl⟩

theorem unfoldNum_any (u : Int) (w : World) (h0 : 0 ≤ u) (h1 : u ≤ 2000000) : Calls Tryz.prog 280 #[.int .i64 u] w fun e w' => e = .returned (.int .i64 (unf u)) ∧ w = w' := by
  rcases (show u % 2 = 0 ∨ u % 2 = 1 by omega) with hp | hp
  · have HY := Lib.hid (unf_even hp)
    have hpb : (u % 2 == 0) = true := by rw [hp]; rfl
    clear hp
    go_enter Tryz.func280, Tryz.ntmps280
    go_wp2
    go_ret
    exact ⟨ret_int HY.out, rfl⟩
  · have HY := Lib.hid (unf_odd h0 (by omega) hp)
    have hpb : (u % 2 == 0) = false := by rw [hp]; rfl
    clear hp
    go_enter Tryz.func280, Tryz.ntmps280
    go_wp2
    go_ret
    exact ⟨ret_int HY.out, rfl⟩

/-- What the program's start has laid: the type that package errors asks for. -/
def ErrT (w : World) : Prop := w.cell? ⟨1, 0, none⟩ = some (.iface 327 (.agg #[.pointer (some ⟨9, 114, none⟩)]))
theorem ErrT.lt {w : World} (h : ErrT w) : 1 < w.heap.size := World.block_lt_of_cell? w ⟨1, 0, none⟩ h
theorem ErrT.pos {w : World} (h : ErrT w) : 0 < w.heap.size := Nat.lt_of_le_of_lt (Nat.zero_le _) h.lt
theorem ErrT.below {w w' : World} (h : ErrT w) (hb : Below w.heap.size w w') : ErrT w' := (hb.cell (p := ⟨1, 0, none⟩) h.lt).trans h
theorem ErrT.grown {w w' : World} {ao : Option Addr} {B : Nat} (h : ErrT w) (hB : 1 < B) (hg : w.grownBy w' (ao.map (·.block))) (hr : ∀ x, ao = some x → B ≤ x.block) : ErrT w' :=
  (World.cell?_of_block (a := ⟨1, 0, none⟩) (hg.block 1 h.lt (by
    cases ao with
    | none => simp
    | some x => simp; have := hr x rfl; omega))).trans h

theorem isMissing_nil (w : World) : Calls Tryz.prog 177 #[.nilIface] w fun e w' => e = .returned (.bool false) ∧ Below w.heap.size w w' := by
  go_enter Tryz.func177, Tryz.ntmps177
  go_wp2_with (go_at_call 235; refine (as_nil _ _).mono ?_; rintro e w' ⟨rfl, rfl⟩)
  go_ret
  exact ⟨rfl, (Below.refl _ _).alloc (Nat.le_refl _) _⟩

set_option maxRecDepth 100000 in
theorem isMissing_hit (kx ky : Int) (w : World) (hg : ErrT w) : Calls Tryz.prog 177 #[.iface 200 (.agg #[.int .i64 kx, .int .i64 ky])] w fun e w' => e = .returned (.bool true) ∧ Below w.heap.size w w' := by
  have C := Lib.hid (as_hit w.heap.size kx ky (.int .i64 0) (.int .i64 0) (w.alloc (.cells #[.int .i64 0, .int .i64 0] 200))
    (by rw [World.cell?_alloc_lt _ _ ⟨1, 0, none⟩ hg.lt]; exact hg) (by rw [World.cell?_alloc_at _ _ _ _ rfl]; rfl) (by rw [World.cell?_alloc_at _ _ _ _ rfl]; rfl) (by simp) (by simp))
  clear hg
  go_enter Tryz.func177, Tryz.ntmps177
  go_wp2_with fail
  refine C.out.mono ?_
  rintro e w1 ⟨rfl, hw⟩
  have HW := Lib.hid hw; clear hw
  go_wp2
  go_ret
  refine ⟨rfl, ?_⟩
  rw [HW.out]
  unfold W4 W3 W2 W1
  refine Below.setCell (p := ⟨w.heap.size, 1, none⟩) (Below.setCell (p := ⟨w.heap.size, 0, none⟩) ?_ (Nat.le_refl _) _) (Nat.le_refl _) _
  refine Below.alloc (Below.alloc (Below.alloc (Below.alloc ((Below.refl _ _).alloc (Nat.le_refl _) _) ?_ _) ?_ _) ?_ _) ?_ _ <;> simp <;> omega
end Go.Proofs.YtfpbhedophlnkaaGreatDoor
