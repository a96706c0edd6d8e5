/-
  The model's cursor over the bytes of a draw: l01Byte answers a number from 0 to 255 and turns the cursor's own block alone. For every slice of bytes.
-/
import Derived.Test.YtcegekkhlfpgfaaDoorMem
import Derived.Test.YtcegekkhlfpgfaaDoorGrB
import Derived.Test.YtcegekkhlfpgfaaDoorPure
import Derived.Test.YtcegekkhlfpgfaaDoorWord
import Derived.WalkKit
import Derived.OneCell
import Derived.Deep.QuietTactic
import Derived.BigQuiet
import Derived.Laws.BitsAllLaws
import Derived.Laws.BitsLemmas
namespace Go.Proofs.YtcegekkhlfpgfaaDoor
open Go.RowKit
set_option linter.unusedSimpArgs false
set_option linter.unusedVariables false

theorem and255 (x : Int) : 0 ≤ bits .and .i64 x 255 ∧ bits .and .i64 x 255 ≤ 255 := by
  have h : (BitVec.ofInt 64 x &&& BitVec.ofInt 64 255).toNat ≤ 255 := by
    rw [BitVec.toNat_and]
    exact Nat.and_le_right
  have e : bits .and .i64 x 255 = ((BitVec.ofInt 64 x &&& BitVec.ofInt 64 255).toNat : Int) := by
    show IntKind.i64.wrap ((BitVec.ofInt 64 x &&& BitVec.ofInt 64 255).toNat : Int) = _
    rw [IntKind.wrap_i64]; omega
  rw [e]; omega

/-- The cursor in block g over the bytes 'code'. -/
def Cur (w : World) (g : Nat) (ao : Option Addr) (d : Nat) (code : List Int) : Prop :=
  ∃ i h : Int, w.heap[g]? = some (.cells #[.slice ao code.length d, .int .i64 i, .int .i64 h] 120 (0, 0)) ∧ 0 ≤ i ∧ i ≤ code.length ∧ Rd w .u8 ao code ∧ By code ∧ (∀ a, ao = some a → code ≠ [] → a.block ≠ g)
def ByteP (w : World) (g : Nat) (ao : Option Addr) (d : Nat) (code : List Int) (lo hi : Int) (e : Ending) (w' : World) : Prop :=
  ∃ x, e = .returned (.int .i64 x) ∧ lo ≤ x ∧ x ≤ hi ∧ Cur w' g ao d code ∧ w.grownBy w' (some g)

theorem cur_next {w w' : World} {g : Nat} {ao : Option Addr} {d k : Nat} {code : List Int} {h : Int} (hb : w.heap[g]? = some (.cells #[.slice ao code.length d, .int .i64 k, .int .i64 h] 120 (0, 0)))
    (hr : Rd w .u8 ao code) (hby : By code) (hne : ∀ a, ao = some a → code ≠ [] → a.block ≠ g) (hk : k < code.length) {n : Nat} (e : w' = (w.drewN n).setCell ⟨g, 1, none⟩ (.int .i64 ((k : Int) + 1)) := by rfl) : Cur w' g ao d code := by
  subst e
  refine ⟨(k : Int) + 1, h, ?_, by omega, by omega, ?_, hby, hne⟩
  · have hb' : (w.drewN n).heap[g]? = some (.cells #[.slice ao code.length d, .int .i64 k, .int .i64 h] 120 (0, 0)) := hb
    rw [heap_setCell_same (w.drewN n) g 1 _ _ _ hb']; rfl
  · have hr' : Rd (w.drewN n) .u8 ao code := hr
    exact hr'.far hne fun p hp => World.cell?_setCell_other _ _ _ _ (fun e => by subst e; exact hp rfl)
theorem cur_grown {w w1 w' : World} {g n : Nat} {v : Value} (h : w.grownBy w1 (some g)) (e : w' = (w1.drewN n).setCell ⟨g, 1, none⟩ v := by rfl) : w.grownBy w' (some g) := by
  subst e
  exact grownBy_trans h ⟨rfl, rfl, rfl, by simp [World.setCell], fun i _ hi => heap_setCell_other (w1.drewN n) ⟨g, 1, none⟩ i _ (fun e => hi (by simp [e]))⟩

set_option maxRecDepth 100000 in
set_option maxHeartbeats 1600000 in
theorem l01Byte_any (g : Nat) (ao : Option Addr) (d : Nat) (code : List Int) (w : World) (hc : Cur w g ao d code) (hl : code.length ≤ 1048577) :
    Calls Tryd.prog 96 #[.pointer (some ⟨g, 0, none⟩)] w (ByteP w g ao d code 0 255) := by
  obtain ⟨i, h, hb, hi0, hi1, hr, hby, hne⟩ := hc
  have c0 : w.cell? ⟨g, 0, none⟩ = some (.slice ao code.length d) := cell_of_row w g 0 _ _ _ hb
  have c1 : w.cell? ⟨g, 1, none⟩ = some (.int .i64 i) := cell_of_row w g 1 _ _ _ hb
  have c2 : w.cell? ⟨g, 2, none⟩ = some (.int .i64 h) := cell_of_row w g 2 _ _ _ hb
  have f1 : w.frozen? ⟨g, 1, none⟩ = false := by simp [World.frozen?, hb]
  have f2 : w.frozen? ⟨g, 2, none⟩ = false := by simp [World.frozen?, hb]
  have HB := Lib.hid hb; have HR := Lib.hid hr; have HBY := Lib.hid hby; have HNE := Lib.hid hne
  clear hb hr hby hne
  by_cases hlt : i < code.length
  · obtain ⟨b1, off, rfl, hcc⟩ : ∃ b1 off, ao = some ⟨b1, off, none⟩ ∧ ∀ k, k < code.length → w.cell? ⟨b1, off + k, none⟩ = some (.int .u8 (code.getD k 0)) := by
      rcases HR.out with rfl | h'
      · simp at hlt; omega
      · exact h'
    obtain ⟨k, rfl⟩ : ∃ k : Nat, i = k := ⟨i.toNat, by omega⟩
    have hk : k < code.length := by omega
    obtain ⟨z, hz, _, hcz, _⟩ := Rd.at_ hcc hk
    have zb := HBY.out z hz
    have hbg : b1 ≠ g := HNE.out _ rfl (by intro e; rw [e] at hk; simp at hk)
    go_enter Tryd.func96, Tryd.ntmps96
    go_wp2
    generalize wrap64 (wrap64 (h * 6364136223846793005) + 1442695040888963407) = h2
    generalize wrap64 (h * 6364136223846793005) = h3
    obtain ⟨w1, hw1⟩ : ∃ w1, w1 = w.setCell ⟨g, 2, none⟩ (.int .i64 h2) := ⟨_, rfl⟩
    rw [← hw1]
    have B1 : w1.heap[g]? = some (.cells #[.slice (some ⟨b1, off, none⟩) code.length d, .int .i64 k, .int .i64 h2] 120 (0, 0)) := by rw [hw1, heap_setCell_same w g 2 _ _ _ HB.out]; rfl
    have R1 : Rd w1 .u8 (some ⟨b1, off, none⟩) code := by rw [hw1]; exact HR.out.far HNE.out fun p hp => World.cell?_setCell_other _ _ _ _ (fun e => by subst e; exact hp rfl)
    have G1 : w.grownBy w1 (some g) := by rw [hw1]; exact ⟨rfl, rfl, rfl, by simp, fun i _ hi => heap_setCell_other w ⟨g, 2, none⟩ i _ (fun e => hi (by simp [e]))⟩
    have cz : w1.cell? ⟨b1, off + k, none⟩ = some (.int .u8 z) := by rw [hw1, World.cell?_setCell_other _ _ _ _ (by simp)]; exact hcz
    have HB1 := Lib.hid B1; have HR1 := Lib.hid R1; have HG1 := Lib.hid G1
    clear c0 c1 c2 f1 f2 hcc hcz hw1 B1 R1 G1
    have c0 : w1.cell? ⟨g, 0, none⟩ = some (.slice (some ⟨b1, off, none⟩) code.length d) := cell_of_row w1 g 0 _ _ _ HB1.out
    have c1 : w1.cell? ⟨g, 1, none⟩ = some (.int .i64 k) := cell_of_row w1 g 1 _ _ _ HB1.out
    have c2 : w1.cell? ⟨g, 2, none⟩ = some (.int .i64 h2) := cell_of_row w1 g 2 _ _ _ HB1.out
    have f1 : w1.frozen? ⟨g, 1, none⟩ = false := frozen_of_row w1 g 1 _ _ HB1.out
    go_quiet (fail)
    go_wp2
    go_quiet (fail)
    go_wp2
    go_quiet (fail)
    go_wp2
    go_ret
    exact ⟨_, rfl, (and255 _).1, (and255 _).2, cur_next (w := w1) HB1.out HR1.out HBY.out HNE.out hk, cur_grown (w1 := w1) HG1.out⟩
  · go_enter Tryd.func96, Tryd.ntmps96
    go_wp2
    generalize wrap64 (wrap64 (h * 6364136223846793005) + 1442695040888963407) = h2
    generalize wrap64 (h * 6364136223846793005) = h3
    obtain ⟨w1, hw1⟩ : ∃ w1, w1 = w.setCell ⟨g, 2, none⟩ (.int .i64 h2) := ⟨_, rfl⟩
    rw [← hw1]
    have B1 : w1.heap[g]? = some (.cells #[.slice ao code.length d, .int .i64 i, .int .i64 h2] 120 (0, 0)) := by rw [hw1, heap_setCell_same w g 2 _ _ _ HB.out]; rfl
    have R1 : Rd w1 .u8 ao code := by rw [hw1]; exact HR.out.far HNE.out fun p hp => World.cell?_setCell_other _ _ _ _ (fun e => by subst e; exact hp rfl)
    have G1 : w.grownBy w1 (some g) := by rw [hw1]; exact ⟨rfl, rfl, rfl, by simp, fun i _ hi => heap_setCell_other w ⟨g, 2, none⟩ i _ (fun e => hi (by simp [e]))⟩
    have HB1 := Lib.hid B1; have HR1 := Lib.hid R1; have HG1 := Lib.hid G1
    clear c0 c1 c2 f1 f2 hw1 B1 R1 G1
    have c0 : w1.cell? ⟨g, 0, none⟩ = some (.slice ao code.length d) := cell_of_row w1 g 0 _ _ _ HB1.out
    have c1 : w1.cell? ⟨g, 1, none⟩ = some (.int .i64 i) := cell_of_row w1 g 1 _ _ _ HB1.out
    have c2 : w1.cell? ⟨g, 2, none⟩ = some (.int .i64 h2) := cell_of_row w1 g 2 _ _ _ HB1.out
    go_quiet (fail)
    go_wp2
    go_quiet (fail)
    go_wp2
    go_ret
    exact ⟨_, rfl, (and255 _).1, (and255 _).2, ⟨i, h2, HB1.out, hi0, hi1, HR1.out, HBY.out, HNE.out⟩, ⟨HG1.out.os, HG1.out.tape, HG1.out.output, HG1.out.size, HG1.out.block⟩⟩
end Go.Proofs.YtcegekkhlfpgfaaDoor
