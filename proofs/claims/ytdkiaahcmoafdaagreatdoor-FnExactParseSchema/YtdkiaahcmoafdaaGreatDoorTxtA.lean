/-
  Contract of spec.l01Num at a width.
-/
import Derived.Test.YtdkiaahcmoafdaaGreatDoorSSch
import Derived.Laws.IdiomStrings
namespace Go.Proofs.YtdkiaahcmoafdaaGreatDoor
open Go.RowKit
set_option linter.unusedSimpArgs false
set_option linter.unusedVariables false

/-- A number of one digit, as a text. -/
def digS (x : Int) : ByteArray := ⟨#[UInt8.ofNat (48 + x.toNat)]⟩
set_option maxRecDepth 100000 in
set_option maxHeartbeats 1600000 in
theorem num_any (x : Int) (w : World) (h1 : 1 ≤ x) (h2 : x ≤ 6) :
    Calls Tryz.prog 19 #[.int .i64 x] w fun e w' => e = .returned (.string (digS x)) ∧ Below w.heap.size w w' := by
  have hx : x = 1 ∨ x = 2 ∨ x = 3 ∨ x = 4 ∨ x = 5 ∨ x = 6 := by omega
  clear h1 h2
  have key : ∀ (z : UInt8), Sem.run Tryz.prog (convert 50 9 (.slice (some ⟨w.heap.size, 0, none⟩) 1 1)) (w.alloc (.cells #[.int .u8 (z.toNat : Int)] 5)) = .ok (.string ⟨#[z]⟩) (w.alloc (.cells #[.int .u8 (z.toNat : Int)] 5)) := fun z =>
    run_convert_bytes_back (P := Tryz.prog) (w.alloc (.cells #[.int .u8 (z.toNat : Int)] 5)) 50 9 5 ⟨w.heap.size, 0, none⟩ 1 [z] Tryz.underlying50 Tryz.underlying5 Tryz.underlying9 (by
      intro j hj
      obtain rfl : j = 0 := by simp at hj; omega
      rw [show (⟨w.heap.size, 0, none⟩ : Addr).add 0 = ⟨w.heap.size, 0, none⟩ from rfl, World.cell?_alloc_new]; rfl)
  rcases hx with rfl | rfl | rfl | rfl | rfl | rfl
  · have hb := key 49; simp at hb
    clear key
    go_enter Tryz.func19, Tryz.ntmps19
    go_wp2_with fail
    refine wp_loop_rounds 2 ?_; rw [rounds_succ]
    go_wp2_with fail
    rw [rounds_succ]
    go_wp2_with fail
    go_ret
    exact ⟨rfl, (Below.refl _ _).alloc (Nat.le_refl _) _⟩
  · have hb := key 50; simp at hb
    clear key
    go_enter Tryz.func19, Tryz.ntmps19
    go_wp2_with fail
    refine wp_loop_rounds 2 ?_; rw [rounds_succ]
    go_wp2_with fail
    rw [rounds_succ]
    go_wp2_with fail
    go_ret
    exact ⟨rfl, (Below.refl _ _).alloc (Nat.le_refl _) _⟩
  · have hb := key 51; simp at hb
    clear key
    go_enter Tryz.func19, Tryz.ntmps19
    go_wp2_with fail
    refine wp_loop_rounds 2 ?_; rw [rounds_succ]
    go_wp2_with fail
    rw [rounds_succ]
    go_wp2_with fail
    go_ret
    exact ⟨rfl, (Below.refl _ _).alloc (Nat.le_refl _) _⟩
  · have hb := key 52; simp at hb
    clear key
    go_enter Tryz.func19, Tryz.ntmps19
    go_wp2_with fail
    refine wp_loop_rounds 2 ?_; rw [rounds_succ]
    go_wp2_with fail
    rw [rounds_succ]
    go_wp2_with fail
    go_ret
    exact ⟨rfl, (Below.refl _ _).alloc (Nat.le_refl _) _⟩
  · have hb := key 53; simp at hb
    clear key
    go_enter Tryz.func19, Tryz.ntmps19
    go_wp2_with fail
    refine wp_loop_rounds 2 ?_; rw [rounds_succ]
    go_wp2_with fail
    rw [rounds_succ]
    go_wp2_with fail
    go_ret
    exact ⟨rfl, (Below.refl _ _).alloc (Nat.le_refl _) _⟩
  · have hb := key 54; simp at hb
    clear key
    go_enter Tryz.func19, Tryz.ntmps19
    go_wp2_with fail
    refine wp_loop_rounds 2 ?_; rw [rounds_succ]
    go_wp2_with fail
    rw [rounds_succ]
    go_wp2_with fail
    go_ret
    exact ⟨rfl, (Below.refl _ _).alloc (Nat.le_refl _) _⟩
end Go.Proofs.YtdkiaahcmoafdaaGreatDoor
