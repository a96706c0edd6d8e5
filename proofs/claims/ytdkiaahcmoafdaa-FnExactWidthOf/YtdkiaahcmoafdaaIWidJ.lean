/-
  Contract of fitsOver at nodes of two children. For every node.
-/
import Derived.Test.YtdkiaahcmoafdaaIWid
namespace Go.Proofs.Ytdkiaahcmoafdaa
open Go.RowKit Go.Maps
set_option linter.unusedSimpArgs false
set_option linter.unusedVariables false

theorem hasOne_any (v : Int) (b c : Nat) (z : Int) (w : World) (h : w.cell? ⟨b, 0, none⟩ = some (.int .i64 z)) :
    Calls Try.prog 131 #[.int .i64 v, .slice (some ⟨b, 0, none⟩) 1 c] w fun e w' => e = .returned (.bool (decide (z < v))) ∧ w = w' := by
  refine (hasCols_any v _ c [z] w (rd_one h) (by simp [maxLen])).mono ?_
  rintro e w' ⟨rfl, rfl⟩
  exact ⟨ret_bool (by simp), rfl⟩
theorem cell_sz (w : World) (n : Nat) (v : Value) (t : TypeId) (hn : w.heap.size = n) : (w.alloc (Obj.cells #[v] t)).cell? ⟨n, 0, none⟩ = some v := by subst hn; exact cell_one w v t
theorem cell_sz_drew (w : World) (n : Nat) (v : Value) (t : TypeId) (hn : w.heap.size = n) : ((w.alloc (Obj.cells #[v] t)).drew).cell? ⟨n, 0, none⟩ = some v := cell_sz w n v t hn
theorem cell_2a (w : World) (o : Obj) (v : Value) (t : TypeId) : ((w.alloc o).alloc (Obj.cells #[v] t)).cell? ⟨w.heap.size + 1, 0, none⟩ = some v := cell_sz _ _ v t (by simp)
theorem cell_2b (w : World) (o : Obj) (v : Value) (t : TypeId) : ((w.alloc o).drew.alloc (Obj.cells #[v] t)).cell? ⟨w.heap.size + 1, 0, none⟩ = some v := cell_sz _ _ v t (by simp)
theorem cell_2c (w : World) (o : Obj) (v : Value) (t : TypeId) : (((w.alloc o).alloc (Obj.cells #[v] t)).drew).cell? ⟨w.heap.size + 1, 0, none⟩ = some v := cell_sz_drew _ _ v t (by simp)
theorem cell_2d (w : World) (o : Obj) (v : Value) (t : TypeId) : (((w.alloc o).drew.alloc (Obj.cells #[v] t)).drew).cell? ⟨w.heap.size + 1, 0, none⟩ = some v := cell_sz_drew _ _ v t (by simp)
theorem cell_one_drew (w : World) (v : Value) (t : TypeId) : ((w.alloc (Obj.cells #[v] t)).drew).cell? ⟨w.heap.size, 0, none⟩ = some v := cell_one w v t
theorem cell_one_drewN (w : World) (v : Value) (t : TypeId) (n : Nat) : ((w.alloc (Obj.cells #[v] t)).drewN n).cell? ⟨w.heap.size, 0, none⟩ = some v := cell_one w v t

set_option maxRecDepth 100000 in
set_option maxHeartbeats 4000000 in
theorem fits2_any (n : Nd) (a : Option Addr) (c : Nat) (ha : arity n.kind = 2) (g cb : Nat) (v u : Int) (w : World) (h0 : w.cell? ⟨g, 0, none⟩ = some (.int .i64 v)) (h1 : w.cell? ⟨g, 1, none⟩ = some (.int .i64 u)) :
    Calls Try.prog 110 #[kindV n a c, .slice (some ⟨g, 0, none⟩) 2 cb] w fun e w' => e = .returned (.bool (fits2 n v u)) ∧ Below w.heap.size w w' := by
  have hg : g < w.heap.size := World.block_lt_of_cell? w ⟨g, 0, none⟩ h0
  rcases kinds2 ha with hk | hk
  · rw [show kindV n a c = .iface 137 (.agg #[.int .i64 n.col, .int .i64 n.num]) by unfold kindV; simp [hk]]
    have A0 := Try.as_joinNode_filterNode
    have A1 := Try.as_joinNode_keepNode
    have A2 := Try.as_joinNode_joinNode
    obtain ⟨wq, hwq⟩ : ∃ wq, wq = w.alloc (.cells #[.int .i64 n.col, .int .i64 n.num] 137) := ⟨_, rfl⟩
    have BQ := Lib.hid (show Below w.heap.size w wq by rw [hwq]; exact (Below.refl _ _).alloc (Nat.le_refl _) _)
    have HZ := Lib.hid (show wq.heap.size = w.heap.size + 1 by rw [hwq]; simp)
    have hzq : w.heap.size < wq.heap.size := by rw [HZ.out]; omega
    have hgq : g < wq.heap.size := by omega
    have q0 := (BQ.out.cell (p := ⟨g, 0, none⟩) hg).trans h0
    have q1 := (BQ.out.cell (p := ⟨g, 1, none⟩) hg).trans h1
    have k0 : wq.cell? ⟨w.heap.size, 0, none⟩ = some (.int .i64 n.col) := by rw [hwq, World.cell?_alloc_new]; rfl
    have k1 : wq.cell? ⟨w.heap.size, 1, none⟩ = some (.int .i64 n.num) := by rw [hwq, World.cell?_alloc_new]; rfl
    cases hc : decide (n.col < v) with
    | true =>
      have HC := Lib.hid hc
      have E := Lib.hid (show fits2 n v u = decide (n.num < u) by unfold fits2; rw [if_pos hk, hc]; rfl)
      clear hc hk ha
      go_enter Try.func110, Try.ntmps110
      go_wp2_with fail
      rw [← hwq]
      clear hwq h0 h1
      first | go_region_held3 (fun W => W.cell? ⟨g, 0, none⟩ = some (.int .i64 v) ∧ W.cell? ⟨g, 1, none⟩ = some (.int .i64 u) ∧ W.cell? ⟨w.heap.size, 0, none⟩ = some (.int .i64 n.col) ∧ W.cell? ⟨w.heap.size, 1, none⟩ = some (.int .i64 n.num)) (go_keep) (first | (go_at_call 131; refine Calls.mono (hasOne_any _ _ _ ?_ _ ?_) ?_; rotate_left; (first | exact cell_one _ _ _ | exact cell_one_drew _ _ _ | exact cell_2a _ _ _ _ | exact cell_2b _ _ _ _ | exact cell_2c _ _ _ _ | exact cell_2d _ _ _ _);  rintro e w' ⟨rfl, rfl⟩; try rw [HC.out])) | fail
      all_goals
        go_wp2_with fail
        go_ret
        exact ⟨ret_bool (by first | exact E.out.symm | (rw [E.out]; simp)), (by repeat (first | exact BQ.out | refine Below.alloc ?_ (by have := HZ.out; simp <;> omega) _ | refine Below.drew ?_ | refine below_drewN ?_ _))⟩
    | false =>
      have HC := Lib.hid hc
      have E := Lib.hid (show fits2 n v u = false by unfold fits2; rw [if_pos hk, hc]; rfl)
      clear hc hk ha
      go_enter Try.func110, Try.ntmps110
      go_wp2_with fail
      rw [← hwq]
      clear hwq h0 h1
      first | go_region_with (go_at_call 131; refine (hasOne_any v _ _ n.col _ (by first | exact cell_one _ _ _ | exact cell_one_drew _ _ _ | simp [*])).mono ?_; rintro e w' ⟨rfl, rfl⟩; rw [HC.out]) | fail
      all_goals
        go_wp2_with fail
        go_ret
        exact ⟨ret_bool E.out.symm, (by repeat (first | exact BQ.out | refine Below.alloc ?_ (by have := HZ.out; simp <;> omega) _ | refine Below.drew ?_ | refine below_drewN ?_ _))⟩
  · rw [show kindV n a c = .iface 138 (.agg #[]) by unfold kindV; simp [hk]]
    have A0 := Try.as_bothNode_filterNode
    have A1 := Try.as_bothNode_keepNode
    have A2 := Try.as_bothNode_joinNode
    have A3 := Try.as_bothNode_bothNode
    have E := Lib.hid (show fits2 n v u = (v == u) by unfold fits2; rw [if_neg (by omega)]; rfl)
    clear hk ha
    go_enter Try.func110, Try.ntmps110
    go_wp2_with fail
    go_quiet (fail)
    all_goals
      go_wp2_with fail
      go_ret
      exact ⟨ret_bool (by first | exact E.out.symm | (rw [E.out]; simp)), (by repeat (first | exact Below.refl _ _ | refine Below.alloc ?_ (by simp <;> omega) _ | refine Below.drew ?_ | refine below_drewN ?_ _))⟩
end Go.Proofs.Ytdkiaahcmoafdaa
