/-
  Contracts of hasCols, sumCols, fitsOver and widthOver. For every node.
-/
import Derived.Test.YtdkiaahcmoafdaaGrowQ
import Derived.Test.YtdkiaahcmoafdaaMapT
import Derived.Deep.QuietTactic
import Derived.Deep.RegionHeld3
namespace Go.Proofs.Ytdkiaahcmoafdaa
open Go.RowKit Go.Maps
set_option linter.unusedSimpArgs false
set_option linter.unusedVariables false

theorem rd_one {w : World} {b : Nat} {z : Int} (h : w.cell? ⟨b, 0, none⟩ = some (.int .i64 z)) : Rd w .i64 (some ⟨b, 0, none⟩) [z] :=
  .inr ⟨b, 0, rfl, fun i hi => by obtain rfl : i = 0 := (by simpa using hi); simpa using h⟩

set_option maxHeartbeats 1000000 in
theorem hasCols_any (v : Int) (a : Option Addr) (c : Nat) (l : List Int) (w : World) (h : Rd w .i64 a l) (hl : l.length ≤ maxLen) :
    Calls Try.prog 131 #[.int .i64 v, .slice a l.length c] w fun e w' => e = .returned (.bool (l.all fun x => decide (x < v))) ∧ w = w' := by
  unfold maxLen at hl
  rcases h with rfl | ⟨b, off, rfl, hc⟩
  · go_enter Try.func131, Try.ntmps131
    go_wp2_with fail
    refine wp_loop_rounds 1 ?_; rw [rounds_succ]
    go_wp2_with fail
    go_ret
    exact ⟨rfl, rfl⟩
  · have HC := Lib.hid hc; clear hc
    go_enter Try.func131, Try.ntmps131
    go_wp2_with fail
    go_loop [9] (fun i => ∃ j : Nat, j ≤ l.length ∧ i = .int .i64 j ∧ (l.take j).all (fun x => decide (x < v)) = true) (fun i => l.length - (intOf i).toNat)
    case atStart => exact ⟨0, Nat.zero_le _, rfl, rfl⟩
    case round =>
      obtain ⟨j, hj, rfl, ha⟩ := hrel
      have AL := Lib.hid ha; clear ha
      by_cases hlt : j < l.length
      · have hcj := HC.out j hlt
        have hx : l[j]? = some (l.getD j 0) := by rw [List.getD_eq_getElem?_getD, List.getElem?_eq_getElem hlt]; rfl
        generalize l.getD j 0 = x at hcj hx
        by_cases hxv : x < v
        · have E := Lib.hid (show (l.take (j + 1)).all (fun x => decide (x < v)) = true by rw [List.take_add_one, hx, List.all_append, AL.out]; simp [hxv])
          clear hx
          go_wp2
          go_round
          case rel => exact ⟨j + 1, by omega, by go_num, E.out⟩
          case measure => simp [intOf]; omega
        · have E := Lib.hid (show (l.all fun x => decide (x < v)) = false by rw [List.all_eq_false]; exact ⟨x, List.mem_of_getElem? hx, by simp [hxv]⟩)
          have hvx : v ≤ x := by omega
          clear hx
          go_wp2
          go_ret
          exact ⟨ret_bool E.out.symm, rfl⟩
      · obtain rfl : j = l.length := by omega
        have E := Lib.hid (show (l.all fun x => decide (x < v)) = true by have := AL.out; rwa [List.take_length] at this)
        go_wp2
        go_ret
        exact ⟨ret_bool E.out.symm, rfl⟩

set_option maxHeartbeats 1000000 in
theorem sumCols_any (g c : Nat) (x y : Int) (w : World) (h0 : w.cell? ⟨g, 0, none⟩ = some (.int .i64 x)) (h1 : w.cell? ⟨g, 1, none⟩ = some (.int .i64 y)) (hx : 0 ≤ x) (hx' : x ≤ 64) (hy : 0 ≤ y) (hy' : y ≤ 64) :
    Calls Try.prog 132 #[.slice (some ⟨g, 0, none⟩) 2 c] w fun e w' => e = .returned (.int .i64 (if 64 < x + y then -1 else x + y)) ∧ w = w' := by
  by_cases h : 64 < x + y
  · rw [if_pos h]
    go_enter Try.func132, Try.ntmps132
    go_wp2_with fail
    refine wp_loop_rounds 3 ?_; rw [rounds_succ]
    go_wp2_with fail
    rw [rounds_succ]
    go_wp2_with fail
    rw [rounds_succ]
    go_wp2_with fail
    go_ret
    exact ⟨rfl, rfl⟩
  · rw [if_neg h]
    have h' : x + y ≤ 64 := by omega
    go_enter Try.func132, Try.ntmps132
    go_wp2_with fail
    refine wp_loop_rounds 3 ?_; rw [rounds_succ]
    go_wp2_with fail
    rw [rounds_succ]
    go_wp2_with fail
    rw [rounds_succ]
    go_wp2_with fail
    go_ret
    exact ⟨rfl, rfl⟩

def fits1 (n : Nd) (v : Int) : Bool := if n.kind = 1 ∨ n.kind = 5 then decide (n.col < v) else if n.kind = 2 then n.cols.all (fun x => decide (x < v)) else true
def fits2 (n : Nd) (v u : Int) : Bool := if n.kind = 3 then decide (n.col < v) && decide (n.num < u) else decide (v = u)
theorem kinds1 {n : Nd} (h : arity n.kind = 1) : n.kind = 1 ∨ n.kind = 2 ∨ n.kind = 5 ∨ n.kind = 6 ∨ n.kind = 7 := by
  unfold arity at h; split at h
  · omega
  · split at h
    · omega
    · split at h
      · assumption
      · omega
theorem kinds2 {n : Nd} (h : arity n.kind = 2) : n.kind = 3 ∨ n.kind = 4 := by
  unfold arity at h; split at h
  · omega
  · split at h
    · assumption
    · split at h <;> omega

set_option maxHeartbeats 1000000 in
theorem fits0_any (n : Nd) (a : Option Addr) (c : Nat) (w : World) (hk : n.kind = 0) :
    Calls Try.prog 110 #[kindV n a c, .slice none 0 0] w fun e w' => e = .returned (.bool true) ∧ w = w' := by
  rw [show kindV n a c = .iface 125 (.agg #[.string n.name]) by unfold kindV; rw [if_pos hk]]
  have A0 := Try.as_scanNode_filterNode
  have A1 := Try.as_scanNode_keepNode
  have A2 := Try.as_scanNode_joinNode
  have A3 := Try.as_scanNode_bothNode
  have A4 := Try.as_scanNode_sortNode
  go_enter Try.func110, Try.ntmps110
  go_wp2_with fail
  go_ret
  exact ⟨rfl, rfl⟩

set_option maxRecDepth 100000 in
set_option maxHeartbeats 4000000 in
theorem fits1_any (n : Nd) (a : Option Addr) (c : Nat) (ha : arity n.kind = 1) (g cb : Nat) (v : Int) (w : World) (h0 : w.cell? ⟨g, 0, none⟩ = some (.int .i64 v)) (rd : Rd w .i64 a n.cols) (hl : n.cols.length ≤ maxLen) :
    Calls Try.prog 110 #[kindV n a c, .slice (some ⟨g, 0, none⟩) 1 cb] w fun e w' => e = .returned (.bool (fits1 n v)) ∧ Below w.heap.size w w' := by
  have RD := Lib.hid rd; clear rd
  have hg : g < w.heap.size := World.block_lt_of_cell? w ⟨g, 0, none⟩ h0
  rcases kinds1 ha with hk | hk | hk | hk | hk
  · rw [show kindV n a c = .iface 127 (.agg #[.int .i64 n.col, .int .i64 n.op, .int .i64 n.num, .bool n.slot]) by unfold kindV; simp [hk]]
    have A0 := Try.as_filterNode_filterNode
    have E := Lib.hid (show fits1 n v = ([n.col].all fun x => decide (x < v)) by unfold fits1; simp [hk])
    clear hk ha
    go_enter Try.func110, Try.ntmps110
    go_wp2_with fail
    first | go_region_with (go_at_call 131; refine (hasCols_any v _ _ [n.col] _ (rd_one (by first | exact cell_one _ _ _ | simp)) (by simp [maxLen])).mono ?_; rintro e w' ⟨rfl, rfl⟩) | fail
    all_goals
      go_wp2_with fail
      go_ret
      exact ⟨ret_bool (by first | exact E.out.symm | (rw [E.out]; simp)), (by repeat (first | exact Below.refl _ _ | refine Below.alloc ?_ (by simp <;> omega) _ | refine Below.drew ?_ | refine below_drewN ?_ _))⟩
  · rw [show kindV n a c = .iface 129 (.agg #[.slice a n.cols.length c]) by unfold kindV; simp [hk]]
    have A0 := Try.as_keepNode_filterNode
    have A1 := Try.as_keepNode_keepNode
    have E := Lib.hid (show fits1 n v = (n.cols.all fun x => decide (x < v)) by unfold fits1; simp [hk])
    clear hk ha
    go_enter Try.func110, Try.ntmps110
    go_wp2_with fail
    first | go_region_with (go_at_call 131; refine (hasCols_any v a c n.cols _ (RD.out.below (by repeat (first | exact Below.refl _ _ | refine Below.alloc ?_ (by simp <;> omega) _ | refine Below.drew ?_ | refine below_drewN ?_ _))) hl).mono ?_; rintro e w' ⟨rfl, rfl⟩) | fail
    all_goals
      go_wp2_with fail
      go_ret
      exact ⟨ret_bool (by first | exact E.out.symm | (rw [E.out]; simp)), (by repeat (first | exact Below.refl _ _ | refine Below.alloc ?_ (by simp <;> omega) _ | refine Below.drew ?_ | refine below_drewN ?_ _))⟩
  · rw [show kindV n a c = .iface 131 (.agg #[.int .i64 n.col]) by unfold kindV; simp [hk]]
    have A0 := Try.as_sortNode_filterNode
    have A1 := Try.as_sortNode_keepNode
    have A2 := Try.as_sortNode_joinNode
    have A3 := Try.as_sortNode_bothNode
    have A4 := Try.as_sortNode_sortNode
    have E := Lib.hid (show fits1 n v = ([n.col].all fun x => decide (x < v)) by unfold fits1; simp [hk])
    clear hk ha
    go_enter Try.func110, Try.ntmps110
    go_wp2_with fail
    first | go_region_with (go_at_call 131; refine (hasCols_any v _ _ [n.col] _ (rd_one (by first | exact cell_one _ _ _ | simp)) (by simp [maxLen])).mono ?_; rintro e w' ⟨rfl, rfl⟩) | fail
    all_goals
      go_wp2_with fail
      go_ret
      exact ⟨ret_bool (by first | exact E.out.symm | (rw [E.out]; simp)), (by repeat (first | exact Below.refl _ _ | refine Below.alloc ?_ (by simp <;> omega) _ | refine Below.drew ?_ | refine below_drewN ?_ _))⟩
  · rw [show kindV n a c = .iface 133 (.agg #[.int .i64 n.num, .bool n.slot]) by unfold kindV; simp [hk]]
    have A0 := Try.as_limitNode_filterNode
    have A1 := Try.as_limitNode_keepNode
    have A2 := Try.as_limitNode_joinNode
    have A3 := Try.as_limitNode_bothNode
    have A4 := Try.as_limitNode_sortNode
    have E := Lib.hid (show fits1 n v = true by unfold fits1; simp [hk])
    clear hk ha
    go_enter Try.func110, Try.ntmps110
    go_wp2_with fail
    go_ret
    exact ⟨ret_bool E.out.symm, Below.refl _ _⟩
  · rw [show kindV n a c = .iface 135 (.agg #[]) by unfold kindV; simp [hk]]
    have A0 := Try.as_onceNode_filterNode
    have A1 := Try.as_onceNode_keepNode
    have A2 := Try.as_onceNode_joinNode
    have A3 := Try.as_onceNode_bothNode
    have A4 := Try.as_onceNode_sortNode
    have E := Lib.hid (show fits1 n v = true by unfold fits1; simp [hk])
    clear hk ha
    go_enter Try.func110, Try.ntmps110
    go_wp2_with fail
    go_ret
    exact ⟨ret_bool E.out.symm, Below.refl _ _⟩
end Go.Proofs.Ytdkiaahcmoafdaa
