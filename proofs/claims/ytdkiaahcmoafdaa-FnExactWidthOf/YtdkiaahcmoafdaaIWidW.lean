/-
  Contract of widthOver. For every node.
-/
import Derived.Test.YtdkiaahcmoafdaaIWid
namespace Go.Proofs.Ytdkiaahcmoafdaa
open Go.RowKit Go.Maps
set_option linter.unusedSimpArgs false
set_option linter.unusedVariables false

theorem zeroInt' (w : World) : (zeroValue 3).run Try.prog w = .ok (.int .i64 0) w := by kernel_rfl
set_option maxRecDepth 100000 in
set_option maxHeartbeats 1600000 in
theorem wide0_any (n : Nd) (a : Option Addr) (c : Nat) (bm nm : Nat) (f : Fn) (w : World) (hk : n.kind = 0) (h : OwnM w bm nm f) (hs : n.name.size ≤ maxLen) :
    Calls Try.prog 111 #[kindV n a c, .map (some bm), .slice none 0 0] w fun e w' => e = .returned (.int .i64 ((f n.name.data.toList).getD (-1))) ∧ Below w.heap.size w w' := by
  rw [show kindV n a c = .iface 125 (.agg #[.string n.name]) by unfold kindV; rw [if_pos hk]]
  obtain ⟨D, hown, hD⟩ := h
  have HD := Lib.hid hD; clear hD hk
  have A0 := Try.as_scanNode_scanNode
  cases hv : f n.name.data.toList with
  | none =>
    have HH := Lib.hid (show has D (.string n.name.data.toList) = false by rw [(HD.out.2 _).1, hv]; rfl)
    clear hv
    go_enter Try.func111, Try.ntmps111
    go_wp2_with (first | (at_lookup; refine wpList_lookup_own_ok_int _ rfl _ _ 106 rfl 9 3 .i64 Try.keyed Try.underlying106 Try.underlying3 (zeroInt' _) bm nm _ rfl (hown.alloc _) _ _ rfl (WideMaps.keyOf_string_mk Try.underlying9 hs) ?_; intro x hat hwx; rw [HH.out]) | go_in)
    go_ret
    exact ⟨rfl, (Below.refl _ _).alloc (Nat.le_refl _) _⟩
  | some u =>
    have HH := Lib.hid (show has D (.string n.name.data.toList) = true by rw [(HD.out.2 _).1, hv]; rfl)
    have HA := Lib.hid ((HD.out.2 _).2 u hv (.lit (.int .i64 0)))
    clear hv
    go_enter Try.func111, Try.ntmps111
    go_wp2_with (first | (at_lookup; refine wpList_lookup_own_ok_int _ rfl _ _ 106 rfl 9 3 .i64 Try.keyed Try.underlying106 Try.underlying3 (zeroInt' _) bm nm _ rfl (hown.alloc _) _ _ rfl (WideMaps.keyOf_string_mk Try.underlying9 hs) ?_; intro x hat hwx; rw [HH.out]; rw [HA.out] at hat; obtain rfl : u = x := (by injection hat with hat; injection hat)) | go_in)
    go_ret
    exact ⟨rfl, (Below.refl _ _).alloc (Nat.le_refl _) _⟩

def wide1 (n : Nd) (v : Int) : Int := if n.kind = 2 then (n.cols.length : Int) else v
set_option maxRecDepth 100000 in
set_option maxHeartbeats 1600000 in
theorem wide1_any (n : Nd) (a : Option Addr) (c : Nat) (ha : arity n.kind = 1) (bm : Nat) (g cb : Nat) (v : Int) (w : World) (h0 : w.cell? ⟨g, 0, none⟩ = some (.int .i64 v)) (hl : n.cols.length ≤ maxLen) :
    Calls Try.prog 111 #[kindV n a c, .map (some bm), .slice (some ⟨g, 0, none⟩) 1 cb] w fun e w' => e = .returned (.int .i64 (wide1 n v)) ∧ Below w.heap.size w w' := by
  unfold maxLen at hl
  have hg : g < w.heap.size := World.block_lt_of_cell? w ⟨g, 0, none⟩ h0
  rcases kinds1 ha with hk | hk | hk | hk | hk
  · rw [show kindV n a c = .iface 127 (.agg #[.int .i64 n.col, .int .i64 n.op, .int .i64 n.num, .bool n.slot]) by unfold kindV; simp [hk]]
    have A0 := Try.as_filterNode_scanNode
    have A1 := Try.as_filterNode_keepNode
    have A2 := Try.as_filterNode_joinNode
    have E := Lib.hid (show wide1 n v = v from if_neg (by omega))
    clear hk ha
    go_enter Try.func111, Try.ntmps111
    go_wp2_with fail
    go_ret
    rw [E.out]
    exact ⟨rfl, Below.refl _ _⟩
  · rw [show kindV n a c = .iface 129 (.agg #[.slice a n.cols.length c]) by unfold kindV; simp [hk]]
    have A0 := Try.as_keepNode_scanNode
    have A1 := Try.as_keepNode_keepNode
    have E := Lib.hid (show wide1 n v = (n.cols.length : Int) from if_pos hk)
    clear hk ha
    go_enter Try.func111, Try.ntmps111
    go_wp2_with fail
    go_ret
    rw [E.out]
    exact ⟨rfl, (Below.refl _ _).alloc (Nat.le_refl _) _⟩
  · rw [show kindV n a c = .iface 131 (.agg #[.int .i64 n.col]) by unfold kindV; simp [hk]]
    have A0 := Try.as_sortNode_scanNode
    have A1 := Try.as_sortNode_keepNode
    have A2 := Try.as_sortNode_joinNode
    have E := Lib.hid (show wide1 n v = v from if_neg (by omega))
    clear hk ha
    go_enter Try.func111, Try.ntmps111
    go_wp2_with fail
    go_ret
    rw [E.out]
    exact ⟨rfl, Below.refl _ _⟩
  · rw [show kindV n a c = .iface 133 (.agg #[.int .i64 n.num, .bool n.slot]) by unfold kindV; simp [hk]]
    have A0 := Try.as_limitNode_scanNode
    have A1 := Try.as_limitNode_keepNode
    have A2 := Try.as_limitNode_joinNode
    have E := Lib.hid (show wide1 n v = v from if_neg (by omega))
    clear hk ha
    go_enter Try.func111, Try.ntmps111
    go_wp2_with fail
    go_ret
    rw [E.out]
    exact ⟨rfl, Below.refl _ _⟩
  · rw [show kindV n a c = .iface 135 (.agg #[]) by unfold kindV; simp [hk]]
    have A0 := Try.as_onceNode_scanNode
    have A1 := Try.as_onceNode_keepNode
    have A2 := Try.as_onceNode_joinNode
    have E := Lib.hid (show wide1 n v = v from if_neg (by omega))
    clear hk ha
    go_enter Try.func111, Try.ntmps111
    go_wp2_with fail
    go_ret
    rw [E.out]
    exact ⟨rfl, Below.refl _ _⟩

def wide2 (n : Nd) (v u : Int) : Int := if n.kind = 3 then (if 64 < v + u then -1 else v + u) else v
set_option maxRecDepth 100000 in
set_option maxHeartbeats 1600000 in
theorem wide2_any (n : Nd) (a : Option Addr) (c : Nat) (ha : arity n.kind = 2) (bm : Nat) (g cb : Nat) (v u : Int) (w : World) (h0 : w.cell? ⟨g, 0, none⟩ = some (.int .i64 v)) (h1 : w.cell? ⟨g, 1, none⟩ = some (.int .i64 u)) (hv : 0 ≤ v) (hv' : v ≤ 64) (hu : 0 ≤ u) (hu' : u ≤ 64) :
    Calls Try.prog 111 #[kindV n a c, .map (some bm), .slice (some ⟨g, 0, none⟩) 2 cb] w fun e w' => e = .returned (.int .i64 (wide2 n v u)) ∧ Below w.heap.size w w' := by
  have hg : g < w.heap.size := World.block_lt_of_cell? w ⟨g, 0, none⟩ h0
  have A := Lib.hid (fun o => (Below.refl w.heap.size w).alloc (Nat.le_refl _) o)
  rcases kinds2 ha with hk | hk
  · rw [show kindV n a c = .iface 137 (.agg #[.int .i64 n.col, .int .i64 n.num]) by unfold kindV; simp [hk]]
    have A0 := Try.as_joinNode_scanNode
    have A1 := Try.as_joinNode_keepNode
    have A2 := Try.as_joinNode_joinNode
    have E := Lib.hid (show wide2 n v u = if 64 < v + u then -1 else v + u from if_pos hk)
    clear hk ha
    go_enter Try.func111, Try.ntmps111
    go_wp2_with fail
    refine (sumCols_any g cb v u _ (((A.out _).cell (p := ⟨g, 0, none⟩) hg).trans h0) (((A.out _).cell (p := ⟨g, 1, none⟩) hg).trans h1) hv hv' hu hu').mono ?_
    rintro e w' ⟨rfl, rfl⟩
    rw [← E.out]
    go_wp2_with fail
    go_ret
    exact ⟨rfl, A.out _⟩
  · rw [show kindV n a c = .iface 138 (.agg #[]) by unfold kindV; simp [hk]]
    have A0 := Try.as_bothNode_scanNode
    have A1 := Try.as_bothNode_keepNode
    have A2 := Try.as_bothNode_joinNode
    have E := Lib.hid (show wide2 n v u = v from if_neg (by omega))
    clear hk ha
    go_enter Try.func111, Try.ntmps111
    go_wp2_with fail
    go_ret
    rw [E.out]
    exact ⟨rfl, Below.refl _ _⟩
end Go.Proofs.Ytdkiaahcmoafdaa
