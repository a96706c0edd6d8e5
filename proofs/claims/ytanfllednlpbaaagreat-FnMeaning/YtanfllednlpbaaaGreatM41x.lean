/-
  While rows are reckoned one block turns, in which the sizes lie: what is kept beside it. No walk. Contracts of hasCols, sumCols, fitsOver and widthOver. For every node. Contract of widthOver. For every node. Contract of fitsOver at nodes of two children. For every node.
-/
import Derived.Test.YtanfllednlpbaaaGreatM39x
import Derived.Test.YtanfllednlpbaaaGreatGrowQ
import Derived.Deep.QuietTactic
import Derived.Deep.RegionHeld3
namespace Go.Proofs.YtanfllednlpbaaaGreat
open Go.RowKit
set_option linter.unusedSimpArgs false
set_option linter.unusedVariables false
theorem SG.trans {z : Nat → Prop} {A B C : World} (p : SG z A B) (q : SG z B C) : SG z A C :=
  ⟨q.os.trans p.os, q.tape.trans p.tape, q.output.trans p.output, Nat.le_trans p.size q.size, fun k hk hn => (q.block k (Nat.lt_of_lt_of_le hk p.size) hn).trans (p.block k hk hn)⟩
theorem SG.mono {z y : Nat → Prop} {A B : World} (h : SG z A B) (hy : ∀ k, z k → y k) : SG y A B := ⟨h.os, h.tape, h.output, h.size, fun k hk hn => h.block k hk (fun hz => hn (hy k hz))⟩
theorem SG.cell {z : Nat → Prop} {A B : World} (h : SG z A B) {p : Addr} {v : Value} (hp : ¬ z p.block) (hc : A.cell? p = some v) : B.cell? p = some v :=
  (World.cell?_of_block (h.block _ (World.block_lt_of_cell? A p hc) hp)).trans hc
theorem SG.set {z : Nat → Prop} {s : Nat} (hs : z s) (A : World) (k : Nat) (v : Value) : SG z A (A.setCell ⟨s, k, none⟩ v) := by
  refine ⟨rfl, rfl, rfl, by simp, fun j _ hn => ?_⟩
  unfold World.setCell
  have hne : s ≠ j := fun e => hn (e ▸ hs)
  simp [Array.getElem?_modify, hne]
theorem SG.row {z : Nat → Prop} {A B C : World} {r : Option Nat} (h : SG z A B) (hg : B.grownBy C r) (hr : ∀ g, r = some g → A.heap.size ≤ g) : SG z A C :=
  ⟨hg.os.trans h.os, hg.tape.trans h.tape, hg.output.trans h.output, Nat.le_trans h.size hg.size, fun k hk hn => (hg.block k (Nat.lt_of_lt_of_le hk h.size) (fun e => by have := hr k e.symm; omega)).trans (h.block k hk hn)⟩
theorem SG.below {z : Nat → Prop} {A B C : World} (h : SG z B C) (hb : Below A.heap.size A B) (hz : ∀ k, z k → A.heap.size ≤ k) : Below A.heap.size A C :=
  ⟨h.os.trans hb.os, h.tape.trans hb.tape, h.output.trans hb.output, Nat.le_trans hb.size h.size, fun k hk => (h.block k (Nat.lt_of_lt_of_le hk hb.size) (fun hzk => by have := hz k hzk; omega)).trans (hb.block k hk)⟩
def SzL (w : World) (z : Nat) (zs : List Int) : Prop := w.rowIs z 3 zs.length (fun j => .int .i64 (zs.getD j 0))
theorem SzL.lt {w : World} {z : Nat} {zs : List Int} (h : SzL w z zs) : z < w.heap.size := World.rowIs.lt h
theorem SzL.below {w w' : World} {z : Nat} {zs : List Int} (h : SzL w z zs) (hb : Below w.heap.size w w') : SzL w' z zs := World.rowIs.of_block h (hb.block _ h.lt)
theorem SzL.set {w : World} {z : Nat} {zs : List Int} (h : SzL w z zs) {k : Nat} (hk : k < zs.length) (v : Int) : SzL (w.setCell ⟨z, k, none⟩ (.int .i64 v)) z (zs.set k v) := by
  have h1 := World.rowIs.set h k (.int .i64 v)
  unfold SzL
  rw [List.length_set]
  refine h1.congr fun j hj => ?_
  by_cases e : j = k
  · subst e
    rw [if_pos rfl, List.getD_eq_getElem?_getD, List.getElem?_set_self hk]; rfl
  · rw [if_neg e, List.getD_eq_getElem?_getD, List.getD_eq_getElem?_getD, List.getElem?_set_ne (Ne.symm e)]
theorem TrQ.sg {w0 w w' : World} {z : Nat → Prop} {lo hi : Nat} {T : Tr} {b : Nat} (h : TrQ w0 w lo hi T b) (hg : SG z w w') (hh : hi ≤ w.heap.size) (hz : ∀ k, z k → k < lo ∨ hi ≤ k) : TrQ w0 w' lo hi T b :=
  h.keep fun p hp1 hp2 => World.cell?_of_block (hg.block _ (by omega) (fun h => by have := hz _ h; omega))
def Tr.under (N : Nat) : Tr → Prop
  | .t0 _ pl _ => pl < N
  | .t1 _ pl _ c => pl < N ∧ c.under N
  | .t2 _ pl _ c d => pl < N ∧ c.under N ∧ d.under N
theorem under_grow (p : List Nd) : ∀ (T : Tr) (k : Nat), growT p p.length k = some T → T.under p.length := by
  intro T
  induction T with
  | t0 n pl en =>
    intro k h
    have hs := growT_sound p _ _ _ h
    have : pl = k := hs.1
    unfold Tr.under; omega
  | t1 n pl en c ih =>
    intro k h
    have hs := growT_sound p _ _ _ h
    have e0 : pl = k := hs.1
    obtain ⟨n', hn, hb, hc⟩ := grow_inv h
    rcases hc with ⟨e, _⟩ | ⟨c', e, _, h1⟩ | ⟨c', d, e, _⟩
    · cases e
    · injection e with e1 e2 e3 e4
      subst e4
      exact ⟨by omega, ih _ h1⟩
    · cases e
  | t2 n pl en c d ihc ihd =>
    intro k h
    have hs := growT_sound p _ _ _ h
    have e0 : pl = k := hs.1
    obtain ⟨n', hn, hb, hc⟩ := grow_inv h
    rcases hc with ⟨e, _⟩ | ⟨c', e, _, h1⟩ | ⟨c', d', e, _, h1, h2⟩
    · cases e
    · cases e
    · injection e with e1 e2 e3 e4 e5
      subst e4 e5
      exact ⟨by omega, ihc _ h1, ihd _ h2⟩
def RRes (z : Nat → Prop) (s : Nat) (w' : World) (o : Option RowsL) (zs zs' : List Int) (v : Value) (ok : Bool) : Prop :=
  (∃ l, o = some l ∧ ok = true ∧ (∃ a c, v = .slice a l.length c ∧ RdX z w' a l) ∧ SzL w' s zs') ∨ (o = none ∧ ok = false ∧ v = .slice none 0 0 ∧ ∃ zs'', zs''.length = zs.length ∧ SzL w' s zs'')
def RowsPost (z : Nat → Prop) (s : Nat) (w : World) (o : Option RowsL) (zs zs' : List Int) (e : Ending) (w' : World) : Prop :=
  ∃ v ok, e = .returned (.tuple #[v, .bool ok]) ∧ SG (fun k => k = s) w w' ∧ RRes z s w' o zs zs' v ok
structure StoX (w0 : World) (fw : Fn) (f : FnV) (g : Sto) : Prop where
  ok : FnOk fw
  at_ : ∀ k v, fw k = some v → ∃ ra rc, f k = some (.slice ra (g k).length rc) ∧ RdR w0 ra (g k) ∧ AllW v (g k) ∧ (g k).length ≤ 40
theorem infoFn : (Tryz.prog.info? 82).map (fun i => (i.zero, i.size, i.bytes)) = some (some .nilFunc, 1, 8) := by kernel_rfl
end Go.Proofs.YtanfllednlpbaaaGreat
namespace Go.Proofs.YtanfllednlpbaaaGreat
open Go.RowKit Go.Maps
set_option linter.unusedSimpArgs false
set_option linter.unusedVariables false
theorem rd_oneW {w : World} {b : Nat} {z : Int} (h : w.cell? ⟨b, 0, none⟩ = some (.int .i64 z)) : Rd w .i64 (some ⟨b, 0, none⟩) [z] :=
  .inr ⟨b, 0, rfl, fun i hi => by obtain rfl : i = 0 := (by simpa using hi); simpa using h⟩
set_option maxHeartbeats 1000000 in
theorem hasCols_any (v : Int) (a : Option Addr) (c : Nat) (l : List Int) (w : World) (h : Rd w .i64 a l) (hl : l.length ≤ maxLen) :
    Calls Tryz.prog 129 #[.int .i64 v, .slice a l.length c] w fun e w' => e = .returned (.bool (l.all fun x => decide (x < v))) ∧ w = w' := by
  unfold maxLen at hl
  rcases h with rfl | ⟨b, off, rfl, hc⟩
  · go_enter Tryz.func129, Tryz.ntmps129
    go_wp2_with fail
    refine wp_loop_rounds 1 ?_; rw [rounds_succ]
    go_wp2_with fail
    go_ret
    exact ⟨rfl, rfl⟩
  · have HC := Lib.hid hc; clear hc
    go_enter Tryz.func129, Tryz.ntmps129
    go_wp2_with fail
    go_loop [9] (fun i => ∃ j : Nat, j ≤ l.length ∧ i = .int .i64 j ∧ (l.take j).all (fun x => decide (x < v)) = true) (fun i => l.length - (intOf i).toNat)
    case atStart => exact ⟨0, Nat.zero_le _, rfl, rfl⟩
    case round =>
      obtain ⟨j, hj, rfl, ha⟩ := hrel
      have AL := Lib.hid ha; clear ha
      by_cases hlt : j < l.length
      · have hcj := HC.out j hlt
        have hx : l[j]? = some (l.getD j 0) := by rw [List.getD_eq_getElem?_getD, List.getElem?_eq_getElem hlt]; rfl
        generalize l.getD j 0 = x at hcj hx
        by_cases hxv : x < v
        · have E := Lib.hid (show (l.take (j + 1)).all (fun x => decide (x < v)) = true by rw [List.take_add_one, hx, List.all_append, AL.out]; simp [hxv])
          clear hx
          go_wp2
          go_round
          case rel => exact ⟨j + 1, by omega, by go_num, E.out⟩
          case measure => simp [intOf]; omega
        · have E := Lib.hid (show (l.all fun x => decide (x < v)) = false by rw [List.all_eq_false]; exact ⟨x, List.mem_of_getElem? hx, by simp [hxv]⟩)
          have hvx : v ≤ x := by omega
          clear hx
          go_wp2
          go_ret
          exact ⟨ret_bool E.out.symm, rfl⟩
      · obtain rfl : j = l.length := by omega
        have E := Lib.hid (show (l.all fun x => decide (x < v)) = true by have := AL.out; rwa [List.take_length] at this)
        go_wp2
        go_ret
        exact ⟨ret_bool E.out.symm, rfl⟩
set_option maxHeartbeats 1000000 in
theorem sumCols_any (g c : Nat) (x y : Int) (w : World) (h0 : w.cell? ⟨g, 0, none⟩ = some (.int .i64 x)) (h1 : w.cell? ⟨g, 1, none⟩ = some (.int .i64 y)) (hx : 0 ≤ x) (hx' : x ≤ 64) (hy : 0 ≤ y) (hy' : y ≤ 64) :
    Calls Tryz.prog 130 #[.slice (some ⟨g, 0, none⟩) 2 c] w fun e w' => e = .returned (.int .i64 (if 64 < x + y then -1 else x + y)) ∧ w = w' := by
  by_cases h : 64 < x + y
  · rw [if_pos h]
    go_enter Tryz.func130, Tryz.ntmps130
    go_wp2_with fail
    refine wp_loop_rounds 3 ?_; rw [rounds_succ]
    go_wp2_with fail
    rw [rounds_succ]
    go_wp2_with fail
    rw [rounds_succ]
    go_wp2_with fail
    go_ret
    exact ⟨rfl, rfl⟩
  · rw [if_neg h]
    have h' : x + y ≤ 64 := by omega
    go_enter Tryz.func130, Tryz.ntmps130
    go_wp2_with fail
    refine wp_loop_rounds 3 ?_; rw [rounds_succ]
    go_wp2_with fail
    rw [rounds_succ]
    go_wp2_with fail
    rw [rounds_succ]
    go_wp2_with fail
    go_ret
    exact ⟨rfl, rfl⟩
def fitN1 (n : Nd) (v : Int) : Bool := if n.kind = 1 ∨ n.kind = 5 then decide (n.col < v) else if n.kind = 2 then n.cols.all (fun x => decide (x < v)) else true
def fitN2 (n : Nd) (v u : Int) : Bool := if n.kind = 3 then decide (n.col < v) && decide (n.num < u) else decide (v = u)
theorem kinds1 {n : Nd} (h : arity n.kind = 1) : n.kind = 1 ∨ n.kind = 2 ∨ n.kind = 5 ∨ n.kind = 6 ∨ n.kind = 7 := by
  unfold arity at h; split at h
  · omega
  · split at h
    · omega
    · split at h
      · assumption
      · omega
theorem kinds2 {n : Nd} (h : arity n.kind = 2) : n.kind = 3 ∨ n.kind = 4 := by
  unfold arity at h; split at h
  · omega
  · split at h
    · assumption
    · split at h <;> omega
set_option maxHeartbeats 1000000 in
theorem fits0_any (n : Nd) (a : Option Addr) (c : Nat) (w : World) (hk : n.kind = 0) :
    Calls Tryz.prog 99 #[kindV n a c, .slice none 0 0] w fun e w' => e = .returned (.bool true) ∧ w = w' := by
  rw [show kindV n a c = .iface 164 (.agg #[.string n.name]) by unfold kindV; rw [if_pos hk]]
  have A0 := Tryz.as_scanNode_filterNode
  have A1 := Tryz.as_scanNode_keepNode
  have A2 := Tryz.as_scanNode_joinNode
  have A3 := Tryz.as_scanNode_bothNode
  have A4 := Tryz.as_scanNode_sortNode
  go_enter Tryz.func99, Tryz.ntmps99
  go_wp2_with fail
  go_ret
  exact ⟨rfl, rfl⟩
set_option maxRecDepth 100000 in
set_option maxHeartbeats 4000000 in
theorem fits1_any (n : Nd) (a : Option Addr) (c : Nat) (ha : arity n.kind = 1) (g cb : Nat) (v : Int) (w : World) (h0 : w.cell? ⟨g, 0, none⟩ = some (.int .i64 v)) (rd : Rd w .i64 a n.cols) (hl : n.cols.length ≤ maxLen) :
    Calls Tryz.prog 99 #[kindV n a c, .slice (some ⟨g, 0, none⟩) 1 cb] w fun e w' => e = .returned (.bool (fitN1 n v)) ∧ Below w.heap.size w w' := by
  have RD := Lib.hid rd; clear rd
  have hg : g < w.heap.size := World.block_lt_of_cell? w ⟨g, 0, none⟩ h0
  rcases kinds1 ha with hk | hk | hk | hk | hk
  · rw [show kindV n a c = .iface 153 (.agg #[.int .i64 n.col, .int .i64 n.op, .int .i64 n.num, .bool n.slot]) by unfold kindV; simp [hk]]
    have A0 := Tryz.as_filterNode_filterNode
    have E := Lib.hid (show fitN1 n v = ([n.col].all fun x => decide (x < v)) by unfold fitN1; simp [hk])
    clear hk ha
    go_enter Tryz.func99, Tryz.ntmps99
    go_wp2_with fail
    first | go_region_with (go_at_call 129; refine (hasCols_any v _ _ [n.col] _ (rd_oneW (by first | exact cell_one _ _ _ | simp)) (by simp [maxLen])).mono ?_; rintro e w' ⟨rfl, rfl⟩) | fail
    all_goals
      go_wp2_with fail
      go_ret
      exact ⟨ret_bool (by first | exact E.out.symm | (rw [E.out]; simp)), (by repeat (first | exact Below.refl _ _ | refine Below.alloc ?_ (by simp <;> omega) _ | refine Below.drew ?_ | refine below_drewN ?_ _))⟩
  · rw [show kindV n a c = .iface 156 (.agg #[.slice a n.cols.length c]) by unfold kindV; simp [hk]]
    have A0 := Tryz.as_keepNode_filterNode
    have A1 := Tryz.as_keepNode_keepNode
    have E := Lib.hid (show fitN1 n v = (n.cols.all fun x => decide (x < v)) by unfold fitN1; simp [hk])
    clear hk ha
    go_enter Tryz.func99, Tryz.ntmps99
    go_wp2_with fail
    first | go_region_with (go_at_call 129; refine (hasCols_any v a c n.cols _ (RD.out.below (by repeat (first | exact Below.refl _ _ | refine Below.alloc ?_ (by simp <;> omega) _ | refine Below.drew ?_ | refine below_drewN ?_ _))) hl).mono ?_; rintro e w' ⟨rfl, rfl⟩) | fail
    all_goals
      go_wp2_with fail
      go_ret
      exact ⟨ret_bool (by first | exact E.out.symm | (rw [E.out]; simp)), (by repeat (first | exact Below.refl _ _ | refine Below.alloc ?_ (by simp <;> omega) _ | refine Below.drew ?_ | refine below_drewN ?_ _))⟩
  · rw [show kindV n a c = .iface 162 (.agg #[.int .i64 n.col]) by unfold kindV; simp [hk]]
    have A0 := Tryz.as_sortNode_filterNode
    have A1 := Tryz.as_sortNode_keepNode
    have A2 := Tryz.as_sortNode_joinNode
    have A3 := Tryz.as_sortNode_bothNode
    have A4 := Tryz.as_sortNode_sortNode
    have E := Lib.hid (show fitN1 n v = ([n.col].all fun x => decide (x < v)) by unfold fitN1; simp [hk])
    clear hk ha
    go_enter Tryz.func99, Tryz.ntmps99
    go_wp2_with fail
    first | go_region_with (go_at_call 129; refine (hasCols_any v _ _ [n.col] _ (rd_oneW (by first | exact cell_one _ _ _ | simp)) (by simp [maxLen])).mono ?_; rintro e w' ⟨rfl, rfl⟩) | fail
    all_goals
      go_wp2_with fail
      go_ret
      exact ⟨ret_bool (by first | exact E.out.symm | (rw [E.out]; simp)), (by repeat (first | exact Below.refl _ _ | refine Below.alloc ?_ (by simp <;> omega) _ | refine Below.drew ?_ | refine below_drewN ?_ _))⟩
  · rw [show kindV n a c = .iface 178 (.agg #[.int .i64 n.num, .bool n.slot]) by unfold kindV; simp [hk]]
    have A0 := Tryz.as_limitNode_filterNode
    have A1 := Tryz.as_limitNode_keepNode
    have A2 := Tryz.as_limitNode_joinNode
    have A3 := Tryz.as_limitNode_bothNode
    have A4 := Tryz.as_limitNode_sortNode
    have E := Lib.hid (show fitN1 n v = true by unfold fitN1; simp [hk])
    clear hk ha
    go_enter Tryz.func99, Tryz.ntmps99
    go_wp2_with fail
    go_ret
    exact ⟨ret_bool E.out.symm, Below.refl _ _⟩
  · rw [show kindV n a c = .iface 180 (.agg #[]) by unfold kindV; simp [hk]]
    have A0 := Tryz.as_onceNode_filterNode
    have A1 := Tryz.as_onceNode_keepNode
    have A2 := Tryz.as_onceNode_joinNode
    have A3 := Tryz.as_onceNode_bothNode
    have A4 := Tryz.as_onceNode_sortNode
    have E := Lib.hid (show fitN1 n v = true by unfold fitN1; simp [hk])
    clear hk ha
    go_enter Tryz.func99, Tryz.ntmps99
    go_wp2_with fail
    go_ret
    exact ⟨ret_bool E.out.symm, Below.refl _ _⟩
theorem zeroInt' (w : World) : (zeroValue 3).run Tryz.prog w = .ok (.int .i64 0) w := by kernel_rfl
set_option maxRecDepth 100000 in
set_option maxHeartbeats 1600000 in
theorem wide0_any (n : Nd) (a : Option Addr) (c : Nat) (bm nm : Nat) (f : Fn) (w : World) (hk : n.kind = 0) (h : OwnM w bm nm f) (hs : n.name.size ≤ maxLen) :
    Calls Tryz.prog 100 #[kindV n a c, .map (some bm), .slice none 0 0] w fun e w' => e = .returned (.int .i64 ((f n.name.data.toList).getD (-1))) ∧ Below w.heap.size w w' := by
  rw [show kindV n a c = .iface 164 (.agg #[.string n.name]) by unfold kindV; rw [if_pos hk]]
  obtain ⟨D, hown, hD⟩ := h
  have HD := Lib.hid hD; clear hD hk
  have A0 := Tryz.as_scanNode_scanNode
  cases hv : f n.name.data.toList with
  | none =>
    have HH := Lib.hid (show has D (.string n.name.data.toList) = false by rw [(HD.out.2 _).1, hv]; rfl)
    clear hv
    go_enter Tryz.func100, Tryz.ntmps100
    go_wp2_with (first | (at_lookup; refine wpList_lookup_own_ok_int _ rfl _ _ 73 rfl 9 3 .i64 Tryz.keyed Tryz.underlying73 Tryz.underlying3 (zeroInt' _) bm nm _ rfl (hown.alloc _) _ _ rfl (WideMaps.keyOf_string_mk Tryz.underlying9 hs) ?_; intro x hat hwx; rw [HH.out]) | go_in)
    go_ret
    exact ⟨rfl, (Below.refl _ _).alloc (Nat.le_refl _) _⟩
  | some u =>
    have HH := Lib.hid (show has D (.string n.name.data.toList) = true by rw [(HD.out.2 _).1, hv]; rfl)
    have HA := Lib.hid ((HD.out.2 _).2 u hv (.lit (.int .i64 0)))
    clear hv
    go_enter Tryz.func100, Tryz.ntmps100
    go_wp2_with (first | (at_lookup; refine wpList_lookup_own_ok_int _ rfl _ _ 73 rfl 9 3 .i64 Tryz.keyed Tryz.underlying73 Tryz.underlying3 (zeroInt' _) bm nm _ rfl (hown.alloc _) _ _ rfl (WideMaps.keyOf_string_mk Tryz.underlying9 hs) ?_; intro x hat hwx; rw [HH.out]; rw [HA.out] at hat; obtain rfl : u = x := (by injection hat with hat; injection hat)) | go_in)
    go_ret
    exact ⟨rfl, (Below.refl _ _).alloc (Nat.le_refl _) _⟩
def wide1 (n : Nd) (v : Int) : Int := if n.kind = 2 then (n.cols.length : Int) else v
set_option maxRecDepth 100000 in
set_option maxHeartbeats 1600000 in
theorem wide1_any (n : Nd) (a : Option Addr) (c : Nat) (ha : arity n.kind = 1) (bm : Nat) (g cb : Nat) (v : Int) (w : World) (h0 : w.cell? ⟨g, 0, none⟩ = some (.int .i64 v)) (hl : n.cols.length ≤ maxLen) :
    Calls Tryz.prog 100 #[kindV n a c, .map (some bm), .slice (some ⟨g, 0, none⟩) 1 cb] w fun e w' => e = .returned (.int .i64 (wide1 n v)) ∧ Below w.heap.size w w' := by
  unfold maxLen at hl
  have hg : g < w.heap.size := World.block_lt_of_cell? w ⟨g, 0, none⟩ h0
  rcases kinds1 ha with hk | hk | hk | hk | hk
  · rw [show kindV n a c = .iface 153 (.agg #[.int .i64 n.col, .int .i64 n.op, .int .i64 n.num, .bool n.slot]) by unfold kindV; simp [hk]]
    have A0 := Tryz.as_filterNode_scanNode
    have A1 := Tryz.as_filterNode_keepNode
    have A2 := Tryz.as_filterNode_joinNode
    have E := Lib.hid (show wide1 n v = v from if_neg (by omega))
    clear hk ha
    go_enter Tryz.func100, Tryz.ntmps100
    go_wp2_with fail
    go_ret
    rw [E.out]
    exact ⟨rfl, Below.refl _ _⟩
  · rw [show kindV n a c = .iface 156 (.agg #[.slice a n.cols.length c]) by unfold kindV; simp [hk]]
    have A0 := Tryz.as_keepNode_scanNode
    have A1 := Tryz.as_keepNode_keepNode
    have E := Lib.hid (show wide1 n v = (n.cols.length : Int) from if_pos hk)
    clear hk ha
    go_enter Tryz.func100, Tryz.ntmps100
    go_wp2_with fail
    go_ret
    rw [E.out]
    exact ⟨rfl, (Below.refl _ _).alloc (Nat.le_refl _) _⟩
  · rw [show kindV n a c = .iface 162 (.agg #[.int .i64 n.col]) by unfold kindV; simp [hk]]
    have A0 := Tryz.as_sortNode_scanNode
    have A1 := Tryz.as_sortNode_keepNode
    have A2 := Tryz.as_sortNode_joinNode
    have E := Lib.hid (show wide1 n v = v from if_neg (by omega))
    clear hk ha
    go_enter Tryz.func100, Tryz.ntmps100
    go_wp2_with fail
    go_ret
    rw [E.out]
    exact ⟨rfl, Below.refl _ _⟩
  · rw [show kindV n a c = .iface 178 (.agg #[.int .i64 n.num, .bool n.slot]) by unfold kindV; simp [hk]]
    have A0 := Tryz.as_limitNode_scanNode
    have A1 := Tryz.as_limitNode_keepNode
    have A2 := Tryz.as_limitNode_joinNode
    have E := Lib.hid (show wide1 n v = v from if_neg (by omega))
    clear hk ha
    go_enter Tryz.func100, Tryz.ntmps100
    go_wp2_with fail
    go_ret
    rw [E.out]
    exact ⟨rfl, Below.refl _ _⟩
  · rw [show kindV n a c = .iface 180 (.agg #[]) by unfold kindV; simp [hk]]
    have A0 := Tryz.as_onceNode_scanNode
    have A1 := Tryz.as_onceNode_keepNode
    have A2 := Tryz.as_onceNode_joinNode
    have E := Lib.hid (show wide1 n v = v from if_neg (by omega))
    clear hk ha
    go_enter Tryz.func100, Tryz.ntmps100
    go_wp2_with fail
    go_ret
    rw [E.out]
    exact ⟨rfl, Below.refl _ _⟩
def wide2 (n : Nd) (v u : Int) : Int := if n.kind = 3 then (if 64 < v + u then -1 else v + u) else v
set_option maxRecDepth 100000 in
set_option maxHeartbeats 1600000 in
theorem wide2_any (n : Nd) (a : Option Addr) (c : Nat) (ha : arity n.kind = 2) (bm : Nat) (g cb : Nat) (v u : Int) (w : World) (h0 : w.cell? ⟨g, 0, none⟩ = some (.int .i64 v)) (h1 : w.cell? ⟨g, 1, none⟩ = some (.int .i64 u)) (hv : 0 ≤ v) (hv' : v ≤ 64) (hu : 0 ≤ u) (hu' : u ≤ 64) :
    Calls Tryz.prog 100 #[kindV n a c, .map (some bm), .slice (some ⟨g, 0, none⟩) 2 cb] w fun e w' => e = .returned (.int .i64 (wide2 n v u)) ∧ Below w.heap.size w w' := by
  have hg : g < w.heap.size := World.block_lt_of_cell? w ⟨g, 0, none⟩ h0
  have A := Lib.hid (fun o => (Below.refl w.heap.size w).alloc (Nat.le_refl _) o)
  rcases kinds2 ha with hk | hk
  · rw [show kindV n a c = .iface 158 (.agg #[.int .i64 n.col, .int .i64 n.num]) by unfold kindV; simp [hk]]
    have A0 := Tryz.as_joinNode_scanNode
    have A1 := Tryz.as_joinNode_keepNode
    have A2 := Tryz.as_joinNode_joinNode
    have E := Lib.hid (show wide2 n v u = if 64 < v + u then -1 else v + u from if_pos hk)
    clear hk ha
    go_enter Tryz.func100, Tryz.ntmps100
    go_wp2_with fail
    refine (sumCols_any g cb v u _ (((A.out _).cell (p := ⟨g, 0, none⟩) hg).trans h0) (((A.out _).cell (p := ⟨g, 1, none⟩) hg).trans h1) hv hv' hu hu').mono ?_
    rintro e w' ⟨rfl, rfl⟩
    rw [← E.out]
    go_wp2_with fail
    go_ret
    exact ⟨rfl, A.out _⟩
  · rw [show kindV n a c = .iface 160 (.agg #[]) by unfold kindV; simp [hk]]
    have A0 := Tryz.as_bothNode_scanNode
    have A1 := Tryz.as_bothNode_keepNode
    have A2 := Tryz.as_bothNode_joinNode
    have E := Lib.hid (show wide2 n v u = v from if_neg (by omega))
    clear hk ha
    go_enter Tryz.func100, Tryz.ntmps100
    go_wp2_with fail
    go_ret
    rw [E.out]
    exact ⟨rfl, Below.refl _ _⟩
theorem hasOne_any (v : Int) (b c : Nat) (z : Int) (w : World) (h : w.cell? ⟨b, 0, none⟩ = some (.int .i64 z)) :
    Calls Tryz.prog 129 #[.int .i64 v, .slice (some ⟨b, 0, none⟩) 1 c] w fun e w' => e = .returned (.bool (decide (z < v))) ∧ w = w' := by
  refine (hasCols_any v _ c [z] w (rd_oneW h) (by simp [maxLen])).mono ?_
  rintro e w' ⟨rfl, rfl⟩
  exact ⟨ret_bool (by simp), rfl⟩
theorem cell_sz (w : World) (n : Nat) (v : Value) (t : TypeId) (hn : w.heap.size = n) : (w.alloc (Obj.cells #[v] t)).cell? ⟨n, 0, none⟩ = some v := by subst hn; exact cell_one w v t
theorem cell_sz_drew (w : World) (n : Nat) (v : Value) (t : TypeId) (hn : w.heap.size = n) : ((w.alloc (Obj.cells #[v] t)).drew).cell? ⟨n, 0, none⟩ = some v := cell_sz w n v t hn
theorem cell_2a (w : World) (o : Obj) (v : Value) (t : TypeId) : ((w.alloc o).alloc (Obj.cells #[v] t)).cell? ⟨w.heap.size + 1, 0, none⟩ = some v := cell_sz _ _ v t (by simp)
theorem cell_2b (w : World) (o : Obj) (v : Value) (t : TypeId) : ((w.alloc o).drew.alloc (Obj.cells #[v] t)).cell? ⟨w.heap.size + 1, 0, none⟩ = some v := cell_sz _ _ v t (by simp)
theorem cell_2c (w : World) (o : Obj) (v : Value) (t : TypeId) : (((w.alloc o).alloc (Obj.cells #[v] t)).drew).cell? ⟨w.heap.size + 1, 0, none⟩ = some v := cell_sz_drew _ _ v t (by simp)
theorem cell_2d (w : World) (o : Obj) (v : Value) (t : TypeId) : (((w.alloc o).drew.alloc (Obj.cells #[v] t)).drew).cell? ⟨w.heap.size + 1, 0, none⟩ = some v := cell_sz_drew _ _ v t (by simp)
theorem cell_one_drew (w : World) (v : Value) (t : TypeId) : ((w.alloc (Obj.cells #[v] t)).drew).cell? ⟨w.heap.size, 0, none⟩ = some v := cell_one w v t
set_option maxRecDepth 100000 in
set_option maxHeartbeats 4000000 in
theorem fits2_any (n : Nd) (a : Option Addr) (c : Nat) (ha : arity n.kind = 2) (g cb : Nat) (v u : Int) (w : World) (h0 : w.cell? ⟨g, 0, none⟩ = some (.int .i64 v)) (h1 : w.cell? ⟨g, 1, none⟩ = some (.int .i64 u)) :
    Calls Tryz.prog 99 #[kindV n a c, .slice (some ⟨g, 0, none⟩) 2 cb] w fun e w' => e = .returned (.bool (fitN2 n v u)) ∧ Below w.heap.size w w' := by
  have hg : g < w.heap.size := World.block_lt_of_cell? w ⟨g, 0, none⟩ h0
  rcases kinds2 ha with hk | hk
  · rw [show kindV n a c = .iface 158 (.agg #[.int .i64 n.col, .int .i64 n.num]) by unfold kindV; simp [hk]]
    have A0 := Tryz.as_joinNode_filterNode
    have A1 := Tryz.as_joinNode_keepNode
    have A2 := Tryz.as_joinNode_joinNode
    obtain ⟨wq, hwq⟩ : ∃ wq, wq = w.alloc (.cells #[.int .i64 n.col, .int .i64 n.num] 158) := ⟨_, rfl⟩
    have BQ := Lib.hid (show Below w.heap.size w wq by rw [hwq]; exact (Below.refl _ _).alloc (Nat.le_refl _) _)
    have HZ := Lib.hid (show wq.heap.size = w.heap.size + 1 by rw [hwq]; simp)
    have hzq : w.heap.size < wq.heap.size := by rw [HZ.out]; omega
    have hgq : g < wq.heap.size := by omega
    have q0 := (BQ.out.cell (p := ⟨g, 0, none⟩) hg).trans h0
    have q1 := (BQ.out.cell (p := ⟨g, 1, none⟩) hg).trans h1
    have k0 : wq.cell? ⟨w.heap.size, 0, none⟩ = some (.int .i64 n.col) := by rw [hwq, World.cell?_alloc_new]; rfl
    have k1 : wq.cell? ⟨w.heap.size, 1, none⟩ = some (.int .i64 n.num) := by rw [hwq, World.cell?_alloc_new]; rfl
    cases hc : decide (n.col < v) with
    | true =>
      have HC := Lib.hid hc
      have E := Lib.hid (show fitN2 n v u = decide (n.num < u) by unfold fitN2; rw [if_pos hk, hc]; rfl)
      clear hc hk ha
      go_enter Tryz.func99, Tryz.ntmps99
      go_wp2_with fail
      rw [← hwq]
      clear hwq h0 h1
      first | go_region_held3 (fun W => W.cell? ⟨g, 0, none⟩ = some (.int .i64 v) ∧ W.cell? ⟨g, 1, none⟩ = some (.int .i64 u) ∧ W.cell? ⟨w.heap.size, 0, none⟩ = some (.int .i64 n.col) ∧ W.cell? ⟨w.heap.size, 1, none⟩ = some (.int .i64 n.num)) (go_keep) (first | (go_at_call 129; refine Calls.mono (hasOne_any _ _ _ ?_ _ ?_) ?_; rotate_left; (first | exact cell_one _ _ _ | exact cell_one_drew _ _ _ | exact cell_2a _ _ _ _ | exact cell_2b _ _ _ _ | exact cell_2c _ _ _ _ | exact cell_2d _ _ _ _);  rintro e w' ⟨rfl, rfl⟩; try rw [HC.out])) | fail
      all_goals
        go_wp2_with fail
        go_ret
        exact ⟨ret_bool (by first | exact E.out.symm | (rw [E.out]; simp)), (by repeat (first | exact BQ.out | refine Below.alloc ?_ (by have := HZ.out; simp <;> omega) _ | refine Below.drew ?_ | refine below_drewN ?_ _))⟩
    | false =>
      have HC := Lib.hid hc
      have E := Lib.hid (show fitN2 n v u = false by unfold fitN2; rw [if_pos hk, hc]; rfl)
      clear hc hk ha
      go_enter Tryz.func99, Tryz.ntmps99
      go_wp2_with fail
      rw [← hwq]
      clear hwq h0 h1
      first | go_region_with (go_at_call 129; refine (hasOne_any v _ _ n.col _ (by first | exact cell_one _ _ _ | exact cell_one_drew _ _ _ | simp [*])).mono ?_; rintro e w' ⟨rfl, rfl⟩; rw [HC.out]) | fail
      all_goals
        go_wp2_with fail
        go_ret
        exact ⟨ret_bool E.out.symm, (by repeat (first | exact BQ.out | refine Below.alloc ?_ (by have := HZ.out; simp <;> omega) _ | refine Below.drew ?_ | refine below_drewN ?_ _))⟩
  · rw [show kindV n a c = .iface 160 (.agg #[]) by unfold kindV; simp [hk]]
    have A0 := Tryz.as_bothNode_filterNode
    have A1 := Tryz.as_bothNode_keepNode
    have A2 := Tryz.as_bothNode_joinNode
    have A3 := Tryz.as_bothNode_bothNode
    have E := Lib.hid (show fitN2 n v u = (v == u) by unfold fitN2; rw [if_neg (by omega)]; rfl)
    clear hk ha
    go_enter Tryz.func99, Tryz.ntmps99
    go_wp2_with fail
    go_quiet (fail)
    all_goals
      go_wp2_with fail
      go_ret
      exact ⟨ret_bool (by first | exact E.out.symm | (rw [E.out]; simp)), (by repeat (first | exact Below.refl _ _ | refine Below.alloc ?_ (by simp <;> omega) _ | refine Below.drew ?_ | refine below_drewN ?_ _))⟩
end Go.Proofs.YtanfllednlpbaaaGreat
