/-
  Contract of impl.NodeOk at some of the kinds. For every node of them. Contract of impl.NodeOk: it answers whether the node is one. For every node. Contract of impl.grow: it hangs the tree that begins at a place, or answers nil. For every slice of nodes and every place. Contracts of the tree's depth and find, and of impl.treeOf, impl.PlanOk, impl.EndOf, impl.DepthOf. For every slice of nodes. What is asked of places, depths and kinds of plans, as plain functions. No program, no walk. Contracts of EndOf, DepthOf and CountKind, of the model and of the program. For every slice of nodes. Contracts of ChildrenOf, of the model and of the program. For every slice of nodes and every number. Contract of toNodeS. For every slice of nodes.
-/
import Derived.Test.YtanfllednlpbaaaGreatM9x
import Derived.Test.YtanfllednlpbaaaGreatM10x
import Derived.Test.YtanfllednlpbaaaGreatM6x
import Derived.Test.YtanfllednlpbaaaGreatKids0
import Derived.Test.YtanfllednlpbaaaGreatM4x
namespace Go.Proofs.YtanfllednlpbaaaGreat
open Go.RowKit
set_option linter.unusedSimpArgs false
set_option linter.unusedVariables false
set_option maxRecDepth 100000 in
set_option maxHeartbeats 1600000 in
theorem implNodeOk6t (name : ByteArray) (col op num : Int) (slot : Bool) (cols : List Int) (a : Option Addr) (c : Nat) (w : World) (hfit : (fitL num slot) = true) (h : Rd w .i64 a cols) (hl : cols.length ≤ maxLen) (hm : cols.length ≤ 17592186044416) (hs : name.size ≤ maxLen) :
    Calls Tryz.prog 126 #[.agg #[.int .i64 6, .string name, .int .i64 col, .int .i64 op, .int .i64 num, .bool slot, .slice a cols.length c]] w fun e w' => e = .returned (.bool (eqN ⟨6, ⟨#[]⟩, 0, 0, num, slot, []⟩ ⟨6, name, col, op, num, slot, cols⟩)) ∧ Below w.heap.size w w' := by
  have H := Lib.hid h; clear h
  have hk := Lib.hid (kindOf_any ⟨6, name, col, op, num, slot, cols⟩ a c)
  have HF := Lib.hid hfit; clear hfit
  have m1 := Tryz.fits_limitNode
  have m2 := Tryz.told_limitNode
  rw [Tryz.underlying121] at m1 m2
  simp [mName] at m1 m2
  go_enter Tryz.func126, Tryz.ntmps126
  go_wp2_with fail
  refine (hk.out _).mono ?_
  rintro e w1 ⟨rfl, b1⟩
  simp only [kindV, Int.reduceEq, if_false, if_true]
  have hq1 := fun o => b1.cell (p := ⟨w.heap.size, o, none⟩) (by simp)
  have B1 := Lib.hid (((Below.refl _ w).alloc (Nat.le_refl _) _).trans (b1.mono (by simp)))
  have C1 := Lib.hid b1
  have R1 := Lib.hid (show Rd w1.drew .i64 a cols from H.out.below B1.out.drew)
  clear b1
  go_wp2_with fail
  first | go_region_with (first
    | (go_at_call 222; refine (fitsLimit_any _ _ _).mono ?_; rintro e w2 ⟨rfl, b2⟩; rw [HF.out]; have C2 := Lib.hid (below_step C1.out.drew (Nat.le_refl _) b2); have hq2 := fun o => C2.out.cell (p := ⟨w.heap.size, o, none⟩) (by simp); have T2 := Lib.hid (below_step B1.out.drew (Nat.le_refl _) b2); have R2 := Lib.hid (H.out.below T2.out); clear b2)
    | (go_at_call 223; refine (toldLimit_any _ _ _).mono ?_; rintro e w3 ⟨a3, c3, rfl, r3, b3⟩; have C3 := Lib.hid (below_step C2.out (Nat.le_refl _) b3); have hq3 := fun o => C3.out.cell (p := ⟨w.heap.size, o, none⟩) (by simp); have T3 := Lib.hid (below_step T2.out (Nat.le_refl _) b3); have R3 := Lib.hid (H.out.below T3.out); have Q3 := Lib.hid r3; clear b3 r3)
    | (go_at_call 153; refine (sameNode_any ⟨6, ⟨#[]⟩, 0, 0, num, slot, []⟩ ⟨6, name, col, op, num, slot, cols⟩ _ _ _ _ _ Q3.out R3.out (by first | exact hl | exact Nat.zero_le _) hl).mono ?_; rintro e w4 ⟨rfl, b4⟩; have T4 := Lib.hid (below_step T3.out (Nat.le_refl _) b4); clear b4)) | fail
  all_goals
    go_wp2
    go_ret
    exact ⟨rfl, T4.out⟩
set_option maxRecDepth 100000 in
set_option maxHeartbeats 1600000 in
theorem implNodeOk6f (name : ByteArray) (col op num : Int) (slot : Bool) (cols : List Int) (a : Option Addr) (c : Nat) (w : World) (hfit : (fitL num slot) = false) (h : Rd w .i64 a cols) (hl : cols.length ≤ maxLen) (hm : cols.length ≤ 17592186044416) (hs : name.size ≤ maxLen) :
    Calls Tryz.prog 126 #[.agg #[.int .i64 6, .string name, .int .i64 col, .int .i64 op, .int .i64 num, .bool slot, .slice a cols.length c]] w fun e w' => e = .returned (.bool (false)) ∧ Below w.heap.size w w' := by
  have H := Lib.hid h; clear h
  have hk := Lib.hid (kindOf_any ⟨6, name, col, op, num, slot, cols⟩ a c)
  have HF := Lib.hid hfit; clear hfit
  have m1 := Tryz.fits_limitNode
  have m2 := Tryz.told_limitNode
  rw [Tryz.underlying121] at m1 m2
  simp [mName] at m1 m2
  go_enter Tryz.func126, Tryz.ntmps126
  go_wp2_with fail
  refine (hk.out _).mono ?_
  rintro e w1 ⟨rfl, b1⟩
  simp only [kindV, Int.reduceEq, if_false, if_true]
  have hq1 := fun o => b1.cell (p := ⟨w.heap.size, o, none⟩) (by simp)
  have B1 := Lib.hid (((Below.refl _ w).alloc (Nat.le_refl _) _).trans (b1.mono (by simp)))
  have C1 := Lib.hid b1
  have R1 := Lib.hid (show Rd w1.drew .i64 a cols from H.out.below B1.out.drew)
  clear b1
  go_wp2_with fail
  first | go_region_with (first
    | (go_at_call 222; refine (fitsLimit_any _ _ _).mono ?_; rintro e w2 ⟨rfl, b2⟩; rw [HF.out]; have C2 := Lib.hid (below_step C1.out.drew (Nat.le_refl _) b2); have hq2 := fun o => C2.out.cell (p := ⟨w.heap.size, o, none⟩) (by simp); have T2 := Lib.hid (below_step B1.out.drew (Nat.le_refl _) b2); have R2 := Lib.hid (H.out.below T2.out); clear b2)
    | (go_at_call 223; refine (toldLimit_any _ _ _).mono ?_; rintro e w3 ⟨a3, c3, rfl, r3, b3⟩; have C3 := Lib.hid (below_step C2.out (Nat.le_refl _) b3); have hq3 := fun o => C3.out.cell (p := ⟨w.heap.size, o, none⟩) (by simp); have T3 := Lib.hid (below_step T2.out (Nat.le_refl _) b3); have R3 := Lib.hid (H.out.below T3.out); have Q3 := Lib.hid r3; clear b3 r3)
    | (go_at_call 153; refine (sameNode_any ⟨6, ⟨#[]⟩, 0, 0, num, slot, []⟩ ⟨6, name, col, op, num, slot, cols⟩ _ _ _ _ _ Q3.out R3.out (by first | exact hl | exact Nat.zero_le _) hl).mono ?_; rintro e w4 ⟨rfl, b4⟩; have T4 := Lib.hid (below_step T3.out (Nat.le_refl _) b4); clear b4)) | fail
  all_goals
    go_wp2
    go_ret
    exact ⟨rfl, T2.out⟩
set_option maxRecDepth 100000 in
set_option maxHeartbeats 1600000 in
theorem implNodeOk7t (name : ByteArray) (col op num : Int) (slot : Bool) (cols : List Int) (a : Option Addr) (c : Nat) (w : World) (h : Rd w .i64 a cols) (hl : cols.length ≤ maxLen) (hm : cols.length ≤ 17592186044416) (hs : name.size ≤ maxLen) :
    Calls Tryz.prog 126 #[.agg #[.int .i64 7, .string name, .int .i64 col, .int .i64 op, .int .i64 num, .bool slot, .slice a cols.length c]] w fun e w' => e = .returned (.bool (eqN ⟨7, ⟨#[]⟩, 0, 0, 0, false, []⟩ ⟨7, name, col, op, num, slot, cols⟩)) ∧ Below w.heap.size w w' := by
  have H := Lib.hid h; clear h
  have hk := Lib.hid (kindOf_any ⟨7, name, col, op, num, slot, cols⟩ a c)
  have m1 := Tryz.fits_onceNode
  have m2 := Tryz.told_onceNode
  rw [Tryz.underlying121] at m1 m2
  simp [mName] at m1 m2
  go_enter Tryz.func126, Tryz.ntmps126
  go_wp2_with fail
  refine (hk.out _).mono ?_
  rintro e w1 ⟨rfl, b1⟩
  simp only [kindV, Int.reduceEq, if_false, if_true]
  have hq1 := fun o => b1.cell (p := ⟨w.heap.size, o, none⟩) (by simp)
  have B1 := Lib.hid (((Below.refl _ w).alloc (Nat.le_refl _) _).trans (b1.mono (by simp)))
  have C1 := Lib.hid b1
  have R1 := Lib.hid (show Rd w1.drew .i64 a cols from H.out.below B1.out.drew)
  clear b1
  go_wp2_with fail
  first | go_region_with (first
    | (go_at_call 224; refine (fitsOnce_any _).mono ?_; rintro e w2 ⟨rfl, b2⟩; have C2 := Lib.hid (below_step C1.out.drew (Nat.le_refl _) b2); have hq2 := fun o => C2.out.cell (p := ⟨w.heap.size, o, none⟩) (by simp); have T2 := Lib.hid (below_step B1.out.drew (Nat.le_refl _) b2); have R2 := Lib.hid (H.out.below T2.out); clear b2)
    | (go_at_call 225; refine (toldOnce_any _).mono ?_; rintro e w3 ⟨a3, c3, rfl, r3, b3⟩; have C3 := Lib.hid (below_step C2.out (Nat.le_refl _) b3); have hq3 := fun o => C3.out.cell (p := ⟨w.heap.size, o, none⟩) (by simp); have T3 := Lib.hid (below_step T2.out (Nat.le_refl _) b3); have R3 := Lib.hid (H.out.below T3.out); have Q3 := Lib.hid r3; clear b3 r3)
    | (go_at_call 153; refine (sameNode_any ⟨7, ⟨#[]⟩, 0, 0, 0, false, []⟩ ⟨7, name, col, op, num, slot, cols⟩ _ _ _ _ _ Q3.out R3.out (by first | exact hl | exact Nat.zero_le _) hl).mono ?_; rintro e w4 ⟨rfl, b4⟩; have T4 := Lib.hid (below_step T3.out (Nat.le_refl _) b4); clear b4)) | fail
  all_goals
    go_wp2
    go_ret
    exact ⟨rfl, T4.out⟩
theorem nodeB_out {k : Int} (hk : k < 0 ∨ 7 < k) (name : ByteArray) (col op num : Int) (slot : Bool) (cols : List Int) : nodeB ⟨k, name, col, op, num, slot, cols⟩ = false := by
  simp only [nodeB]
  rw [if_neg (by omega), if_neg (by omega), if_neg (by omega), if_neg (by omega), if_neg (by omega), if_neg (by omega), if_neg (by omega), if_neg (by omega)]
theorem kindV_out {k : Int} (hk : k < 0 ∨ 7 < k) (name : ByteArray) (col op num : Int) (slot : Bool) (cols : List Int) (a : Option Addr) (c : Nat) : kindV ⟨k, name, col, op, num, slot, cols⟩ a c = .nilIface := by
  simp only [kindV]
  rw [if_neg (by omega), if_neg (by omega), if_neg (by omega), if_neg (by omega), if_neg (by omega), if_neg (by omega), if_neg (by omega), if_neg (by omega)]
theorem implNodeOkOut (k : Int) (hk : k < 0 ∨ 7 < k) (name : ByteArray) (col op num : Int) (slot : Bool) (cols : List Int) (a : Option Addr) (c : Nat) (w : World) :
    Calls Tryz.prog 126 #[.agg #[.int .i64 k, .string name, .int .i64 col, .int .i64 op, .int .i64 num, .bool slot, .slice a cols.length c]] w fun e w' => e = .returned (.bool false) ∧ Below w.heap.size w w' := by
  have HK := Lib.hid (kindOf_any ⟨k, name, col, op, num, slot, cols⟩ a c)
  have KV := Lib.hid (kindV_out hk name col op num slot cols a c)
  clear hk
  go_enter Tryz.func126, Tryz.ntmps126
  go_wp2_with fail
  refine (HK.out _).mono ?_
  rintro e w1 ⟨rfl, b1⟩
  rw [KV.out]
  have B1 := Lib.hid (((Below.refl _ w).alloc (Nat.le_refl _) _).trans (b1.mono (by simp)))
  clear b1
  go_wp2_with fail
  first | go_region_with (fail) | fail
  all_goals
    go_wp2
    go_ret
    exact ⟨rfl, B1.out.drew⟩
theorem implNodeOk_any (n : Nd) (a : Option Addr) (c : Nat) (w : World) (h : Rd w .i64 a n.cols) (hm : n.cols.length ≤ 17592186044416) (hs : n.name.size ≤ maxLen) :
    Calls Tryz.prog 126 #[.agg #[.int .i64 n.kind, .string n.name, .int .i64 n.col, .int .i64 n.op, .int .i64 n.num, .bool n.slot, .slice a n.cols.length c]] w fun e w' => e = .returned (.bool (nodeB n)) ∧ Below w.heap.size w w' := by
  have hl : n.cols.length ≤ maxLen := by unfold maxLen; omega
  obtain ⟨k, name, col, op, num, slot, cols⟩ := n
  rcases kind_ways k with rfl | rfl | rfl | rfl | rfl | rfl | rfl | rfl | hk
  · rw [nodeB_0]; cases hfit : (wordB name.data.toList) with
    | true => rw [Bool.true_and]; exact implNodeOk0t name col op num slot cols a c w hfit h hl hm hs
    | false => rw [Bool.false_and]; exact implNodeOk0f name col op num slot cols a c w hfit h hl hm hs
  · rw [nodeB_1]; cases hfit : (fitF col op num slot) with
    | true => rw [Bool.true_and]; exact implNodeOk1t name col op num slot cols a c w hfit h hl hm hs
    | false => rw [Bool.false_and]; exact implNodeOk1f name col op num slot cols a c w hfit h hl hm hs
  · rw [nodeB_2]; cases hfit : (fitK cols) with
    | true => rw [Bool.true_and]; exact implNodeOk2t name col op num slot cols a c w hfit h hl hm hs
    | false => rw [Bool.false_and]; exact implNodeOk2f name col op num slot cols a c w hfit h hl hm hs
  · rw [nodeB_3]; cases hfit : (colB col && colB num) with
    | true => rw [Bool.true_and]; exact implNodeOk3t name col op num slot cols a c w hfit h hl hm hs
    | false => rw [Bool.false_and]; exact implNodeOk3f name col op num slot cols a c w hfit h hl hm hs
  · rw [nodeB_4, Bool.true_and]; exact implNodeOk4t name col op num slot cols a c w h hl hm hs
  · rw [nodeB_5]; cases hfit : (colB col) with
    | true => rw [Bool.true_and]; exact implNodeOk5t name col op num slot cols a c w hfit h hl hm hs
    | false => rw [Bool.false_and]; exact implNodeOk5f name col op num slot cols a c w hfit h hl hm hs
  · rw [nodeB_6]; cases hfit : (fitL num slot) with
    | true => rw [Bool.true_and]; exact implNodeOk6t name col op num slot cols a c w hfit h hl hm hs
    | false => rw [Bool.false_and]; exact implNodeOk6f name col op num slot cols a c w hfit h hl hm hs
  · rw [nodeB_7, Bool.true_and]; exact implNodeOk7t name col op num slot cols a c w h hl hm hs
  · rw [nodeB_out hk]; exact implNodeOkOut k hk name col op num slot cols a c w
theorem Tryz.infoPtr : (Tryz.prog.info? 76).map (fun i => (i.zero, i.size, i.bytes)) = some (some (.pointer none), 1, 8) := by kernel_rfl
theorem growT_out {p : List Nd} {f k : Nat} (h : p.length ≤ k) : growT p f k = none := by
  cases f with
  | zero => rfl
  | succ f => simp only [growT]; rw [List.getElem?_eq_none h]
theorem growT_no {p : List Nd} {f k : Nat} {n : Nd} (hn : p[k]? = some n) (h : nodeB n = false) : growT p (f + 1) k = none := by
  simp only [growT, hn, h]; rfl
theorem growT_0 {p : List Nd} {f k : Nat} {n : Nd} (hn : p[k]? = some n) (h : nodeB n = true) (h1 : arity n.kind ≠ 1) (h2 : arity n.kind ≠ 2) : growT p (f + 1) k = some (.t0 n k (k + 1)) := by
  simp only [growT, hn, h]; rw [if_neg (by simp), if_neg h1, if_neg h2]
theorem growT_1n {p : List Nd} {f k : Nat} {n : Nd} (hn : p[k]? = some n) (h1 : arity n.kind = 1) (hc : growT p f (k + 1) = none) : growT p (f + 1) k = none := by
  simp [growT, hn, h1, hc]
theorem growT_1s {p : List Nd} {f k : Nat} {n : Nd} {c : Tr} (hn : p[k]? = some n) (h : nodeB n = true) (h1 : arity n.kind = 1) (hc : growT p f (k + 1) = some c) : growT p (f + 1) k = some (.t1 n k c.en c) := by
  simp only [growT, hn, h]; rw [if_neg (by simp), if_pos h1, hc]
theorem growT_2n {p : List Nd} {f k : Nat} {n : Nd} (hn : p[k]? = some n) (h1 : arity n.kind = 2) (hc : growT p f (k + 1) = none) : growT p (f + 1) k = none := by
  simp [growT, hn, h1, hc]
theorem growT_2sn {p : List Nd} {f k : Nat} {n : Nd} {c : Tr} (hn : p[k]? = some n) (h1 : arity n.kind = 2) (hc : growT p f (k + 1) = some c) (hd : growT p f c.en = none) : growT p (f + 1) k = none := by
  simp [growT, hn, h1, hc, hd]
theorem growT_2ss {p : List Nd} {f k : Nat} {n : Nd} {c d : Tr} (hn : p[k]? = some n) (h : nodeB n = true) (h1 : arity n.kind = 2) (hc : growT p f (k + 1) = some c) (hd : growT p f c.en = some d) : growT p (f + 1) k = some (.t2 n k d.en c d) := by
  simp only [growT, hn, h]; rw [if_neg (by simp), if_neg (by omega), if_pos h1, hc]; simp only; rw [hd]
theorem new_row {w w6 : World} {base : Nat} {e : TypeId} {v : Value} {o : Obj} {ao' : Option Addr} {c : Nat} (h : OwnV w6 base e ao' c ([] ++ [v])) (hl : ao' = none ∨ ao' = some ⟨(w.alloc o).heap.size, 0, none⟩) : ao' = some ⟨w.heap.size + 1, 0, none⟩ := by
  rcases hl with rfl | rfl
  · rcases h.form with ⟨_, _, hh⟩ | ⟨g, hh, _⟩
    · simp at hh
    · cases hh
  · simp
theorem row_of {w : World} {g : Nat} {o : Obj} {ao' : Option Addr} (hl : ao' = some ⟨g, 0, none⟩ ∨ ao' = some ⟨(w.alloc o).heap.size, 0, none⟩) : ∃ g', ao' = some ⟨g', 0, none⟩ ∧ (g' = g ∨ g' = w.heap.size + 1) := by
  rcases hl with rfl | rfl
  · exact ⟨g, rfl, .inl rfl⟩
  · exact ⟨_, rfl, .inr (by simp)⟩
def put2 (w : World) (tb : Nat) (v3 v2 : Value) : World := (w.setCell ⟨tb, 3, none⟩ v3).setCell ⟨tb, 2, none⟩ v2
theorem put2_far {w : World} {tb : Nat} {v3 v2 : Value} {p : Addr} (h : p.block ≠ tb) : (put2 w tb v3 v2).cell? p = w.cell? p := by
  unfold put2
  rw [World.cell?_setCell_other _ _ _ _ (by rintro rfl; exact h rfl), World.cell?_setCell_other _ _ _ _ (by rintro rfl; exact h rfl)]
theorem put2_block {w : World} {tb : Nat} {v3 v2 : Value} {i : Nat} (h : i ≠ tb) : (put2 w tb v3 v2).heap[i]? = w.heap[i]? := by
  unfold put2
  rw [Below.heap_setCell _ _ _ i h, Below.heap_setCell _ _ _ i h]
theorem put2_size {w : World} {tb : Nat} {v3 v2 : Value} : (put2 w tb v3 v2).heap.size = w.heap.size := by unfold put2; simp [World.setCell]
theorem put2_below {w a0 : World} {B tb : Nat} {v3 v2 : Value} (h : Below B a0 w) (hB : B ≤ tb) : Below B a0 (put2 w tb v3 v2) := (h.setCell hB _).setCell hB _
def Small (p : List Nd) : Prop := p.length ≤ 1048576 ∧ ∀ n ∈ p, n.cols.length ≤ 1048576
set_option maxHeartbeats 1600000 in
theorem depth_any : ∀ (T : Tr) (w : World) (lo hi b : Nat), TrAt w lo hi T b → T.depth ≤ 1048576 →
    Calls Tryz.prog 98 #[.pointer (some ⟨b, 0, none⟩)] w fun e w' => e = .returned (.int .i64 T.depth) ∧ w = w' := by
  intro T
  induction T with
  | t0 n pl en =>
    intro w lo hi b h hd
    obtain ⟨_, _, a, c, c0, c1, c2, c3⟩ := h
    go_enter Tryz.func98, Tryz.ntmps98
    go_wp2_with fail
    refine wp_loop_rounds 1 ?_; rw [rounds_succ]
    go_wp2_with fail
    go_ret
    exact ⟨rfl, rfl⟩
  | t1 n pl en c ih =>
    intro w lo hi b h hd
    have e1 := Lib.hid (show (Tr.t1 n pl en c).depth = c.depth + 1 from rfl)
    have hd' : c.depth ≤ 1048576 := by have := e1.out; omega
    obtain ⟨g, cap, bc, ⟨_, _, a, cc, c0, c1, c2, c3⟩, hg, g0, tc⟩ := h
    have IH := Lib.hid (ih w lo hi bc tc hd')
    clear ih tc hd
    go_enter Tryz.func98, Tryz.ntmps98
    go_wp2_with fail
    refine wp_loop_rounds 2 ?_; rw [rounds_succ]
    go_wp2_with (go_at_call 98; refine IH.out.mono ?_; rintro e w' ⟨rfl, rfl⟩)
    rw [rounds_succ]
    go_wp2_with fail
    go_ret
    exact ⟨ret_int (by have := e1.out; omega), rfl⟩
  | t2 n pl en c d ihc ihd =>
    intro w lo hi b h hd
    have e1 := Lib.hid (show (Tr.t2 n pl en c d).depth = max c.depth d.depth + 1 from rfl)
    have hd1 : c.depth ≤ 1048576 := by have := e1.out; omega
    have hd2 : d.depth ≤ 1048576 := by have := e1.out; omega
    obtain ⟨g, cap, bc, bd, ⟨_, _, a, cc, c0, c1, c2, c3⟩, hg, g0, g1, tc, td⟩ := h
    have IC := Lib.hid (ihc w lo hi bc tc hd1)
    have ID := Lib.hid (ihd w lo hi bd td hd2)
    clear ihc ihd tc td hd
    by_cases hm : (c.depth : Int) ≤ d.depth
    all_goals
      go_enter Tryz.func98, Tryz.ntmps98
      go_wp2_with fail
      refine wp_loop_rounds 3 ?_; rw [rounds_succ]
      go_wp2_with fail
      refine IC.out.mono ?_
      rintro e w' ⟨rfl, rfl⟩
      go_wp2_with fail
      rw [rounds_succ]
      go_wp2_with fail
      refine ID.out.mono ?_
      rintro e w' ⟨rfl, rfl⟩
      go_wp2_with fail
      rw [rounds_succ]
      go_wp2_with fail
      go_ret
      exact ⟨ret_int (by have := e1.out; omega), rfl⟩
def fnd (k : Int) (T : Tr) : Option Tr := if k < 0 then none else T.find k.toNat
theorem fnd_out {k : Int} {T : Tr} (h : k < T.pl ∨ (T.en : Int) ≤ k) : fnd k T = none := by
  unfold fnd
  by_cases hk : k < 0
  · rw [if_pos hk]
  · rw [if_neg hk]
    cases T <;> simp only [Tr.find, Tr.pl, Tr.en] at h ⊢ <;> rw [if_pos (by omega)]
theorem depth_le (p : List Nd) : ∀ (f k : Nat) (T : Tr), growT p f k = some T → T.depth ≤ f := by
  intro f
  induction f with
  | zero => intro k T h; cases h
  | succ f ih =>
    intro k T h
    cases hn : p[k]? with
    | none => simp [growT, hn] at h
    | some n =>
      cases hb : nodeB n with
      | false => rw [growT_no hn hb] at h; cases h
      | true =>
        by_cases h1 : arity n.kind = 1
        · cases hc : growT p f (k + 1) with
          | none => rw [growT_1n hn h1 hc] at h; cases h
          | some c => rw [growT_1s hn hb h1 hc] at h; cases h; have := ih _ _ hc; simp only [Tr.depth]; omega
        · by_cases h2 : arity n.kind = 2
          · cases hc : growT p f (k + 1) with
            | none => rw [growT_2n hn h2 hc] at h; cases h
            | some c =>
              cases hd : growT p f c.en with
              | none => rw [growT_2sn hn h2 hc hd] at h; cases h
              | some d => rw [growT_2ss hn hb h2 hc hd] at h; cases h; have := ih _ _ hc; have := ih _ _ hd; simp only [Tr.depth]; omega
          · rw [growT_0 hn hb h1 h2] at h; cases h; simp only [Tr.depth]; omega
theorem good_some {p : List Nd} {k : Int} (h : goodB p k = true) : ∃ T S, treeN p = some T ∧ fnd k T = some S ∧ S.pl = k.toNat ∧ S.en ≤ p.length ∧ k.toNat < S.en ∧ S.depth ≤ 10 ∧ endN p 10 k.toNat = some (S.en, S.depth) ∧ 0 ≤ k ∧ k < p.length ∧ growT p p.length k.toNat = some S := by
  simp only [goodB, Bool.and_eq_true, decide_eq_true_eq] at h
  obtain ⟨hb, h0, h1⟩ := h
  cases ht : treeN p with
  | none => simp [planB, ht] at hb
  | some T =>
    obtain ⟨_, hg, he, hd⟩ := treeN_some ht
    obtain ⟨S, hf, hgS, hdS, heS⟩ := find_grow p _ 0 k.toNat T hg (Nat.zero_le _) (by omega)
    have hs := growT_sound p _ _ _ hgS
    refine ⟨T, S, rfl, ?_, hs.1, hs.2.2.1, hs.2.1, by omega, ?_, h0, by omega, hgS⟩
    · unfold fnd; rw [if_neg (by omega)]; exact hf
    · rw [endN_grow p (treeN_all ht) p.length 10 k.toNat (by omega), hgS]
      simp only
      rw [if_pos (by omega)]
theorem good_none {p : List Nd} {k : Int} (h : goodB p k = false) : treeN p = none ∨ ∃ T, treeN p = some T ∧ fnd k T = none := by
  cases ht : treeN p with
  | none => exact .inl rfl
  | some T =>
    right
    refine ⟨T, rfl, fnd_out ?_⟩
    obtain ⟨_, hg, he, _⟩ := treeN_some ht
    have hs := growT_sound p _ _ _ hg
    have hb : planB p = true := by simp [planB, ht]
    simp only [goodB, hb, Bool.true_and, Bool.and_eq_false_iff, decide_eq_false_iff_not] at h
    have : T.pl = 0 := hs.1
    omega
def endOfN (p : List Nd) (k : Int) : Int :=
  match treeN p with
  | none => -1
  | some T =>
    match fnd k T with
    | none => -1
    | some S => S.en
def cnt (kind : Int) (l : List Nd) : Int := ((l.filter fun n => n.kind == kind).length : Nat)
def kidsN (p : List Nd) (k : Int) : List Int :=
  match treeN p with
  | none => []
  | some T =>
    match fnd k T with
    | none => []
    | some S => S.kids.map fun c => (c.pl : Int)
theorem kidsN_no {p : List Nd} {k : Int} (h : goodB p k = false) : kidsN p k = [] := by
  unfold kidsN
  rcases good_none h with ht | ⟨T, ht, hf⟩
  · rw [ht]
  · rw [ht]; simp only; rw [hf]
theorem grow_inv {p : List Nd} {f k : Nat} {S : Tr} (h : growT p f k = some S) : ∃ n, p[k]? = some n ∧ nodeB n = true ∧
    ((S = .t0 n k (k + 1) ∧ arity n.kind = 0) ∨ (∃ c, S = .t1 n k c.en c ∧ arity n.kind = 1 ∧ growT p f (k + 1) = some c) ∨ (∃ c d, S = .t2 n k d.en c d ∧ arity n.kind = 2 ∧ growT p f (k + 1) = some c ∧ growT p f c.en = some d)) := by
  cases f with
  | zero => cases h
  | succ f =>
    cases hn : p[k]? with
    | none => simp [growT, hn] at h
    | some n =>
      cases hb : nodeB n with
      | false => rw [growT_no hn hb] at h; cases h
      | true =>
        refine ⟨n, rfl, hb, ?_⟩
        rcases arity_of_nodeB hb with ha | ha | ha
        · rw [growT_0 hn hb (by omega) (by omega)] at h; cases h; exact .inl ⟨rfl, ha⟩
        · cases hc : growT p f (k + 1) with
          | none => rw [growT_1n hn ha hc] at h; cases h
          | some c => rw [growT_1s hn hb ha hc] at h; cases h; exact .inr (.inl ⟨c, rfl, ha, growT_more p _ _ _ hc⟩)
        · cases hc : growT p f (k + 1) with
          | none => rw [growT_2n hn ha hc] at h; cases h
          | some c =>
            cases hd : growT p f c.en with
            | none => rw [growT_2sn hn ha hc hd] at h; cases h
            | some d => rw [growT_2ss hn hb ha hc hd] at h; cases h; exact .inr (.inr ⟨c, d, rfl, ha, growT_more p _ _ _ hc, growT_more p _ _ _ hd⟩)
theorem endN_of_grow {p : List Nd} {T c : Tr} {k : Nat} (ht : treeN p = some T) (hg : growT p p.length k = some c) (hd : c.depth ≤ 10) : endN p 10 k = some (c.en, c.depth) := by
  rw [endN_grow p (treeN_all ht) p.length 10 k (by omega), hg]
  simp only
  rw [if_pos hd]
def KidsOk (p : List Nd) (k : Nat) (l : List Int) : Prop :=
  ∃ n, p[k]? = some n ∧ ((arity n.kind = 0 ∧ l = []) ∨ (arity n.kind = 1 ∧ l = [(k : Int) + 1] ∧ ∃ e d, endN p 10 (k + 1) = some (e, d)) ∨
    (arity n.kind = 2 ∧ ∃ e d e' d', endN p 10 (k + 1) = some (e, d) ∧ endN p 10 e = some (e', d') ∧ l = [(k : Int) + 1, (e : Int)]))
theorem kids_ok {p : List Nd} {k : Int} (h : goodB p k = true) : KidsOk p k.toNat (kidsN p k) := by
  obtain ⟨T, S, ht, hf, _, _, _, hd, _, h0, _, hg⟩ := good_some h
  have hk : kidsN p k = S.kids.map fun c => (c.pl : Int) := by unfold kidsN; rw [ht]; simp only; rw [hf]
  rw [hk]
  obtain ⟨n, hn, _, hS | ⟨c, rfl, ha, hc⟩ | ⟨c, d, rfl, ha, hc, hdd⟩⟩ := grow_inv hg
  · obtain ⟨rfl, ha⟩ := hS
    exact ⟨n, hn, .inl ⟨ha, rfl⟩⟩
  · have hpl := (growT_sound p _ _ _ hc).1
    refine ⟨n, hn, .inr (.inl ⟨ha, ?_, _, _, endN_of_grow ht hc (by simp only [Tr.depth] at hd; omega)⟩)⟩
    simp [Tr.kids, hpl]
  · have hpl := (growT_sound p _ _ _ hc).1
    have hpl' := (growT_sound p _ _ _ hdd).1
    simp only [Tr.depth] at hd
    refine ⟨n, hn, .inr (.inr ⟨ha, _, _, _, _, endN_of_grow ht hc (by omega), endN_of_grow ht hdd (by omega), ?_⟩)⟩
    simp [Tr.kids, hpl, hpl']
set_option maxRecDepth 100000 in
set_option maxHeartbeats 4000000 in
theorem specKids_any (ao : Option Addr) (c : Nat) (p : List Nd) (k : Int) (l : List Int) (w : World) (h : RdN w ao p) (hp : p.length ≤ 1048576) (h0 : 0 ≤ k) (h1 : k < p.length) (hok : KidsOk p k.toNat l) :
    Calls Tryz.prog 55 #[.slice ao p.length c, .int .i64 k] w (Made w 3 .i64 l) := by
  obtain ⟨n, hn, hc⟩ := hok
  obtain ⟨b, off, n', a, c', rfl, hn', hat⟩ := h.at_ (i := k.toNat) (by omega)
  rw [hn] at hn'; cases hn'
  have H := Lib.hid h; clear h
  have c0 := hat.c0
  have hbl := hat.lt
  clear hat hn
  have AR := Lib.hid (fun w => specArity_any n.kind w)
  have EN := Lib.hid (fun kk W (hw : RdN W (some ⟨b, off, none⟩) p) (q0 : 0 ≤ kk) (q1 : kk ≤ 1048576) => specEnd_any (some ⟨b, off, none⟩) c p hp 10 kk 10 W hw q0 q1 (by omega) (by omega) (by omega))
  have W0 : w.heap.size ≤ (w.alloc (.cells #[] 3)).heap.size := by simp
  rcases hc with ⟨ha, rfl⟩ | ⟨ha, rfl, e, d, he⟩ | ⟨ha, e, d, e', d', he, he', rfl⟩
  · have HA := Lib.hid ha; clear ha
    go_enter Tryz.func55, Tryz.ntmps55
    go_wp2_with fail
    refine wp_loop_rounds 1 ?_; rw [rounds_succ]
    go_wp2_with (go_at_call 102; refine (AR.out _).mono ?_; rintro e w' ⟨rfl, rfl⟩; rw [HA.out])
    go_ret
    exact ⟨_, _, rfl, own_empty (Nat.le_refl _), (Below.refl _ _).alloc (Nat.le_refl _) _⟩
  · obtain ⟨q1, q2, q3, q4⟩ := endN_bd _ _ _ _ _ he
    have HE := Lib.hid he; clear he
    have O0 := Lib.hid (own_empty (w := w) (base := w.heap.size) (e := 3) (k := .i64) (Nat.le_refl _))
    have B0 := Lib.hid ((Below.refl w.heap.size w).alloc (Nat.le_refl _) (.cells #[] 3))
    have HA := Lib.hid ha; clear ha
    have kt : (k.toNat : Int) = k := Int.toNat_of_nonneg h0
    have KT := Lib.hid kt; clear kt
    go_enter Tryz.func55, Tryz.ntmps55
    go_wp2_with fail
    refine wp_loop_rounds 2 ?_; rw [rounds_succ]
    go_wp2_with (first | (go_at_call 102; refine (AR.out _).mono ?_; rintro e w' ⟨rfl, rfl⟩; rw [HA.out]) | (at_builtin; refine wpList_appendI _ rfl (.tmp 21) (.tmp 23) 34 rfl w.heap.size 3 Tryz.underlying34 Tryz.infoInt (some ⟨w.heap.size, 0, none⟩) 0 0 [] rfl rfl (O0.out.alloc _) (w.heap.size + 1) 1 (k + 1) rfl (by simp) (by simp) (by simp; omega) ?_; intro ao2 c2 w2 o2 g2; have b2 := below_app B0.out O0.out g2; have hc2 := (b2.cell (p := ⟨b, off + k.toNat * 7, none⟩) hbl).trans c0; have O2 := Lib.hid o2; have B2 := Lib.hid b2; have R2 := Lib.hid (H.out.below b2); clear o2 g2 b2))
    refine (EN.out _ _ R2.out (by omega) (by omega)).mono ?_
    rintro ee w' ⟨rfl, rfl⟩
    rw [show (k + 1).toNat = k.toNat + 1 from by omega, HE.out]
    simp only [endV]
    go_wp2_with fail
    rw [rounds_succ]
    go_wp2_with (go_at_call 102; refine (AR.out _).mono ?_; rintro e w' ⟨rfl, rfl⟩; rw [HA.out])
    go_ret
    refine ⟨ao2, c2, rfl, ?_, B2.out⟩
    rw [KT.out]; exact O2.out
  · obtain ⟨q1, q2, q3, q4⟩ := endN_bd _ _ _ _ _ he
    obtain ⟨q5, q6, q7, q8⟩ := endN_bd _ _ _ _ _ he'
    have HE := Lib.hid he; have HE' := Lib.hid he'; clear he he'
    generalize e = e1 at *
    have O0 := Lib.hid (own_empty (w := w) (base := w.heap.size) (e := 3) (k := .i64) (Nat.le_refl _))
    have B0 := Lib.hid ((Below.refl w.heap.size w).alloc (Nat.le_refl _) (.cells #[] 3))
    have HA := Lib.hid ha; clear ha
    have kt : (k.toNat : Int) = k := Int.toNat_of_nonneg h0
    have KT := Lib.hid kt; clear kt
    go_enter Tryz.func55, Tryz.ntmps55
    go_wp2_with fail
    refine wp_loop_rounds 3 ?_; rw [rounds_succ]
    go_wp2_with (first | (go_at_call 102; refine (AR.out _).mono ?_; rintro e w' ⟨rfl, rfl⟩; rw [HA.out]) | (at_builtin; refine wpList_appendI _ rfl (.tmp 21) (.tmp 23) 34 rfl w.heap.size 3 Tryz.underlying34 Tryz.infoInt (some ⟨w.heap.size, 0, none⟩) 0 0 [] rfl rfl (O0.out.alloc _) (w.heap.size + 1) 1 (k + 1) rfl (by simp) (by simp) (by simp; omega) ?_; intro ao2 c2 w2 o2 g2; have b2 := below_app B0.out O0.out g2; have hc2 := (b2.cell (p := ⟨b, off + k.toNat * 7, none⟩) hbl).trans c0; have O2 := Lib.hid o2; have B2 := Lib.hid b2; have R2 := Lib.hid (H.out.below b2); clear o2 g2 b2))
    refine (EN.out _ _ R2.out (by omega) (by omega)).mono ?_
    rintro ee w' ⟨rfl, rfl⟩
    rw [show (k + 1).toNat = k.toNat + 1 from by omega, HE.out]
    simp only [endV]
    go_wp2_with fail
    rw [rounds_succ]
    go_wp2_with (first | (go_at_call 102; refine (AR.out _).mono ?_; rintro e w' ⟨rfl, rfl⟩; rw [HA.out]) | (at_builtin; refine wpList_appendI _ rfl (.tmp 21) (.tmp 23) 34 rfl w.heap.size 3 Tryz.underlying34 Tryz.infoInt ao2 c2 1 [k + 1] rfl rfl (O2.out.alloc _) w2.heap.size 1 (e1 : Int) rfl (cell_one _ _ _) (by simp) (by have := B2.out.size; simp; omega) ?_; intro ao3 c3 w3 o3 g3; have b3 := below_app B2.out O2.out g3; have hc3 := (b3.cell (p := ⟨b, off + k.toNat * 7, none⟩) hbl).trans c0; have O3 := Lib.hid o3; have B3 := Lib.hid b3; have R3 := Lib.hid (H.out.below b3); clear o3 g3 b3))
    refine (EN.out _ _ R3.out (by omega) (by omega)).mono ?_
    rintro ee w' ⟨rfl, rfl⟩
    rw [Int.toNat_natCast, HE'.out]
    simp only [endV]
    go_wp2_with fail
    rw [rounds_succ]
    go_wp2_with (go_at_call 102; refine (AR.out _).mono ?_; rintro e w' ⟨rfl, rfl⟩; rw [HA.out])
    go_ret
    refine ⟨ao3, c3, rfl, ?_, B3.out⟩
    rw [KT.out]; exact O3.out
theorem Tryz.infoNode : (Tryz.prog.info? 39).map (fun i => (i.zero, i.size, i.bytes)) = some (some (.agg #[.int .i64 0, .string ⟨#[]⟩, .int .i64 0, .int .i64 0, .int .i64 0, .bool false, .slice none 0 0]), 7, 80) := by kernel_rfl
end Go.Proofs.YtanfllednlpbaaaGreat
