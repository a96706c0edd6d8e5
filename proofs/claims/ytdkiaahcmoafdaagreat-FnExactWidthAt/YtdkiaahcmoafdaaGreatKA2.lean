/-
  Contract of spec.l03Width at a scan. Contract of spec.l03Width at a node of one child. Contract of spec.l03Width at a join. Contract of spec.l03Width at a both. Contract of spec.l03Width: the width of the tree at a place. For every plan and every schema. Contracts of WidthOf and TypedOk, of the model and of the program. For every slice of tables and every slice of nodes. A row of nodes that the call itself owns: its cells, the columns of each node in a row of their own, all of them apart. No program, no walk. A row of nodes of the call's own, built by append, or cloned and given columns of its own. No program, no walk. Contract of toNodeS. For every slice of nodes. Contracts of spec.l01Copy and spec.l02Copy: the same numbers, the same nodes, in memory of the call's own. For every slice. Contract of impl.copyNodes: the same nodes in memory of the call's own. For every slice of nodes. Contracts of PartOf, of the model and of the program. For every slice of nodes and every number. The part of a plan is a plan: its tree is the tree at that place, moved. Plain facts; no walk. Contracts of the helpers over slices of nodes: szNodeS, eqNodeS. For every slice of nodes. What szNodeS tells of a list of nodes: it is small. No walk. Contracts of WidthAt, of the model and of the program. For every slice of tables, every slice of nodes and every number. Contracts of eqTable and eqTableS. For every two slices of tables. Contract of eqNodeS. For every two slices of nodes.
-/
import Derived.Test.YtdkiaahcmoafdaaGreatFind
import Derived.Test.YtdkiaahcmoafdaaGreatKids
import Derived.Test.YtdkiaahcmoafdaaGreatKW1
import Derived.Test.YtdkiaahcmoafdaaGreatSPlan
import Derived.Test.YtdkiaahcmoafdaaGreatRead
import Derived.Test.YtdkiaahcmoafdaaGreatHN
import Derived.Maps.AppendAt
import Derived.OwnWalk
import Derived.Test.YtdkiaahcmoafdaaGreatLibI
import Derived.Deep.RegionWith
import Derived.Test.YtdkiaahcmoafdaaGreatNodes
import Derived.Test.YtdkiaahcmoafdaaGreatHE
import Derived.Test.YtdkiaahcmoafdaaGreatGrow
import Derived.Test.YtdkiaahcmoafdaaGreatHTb
namespace Go.Proofs.YtdkiaahcmoafdaaGreat
open Go.RowKit
set_option linter.unusedSimpArgs false
set_option linter.unusedVariables false

set_option maxRecDepth 100000 in
set_option maxHeartbeats 4000000 in
theorem wid_t0 (sa : Option Addr) (cs : Nat) (s : List Tb) (ao : Option Addr) (c : Nat) (p : List Nd) (T0 : Tr) (hs : schemaB s = true) (hsl : s.length ≤ 1048576) (hp : p.length ≤ 1048576) (ht : treeN p = some T0) (n : Nd) (pl en : Nat) : ∀ (k : Nat) (w : World), RdT w sa s → RdN w ao p → growT p p.length k = some (Tr.t0 n pl en) → (Tr.t0 n pl en).depth ≤ 10 →
    Calls Tryz.prog 16 #[.slice sa s.length cs, .slice ao p.length c, .int .i64 k] w fun e w' => e = .returned (.int .i64 (widT (fnOf s) (Tr.t0 n pl en))) ∧ Below w.heap.size w w' := by
  have hf := fnOk_schema hs
  have TS := Lib.hid (told_self s (schemaB_iff.1 hs).2.2)
  intro k w hrs hrp hg hd
  have HG := Lib.hid hg
  obtain ⟨n', hn, hnb, hS⟩ := grow_inv hg
  rcases hS with ⟨hS, ha⟩ | ⟨c', hS, _⟩ | ⟨c', d', hS, _⟩
  case inr.inl => cases hS
  case inr.inr => cases hS
  cases hS
  have hkl : pl < p.length := (List.getElem?_eq_some_iff.1 hn).1
  obtain ⟨b, off, n2, a, c2, rfl, hn2, hat⟩ := hrp.at_ hkl
  obtain rfl : n = n2 := by rw [hn] at hn2; injection hn2
  obtain ⟨c0, c1, c2', c3, c4, c5, c6, rd, cap, mx, nm⟩ := hat
  have RDC := Lib.hid rd
  have hcl : n.cols.length ≤ maxLen := Nat.le_trans cap mx
  clear rd hn2 cap mx
  obtain ⟨W1, hW1⟩ : ∃ W1, W1 = w.alloc (.cells (#[.int .i64 n.kind, .string n.name, .int .i64 n.col, .int .i64 n.op, .int .i64 n.num, .bool n.slot, .slice a n.cols.length c2]) 45) := ⟨_, rfl⟩
  have Z1 := Lib.hid (show W1.heap.size = w.heap.size + 1 by rw [hW1]; simp)
  have A1 := Lib.hid (show Below w.heap.size w W1 by rw [hW1]; exact (Below.refl _ _).alloc (Nat.le_refl _) _)
  have f0 : W1.cell? ⟨w.heap.size, 0, none⟩ = some (.int .i64 n.kind) := by rw [hW1, World.cell?_alloc_new]; rfl
  have f1 : W1.cell? ⟨w.heap.size, 1, none⟩ = some (.string n.name) := by rw [hW1, World.cell?_alloc_new]; rfl
  have f2 : W1.cell? ⟨w.heap.size, 2, none⟩ = some (.int .i64 n.col) := by rw [hW1, World.cell?_alloc_new]; rfl
  have f4 : W1.cell? ⟨w.heap.size, 4, none⟩ = some (.int .i64 n.num) := by rw [hW1, World.cell?_alloc_new]; rfl
  have f6 : W1.cell? ⟨w.heap.size, 6, none⟩ = some (.slice a n.cols.length c2) := by rw [hW1, World.cell?_alloc_new]; rfl
  have OE := Lib.hid (show Own (W1.alloc (.cells #[] 3)) (w.heap.size + 1) 3 .i64 (some ⟨w.heap.size + 1, 0, none⟩) 0 [] by
    have := own_empty (w := W1) (base := W1.heap.size) (e := 3) (k := .i64) (Nat.le_refl _)
    rw [Z1.out] at this; exact this)
  have NE := Lib.hid ((Below.refl W1.heap.size W1).alloc (Nat.le_refl _) (.cells #[] 3))
  have HRS := Lib.hid (hrs.below A1.out); have HRP := Lib.hid (hrp.below A1.out)
  have FIN := Lib.hid (fun w' (hc : Below W1.heap.size W1 w') => (A1.out.trans (hc.mono (by rw [Z1.out]; exact Nat.le_succ _)) : Below w.heap.size w w'))
  have RD1 := Lib.hid (RDC.out.below A1.out)
  have hbw : b < w.heap.size := World.block_lt_of_cell? w ⟨b, off + pl * 7, none⟩ c0
  have HK := Lib.hid (show n.kind = 0 from (growT_nodes p _ _ _ HG.out).2)
  have KO := Lib.hid (show KidsOk p ((pl : Int)).toNat [] by rw [Int.toNat_natCast]; exact ⟨n, hn, .inl ⟨ha, rfl⟩⟩)
  go_enter Tryz.func16, Tryz.ntmps16
  go_wp2_with fail
  rw [← hW1]
  refine (specKids_any (some ⟨b, off, none⟩) c p pl [] _ (HRP.out.below NE.out) hp (by omega) (by omega) KO.out).mono ?_
  rintro e w3 ⟨a3, c3', rfl, o3, b3⟩
  have N3 := Lib.hid (below_step NE.out (Nat.le_refl _) b3)
  have OW3 := Lib.hid (OE.out.below b3)
  have e3 := fun o => N3.out.cell (p := ⟨w.heap.size, o, none⟩) (by rw [Z1.out]; exact Nat.lt_succ_self _)
  clear o3 b3
  have g0 := (e3 0).trans f0; have g1 := (e3 1).trans f1
  rw [HK.out] at g0
  clear c0 c1 c2' c3 c4 c5 c6 hW1 f0 f1 f2 f4 f6 e3
  go_wp2_with fail
  refine wp_loop_rounds 1 ?_; rw [rounds_succ]
  go_wp2_with fail
  refine (l03Find_any sa cs s n.name _ (HRS.out.below N3.out) hsl).mono ?_
  rintro e w' ⟨rfl, r, rfl, hr⟩
  rcases hr with ⟨rfl, hno⟩ | ⟨i, t, rfl, hi, hx⟩
  · have E := Lib.hid (show widT (fnOf s) (.t0 n pl (pl + 1)) = -1 by
      unfold widT
      cases hv : fnOf s n.name.data.toList with
      | none => rfl
      | some v =>
        obtain ⟨t, ht, h1, _⟩ := (TS.out.2 _ _).1 hv
        exact absurd h1 (hno t ht))
    clear hno
    go_wp2_with fail
    go_ret
    rw [E.out]
    exact ⟨rfl, FIN.out _ N3.out⟩
  · have E := Lib.hid (show widT (fnOf s) (.t0 n pl (pl + 1)) = t.width by
      unfold widT
      rw [(TS.out.2 n.name.data.toList t.width).2 ⟨t, List.mem_of_getElem? hi, by unfold Tb.key; rw [hx], rfl⟩]; rfl)
    have hil : i < s.length := (List.getElem?_eq_some_iff.1 hi).1
    obtain ⟨bs, os, t', rfl, hi', hat⟩ := (HRS.out.below N3.out).at_ hil
    obtain rfl : t = t' := by rw [hi] at hi'; injection hi'
    obtain ⟨u0, u1, _⟩ := hat
    clear hi hi' hx
    go_wp2_with fail
    go_ret
    rw [E.out]
    exact ⟨rfl, FIN.out _ N3.out⟩
end Go.Proofs.YtdkiaahcmoafdaaGreat
namespace Go.Proofs.YtdkiaahcmoafdaaGreat
open Go.RowKit
set_option linter.unusedSimpArgs false
set_option linter.unusedVariables false

set_option maxRecDepth 100000 in
set_option maxHeartbeats 4000000 in
theorem wid_t1 (sa : Option Addr) (cs : Nat) (s : List Tb) (ao : Option Addr) (c : Nat) (p : List Nd) (T0 : Tr) (hs : schemaB s = true) (hsl : s.length ≤ 1048576) (hp : p.length ≤ 1048576) (ht : treeN p = some T0) (n : Nd) (pl en : Nat) (ch : Tr) (ih : ∀ (k : Nat) (w : World), RdT w sa s → RdN w ao p → growT p p.length k = some ch → ch.depth ≤ 10 →
    Calls Tryz.prog 16 #[.slice sa s.length cs, .slice ao p.length c, .int .i64 k] w fun e w' => e = .returned (.int .i64 (widT (fnOf s) ch)) ∧ Below w.heap.size w w') : ∀ (k : Nat) (w : World), RdT w sa s → RdN w ao p → growT p p.length k = some (Tr.t1 n pl en ch) → (Tr.t1 n pl en ch).depth ≤ 10 →
    Calls Tryz.prog 16 #[.slice sa s.length cs, .slice ao p.length c, .int .i64 k] w fun e w' => e = .returned (.int .i64 (widT (fnOf s) (Tr.t1 n pl en ch))) ∧ Below w.heap.size w w' := by
  have hf := fnOk_schema hs
  have TS := Lib.hid (told_self s (schemaB_iff.1 hs).2.2)
  intro k w hrs hrp hg hd
  have HG := Lib.hid hg
  have NDS := Lib.hid (growT_nodes p _ _ _ hg)
  obtain ⟨n', hn, hnb, hS⟩ := grow_inv hg
  rcases hS with ⟨hS, _⟩ | ⟨c', hS, ha, hc⟩ | ⟨c', d', hS, _⟩
  case inl => cases hS
  case inr.inr => cases hS
  cases hS
  have hkl : pl < p.length := (List.getElem?_eq_some_iff.1 hn).1
  obtain ⟨b, off, n2, a, c2, rfl, hn2, hat⟩ := hrp.at_ hkl
  obtain rfl : n = n2 := by rw [hn] at hn2; injection hn2
  obtain ⟨c0, c1, c2', c3, c4, c5, c6, rd, cap, mx, nm⟩ := hat
  have RDC := Lib.hid rd
  have hcl : n.cols.length ≤ maxLen := Nat.le_trans cap mx
  clear rd hn2 cap mx
  obtain ⟨W1, hW1⟩ : ∃ W1, W1 = w.alloc (.cells (#[.int .i64 n.kind, .string n.name, .int .i64 n.col, .int .i64 n.op, .int .i64 n.num, .bool n.slot, .slice a n.cols.length c2]) 45) := ⟨_, rfl⟩
  have Z1 := Lib.hid (show W1.heap.size = w.heap.size + 1 by rw [hW1]; simp)
  have A1 := Lib.hid (show Below w.heap.size w W1 by rw [hW1]; exact (Below.refl _ _).alloc (Nat.le_refl _) _)
  have f0 : W1.cell? ⟨w.heap.size, 0, none⟩ = some (.int .i64 n.kind) := by rw [hW1, World.cell?_alloc_new]; rfl
  have f1 : W1.cell? ⟨w.heap.size, 1, none⟩ = some (.string n.name) := by rw [hW1, World.cell?_alloc_new]; rfl
  have f2 : W1.cell? ⟨w.heap.size, 2, none⟩ = some (.int .i64 n.col) := by rw [hW1, World.cell?_alloc_new]; rfl
  have f4 : W1.cell? ⟨w.heap.size, 4, none⟩ = some (.int .i64 n.num) := by rw [hW1, World.cell?_alloc_new]; rfl
  have f6 : W1.cell? ⟨w.heap.size, 6, none⟩ = some (.slice a n.cols.length c2) := by rw [hW1, World.cell?_alloc_new]; rfl
  have OE := Lib.hid (show Own (W1.alloc (.cells #[] 3)) (w.heap.size + 1) 3 .i64 (some ⟨w.heap.size + 1, 0, none⟩) 0 [] by
    have := own_empty (w := W1) (base := W1.heap.size) (e := 3) (k := .i64) (Nat.le_refl _)
    rw [Z1.out] at this; exact this)
  have NE := Lib.hid ((Below.refl W1.heap.size W1).alloc (Nat.le_refl _) (.cells #[] 3))
  have HRS := Lib.hid (hrs.below A1.out); have HRP := Lib.hid (hrp.below A1.out)
  have FIN := Lib.hid (fun w' (hc : Below W1.heap.size W1 w') => (A1.out.trans (hc.mono (by rw [Z1.out]; exact Nat.le_succ _)) : Below w.heap.size w w'))
  have RD1 := Lib.hid (RDC.out.below A1.out)
  have hbw : b < w.heap.size := World.block_lt_of_cell? w ⟨b, off + pl * 7, none⟩ c0
  have hdc : ch.depth ≤ 9 := by simp only [Tr.depth] at hd; omega
  have IHC := Lib.hid (show ∀ W, RdT W sa s → RdN W (some ⟨b, off, none⟩) p → Calls Tryz.prog 16 #[.slice sa s.length cs, .slice (some ⟨b, off, none⟩) p.length c, .int .i64 ((pl : Int) + 1)] W fun e w' => e = .returned (.int .i64 (widT (fnOf s) ch)) ∧ Below W.heap.size W w' from fun W h1 h2 => by
    have := ih (pl + 1) W h1 h2 hc (by omega)
    rwa [show ((pl + 1 : Nat) : Int) = (pl : Int) + 1 by omega] at this)
  have hwd := widT_wide hf ch NDS.out.2
  have KC := Lib.hid (fun h2 : n.kind = 2 => cols_of_nodeB hnb h2)
  have HA := Lib.hid ha
  have E := Lib.hid (show widT (fnOf s) (.t1 n pl ch.en ch) = if widT (fnOf s) ch = -1 then -1 else over1 n (widT (fnOf s) ch) from rfl)
  have KO := Lib.hid (show KidsOk p ((pl : Int)).toNat [(pl : Int) + 1] by rw [Int.toNat_natCast]; exact ⟨n, hn, .inr (.inl ⟨ha, rfl, _, _, endN_of_grow ht hc (by omega)⟩)⟩)
  clear hn
  go_enter Tryz.func16, Tryz.ntmps16
  go_wp2_with fail
  rw [← hW1]
  refine (specKids_any (some ⟨b, off, none⟩) c p pl [(pl : Int) + 1] _ (HRP.out.below NE.out) hp (by omega) (by omega) KO.out).mono ?_
  rintro e w3 ⟨a3, c3', rfl, o3, b3⟩
  have N3 := Lib.hid (below_step NE.out (Nat.le_refl _) b3)
  have OW3 := Lib.hid (OE.out.below b3)
  have e3 := fun o => N3.out.cell (p := ⟨w.heap.size, o, none⟩) (by rw [Z1.out]; exact Nat.lt_succ_self _)
  obtain ⟨g3, rfl, hgb3, hg3⟩ := own_some o3 (by simp)
  have hgb3' : w.heap.size + 2 ≤ g3 := by have := Z1.out; simp at hgb3; omega
  clear hgb3 c0 c1 c2' c3 c4 c5 c6 hW1
  have kk := own_cell o3 0 ((pl : Int) + 1) rfl
  clear o3 b3 ih hc ha hnb hrs hrp
  generalize widT (fnOf s) ch = x at hwd IHC E
  go_wp2_with fail
  refine wp_loop_rounds 2 ?_; rw [rounds_succ]
  go_wp2_with fail
  refine (IHC.out _ (HRS.out.below N3.out) (HRP.out.below N3.out)).mono ?_
  rintro e w4 ⟨rfl, b4⟩
  have N4 := Lib.hid (below_step N3.out (Nat.le_refl _) b4)
  have e4 := fun o => N4.out.cell (p := ⟨w.heap.size, o, none⟩) (by rw [Z1.out]; exact Nat.lt_succ_self _)
  have OW4 := Lib.hid (OW3.out.below b4)
  clear b4 e3
  rcases hwd with rfl | ⟨hx1, hx2⟩
  · go_wp2_with fail
    go_ret
    rw [E.out]
    exact ⟨rfl, FIN.out _ N4.out⟩
  have E1 := Lib.hid (show widT (fnOf s) (.t1 n pl ch.en ch) = over1 n x by rw [E.out, if_neg (show ¬ x = -1 by omega)])
  clear E
  go_wp2_with (at_builtin; refine wpList_appendI _ rfl (.tmp 37) (.tmp 39) 38 rfl (w.heap.size + 1) 3 Tryz.underlying38 Tryz.infoInt (some ⟨w.heap.size + 1, 0, none⟩) 0 0 [] rfl rfl (OW4.out.alloc _) _ _ x rfl (cell_one _ _ _) (by simp) (by have := N4.out.size; rw [Z1.out] at this; simp; omega) ?_; intro ao5 c5' w5 o5 g5; have n5 := ((Below.refl W1.heap.size w4).alloc N4.out.size _).grown g5 (by have := N4.out.size; simp; omega) (by intro q hq; simp at hq; rw [Z1.out]; omega); have N5 := Lib.hid (N4.out.trans n5); obtain ⟨g5', rfl, hgb5, hgl5⟩ := own_some o5 (by simp); have k0 := own_cell o5 0 x (by simp); clear o5 g5; have e5 := fun o => N5.out.cell (p := ⟨w.heap.size, o, none⟩) (by rw [Z1.out]; exact Nat.lt_succ_self _); clear n5)
  have q0 := (e5 0).trans f0; have q2 := (e5 2).trans f2; have q6 := (e5 6).trans f6
  have RD5 := Lib.hid (RD1.out.below N5.out)
  clear e4 e5 f0 f1 f2 f4 f6 kk
  rcases kinds1 HA.out with hk | hk | hk | hk | hk
  · rw [hk] at q0
    by_cases hx : x ≤ n.col
    · have E2 := Lib.hid (show widT (fnOf s) (.t1 n pl ch.en ch) = -1 by rw [E1.out]; unfold over1; rw [if_pos (by omega), if_pos hx])
      clear hk
      rw [rounds_succ]
      go_wp2_with fail
      go_quiet (fail)
      all_goals
        go_wp2_with fail
        go_ret
        rw [E2.out]
        exact ⟨rfl, FIN.out _ (below_drewN N5.out _)⟩
    · have hx' : n.col < x := by omega
      have E2 := Lib.hid (show widT (fnOf s) (.t1 n pl ch.en ch) = x by rw [E1.out]; unfold over1; rw [if_pos (by omega), if_neg hx])
      clear hk
      rw [rounds_succ]
      go_wp2_with fail
      go_quiet (fail)
      all_goals
        go_wp2_with fail
        go_ret
        rw [E2.out]
        exact ⟨rfl, FIN.out _ (below_drewN N5.out _)⟩
  · rw [hk] at q0
    obtain ⟨hk1, hk6⟩ := KC.out hk
    have EO := Lib.hid (show widT (fnOf s) (.t1 n pl ch.en ch) = if n.cols.all (fun z => decide (z < x)) = true then (n.cols.length : Int) else -1 by rw [E1.out]; unfold over1; rw [if_neg (by omega), if_pos hk])
    clear hk
    rcases RD5.out with hnil | ⟨bb, ob, rfl, hcc⟩
    · rw [hnil] at hk1; simp at hk1
    have HCC := Lib.hid hcc; clear hcc
    rw [rounds_succ]
    go_wp2_with fail
    go_loopw [13] (fun i wr => ∃ j q : Nat, j ≤ n.cols.length ∧ i = .int .i64 j ∧ wr = w5.drewN q ∧ (n.cols.take j).all (fun z => decide (z < x)) = true) (fun i _ => n.cols.length - (intOf i).toNat)
    case atStart => exact ⟨0, 0, Nat.zero_le _, rfl, rfl, rfl⟩
    case round =>
      obtain ⟨j, q, hj, rfl, rfl, hal⟩ := hrel
      have AL := Lib.hid hal; clear hal
      by_cases hlt : j < n.cols.length
      · have hcj := HCC.out j hlt
        have hz : n.cols[j]? = some (n.cols.getD j 0) := by rw [List.getD_eq_getElem?_getD, List.getElem?_eq_getElem hlt]; rfl
        generalize n.cols.getD j 0 = z at hcj hz
        have hlt' : (j : Int) < n.cols.length := by omega
        by_cases hzx : z < x
        · have AN := Lib.hid (show (n.cols.take (j + 1)).all (fun z => decide (z < x)) = true by rw [List.take_add_one, hz, List.all_append, AL.out]; simp [hzx])
          clear hz
          go_wp2_with fail
          go_quiet (fail)
          all_goals
            go_wp2_with fail
            go_roundw
            case rel => exact ⟨j + 1, _, by omega, by go_num, rfl, AN.out⟩
            case measure => simp [intOf]; omega
        · have hzx' : x ≤ z := by omega
          have E2 := Lib.hid (show widT (fnOf s) (.t1 n pl ch.en ch) = -1 by
            rw [EO.out, if_neg]
            intro h
            have := List.all_eq_true.1 h z (List.mem_of_getElem? hz)
            simp at this; omega)
          clear hz
          go_wp2_with fail
          go_quiet (fail)
          all_goals
            go_wp2_with fail
            go_ret
            rw [E2.out]
            exact ⟨rfl, FIN.out _ (by repeat (first | exact N5.out | refine below_drewN ?_ _))⟩
      · obtain rfl : j = n.cols.length := by omega
        have E2 := Lib.hid (show widT (fnOf s) (.t1 n pl ch.en ch) = (n.cols.length : Int) by rw [EO.out, if_pos]; have := AL.out; rwa [List.take_length] at this)
        go_wp2_with fail
        go_ret
        rw [E2.out]
        exact ⟨rfl, FIN.out _ (below_drewN N5.out _)⟩
  · rw [hk] at q0
    by_cases hx : x ≤ n.col
    · have E2 := Lib.hid (show widT (fnOf s) (.t1 n pl ch.en ch) = -1 by rw [E1.out]; unfold over1; rw [if_pos (by omega), if_pos hx])
      clear hk
      rw [rounds_succ]
      go_wp2_with fail
      go_quiet (fail)
      all_goals
        go_wp2_with fail
        go_ret
        rw [E2.out]
        exact ⟨rfl, FIN.out _ (below_drewN N5.out _)⟩
    · have hx' : n.col < x := by omega
      have E2 := Lib.hid (show widT (fnOf s) (.t1 n pl ch.en ch) = x by rw [E1.out]; unfold over1; rw [if_pos (by omega), if_neg hx])
      clear hk
      rw [rounds_succ]
      go_wp2_with fail
      go_quiet (fail)
      all_goals
        go_wp2_with fail
        go_ret
        rw [E2.out]
        exact ⟨rfl, FIN.out _ (below_drewN N5.out _)⟩
  · have E2 := Lib.hid (show widT (fnOf s) (.t1 n pl ch.en ch) = x by rw [E1.out]; unfold over1; rw [if_neg (by omega), if_neg (by omega)])
    rw [hk] at q0
    clear hk
    rw [rounds_succ]
    go_wp2_with fail
    go_ret
    rw [E2.out]
    exact ⟨rfl, FIN.out _ N5.out⟩
  · have E2 := Lib.hid (show widT (fnOf s) (.t1 n pl ch.en ch) = x by rw [E1.out]; unfold over1; rw [if_neg (by omega), if_neg (by omega)])
    rw [hk] at q0
    clear hk
    rw [rounds_succ]
    go_wp2_with fail
    go_ret
    rw [E2.out]
    exact ⟨rfl, FIN.out _ N5.out⟩
end Go.Proofs.YtdkiaahcmoafdaaGreat
namespace Go.Proofs.YtdkiaahcmoafdaaGreat
open Go.RowKit
set_option linter.unusedSimpArgs false
set_option linter.unusedVariables false

set_option maxRecDepth 100000 in
set_option maxHeartbeats 2000000 in
theorem wid_t2j (sa : Option Addr) (cs : Nat) (s : List Tb) (ao : Option Addr) (c : Nat) (p : List Nd) (T0 : Tr) (hs : schemaB s = true) (hsl : s.length ≤ 1048576) (hp : p.length ≤ 1048576) (ht : treeN p = some T0) (n : Nd) (pl en : Nat) (ch dh : Tr) (hk : n.kind = 3) (ihc : ∀ (k : Nat) (w : World), RdT w sa s → RdN w ao p → growT p p.length k = some ch → ch.depth ≤ 10 →
    Calls Tryz.prog 16 #[.slice sa s.length cs, .slice ao p.length c, .int .i64 k] w fun e w' => e = .returned (.int .i64 (widT (fnOf s) ch)) ∧ Below w.heap.size w w') (ihd : ∀ (k : Nat) (w : World), RdT w sa s → RdN w ao p → growT p p.length k = some dh → dh.depth ≤ 10 →
    Calls Tryz.prog 16 #[.slice sa s.length cs, .slice ao p.length c, .int .i64 k] w fun e w' => e = .returned (.int .i64 (widT (fnOf s) dh)) ∧ Below w.heap.size w w') : ∀ (k : Nat) (w : World), RdT w sa s → RdN w ao p → growT p p.length k = some (Tr.t2 n pl en ch dh) → (Tr.t2 n pl en ch dh).depth ≤ 10 →
    Calls Tryz.prog 16 #[.slice sa s.length cs, .slice ao p.length c, .int .i64 k] w fun e w' => e = .returned (.int .i64 (widT (fnOf s) (Tr.t2 n pl en ch dh))) ∧ Below w.heap.size w w' := by
  have hf := fnOk_schema hs
  have TS := Lib.hid (told_self s (schemaB_iff.1 hs).2.2)
  have HK := Lib.hid hk; clear hk
  intro k w hrs hrp hg hd
  have HG := Lib.hid hg
  have NDS := Lib.hid (growT_nodes p _ _ _ hg)
  obtain ⟨n', hn, hnb, hS⟩ := grow_inv hg
  rcases hS with ⟨hS, _⟩ | ⟨c', hS, _⟩ | ⟨c', d', hS, ha, hc, hdd⟩
  case inl => cases hS
  case inr.inl => cases hS
  cases hS
  have hkl : pl < p.length := (List.getElem?_eq_some_iff.1 hn).1
  obtain ⟨b, off, n2, a, c2, rfl, hn2, hat⟩ := hrp.at_ hkl
  obtain rfl : n = n2 := by rw [hn] at hn2; injection hn2
  obtain ⟨c0, c1, c2', c3, c4, c5, c6, rd, cap, mx, nm⟩ := hat
  have RDC := Lib.hid rd
  have hcl : n.cols.length ≤ maxLen := Nat.le_trans cap mx
  clear rd hn2 cap mx
  obtain ⟨W1, hW1⟩ : ∃ W1, W1 = w.alloc (.cells (#[.int .i64 n.kind, .string n.name, .int .i64 n.col, .int .i64 n.op, .int .i64 n.num, .bool n.slot, .slice a n.cols.length c2]) 45) := ⟨_, rfl⟩
  have Z1 := Lib.hid (show W1.heap.size = w.heap.size + 1 by rw [hW1]; simp)
  have A1 := Lib.hid (show Below w.heap.size w W1 by rw [hW1]; exact (Below.refl _ _).alloc (Nat.le_refl _) _)
  have f0 : W1.cell? ⟨w.heap.size, 0, none⟩ = some (.int .i64 n.kind) := by rw [hW1, World.cell?_alloc_new]; rfl
  have f1 : W1.cell? ⟨w.heap.size, 1, none⟩ = some (.string n.name) := by rw [hW1, World.cell?_alloc_new]; rfl
  have f2 : W1.cell? ⟨w.heap.size, 2, none⟩ = some (.int .i64 n.col) := by rw [hW1, World.cell?_alloc_new]; rfl
  have f4 : W1.cell? ⟨w.heap.size, 4, none⟩ = some (.int .i64 n.num) := by rw [hW1, World.cell?_alloc_new]; rfl
  have f6 : W1.cell? ⟨w.heap.size, 6, none⟩ = some (.slice a n.cols.length c2) := by rw [hW1, World.cell?_alloc_new]; rfl
  have OE := Lib.hid (show Own (W1.alloc (.cells #[] 3)) (w.heap.size + 1) 3 .i64 (some ⟨w.heap.size + 1, 0, none⟩) 0 [] by
    have := own_empty (w := W1) (base := W1.heap.size) (e := 3) (k := .i64) (Nat.le_refl _)
    rw [Z1.out] at this; exact this)
  have NE := Lib.hid ((Below.refl W1.heap.size W1).alloc (Nat.le_refl _) (.cells #[] 3))
  have HRS := Lib.hid (hrs.below A1.out); have HRP := Lib.hid (hrp.below A1.out)
  have FIN := Lib.hid (fun w' (hc : Below W1.heap.size W1 w') => (A1.out.trans (hc.mono (by rw [Z1.out]; exact Nat.le_succ _)) : Below w.heap.size w w'))
  have RD1 := Lib.hid (RDC.out.below A1.out)
  have hbw : b < w.heap.size := World.block_lt_of_cell? w ⟨b, off + pl * 7, none⟩ c0
  have hdc : ch.depth ≤ 9 ∧ dh.depth ≤ 9 := by simp only [Tr.depth] at hd; omega
  have IHC := Lib.hid (show ∀ W, RdT W sa s → RdN W (some ⟨b, off, none⟩) p → Calls Tryz.prog 16 #[.slice sa s.length cs, .slice (some ⟨b, off, none⟩) p.length c, .int .i64 ((pl : Int) + 1)] W fun e w' => e = .returned (.int .i64 (widT (fnOf s) ch)) ∧ Below W.heap.size W w' from fun W h1 h2 => by
    have := ihc (pl + 1) W h1 h2 hc (by omega)
    rwa [show ((pl + 1 : Nat) : Int) = (pl : Int) + 1 by omega] at this)
  have IHD := Lib.hid (show ∀ W, RdT W sa s → RdN W (some ⟨b, off, none⟩) p → Calls Tryz.prog 16 #[.slice sa s.length cs, .slice (some ⟨b, off, none⟩) p.length c, .int .i64 (ch.en : Int)] W fun e w' => e = .returned (.int .i64 (widT (fnOf s) dh)) ∧ Below W.heap.size W w' from fun W h1 h2 => ihd ch.en W h1 h2 hdd (by omega))
  have hwc := widT_wide hf ch NDS.out.2.1
  have hwd := widT_wide hf dh NDS.out.2.2
  have HA := Lib.hid ha
  have E := Lib.hid (show widT (fnOf s) (.t2 n pl dh.en ch dh) = if widT (fnOf s) ch = -1 then -1 else if widT (fnOf s) dh = -1 then -1 else over2 n (widT (fnOf s) ch) (widT (fnOf s) dh) from rfl)
  have KO := Lib.hid (show KidsOk p ((pl : Int)).toNat [(pl : Int) + 1, (ch.en : Int)] by rw [Int.toNat_natCast]; exact ⟨n, hn, .inr (.inr ⟨ha, _, _, _, _, endN_of_grow ht hc (by omega), endN_of_grow ht hdd (by omega), rfl⟩)⟩)
  clear hn
  go_enter Tryz.func16, Tryz.ntmps16
  go_wp2_with fail
  rw [← hW1]
  refine (specKids_any (some ⟨b, off, none⟩) c p pl [(pl : Int) + 1, (ch.en : Int)] _ (HRP.out.below NE.out) hp (by omega) (by omega) KO.out).mono ?_
  rintro e w3 ⟨a3, c3', rfl, o3, b3⟩
  have N3 := Lib.hid (below_step NE.out (Nat.le_refl _) b3)
  have OW3 := Lib.hid (OE.out.below b3)
  have e3 := fun o => N3.out.cell (p := ⟨w.heap.size, o, none⟩) (by rw [Z1.out]; exact Nat.lt_succ_self _)
  obtain ⟨g3, rfl, hgb3, hg3⟩ := own_some o3 (by simp)
  have hgb3' : w.heap.size + 2 ≤ g3 := by have := Z1.out; simp at hgb3; omega
  clear hgb3 c0 c1 c2' c3 c4 c5 c6 hW1
  have kk := own_cell o3 0 ((pl : Int) + 1) rfl
  have kl := own_cell o3 1 (ch.en : Int) rfl
  clear o3 b3 ihc ihd hc hdd ha hnb hrs hrp
  generalize widT (fnOf s) ch = x at hwc IHC E
  generalize widT (fnOf s) dh = y at hwd IHD E
  generalize (ch.en : Int) = ce at IHD kl ⊢
  go_wp2_with fail
  refine wp_loop_rounds 3 ?_; rw [rounds_succ]
  go_wp2_with fail
  refine (IHC.out _ (HRS.out.below N3.out) (HRP.out.below N3.out)).mono ?_
  rintro e w4 ⟨rfl, b4⟩
  have N4 := Lib.hid (below_step N3.out (Nat.le_refl _) b4)
  have e4 := fun o => N4.out.cell (p := ⟨w.heap.size, o, none⟩) (by rw [Z1.out]; exact Nat.lt_succ_self _)
  have OW4 := Lib.hid (OW3.out.below b4)
  have kl4 := (b4.cell (p := ⟨g3, 1, none⟩) hg3).trans kl
  have hg34 : g3 < w4.heap.size := Nat.lt_of_lt_of_le hg3 b4.size
  clear b4 e3
  rcases hwc with rfl | ⟨hx1, hx2⟩
  · go_wp2_with fail
    go_ret
    rw [E.out]
    exact ⟨rfl, FIN.out _ N4.out⟩
  have E1 := Lib.hid (show widT (fnOf s) (.t2 n pl dh.en ch dh) = if y = -1 then -1 else over2 n x y by rw [E.out, if_neg (show ¬ x = -1 by omega)])
  clear E
  go_wp2_with (at_builtin; refine wpList_appendI _ rfl (.tmp 37) (.tmp 39) 38 rfl (w.heap.size + 1) 3 Tryz.underlying38 Tryz.infoInt (some ⟨w.heap.size + 1, 0, none⟩) 0 0 [] rfl rfl (OW4.out.alloc _) _ _ x rfl (cell_one _ _ _) (by simp) (by have := N4.out.size; rw [Z1.out] at this; simp; omega) ?_; intro ao5 c5' w5 o5 g5; have n5 := ((Below.refl W1.heap.size w4).alloc N4.out.size _).grown g5 (by have := N4.out.size; simp; omega) (by intro q hq; simp at hq; rw [Z1.out]; omega); have N5 := Lib.hid (N4.out.trans n5); obtain ⟨g5', rfl, hgb5, hgl5⟩ := own_some o5 (by simp); have OW5 := Lib.hid (show Own w5 (w.heap.size + 1) 3 .i64 (some ⟨g5', 0, none⟩) c5' [x] from o5); have kl5 : w5.cell? ⟨g3, 1, none⟩ = some (.int .i64 ce) := (show w5.cell? ⟨g3, 1, none⟩ = (w4.alloc (.cells #[.int .i64 x] 3)).cell? ⟨g3, 1, none⟩ from World.cell?_of_block (g5.block g3 (by simp; omega) (by simp; omega))).trans ((((Below.refl w4.heap.size w4).alloc (Nat.le_refl _) _).cell (p := ⟨g3, 1, none⟩) hg34).trans kl4); clear o5 g5; have e5 := fun o => N5.out.cell (p := ⟨w.heap.size, o, none⟩) (by rw [Z1.out]; exact Nat.lt_succ_self _); clear n5)
  clear e4
  rw [rounds_succ]
  go_wp2_with fail
  refine (IHD.out _ (HRS.out.below N5.out) (HRP.out.below N5.out)).mono ?_
  rintro e w6 ⟨rfl, b6⟩
  have N6 := Lib.hid (below_step N5.out (Nat.le_refl _) b6)
  have e6 := fun o => N6.out.cell (p := ⟨w.heap.size, o, none⟩) (by rw [Z1.out]; exact Nat.lt_succ_self _)
  have OW6 := Lib.hid (OW5.out.below b6)
  clear b6 e5
  rcases hwd with rfl | ⟨hy1, hy2⟩
  · go_wp2_with fail
    go_ret
    rw [E1.out]
    exact ⟨rfl, FIN.out _ N6.out⟩
  have E2 := Lib.hid (show widT (fnOf s) (.t2 n pl dh.en ch dh) = over2 n x y by rw [E1.out, if_neg (show ¬ y = -1 by omega)])
  clear E1
  go_wp2_with (at_builtin; refine wpList_appendI _ rfl (.tmp 37) (.tmp 39) 38 rfl (w.heap.size + 1) 3 Tryz.underlying38 Tryz.infoInt (some ⟨g5', 0, none⟩) c5' 1 [x] rfl rfl (OW6.out.alloc _) _ _ y rfl (cell_one _ _ _) (by simp) (by have := N6.out.size; rw [Z1.out] at this; simp; omega) ?_; intro ao7 c7' w7 o7 g7; have n7 := ((Below.refl W1.heap.size w6).alloc N6.out.size _).grown g7 (by have := N6.out.size; simp; omega) (by intro q hq; simp at hq; rw [Z1.out]; omega); have N7 := Lib.hid (N6.out.trans n7); obtain ⟨g7', rfl, hgb7, hgl7⟩ := own_some o7 (by simp); have k0 := own_cell o7 0 x (by simp); have k1 := own_cell o7 1 y (by simp); clear o7 g7; have e7 := fun o => N7.out.cell (p := ⟨w.heap.size, o, none⟩) (by rw [Z1.out]; exact Nat.lt_succ_self _); clear n7)
  have q0 := (e7 0).trans f0; have q2 := (e7 2).trans f2; have q4 := (e7 4).trans f4
  clear e6 e7 f0 f1 f2 f4 f6 kk kl kl4 kl5
  have hk := HK.out
  rw [hk] at q0
  have EO := Lib.hid (show widT (fnOf s) (.t2 n pl dh.en ch dh) = if x ≤ n.col ∨ y ≤ n.num ∨ 64 < x + y then -1 else x + y by rw [E2.out]; unfold over2; rw [if_pos hk])
  clear hk E2
  by_cases h1 : x ≤ n.col
  · have E3 := Lib.hid (EO.out.trans (if_pos (.inl h1)))
    rw [rounds_succ]
    go_wp2_with fail
    go_quiet (fail)
    all_goals
      go_wp2_with fail
      go_ret
      rw [E3.out]
      exact ⟨rfl, FIN.out _ (below_drewN N7.out _)⟩
  have h1' : n.col < x := by omega
  have hd1 : decide (x ≤ n.col) = false := by simp; omega
  clear h1
  by_cases h2 : y ≤ n.num
  · have E3 := Lib.hid (EO.out.trans (if_pos (.inr (.inl h2))))
    rw [rounds_succ]
    go_wp2_with fail
    go_quiet (fail)
    all_goals
      go_wp2_with fail
      go_ret
      rw [E3.out]
      exact ⟨rfl, FIN.out _ (below_drewN N7.out _)⟩
  have h2' : n.num < y := by omega
  have hd2 : decide (y ≤ n.num) = false := by simp; omega
  clear h2
  have hwrap : IntKind.i64.wrap (x + y) = x + y := IntWalk.i64_in _ (by omega)
  by_cases h3 : 64 < x + y
  · have E3 := Lib.hid (EO.out.trans (if_pos (.inr (.inr h3))))
    rw [rounds_succ]
    go_wp2_with fail
    go_quiet (fail)
    all_goals
      go_wp2_with fail
      go_ret
      rw [E3.out]
      exact ⟨rfl, FIN.out _ (below_drewN N7.out _)⟩
  have h3' : x + y ≤ 64 := by omega
  have E3 := Lib.hid (EO.out.trans (if_neg (by omega)))
  clear h3
  rw [rounds_succ]
  go_wp2_with fail
  go_quiet (fail)
  all_goals
    go_wp2_with fail
    go_quiet (fail)
    all_goals
      go_wp2_with fail
      go_ret
      rw [E3.out]
      exact ⟨rfl, FIN.out _ (by repeat (first | exact N7.out | refine below_drewN ?_ _))⟩
end Go.Proofs.YtdkiaahcmoafdaaGreat
namespace Go.Proofs.YtdkiaahcmoafdaaGreat
open Go.RowKit
set_option linter.unusedSimpArgs false
set_option linter.unusedVariables false

set_option maxRecDepth 100000 in
set_option maxHeartbeats 4000000 in
theorem wid_t2b (sa : Option Addr) (cs : Nat) (s : List Tb) (ao : Option Addr) (c : Nat) (p : List Nd) (T0 : Tr) (hs : schemaB s = true) (hsl : s.length ≤ 1048576) (hp : p.length ≤ 1048576) (ht : treeN p = some T0) (n : Nd) (pl en : Nat) (ch dh : Tr) (hk : n.kind = 4) (ihc : ∀ (k : Nat) (w : World), RdT w sa s → RdN w ao p → growT p p.length k = some ch → ch.depth ≤ 10 →
    Calls Tryz.prog 16 #[.slice sa s.length cs, .slice ao p.length c, .int .i64 k] w fun e w' => e = .returned (.int .i64 (widT (fnOf s) ch)) ∧ Below w.heap.size w w') (ihd : ∀ (k : Nat) (w : World), RdT w sa s → RdN w ao p → growT p p.length k = some dh → dh.depth ≤ 10 →
    Calls Tryz.prog 16 #[.slice sa s.length cs, .slice ao p.length c, .int .i64 k] w fun e w' => e = .returned (.int .i64 (widT (fnOf s) dh)) ∧ Below w.heap.size w w') : ∀ (k : Nat) (w : World), RdT w sa s → RdN w ao p → growT p p.length k = some (Tr.t2 n pl en ch dh) → (Tr.t2 n pl en ch dh).depth ≤ 10 →
    Calls Tryz.prog 16 #[.slice sa s.length cs, .slice ao p.length c, .int .i64 k] w fun e w' => e = .returned (.int .i64 (widT (fnOf s) (Tr.t2 n pl en ch dh))) ∧ Below w.heap.size w w' := by
  have hf := fnOk_schema hs
  have TS := Lib.hid (told_self s (schemaB_iff.1 hs).2.2)
  have HK := Lib.hid hk; clear hk
  intro k w hrs hrp hg hd
  have HG := Lib.hid hg
  have NDS := Lib.hid (growT_nodes p _ _ _ hg)
  obtain ⟨n', hn, hnb, hS⟩ := grow_inv hg
  rcases hS with ⟨hS, _⟩ | ⟨c', hS, _⟩ | ⟨c', d', hS, ha, hc, hdd⟩
  case inl => cases hS
  case inr.inl => cases hS
  cases hS
  have hkl : pl < p.length := (List.getElem?_eq_some_iff.1 hn).1
  obtain ⟨b, off, n2, a, c2, rfl, hn2, hat⟩ := hrp.at_ hkl
  obtain rfl : n = n2 := by rw [hn] at hn2; injection hn2
  obtain ⟨c0, c1, c2', c3, c4, c5, c6, rd, cap, mx, nm⟩ := hat
  have RDC := Lib.hid rd
  have hcl : n.cols.length ≤ maxLen := Nat.le_trans cap mx
  clear rd hn2 cap mx
  obtain ⟨W1, hW1⟩ : ∃ W1, W1 = w.alloc (.cells (#[.int .i64 n.kind, .string n.name, .int .i64 n.col, .int .i64 n.op, .int .i64 n.num, .bool n.slot, .slice a n.cols.length c2]) 45) := ⟨_, rfl⟩
  have Z1 := Lib.hid (show W1.heap.size = w.heap.size + 1 by rw [hW1]; simp)
  have A1 := Lib.hid (show Below w.heap.size w W1 by rw [hW1]; exact (Below.refl _ _).alloc (Nat.le_refl _) _)
  have f0 : W1.cell? ⟨w.heap.size, 0, none⟩ = some (.int .i64 n.kind) := by rw [hW1, World.cell?_alloc_new]; rfl
  have f1 : W1.cell? ⟨w.heap.size, 1, none⟩ = some (.string n.name) := by rw [hW1, World.cell?_alloc_new]; rfl
  have f2 : W1.cell? ⟨w.heap.size, 2, none⟩ = some (.int .i64 n.col) := by rw [hW1, World.cell?_alloc_new]; rfl
  have f4 : W1.cell? ⟨w.heap.size, 4, none⟩ = some (.int .i64 n.num) := by rw [hW1, World.cell?_alloc_new]; rfl
  have f6 : W1.cell? ⟨w.heap.size, 6, none⟩ = some (.slice a n.cols.length c2) := by rw [hW1, World.cell?_alloc_new]; rfl
  have OE := Lib.hid (show Own (W1.alloc (.cells #[] 3)) (w.heap.size + 1) 3 .i64 (some ⟨w.heap.size + 1, 0, none⟩) 0 [] by
    have := own_empty (w := W1) (base := W1.heap.size) (e := 3) (k := .i64) (Nat.le_refl _)
    rw [Z1.out] at this; exact this)
  have NE := Lib.hid ((Below.refl W1.heap.size W1).alloc (Nat.le_refl _) (.cells #[] 3))
  have HRS := Lib.hid (hrs.below A1.out); have HRP := Lib.hid (hrp.below A1.out)
  have FIN := Lib.hid (fun w' (hc : Below W1.heap.size W1 w') => (A1.out.trans (hc.mono (by rw [Z1.out]; exact Nat.le_succ _)) : Below w.heap.size w w'))
  have RD1 := Lib.hid (RDC.out.below A1.out)
  have hbw : b < w.heap.size := World.block_lt_of_cell? w ⟨b, off + pl * 7, none⟩ c0
  have hdc : ch.depth ≤ 9 ∧ dh.depth ≤ 9 := by simp only [Tr.depth] at hd; omega
  have IHC := Lib.hid (show ∀ W, RdT W sa s → RdN W (some ⟨b, off, none⟩) p → Calls Tryz.prog 16 #[.slice sa s.length cs, .slice (some ⟨b, off, none⟩) p.length c, .int .i64 ((pl : Int) + 1)] W fun e w' => e = .returned (.int .i64 (widT (fnOf s) ch)) ∧ Below W.heap.size W w' from fun W h1 h2 => by
    have := ihc (pl + 1) W h1 h2 hc (by omega)
    rwa [show ((pl + 1 : Nat) : Int) = (pl : Int) + 1 by omega] at this)
  have IHD := Lib.hid (show ∀ W, RdT W sa s → RdN W (some ⟨b, off, none⟩) p → Calls Tryz.prog 16 #[.slice sa s.length cs, .slice (some ⟨b, off, none⟩) p.length c, .int .i64 (ch.en : Int)] W fun e w' => e = .returned (.int .i64 (widT (fnOf s) dh)) ∧ Below W.heap.size W w' from fun W h1 h2 => ihd ch.en W h1 h2 hdd (by omega))
  have hwc := widT_wide hf ch NDS.out.2.1
  have hwd := widT_wide hf dh NDS.out.2.2
  have HA := Lib.hid ha
  have E := Lib.hid (show widT (fnOf s) (.t2 n pl dh.en ch dh) = if widT (fnOf s) ch = -1 then -1 else if widT (fnOf s) dh = -1 then -1 else over2 n (widT (fnOf s) ch) (widT (fnOf s) dh) from rfl)
  have KO := Lib.hid (show KidsOk p ((pl : Int)).toNat [(pl : Int) + 1, (ch.en : Int)] by rw [Int.toNat_natCast]; exact ⟨n, hn, .inr (.inr ⟨ha, _, _, _, _, endN_of_grow ht hc (by omega), endN_of_grow ht hdd (by omega), rfl⟩)⟩)
  clear hn
  go_enter Tryz.func16, Tryz.ntmps16
  go_wp2_with fail
  rw [← hW1]
  refine (specKids_any (some ⟨b, off, none⟩) c p pl [(pl : Int) + 1, (ch.en : Int)] _ (HRP.out.below NE.out) hp (by omega) (by omega) KO.out).mono ?_
  rintro e w3 ⟨a3, c3', rfl, o3, b3⟩
  have N3 := Lib.hid (below_step NE.out (Nat.le_refl _) b3)
  have OW3 := Lib.hid (OE.out.below b3)
  have e3 := fun o => N3.out.cell (p := ⟨w.heap.size, o, none⟩) (by rw [Z1.out]; exact Nat.lt_succ_self _)
  obtain ⟨g3, rfl, hgb3, hg3⟩ := own_some o3 (by simp)
  have hgb3' : w.heap.size + 2 ≤ g3 := by have := Z1.out; simp at hgb3; omega
  clear hgb3 c0 c1 c2' c3 c4 c5 c6 hW1
  have kk := own_cell o3 0 ((pl : Int) + 1) rfl
  have kl := own_cell o3 1 (ch.en : Int) rfl
  clear o3 b3 ihc ihd hc hdd ha hnb hrs hrp
  generalize widT (fnOf s) ch = x at hwc IHC E
  generalize widT (fnOf s) dh = y at hwd IHD E
  generalize (ch.en : Int) = ce at IHD kl ⊢
  go_wp2_with fail
  refine wp_loop_rounds 3 ?_; rw [rounds_succ]
  go_wp2_with fail
  refine (IHC.out _ (HRS.out.below N3.out) (HRP.out.below N3.out)).mono ?_
  rintro e w4 ⟨rfl, b4⟩
  have N4 := Lib.hid (below_step N3.out (Nat.le_refl _) b4)
  have e4 := fun o => N4.out.cell (p := ⟨w.heap.size, o, none⟩) (by rw [Z1.out]; exact Nat.lt_succ_self _)
  have OW4 := Lib.hid (OW3.out.below b4)
  have kl4 := (b4.cell (p := ⟨g3, 1, none⟩) hg3).trans kl
  have hg34 : g3 < w4.heap.size := Nat.lt_of_lt_of_le hg3 b4.size
  clear b4 e3
  rcases hwc with rfl | ⟨hx1, hx2⟩
  · go_wp2_with fail
    go_ret
    rw [E.out]
    exact ⟨rfl, FIN.out _ N4.out⟩
  have E1 := Lib.hid (show widT (fnOf s) (.t2 n pl dh.en ch dh) = if y = -1 then -1 else over2 n x y by rw [E.out, if_neg (show ¬ x = -1 by omega)])
  clear E
  go_wp2_with (at_builtin; refine wpList_appendI _ rfl (.tmp 37) (.tmp 39) 38 rfl (w.heap.size + 1) 3 Tryz.underlying38 Tryz.infoInt (some ⟨w.heap.size + 1, 0, none⟩) 0 0 [] rfl rfl (OW4.out.alloc _) _ _ x rfl (cell_one _ _ _) (by simp) (by have := N4.out.size; rw [Z1.out] at this; simp; omega) ?_; intro ao5 c5' w5 o5 g5; have n5 := ((Below.refl W1.heap.size w4).alloc N4.out.size _).grown g5 (by have := N4.out.size; simp; omega) (by intro q hq; simp at hq; rw [Z1.out]; omega); have N5 := Lib.hid (N4.out.trans n5); obtain ⟨g5', rfl, hgb5, hgl5⟩ := own_some o5 (by simp); have OW5 := Lib.hid (show Own w5 (w.heap.size + 1) 3 .i64 (some ⟨g5', 0, none⟩) c5' [x] from o5); have kl5 : w5.cell? ⟨g3, 1, none⟩ = some (.int .i64 ce) := (show w5.cell? ⟨g3, 1, none⟩ = (w4.alloc (.cells #[.int .i64 x] 3)).cell? ⟨g3, 1, none⟩ from World.cell?_of_block (g5.block g3 (by simp; omega) (by simp; omega))).trans ((((Below.refl w4.heap.size w4).alloc (Nat.le_refl _) _).cell (p := ⟨g3, 1, none⟩) hg34).trans kl4); clear o5 g5; have e5 := fun o => N5.out.cell (p := ⟨w.heap.size, o, none⟩) (by rw [Z1.out]; exact Nat.lt_succ_self _); clear n5)
  clear e4
  rw [rounds_succ]
  go_wp2_with fail
  refine (IHD.out _ (HRS.out.below N5.out) (HRP.out.below N5.out)).mono ?_
  rintro e w6 ⟨rfl, b6⟩
  have N6 := Lib.hid (below_step N5.out (Nat.le_refl _) b6)
  have e6 := fun o => N6.out.cell (p := ⟨w.heap.size, o, none⟩) (by rw [Z1.out]; exact Nat.lt_succ_self _)
  have OW6 := Lib.hid (OW5.out.below b6)
  clear b6 e5
  rcases hwd with rfl | ⟨hy1, hy2⟩
  · go_wp2_with fail
    go_ret
    rw [E1.out]
    exact ⟨rfl, FIN.out _ N6.out⟩
  have E2 := Lib.hid (show widT (fnOf s) (.t2 n pl dh.en ch dh) = over2 n x y by rw [E1.out, if_neg (show ¬ y = -1 by omega)])
  clear E1
  go_wp2_with (at_builtin; refine wpList_appendI _ rfl (.tmp 37) (.tmp 39) 38 rfl (w.heap.size + 1) 3 Tryz.underlying38 Tryz.infoInt (some ⟨g5', 0, none⟩) c5' 1 [x] rfl rfl (OW6.out.alloc _) _ _ y rfl (cell_one _ _ _) (by simp) (by have := N6.out.size; rw [Z1.out] at this; simp; omega) ?_; intro ao7 c7' w7 o7 g7; have n7 := ((Below.refl W1.heap.size w6).alloc N6.out.size _).grown g7 (by have := N6.out.size; simp; omega) (by intro q hq; simp at hq; rw [Z1.out]; omega); have N7 := Lib.hid (N6.out.trans n7); obtain ⟨g7', rfl, hgb7, hgl7⟩ := own_some o7 (by simp); have k0 := own_cell o7 0 x (by simp); have k1 := own_cell o7 1 y (by simp); clear o7 g7; have e7 := fun o => N7.out.cell (p := ⟨w.heap.size, o, none⟩) (by rw [Z1.out]; exact Nat.lt_succ_self _); clear n7)
  have q0 := (e7 0).trans f0; have q2 := (e7 2).trans f2; have q4 := (e7 4).trans f4
  clear e6 e7 f0 f1 f2 f4 f6 kk kl kl4 kl5
  have hk := HK.out
  rw [hk] at q0
  have EO := Lib.hid (show widT (fnOf s) (.t2 n pl dh.en ch dh) = if x = y then x else -1 by rw [E2.out]; unfold over2; rw [if_neg (by omega)])
  clear hk E2
  by_cases h1 : x = y
  · subst h1
    have E3 := Lib.hid (EO.out.trans (if_pos rfl))
    have hb1 : (x != x) = false := by simp
    rw [rounds_succ]
    go_wp2_with fail
    go_quiet (fail)
    all_goals
      go_wp2_with fail
      go_ret
      rw [E3.out]
      exact ⟨rfl, FIN.out _ (below_drewN N7.out _)⟩
  · have E3 := Lib.hid (EO.out.trans (if_neg h1))
    have hb1 : (x != y) = true := by simp [h1]
    have hb2 : (x == y) = false := by simp [h1]
    rw [rounds_succ]
    go_wp2_with fail
    go_quiet (fail)
    all_goals
      go_wp2_with fail
      go_ret
      rw [E3.out]
      exact ⟨rfl, FIN.out _ (below_drewN N7.out _)⟩
end Go.Proofs.YtdkiaahcmoafdaaGreat
namespace Go.Proofs.YtdkiaahcmoafdaaGreat
open Go.RowKit
set_option linter.unusedSimpArgs false
set_option linter.unusedVariables false

theorem l03Width_any (sa : Option Addr) (cs : Nat) (s : List Tb) (ao : Option Addr) (c : Nat) (p : List Nd) (T0 : Tr) (hs : schemaB s = true) (hsl : s.length ≤ 1048576) (hp : p.length ≤ 1048576) (ht : treeN p = some T0) : ∀ T : Tr, ∀ (k : Nat) (w : World), RdT w sa s → RdN w ao p → growT p p.length k = some T → T.depth ≤ 10 →
    Calls Tryz.prog 16 #[.slice sa s.length cs, .slice ao p.length c, .int .i64 k] w fun e w' => e = .returned (.int .i64 (widT (fnOf s) T)) ∧ Below w.heap.size w w' := by
  intro T
  induction T with
  | t0 n pl en => exact wid_t0 sa cs s ao c p T0 hs hsl hp ht n pl en
  | t1 n pl en ch ih => exact wid_t1 sa cs s ao c p T0 hs hsl hp ht n pl en ch ih
  | t2 n pl en ch dh ihc ihd =>
    intro k w h1 h2 hg hd
    rcases kinds2 (growT_nodes p _ _ _ hg).1.2 with hk | hk
    · exact wid_t2j sa cs s ao c p T0 hs hsl hp ht n pl en ch dh hk ihc ihd k w h1 h2 hg hd
    · exact wid_t2b sa cs s ao c p T0 hs hsl hp ht n pl en ch dh hk ihc ihd k w h1 h2 hg hd
end Go.Proofs.YtdkiaahcmoafdaaGreat
namespace Go.Proofs.YtdkiaahcmoafdaaGreat
open Go.RowKit Go.Maps
set_option linter.unusedSimpArgs false
set_option linter.unusedVariables false

/-- What WidthOf answers. -/
def widO (s : List Tb) (p : List Nd) : Int := if schemaB s = true then (match treeN p with | some T => widT (fnOf s) T | none => -1) else -1
theorem treeN_at {p : List Nd} {T : Tr} (h : treeN p = some T) : growT p p.length 0 = some T := (treeN_some h).2.1
theorem widO_no {s : List Tb} (h : schemaB s = false) (p : List Nd) : widO s p = -1 := by unfold widO; rw [if_neg (by rw [h]; simp)]
theorem widO_none {s : List Tb} {p : List Nd} (h : treeN p = none) : widO s p = -1 := by unfold widO; rw [h]; split <;> rfl
theorem widO_some {s : List Tb} {p : List Nd} {T : Tr} (hs : schemaB s = true) (h : treeN p = some T) : widO s p = widT (fnOf s) T := by unfold widO; rw [if_pos hs, h]

set_option maxHeartbeats 1000000 in
theorem widthNil_any (m : Option Nat) (w : World) : Calls Tryz.prog 33 #[.pointer none, .map m] w fun e w' => e = .returned (.int .i64 (-1)) ∧ w = w' := by
  go_enter Tryz.func33, Tryz.ntmps33
  go_wp2_with fail
  go_ret
  exact ⟨rfl, rfl⟩

set_option maxRecDepth 100000 in
set_option maxHeartbeats 1600000 in
theorem implWidth_any (sa : Option Addr) (cs : Nat) (s : List Tb) (ao : Option Addr) (c : Nat) (p : List Nd) (w : World) (hsr : RdT w sa s) (hpr : RdN w ao p) (hsl : s.length ≤ 1048576) (hp : Small p) :
    Calls Tryz.prog 19 #[.slice sa s.length cs, .slice ao p.length c] w fun e w' => e = .returned (.int .i64 (widO s p)) ∧ Below w.heap.size w w' := by
  have HS := Lib.hid hsr; have HP := Lib.hid hpr; clear hsr hpr
  cases hs : schemaB s with
  | false =>
    have E := Lib.hid (widO_no hs p); have HB := Lib.hid hs; clear hs
    go_enter Tryz.func19, Tryz.ntmps19
    go_wp2_with fail
    refine (widthsIn_any sa cs s _ HS.out hsl).mono ?_
    rintro e w1 ⟨b1, hpo⟩
    rw [HB.out] at hpo
    obtain ⟨m, rfl⟩ := hpo
    have B1 := Lib.hid b1; clear b1
    go_wp2_with fail
    go_ret
    rw [E.out]
    exact ⟨rfl, B1.out⟩
  | true =>
    have HB := Lib.hid hs
    have FO := Lib.hid (fnOk_schema hs)
    cases ht : treeN p with
    | none =>
      have E := Lib.hid (widO_none (s := s) ht); have HT := Lib.hid ht
      clear hs ht
      go_enter Tryz.func19, Tryz.ntmps19
      go_wp2_with fail
      refine (widthsIn_any sa cs s _ HS.out hsl).mono ?_
      rintro e w1 ⟨b1, hpo⟩
      rw [HB.out] at hpo
      obtain ⟨bm, hbm, rfl, om⟩ := hpo
      have B1 := Lib.hid b1; clear b1 om
      go_wp2_with fail
      refine (treeOfQ_any ao c p hp _ (HP.out.below B1.out)).mono ?_
      intro e w2 hpost
      rw [HT.out] at hpost
      obtain ⟨rfl, b2⟩ := hpost
      have B2 := Lib.hid (below_step B1.out (Nat.le_refl _) b2); clear b2
      go_wp2_with fail
      refine (widthNil_any _ _).mono ?_
      rintro e w' ⟨rfl, rfl⟩
      go_wp2_with fail
      go_ret
      rw [E.out]
      exact ⟨rfl, B2.out⟩
    | some T =>
      have E := Lib.hid (widO_some hs ht); have HT := Lib.hid ht
      have ND := Lib.hid (growT_nodes p _ _ _ (treeN_at ht))
      clear hs ht
      go_enter Tryz.func19, Tryz.ntmps19
      go_wp2_with fail
      refine (widthsIn_any sa cs s _ HS.out hsl).mono ?_
      rintro e w1 ⟨b1, hpo⟩
      rw [HB.out] at hpo
      obtain ⟨bm, hbm, rfl, om⟩ := hpo
      have B1 := Lib.hid b1; have OM := Lib.hid om; clear b1 om
      go_wp2_with fail
      refine (treeOfQ_any ao c p hp _ (HP.out.below B1.out)).mono ?_
      intro e w2 hpost
      rw [HT.out] at hpost
      obtain ⟨b, rfl, tr, b2⟩ := hpost
      have B2 := Lib.hid (below_step B1.out (Nat.le_refl _) b2)
      have OM2 := Lib.hid (OM.out.below b2)
      have WT := Lib.hid (width_any w1 (fnOf s) FO.out bm 8 T w2 _ _ b tr (Nat.le_refl _) b2 OM2.out ND.out)
      clear b2 tr
      generalize widT (fnOf s) T = res at WT E
      go_wp2_with fail
      refine WT.out.mono ?_
      rintro e w3 ⟨rfl, b3⟩
      have B3 := Lib.hid (below_step B2.out (Nat.le_refl _) b3); clear b3
      go_wp2_with fail
      go_ret
      rw [E.out]
      exact ⟨rfl, B3.out⟩

/-- What TypedOk answers. -/
def typB (s : List Tb) (p : List Nd) : Bool := widO s p != -1
end Go.Proofs.YtdkiaahcmoafdaaGreat
namespace Go.Proofs.YtdkiaahcmoafdaaGreat
open Go.RowKit
set_option linter.unusedSimpArgs false
set_option linter.unusedVariables false

/-- Seven cells of a list of cells, as a node. -/
structure NdC (xs : List Value) (o : Nat) (n : Nd) (a : Option Addr) (c : Nat) : Prop where
  c0 : xs[o]? = some (.int .i64 n.kind)
  c1 : xs[o + 1]? = some (.string n.name)
  c2 : xs[o + 2]? = some (.int .i64 n.col)
  c3 : xs[o + 3]? = some (.int .i64 n.op)
  c4 : xs[o + 4]? = some (.int .i64 n.num)
  c5 : xs[o + 5]? = some (.bool n.slot)
  c6 : xs[o + 6]? = some (.slice a n.cols.length c)

/-- The first j nodes of l lie in the row g of the call's own. -/
structure PartN (w : World) (base g c m : Nat) (l : List Nd) (j : Nat) (xs : List Value) (A : Nat → Option Addr) (C : Nat → Nat) : Prop where
  own : w.ownsRow base 45 7 (.slice (some ⟨g, 0, none⟩) m c) m xs
  cells : ∀ (i : Nat) (n : Nd), i < j → l[i]? = some n → NdC xs (i * 7) n (A i) (C i)
  cols : ∀ (i : Nat) (n : Nd), i < j → l[i]? = some n → Own w base 3 .i64 (A i) (C i) n.cols
  name : ∀ (i : Nat) (n : Nd), i < j → l[i]? = some n → n.name.size ≤ maxLen
  row : ∀ (i : Nat) (x : Addr), i < j → i < l.length → A i = some x → x.block ≠ g
  apart : ∀ (i k : Nat) (x y : Addr), i < j → k < j → i < l.length → k < l.length → i ≠ k → A i = some x → A k = some y → x.block ≠ y.block

/-- A slice of nodes of the call's own. -/
def OwnN (w : World) (base : Nat) (ao : Option Addr) (c : Nat) (l : List Nd) : Prop :=
  l = [] ∨ ∃ g xs A C, ao = some ⟨g, 0, none⟩ ∧ PartN w base g c l.length l l.length xs A C

/-- The call returned a slice of nodes of its own, and nothing that was there has turned. -/
def MadeN (w : World) (l : List Nd) (en : Ending) (w' : World) : Prop :=
  ∃ ao c, en = .returned (.slice ao l.length c) ∧ OwnN w' w.heap.size ao c l ∧ Below w.heap.size w w'

/-- The call returned a slice of nodes of its own, a row even where there are none, and nothing that was there has turned. -/
def MadeP (w : World) (l : List Nd) (en : Ending) (w' : World) : Prop :=
  ∃ g c xs A C, en = .returned (.slice (some ⟨g, 0, none⟩) l.length c) ∧ PartN w' w.heap.size g c l.length l l.length xs A C ∧ Below w.heap.size w w'
theorem MadeP.made {w w' : World} {l : List Nd} {en : Ending} (h : MadeP w l en w') : MadeN w l en w' := by
  obtain ⟨g, c, xs, A, C, he, hp, hb⟩ := h
  exact ⟨_, c, he, .inr ⟨g, xs, A, C, rfl, hp⟩, hb⟩

theorem owns_block {w : World} {base : Nat} {e : TypeId} {size g c m : Nat} {xs : List Value} (h : w.ownsRow base e size (.slice (some ⟨g, 0, none⟩) m c) m xs) : base ≤ g ∧ g < w.heap.size :=
  h.lt g rfl
theorem owns_keep {w w' : World} {base : Nat} {e : TypeId} {size g c m : Nat} {xs : List Value} (h : w.ownsRow base e size (.slice (some ⟨g, 0, none⟩) m c) m xs) (hk : w'.heap[g]? = w.heap[g]?) : w'.ownsRow base e size (.slice (some ⟨g, 0, none⟩) m c) m xs := by
  refine ⟨h.1, ?_⟩
  rcases h.2 with h2 | ⟨g', cap, cur, hv, hb, hg, r⟩
  · exact .inl h2
  · refine .inr ⟨g', cap, cur, hv, hb, ?_, r⟩
    simp only [Value.slice.injEq, Option.some.injEq, Addr.mk.injEq, and_true] at hv
    rw [← hv.1, hk, hv.1]; exact hg
theorem owns_base {w : World} {base base' : Nat} {e : TypeId} {size g c m : Nat} {xs : List Value} (h : w.ownsRow base e size (.slice (some ⟨g, 0, none⟩) m c) m xs) (hb : base' ≤ base) : w.ownsRow base' e size (.slice (some ⟨g, 0, none⟩) m c) m xs := by
  refine ⟨h.1, ?_⟩
  rcases h.2 with h2 | ⟨g', cap, cur, hv, hb', r⟩
  · exact .inl h2
  · exact .inr ⟨g', cap, cur, hv, Nat.le_trans hb hb', r⟩

section
variable {w w' : World} {base g c m : Nat} {l : List Nd} {j : Nat} {xs : List Value} {A : Nat → Option Addr} {C : Nat → Nat}

theorem PartN.below (h : PartN w base g c m l j xs A C) (hb : Below w.heap.size w w') : PartN w' base g c m l j xs A C :=
  ⟨owns_keep h.own (hb.block _ (owns_block h.own).2), h.cells, fun i n hi hn => (h.cols i n hi hn).below hb, h.name, h.row, h.apart⟩
theorem PartN.base_le {base' : Nat} (h : PartN w base g c m l j xs A C) (hb : base' ≤ base) : PartN w base' g c m l j xs A C :=
  ⟨owns_base h.own hb, h.cells, fun i n hi hn => (h.cols i n hi hn).base_le hb, h.name, h.row, h.apart⟩
theorem PartN.cellAt (h : PartN w base g c m l j xs A C) {o : Nat} (ho : o < m * 7) : w.cell? ⟨g, o, none⟩ = xs[o]? := World.ownsRow.cellAt h.own o ho
theorem PartN.some_ (h : PartN w base g c m l j xs A C) {o : Nat} (ho : o < m * 7) : ∃ y, w.cell? ⟨g, o, none⟩ = some y := by
  have hl : o < xs.length := by rw [h.own.1]; exact ho
  exact ⟨xs[o], by rw [h.cellAt ho, List.getElem?_eq_getElem hl]⟩
theorem PartN.frozen (h : PartN w base g c m l j xs A C) (o : Nat) : w.frozen? ⟨g, o, none⟩ = false := World.ownsRow.frozenAt h.own o
theorem PartN.at_ (h : PartN w base g c m l j xs A C) {i : Nat} {n : Nd} (hi : i < j) (hm : i < m) (hn : l[i]? = some n) : NdAt w g (0 + i * 7) n (A i) (C i) := by
  have hc := h.cells i n hi hn
  have ho := h.cols i n hi hn
  rw [Nat.zero_add]
  exact ⟨(h.cellAt (by omega)).trans hc.c0, (h.cellAt (by omega)).trans hc.c1, (h.cellAt (by omega)).trans hc.c2, (h.cellAt (by omega)).trans hc.c3, (h.cellAt (by omega)).trans hc.c4, (h.cellAt (by omega)).trans hc.c5,
    (h.cellAt (by omega)).trans hc.c6, ho.rd, ho.cap_ge, ho.cap_le, h.name i n hi hn⟩

theorem get_set7 {xs : List Value} {o k : Nat} {v0 v1 v2 v3 v4 v5 v6 : Value} (h : k < o ∨ o + 6 < k) :
    (((((((xs.set o v0).set (o + 1) v1).set (o + 2) v2).set (o + 3) v3).set (o + 4) v4).set (o + 5) v5).set (o + 6) v6)[k]? = xs[k]? := by
  rw [List.getElem?_set_ne (by omega), List.getElem?_set_ne (by omega), List.getElem?_set_ne (by omega), List.getElem?_set_ne (by omega), List.getElem?_set_ne (by omega), List.getElem?_set_ne (by omega), List.getElem?_set_ne (by omega)]

/-- The world in which a node is stored into the row. -/
def put7 (w : World) (g o : Nat) (n : Nd) (a : Option Addr) (c : Nat) : World :=
  ((((((w.setCell ⟨g, o, none⟩ (.int .i64 n.kind)).setCell ⟨g, o + 1, none⟩ (.string n.name)).setCell ⟨g, o + 2, none⟩ (.int .i64 n.col)).setCell ⟨g, o + 3, none⟩ (.int .i64 n.op)).setCell ⟨g, o + 4, none⟩ (.int .i64 n.num)).setCell ⟨g, o + 5, none⟩ (.bool n.slot)).setCell ⟨g, o + 6, none⟩ (.slice a n.cols.length c)

theorem put7_block {o : Nat} {n : Nd} {a : Option Addr} {c i : Nat} (h : i ≠ g) : (put7 w g o n a c).heap[i]? = w.heap[i]? := by
  unfold put7
  rw [Below.heap_setCell _ _ _ i h, Below.heap_setCell _ _ _ i h, Below.heap_setCell _ _ _ i h, Below.heap_setCell _ _ _ i h, Below.heap_setCell _ _ _ i h, Below.heap_setCell _ _ _ i h, Below.heap_setCell _ _ _ i h]
theorem put7_below {B : Nat} {a0 : World} {o : Nat} {n : Nd} {a : Option Addr} {c : Nat} (h : Below B a0 w) (hB : B ≤ g) : Below B a0 (put7 w g o n a c) :=
  ((((((h.setCell hB _).setCell hB _).setCell hB _).setCell hB _).setCell hB _).setCell hB _).setCell hB _

/-- A node more is stored behind those that lie there. -/
theorem PartN.put (h : PartN w base g c m l j xs A C) {w1 : World} {n : Nd} {a1 : Option Addr} {c1 : Nat} (hj : j < m) (hn : l[j]? = some n) (hb : Below w.heap.size w w1)
    (ho : Own w1 w.heap.size 3 .i64 a1 c1 n.cols) (hbase : base ≤ w.heap.size) (hs : n.name.size ≤ maxLen) :
    ∃ xs', PartN (put7 w1 g (j * 7) n a1 c1) base g c m l (j + 1) xs' (fun i => if i = j then a1 else A i) (fun i => if i = j then c1 else C i) := by
  have hg := (owns_block h.own).2
  have h1 := h.below hb
  have s0 := (h1.own.stored (j * 7) (.int .i64 n.kind)).1
  have s1 := (s0.stored (j * 7 + 1) (.string n.name)).1
  have s2 := (s1.stored (j * 7 + 2) (.int .i64 n.col)).1
  have s3 := (s2.stored (j * 7 + 3) (.int .i64 n.op)).1
  have s4 := (s3.stored (j * 7 + 4) (.int .i64 n.num)).1
  have s5 := (s4.stored (j * 7 + 5) (.bool n.slot)).1
  have s6 := (s5.stored (j * 7 + 6) (.slice a1 n.cols.length c1)).1
  have hlen : xs.length = m * 7 := h.own.1
  refine ⟨_, s6, ?_, ?_, ?_, ?_, ?_⟩
  · intro i n' hi hn'
    by_cases hij : i = j
    · subst hij
      rw [hn] at hn'; cases hn'
      simp only [if_true]
      constructor <;> simp [List.getElem?_set, hlen] <;> omega
    · simp only [if_neg hij]
      have hc := h.cells i n' (by omega) hn'
      exact ⟨(get_set7 (by omega)).trans hc.c0, (get_set7 (by omega)).trans hc.c1, (get_set7 (by omega)).trans hc.c2, (get_set7 (by omega)).trans hc.c3, (get_set7 (by omega)).trans hc.c4, (get_set7 (by omega)).trans hc.c5, (get_set7 (by omega)).trans hc.c6⟩
  · intro i n' hi hn'
    by_cases hij : i = j
    · subst hij
      rw [hn] at hn'; cases hn'
      simp only [if_true]
      exact (ho.keep fun x hx _ => put7_block (by have := (ho.lt x hx).1; omega)).base_le hbase
    · simp only [if_neg hij]
      have hil : i < l.length := by
        rcases Nat.lt_or_ge i l.length with h1 | h1
        · exact h1
        · rw [List.getElem?_eq_none h1] at hn'; cases hn'
      exact (h1.cols i n' (by omega) hn').keep fun x hx _ => put7_block (h.row i x (by omega) hil hx)
  · intro i n' hi hn'
    by_cases hij : i = j
    · subst hij
      rw [hn] at hn'; cases hn'; exact hs
    · exact h.name i n' (by omega) hn'
  · intro i x hi hil hx
    by_cases hij : i = j
    · subst hij
      simp only [if_true] at hx
      have := (ho.lt x hx).1; omega
    · simp only [if_neg hij] at hx
      exact h.row i x (by omega) hil hx
  · intro i k x y hi hk hil hkl hik hx hy
    have key : ∀ i x, i < j → i < l.length → A i = some x → x.block < w.heap.size := fun i x hi hil hx => ((h.cols i _ hi (List.getElem?_eq_getElem hil)).lt x hx).2
    by_cases hij : i = j
    · subst hij
      simp only [if_true] at hx
      simp only [if_neg (Ne.symm hik)] at hy
      have := (ho.lt x hx).1
      have := key k y (by omega) hkl hy
      omega
    · simp only [if_neg hij] at hx
      by_cases hkj : k = j
      · subst hkj
        simp only [if_true] at hy
        have := (ho.lt y hy).1
        have := key i x (by omega) hil hx
        omega
      · simp only [if_neg hkj] at hy
        exact h.apart i k x y (by omega) (by omega) hil hkl hik hx hy
end

section
variable {w w' : World} {base : Nat} {ao : Option Addr} {c : Nat} {l : List Nd}
theorem OwnN.below (h : OwnN w base ao c l) (hb : Below w.heap.size w w') : OwnN w' base ao c l := by
  rcases h with h | ⟨g, xs, A, C, he, hp⟩
  · exact .inl h
  · exact .inr ⟨g, xs, A, C, he, hp.below hb⟩
theorem OwnN.base_le {base' : Nat} (h : OwnN w base ao c l) (hb : base' ≤ base) : OwnN w base' ao c l := by
  rcases h with h | ⟨g, xs, A, C, he, hp⟩
  · exact .inl h
  · exact .inr ⟨g, xs, A, C, he, hp.base_le hb⟩
theorem OwnN.rd (h : OwnN w base ao c l) : RdN w ao l := by
  rcases h with h | ⟨g, xs, A, C, rfl, hp⟩
  · exact .inl h
  · refine .inr ⟨g, 0, rfl, fun i n hn => ?_⟩
    have hil : i < l.length := by
      rcases Nat.lt_or_ge i l.length with h1 | h1
      · exact h1
      · rw [List.getElem?_eq_none h1] at hn; cases hn
    exact ⟨A i, C i, hp.at_ hil hil hn⟩
end
end Go.Proofs.YtdkiaahcmoafdaaGreat
namespace Go.Proofs.YtdkiaahcmoafdaaGreat
open Go.RowKit
set_option linter.unusedSimpArgs false
set_option linter.unusedVariables false

section
variable {w w' : World} {base g c m : Nat} {l : List Nd} {j : Nat} {xs : List Value} {A : Nat → Option Addr} {C : Nat → Nat}

/-- The seven cells of a node. -/
def ndCells (n : Nd) (a : Option Addr) (c : Nat) : List Value := [.int .i64 n.kind, .string n.name, .int .i64 n.col, .int .i64 n.op, .int .i64 n.num, .bool n.slot, .slice a n.cols.length c]

/-- A node more is appended behind those that lie there: the row is g' now. -/
theorem PartN.app (hx : xs.length = j * 7) (hcells : ∀ (i : Nat) (n : Nd), i < j → l[i]? = some n → NdC xs (i * 7) n (A i) (C i)) (hcols : ∀ (i : Nat) (n : Nd), i < j → l[i]? = some n → Own w' base 3 .i64 (A i) (C i) n.cols)
    (hname : ∀ (i : Nat) (n : Nd), i < j → l[i]? = some n → n.name.size ≤ maxLen)
    (hapart : ∀ (i k : Nat) (x y : Addr), i < j → k < j → i < l.length → k < l.length → i ≠ k → A i = some x → A k = some y → x.block ≠ y.block)
    {g' c' : Nat} {n : Nd} {a1 : Option Addr} {c1 : Nat} (hn : l[j]? = some n) (ho : w'.ownsRow base 45 7 (.slice (some ⟨g', 0, none⟩) (j + 1) c') (j + 1) (xs ++ ndCells n a1 c1))
    (h1 : Own w' base 3 .i64 a1 c1 n.cols) (hs : n.name.size ≤ maxLen)
    (hrow : ∀ (i : Nat) (x : Addr), i < j → i < l.length → A i = some x → x.block ≠ g') (hrow1 : ∀ x, a1 = some x → x.block ≠ g')
    (hap1 : ∀ (i : Nat) (x y : Addr), i < j → i < l.length → A i = some x → a1 = some y → x.block ≠ y.block) :
    PartN w' base g' c' (j + 1) l (j + 1) (xs ++ ndCells n a1 c1) (fun i => if i = j then a1 else A i) (fun i => if i = j then c1 else C i) := by
  refine ⟨ho, ?_, ?_, ?_, ?_, ?_⟩
  · intro i n' hi hn'
    by_cases hij : i = j
    · subst hij
      rw [hn] at hn'; cases hn'
      simp only [if_true]
      constructor <;> rw [List.getElem?_append_right (by omega)] <;> simp [ndCells, hx]
    · simp only [if_neg hij]
      have hc := hcells i n' (by omega) hn'
      exact ⟨by rw [List.getElem?_append_left (by omega)]; exact hc.c0, by rw [List.getElem?_append_left (by omega)]; exact hc.c1, by rw [List.getElem?_append_left (by omega)]; exact hc.c2, by rw [List.getElem?_append_left (by omega)]; exact hc.c3, by rw [List.getElem?_append_left (by omega)]; exact hc.c4, by rw [List.getElem?_append_left (by omega)]; exact hc.c5, by rw [List.getElem?_append_left (by omega)]; exact hc.c6⟩
  · intro i n' hi hn'
    by_cases hij : i = j
    · subst hij
      rw [hn] at hn'; cases hn'
      simp only [if_true]; exact h1
    · simp only [if_neg hij]; exact hcols i n' (by omega) hn'
  · intro i n' hi hn'
    by_cases hij : i = j
    · subst hij; rw [hn] at hn'; cases hn'; exact hs
    · exact hname i n' (by omega) hn'
  · intro i x hi hil hx'
    by_cases hij : i = j
    · subst hij; simp only [if_true] at hx'; exact hrow1 x hx'
    · simp only [if_neg hij] at hx'; exact hrow i x (by omega) hil hx'
  · intro i k x y hi hk hil hkl hik hx' hy'
    by_cases hij : i = j
    · subst hij
      simp only [if_true] at hx'
      simp only [if_neg (Ne.symm hik)] at hy'
      exact Ne.symm (hap1 k y x (by omega) hkl hy' hx')
    · simp only [if_neg hij] at hx'
      by_cases hkj : k = j
      · subst hkj; simp only [if_true] at hy'; exact hap1 i x y (by omega) hil hx' hy'
      · simp only [if_neg hkj] at hy'; exact hapart i k x y (by omega) (by omega) hil hkl hik hx' hy'

/-- The columns of the next node become the call's own. -/
theorem PartN.own1 (h : PartN w base g c m l j xs A C) {w1 : World} {n : Nd} {a0 a1 : Option Addr} {c0 c1 : Nat} (hj : j < m) (hn : l[j]? = some n) (hb : Below w.heap.size w w1)
    (hc : NdC xs (j * 7) n a0 c0) (ho : Own w1 w.heap.size 3 .i64 a1 c1 n.cols) (hbase : base ≤ w.heap.size) (hs : n.name.size ≤ maxLen) :
    PartN (w1.setCell ⟨g, j * 7 + 6, none⟩ (.slice a1 n.cols.length c1)) base g c m l (j + 1) (xs.set (j * 7 + 6) (.slice a1 n.cols.length c1)) (fun i => if i = j then a1 else A i) (fun i => if i = j then c1 else C i) := by
  have hg := (owns_block h.own).2
  have h1 := h.below hb
  have hlen : xs.length = m * 7 := h.own.1
  have key : ∀ i, i ≠ j * 7 + 6 → (xs.set (j * 7 + 6) (.slice a1 n.cols.length c1))[i]? = xs[i]? := fun i hi => List.getElem?_set_ne (by omega)
  refine ⟨(h1.own.stored (j * 7 + 6) _).1, ?_, ?_, ?_, ?_, ?_⟩
  · intro i n' hi hn'
    by_cases hij : i = j
    · subst hij
      rw [hn] at hn'; cases hn'
      simp only [if_true]
      exact ⟨(key _ (by omega)).trans hc.c0, (key _ (by omega)).trans hc.c1, (key _ (by omega)).trans hc.c2, (key _ (by omega)).trans hc.c3, (key _ (by omega)).trans hc.c4, (key _ (by omega)).trans hc.c5, by rw [List.getElem?_set_self (by omega)]⟩
    · simp only [if_neg hij]
      have hc' := h.cells i n' (by omega) hn'
      exact ⟨(key _ (by omega)).trans hc'.c0, (key _ (by omega)).trans hc'.c1, (key _ (by omega)).trans hc'.c2, (key _ (by omega)).trans hc'.c3, (key _ (by omega)).trans hc'.c4, (key _ (by omega)).trans hc'.c5, (key _ (by omega)).trans hc'.c6⟩
  · intro i n' hi hn'
    by_cases hij : i = j
    · subst hij
      rw [hn] at hn'; cases hn'
      simp only [if_true]
      exact (ho.far (fun x hx => by have := (ho.lt x hx).1; simp only; omega) _).base_le hbase
    · simp only [if_neg hij]
      have hil : i < l.length := by
        rcases Nat.lt_or_ge i l.length with h1 | h1
        · exact h1
        · rw [List.getElem?_eq_none h1] at hn'; cases hn'
      exact (h1.cols i n' (by omega) hn').far (fun x hx => h.row i x (by omega) hil hx) _
  · intro i n' hi hn'
    by_cases hij : i = j
    · subst hij
      rw [hn] at hn'; cases hn'; exact hs
    · exact h.name i n' (by omega) hn'
  · intro i x hi hil hx
    by_cases hij : i = j
    · subst hij
      simp only [if_true] at hx
      have := (ho.lt x hx).1; omega
    · simp only [if_neg hij] at hx
      exact h.row i x (by omega) hil hx
  · intro i k x y hi hk hil hkl hik hx hy
    have key : ∀ i x, i < j → i < l.length → A i = some x → x.block < w.heap.size := fun i x hi hil hx => ((h.cols i _ hi (List.getElem?_eq_getElem hil)).lt x hx).2
    by_cases hij : i = j
    · subst hij
      simp only [if_true] at hx
      simp only [if_neg (Ne.symm hik)] at hy
      have := (ho.lt x hx).1
      have := key k y (by omega) hkl hy
      omega
    · simp only [if_neg hij] at hx
      by_cases hkj : k = j
      · subst hkj
        simp only [if_true] at hy
        have := (ho.lt y hy).1
        have := key i x (by omega) hil hx
        omega
      · simp only [if_neg hkj] at hy
        exact h.apart i k x y (by omega) (by omega) hil hkl hik hx hy
end
theorem nodes_ind {l : List Nd} {P : Nat → Nd → Option Addr → Nat → Prop} (h : ∀ i n, l[i]? = some n → ∃ a c, P i n a c) : ∃ (A : Nat → Option Addr) (C : Nat → Nat), ∀ i n, l[i]? = some n → P i n (A i) (C i) := by
  have key : ∀ i, ∃ ac : Option Addr × Nat, ∀ n, l[i]? = some n → P i n ac.1 ac.2 := by
    intro i
    cases hn : l[i]? with
    | none => exact ⟨(none, 0), fun n hh => by cases hh⟩
    | some n =>
      obtain ⟨a, c, hp⟩ := h i n hn
      exact ⟨(a, c), fun m hh => by cases hh; exact hp⟩
  obtain ⟨f, hf⟩ := Classical.axiomOfChoice key
  exact ⟨fun i => (f i).1, fun i => (f i).2, fun i n hn => hf i n hn⟩

/-- The cells of a slice of nodes, one behind the other. -/
def allCells : List Nd → (Nat → Option Addr) → (Nat → Nat) → List Value
  | [], _, _ => []
  | n :: l, A, C => ndCells n (A 0) (C 0) ++ allCells l (fun i => A (i + 1)) (fun i => C (i + 1))
theorem allCells_len : ∀ (l : List Nd) (A : Nat → Option Addr) (C : Nat → Nat), (allCells l A C).length = l.length * 7
  | [], _, _ => rfl
  | n :: l, A, C => by simp [allCells, ndCells, allCells_len l]; omega
theorem allCells_get : ∀ (l : List Nd) (A : Nat → Option Addr) (C : Nat → Nat) (i : Nat) (n : Nd), l[i]? = some n → ∀ t, t < 7 → (allCells l A C)[i * 7 + t]? = (ndCells n (A i) (C i))[t]?
  | [], _, _, i, n, h, _, _ => by simp at h
  | m :: l, A, C, 0, n, h, t, ht => by
    simp at h; subst h
    simp only [allCells]
    rw [List.getElem?_append_left (by simp [ndCells]; omega)]; simp
  | m :: l, A, C, i + 1, n, h, t, ht => by
    simp only [List.getElem?_cons_succ] at h
    simp only [allCells]
    rw [List.getElem?_append_right (by simp [ndCells]; omega)]
    rw [show (i + 1) * 7 + t - (ndCells m (A 0) (C 0)).length = i * 7 + t by simp [ndCells]; omega]
    exact allCells_get l _ _ i n h t ht
theorem allCells_one : ∀ (l : List Nd) (A : Nat → Option Addr) (C : Nat → Nat), ∀ u ∈ allCells l A C, u.oneCell' = true
  | [], _, _, u, h => by cases h
  | n :: l, A, C, u, h => by
    simp only [allCells, List.mem_append] at h
    rcases h with h | h
    · simp [ndCells] at h; rcases h with rfl | rfl | rfl | rfl | rfl | rfl | rfl <;> rfl
    · exact allCells_one l _ _ u h
theorem allCells_cell {w : World} {b off : Nat} {A : Nat → Option Addr} {C : Nat → Nat} {l : List Nd} (h : ∀ i n, l[i]? = some n → NdAt w b (off + i * 7) n (A i) (C i)) :
    ∀ j u, (allCells l A C)[j]? = some u → w.cell? ⟨b, off + j, none⟩ = some u := by
  intro j u hu
  have hj : j < l.length * 7 := by
    rcases Nat.lt_or_ge j (allCells l A C).length with h1 | h1
    · rwa [allCells_len] at h1
    · rw [List.getElem?_eq_none h1] at hu; cases hu
  have hq : j / 7 < l.length := by omega
  have hd := h (j / 7) _ (List.getElem?_eq_getElem hq)
  have e := allCells_get l A C (j / 7) _ (List.getElem?_eq_getElem hq) (j % 7) (by omega)
  rw [show j / 7 * 7 + j % 7 = j by omega] at e
  rw [e] at hu
  have hm : j % 7 = 0 ∨ j % 7 = 1 ∨ j % 7 = 2 ∨ j % 7 = 3 ∨ j % 7 = 4 ∨ j % 7 = 5 ∨ j % 7 = 6 := by omega
  have hoff : off + j = off + j / 7 * 7 + j % 7 := by omega
  rw [hoff]
  rcases hm with hm | hm | hm | hm | hm | hm | hm <;> rw [hm] at hu ⊢ <;> simp [ndCells] at hu <;> rw [← hu]
  · exact hd.c0
  · exact hd.c1
  · exact hd.c2
  · exact hd.c3
  · exact hd.c4
  · exact hd.c5
  · exact hd.c6
end Go.Proofs.YtdkiaahcmoafdaaGreat
namespace Go.Proofs.YtdkiaahcmoafdaaGreat
open Go.RowKit
set_option linter.unusedSimpArgs false
set_option linter.unusedVariables false

theorem Tryz.infoNode : (Tryz.prog.info? 45).map (fun i => (i.zero, i.size, i.bytes)) = some (some (.agg #[.int .i64 0, .string ⟨#[]⟩, .int .i64 0, .int .i64 0, .int .i64 0, .bool false, .slice none 0 0]), 7, 80) := by kernel_rfl

set_option maxRecDepth 100000 in
set_option maxHeartbeats 1600000 in
theorem toNodeSP_any (ao : Option Addr) (c : Nat) (l : List Nd) (w : World) (h : RdN w ao l) (hl : l.length ≤ 1048576) (hc : ∀ n ∈ l, n.cols.length ≤ 1048576) :
    Calls Tryz.prog 8 #[.slice ao l.length c] w (MadeP w l) := by
  obtain ⟨i0, hi, hz0, hz1, hz2⟩ := info_parts Tryz.infoNode
  have H := Lib.hid h; clear h
  have HC := Lib.hid hc; clear hc
  go_enter Tryz.func8, Tryz.ntmps8
  go_wp2_with (at_make; refine wpList_make_full _ rfl (.tmp 6) (.tmp 6) 29 rfl w.heap.size 45 i0 _ 7 Tryz.underlying29 hi hz0 hz1 .i64 .i64 _ _ l.length rfl rfl rfl rfl (by rw [hz2]; omega) (by unfold maxLen; omega) (Nat.le_refl _) ?_; intro w1 hown hgrow)
  have hbel : Below w.heap.size w w1 := below_of_grown hgrow (Nat.le_refl _) (by intro g hg; cases hg)
  clear hgrow hi hz0 hz1 hz2
  have P0 : Hid (∃ xs A C, PartN w1 w.heap.size w.heap.size l.length l.length l 0 xs A C) :=
    ⟨_, fun _ => none, fun _ => 0, hown, fun i n hi => absurd hi (Nat.not_lt_zero _), fun i n hi => absurd hi (Nat.not_lt_zero _), fun i n hi => absurd hi (Nat.not_lt_zero _), fun i x hi => absurd hi (Nat.not_lt_zero _), fun i k x y hi => absurd hi (Nat.not_lt_zero _)⟩
  clear hown
  go_loopw [4] (fun i wr => ∃ j : Nat, j ≤ l.length ∧ i = .int .i64 j ∧ (∃ xs A C, PartN wr w.heap.size w.heap.size l.length l.length l j xs A C) ∧ Below w.heap.size w wr) (fun i _ => l.length - (intOf i).toNat)
  case atStart => exact ⟨0, Nat.zero_le _, rfl, P0.out, hbel⟩
  case round =>
    clear P0 hbel
    obtain ⟨j, hj, rfl, ⟨xs, A, C, hp⟩, hb⟩ := hrel
    by_cases hlt : j < l.length
    · obtain ⟨b, off, n, a, c', rfl, hn, hat⟩ := (H.out.below hb).at_ hlt
      have hcl := HC.out n (List.mem_of_getElem? hn)
      have HN := Lib.hid hn; clear hn
      have HB := Lib.hid hb; clear hb
      have HP := Lib.hid hp; clear hp
      obtain ⟨c0, c1, c2, c3, c4, c5, c6, rd, cap, mx, nm⟩ := hat
      have RD := Lib.hid rd; clear rd cap mx
      have T := Lib.hid (toNode_any n a c')
      go_wp2_with fail
      refine (T.out _ RD.out (by omega)).mono ?_
      rintro e w2 ⟨a2, c2', rfl, o2, b2⟩
      have hg : w.heap.size < w2.heap.size := Nat.lt_of_lt_of_le (owns_block HP.out.own).2 b2.size
      have HP2 := Lib.hid (HP.out.below b2)
      obtain ⟨y0, e0⟩ := HP2.out.some_ (o := j * 7) (by omega)
      obtain ⟨y1, e1⟩ := HP2.out.some_ (o := j * 7 + 1) (by omega)
      obtain ⟨y2, e2⟩ := HP2.out.some_ (o := j * 7 + 2) (by omega)
      obtain ⟨y3, e3⟩ := HP2.out.some_ (o := j * 7 + 3) (by omega)
      obtain ⟨y4, e4⟩ := HP2.out.some_ (o := j * 7 + 4) (by omega)
      obtain ⟨y5, e5⟩ := HP2.out.some_ (o := j * 7 + 5) (by omega)
      obtain ⟨y6, e6⟩ := HP2.out.some_ (o := j * 7 + 6) (by omega)
      have hf := HP2.out.frozen
      have R := Lib.hid (HP.out.put hlt HN.out b2 o2 HB.out.size nm)
      have T2 := Lib.hid (put7_below (g := w.heap.size) (o := j * 7) (n := n) (a := a2) (c := c2') (below_step HB.out (Nat.le_refl _) b2) (Nat.le_refl _))
      clear o2 b2 c0 c1 c2 c3 c4 c5 c6
      go_wp2_with fail
      go_roundw
      case rel => exact ⟨j + 1, by omega, by go_num, ⟨_, _, _, R.out.choose_spec⟩, T2.out⟩
      case measure => simp [intOf]; omega
    · obtain rfl : j = l.length := by omega
      have HB := Lib.hid hb; clear hb
      have HP := Lib.hid hp; clear hp
      go_wp2_with fail
      go_ret
      exact ⟨_, _, _, _, _, rfl, HP.out, HB.out⟩
theorem toNodeS_any (ao : Option Addr) (c : Nat) (l : List Nd) (w : World) (h : RdN w ao l) (hl : l.length ≤ 1048576) (hc : ∀ n ∈ l, n.cols.length ≤ 1048576) :
    Calls Tryz.prog 8 #[.slice ao l.length c] w (MadeN w l) := (toNodeSP_any ao c l w h hl hc).mono fun _ _ h => h.made
end Go.Proofs.YtdkiaahcmoafdaaGreat
namespace Go.Proofs.YtdkiaahcmoafdaaGreat
open Go.RowKit
set_option linter.unusedSimpArgs false
set_option linter.unusedVariables false

/-- 'append(xs, n)' at a row of nodes of the call's own. -/
theorem wpList_appendN {P : Program} (w : World) {ops : Array Oper} {rest : List Oper} {o : Oper} {a : Act} {Q : Exit → Act → World → Prop} (hgd : o.guard = none) (s x : Operand) (t : TypeId)
    (ho : o.op = .call { callee := .builtin .append, args := #[s, x], argTypes := #[t, t] }) (base : Nat) {e : TypeId} {z : Value} (ht : P.underlying t = some (.slice e))
    (hi : (P.info? e).map (fun i => (i.zero, i.size, i.bytes)) = some (some z, 7, 80)) (g cc j : Nat) (xs : List Value) (hs : a.eval s = .slice (some ⟨g, 0, none⟩) j cc)
    (hown : w.ownsRow base e 7 (.slice (some ⟨g, 0, none⟩) j cc) j xs) (bl : Nat) (n : Nd) (a2 : Option Addr) (c2 : Nat) (hx : a.eval x = .slice (some ⟨bl, 0, none⟩) 1 1)
    (hc : ∀ t u, (ndCells n a2 c2)[t]? = some u → w.cell? ⟨bl, t, none⟩ = some u) (hj : j ≤ 1048576) (hbase : base ≤ w.heap.size) (hz : z.cells.size = 7)
    (h : ∀ v' w', w'.ownsRow base e 7 v' (j + 1) (xs ++ ndCells n a2 c2) → w.grownBy w' (some g) → (v'.ownBlock = some g ∨ v'.ownBlock = some w.heap.size) → wpList P ops Q rest (a.put o.dst v') w') :
    wpList P ops Q (o :: rest) a w := by
  obtain ⟨i, hi0, hz0, hz1, hz2⟩ := info_parts hi
  refine wpList_append_own_at w hgd s x t ho base e i z 7 80 ht hi0 hz0 hz1 hz2 hz (by omega) _ j xs hs hown ⟨bl, 0, none⟩ 1 1 (ndCells n a2 c2) hx (by simp [ndCells]) ?_ ?_ (by unfold maxLen; omega) (by omega) hbase ?_
  · intro t u hu
    have := hc t u hu
    unfold Addr.add
    split
    · rename_i h0; subst h0; exact this
    · simpa using this
  · intro u hu
    simp [ndCells] at hu
    rcases hu with rfl | rfl | rfl | rfl | rfl | rfl | rfl <;> rfl
  · intro v' w' h1 h2 _ h4
    exact h v' w' h1 h2 h4
theorem cells_new (w : World) (n : Nd) (a2 : Option Addr) (c2 : Nat) : ∀ t u, (ndCells n a2 c2)[t]? = some u → (w.alloc (.cells (ndCells n a2 c2).toArray 45)).cell? ⟨w.heap.size, t, none⟩ = some u := by
  intro t u hu
  rw [World.cell?_alloc_new]
  simpa using hu
theorem grown_row {w wr W3 w4 : World} {g : Nat} (hb : Below w.heap.size w wr) (hw : Below wr.heap.size wr W3) (hg : w.heap.size ≤ g) (h : W3.grownBy w4 (some g)) : Below w.heap.size w w4 :=
  (below_step hb (Nat.le_refl _) hw).grown h (Nat.le_trans hb.size hw.size) (by intro g' hg'; cases hg'; exact hg)

/-- One node more of a copy. -/
theorem copy_step {wr W3 w4 : World} {base g cc j : Nat} {l : List Nd} {xs : List Value} {A : Nat → Option Addr} {C : Nat → Nat} {n : Nd} {a2 : Option Addr} {c2 : Nat} {v' : Value}
    (hp : PartN wr base g cc j l j xs A C) (hn : l[j]? = some n) (hs : n.name.size ≤ maxLen) (hb : Below wr.heap.size wr W3) (ho2 : Own W3 wr.heap.size 3 .i64 a2 c2 n.cols) (hbase : base ≤ wr.heap.size)
    (ho : w4.ownsRow base 45 7 v' (j + 1) (xs ++ ndCells n a2 c2)) (hg : W3.grownBy w4 (some g)) (hblk : v'.ownBlock = some g ∨ v'.ownBlock = some W3.heap.size) :
    ∃ g' c4 xs' A' C', v' = .slice (some ⟨g', 0, none⟩) (j + 1) c4 ∧ PartN w4 base g' c4 (j + 1) l (j + 1) xs' A' C' := by
  have hjl : j < l.length := by
    rcases Nat.lt_or_ge j l.length with h1 | h1
    · exact h1
    · rw [List.getElem?_eq_none h1] at hn; cases hn
  have hgb := owns_block hp.own
  have h3 := hp.below hb
  have z3 := hb.size
  rcases ho.2 with ⟨rfl, hz⟩ | ⟨g', c4, cur, rfl, r⟩
  · omega
  · have hg' : g' = g ∨ g' = W3.heap.size := by simpa [Value.ownBlock] using hblk
    have hAlt : ∀ (i : Nat) (x : Addr), i < j → i < l.length → A i = some x → x.block < wr.heap.size := fun i x hi hil hx => ((hp.cols i _ hi (List.getElem?_eq_getElem hil)).lt x hx).2
    refine ⟨g', c4, _, _, _, rfl, PartN.app (A := A) (C := C) hp.own.1 hp.cells ?_ hp.name hp.apart hn ho ?_ hs ?_ ?_ ?_⟩
    · intro i m hi hm
      have hil : i < l.length := by
        rcases Nat.lt_or_ge i l.length with h1 | h1
        · exact h1
        · rw [List.getElem?_eq_none h1] at hm; cases hm
      exact (h3.cols i m hi hm).grown hg (fun x hx => by simp; exact hp.row i x hi hil hx)
    · exact (ho2.grown hg (fun x hx => by have := (ho2.lt x hx).1; simp; omega)).base_le hbase
    · intro i x hi hil hx
      rcases hg' with rfl | rfl
      · exact hp.row i x hi hil hx
      · have := hAlt i x hi hil hx; omega
    · intro x hx
      have h5 := ho2.lt x hx
      rcases hg' with rfl | rfl <;> omega
    · intro i x y hi hil hx hy
      have := hAlt i x hi hil hx
      have := (ho2.lt y hy).1
      omega

end Go.Proofs.YtdkiaahcmoafdaaGreat
namespace Go.Proofs.YtdkiaahcmoafdaaGreat
open Go.RowKit Go.Shelf Go.Lib
set_option linter.unusedSimpArgs false
set_option linter.unusedVariables false

theorem Tryz.sizeNode : ∀ w, (Go.sizeOf 45).run Tryz.prog w = .ok 7 w := fun w => Tryz.sizeOf45 w

/-- What the clone of a slice of nodes gives: the same cells in a row of its own. -/
def Cloned (w : World) (l : List Nd) (A : Nat → Option Addr) (C : Nat → Nat) (e : Ending) (w' : World) : Prop :=
  ∃ ao c, e = .returned (.slice ao l.length c) ∧ (l = [] ∨ ∃ g, ao = some ⟨g, 0, none⟩ ∧ w'.ownsRow w.heap.size 45 7 (.slice ao l.length c) l.length (allCells l A C)) ∧ Below w.heap.size w w'

theorem cloneNode_any (b off c : Nat) (l : List Nd) (A : Nat → Option Addr) (C : Nat → Nat) (w : World) (h : ∀ i n, l[i]? = some n → NdAt w b (off + i * 7) n (A i) (C i)) (hl : l.length ≤ 1048576) :
    Calls Tryz.prog 47 #[.slice (some ⟨b, off, none⟩) l.length c] w (Cloned w l A C) := by
  obtain ⟨i0, hi, hz0, hz1, hz2⟩ := info_parts Tryz.infoNode
  refine (AnyE.slices_Clone Tryz.laysCloneNode i0 _ 7 80 hi hz0 hz1 hz2 rfl (by omega) Tryz.sizeNode b off l.length c (allCells l A C) w (allCells_len l A C) (by unfold maxLen; omega) (by omega) (allCells_cell h) (allCells_one l A C)).mono ?_
  rintro e w' ⟨v', rfl, ho, _, hb⟩
  rcases ho.2 with ⟨rfl, hn⟩ | ⟨g, cap, cur, rfl, r⟩
  · exact ⟨none, 0, by rw [hn], .inl (List.eq_nil_of_length_eq_zero hn), hb⟩
  · exact ⟨_, cap, rfl, .inr ⟨g, rfl, ho⟩, hb⟩

set_option maxRecDepth 100000 in
set_option maxHeartbeats 1600000 in
theorem copyNodes_any (ao : Option Addr) (c : Nat) (l : List Nd) (w : World) (h : RdN w ao l) (hne : l ≠ []) (hl : l.length ≤ 1048576) (hcol : ∀ n ∈ l, n.cols.length ≤ 1048576) :
    Calls Tryz.prog 35 #[.slice ao l.length c] w (MadeN w l) := by
  have HCOL := Lib.hid hcol; clear hcol
  obtain ⟨b, off, rfl, hat⟩ : ∃ b off, ao = some ⟨b, off, none⟩ ∧ ∀ i n, l[i]? = some n → ∃ a c, NdAt w b (off + i * 7) n a c := by
    rcases h with h | h
    · exact absurd h hne
    · exact h
  clear h
  obtain ⟨A0, C0, hA0⟩ := nodes_ind hat
  clear hat
  have HA := Lib.hid hA0; clear hA0
  have HNE := Lib.hid hne; clear hne
  go_enter Tryz.func35, Tryz.ntmps35
  go_wp2_with fail
  refine (cloneNode_any b off c l A0 C0 _ HA.out hl).mono ?_
  rintro e w1 ⟨ao1, c1, rfl, ho, b1⟩
  obtain ⟨g, rfl, ho⟩ : ∃ g, ao1 = some ⟨g, 0, none⟩ ∧ w1.ownsRow w.heap.size 45 7 (.slice ao1 l.length c1) l.length (allCells l A0 C0) := by
    rcases ho with h | h
    · exact absurd h HNE.out
    · exact h
  have P0 : Hid (∃ xs A C, PartN w1 w.heap.size g c1 l.length l 0 xs A C ∧ ∀ i n, 0 ≤ i → l[i]? = some n → NdC xs (i * 7) n (A0 i) (C0 i)) :=
    ⟨_, fun _ => none, fun _ => 0, ⟨ho, fun i n hi => absurd hi (Nat.not_lt_zero _), fun i n hi => absurd hi (Nat.not_lt_zero _), fun i n hi => absurd hi (Nat.not_lt_zero _), fun i x hi => absurd hi (Nat.not_lt_zero _), fun i k x y hi => absurd hi (Nat.not_lt_zero _)⟩, fun i n _ hn => by
      have k := allCells_get l A0 C0 i n hn
      exact ⟨k 0 (by omega), k 1 (by omega), k 2 (by omega), k 3 (by omega), k 4 (by omega), k 5 (by omega), k 6 (by omega)⟩⟩
  have B1 := Lib.hid b1
  clear ho b1
  go_wp2_with fail
  go_loopw [9] (fun i wr => ∃ j : Nat, j ≤ l.length ∧ i = .int .i64 j ∧ (∃ xs A C, PartN wr w.heap.size g c1 l.length l j xs A C ∧ ∀ i n, j ≤ i → l[i]? = some n → NdC xs (i * 7) n (A0 i) (C0 i)) ∧ Below w.heap.size w wr) (fun i _ => l.length - (intOf i).toNat)
  case atStart => exact ⟨0, Nat.zero_le _, rfl, P0.out, B1.out⟩
  case round =>
    clear P0 B1
    obtain ⟨j, hj, rfl, ⟨xs, A, C, hp, hr⟩, hb⟩ := hrel
    by_cases hlt : j < l.length
    · have hn0 : l[j]? = some l[j] := List.getElem?_eq_getElem hlt
      generalize l[j] = n at hn0
      have hcl := HCOL.out n (List.mem_of_getElem? hn0)
      have hat := (HA.out j n hn0).below hb
      have nc := hr j n (Nat.le_refl _) hn0
      have c6 := (hp.cellAt (o := j * 7 + 6) (by omega)).trans nc.c6
      have HN := Lib.hid hn0; have HB := Lib.hid hb; have HP := Lib.hid hp; have HR := Lib.hid hr; have NC := Lib.hid nc; have HAT := Lib.hid hat
      clear hn0 hb hp hr nc hat
      go_wp2_with fail
      refine (libClone_any (A0 j) (C0 j) n.cols _ HAT.out.rd (by omega)).mono ?_
      rintro e w2 ⟨a2, c2, rfl, o2, b2⟩
      obtain ⟨y6, e6⟩ := (HP.out.below b2).some_ (o := j * 7 + 6) (by omega)
      have hf := (HP.out.below b2).frozen
      have R := Lib.hid (HP.out.own1 hlt HN.out b2 NC.out o2 HB.out.size HAT.out.nm)
      have T2 := Lib.hid ((below_step HB.out (Nat.le_refl _) b2).setCell (p := ⟨g, j * 7 + 6, none⟩) (owns_block HP.out.own).1 (.slice a2 n.cols.length c2))
      clear o2 b2 c6
      go_wp2_with fail
      go_roundw
      case rel => exact ⟨j + 1, by omega, by go_num, ⟨_, _, _, R.out, fun i m hi hm => by
        have k := HR.out i m (by omega) hm
        have key : ∀ s, s < 7 → (xs.set (j * 7 + 6) (.slice a2 n.cols.length c2))[i * 7 + s]? = xs[i * 7 + s]? := fun s _ => List.getElem?_set_ne (by omega)
        exact ⟨(key 0 (by omega)).trans k.c0, (key 1 (by omega)).trans k.c1, (key 2 (by omega)).trans k.c2, (key 3 (by omega)).trans k.c3, (key 4 (by omega)).trans k.c4, (key 5 (by omega)).trans k.c5, (key 6 (by omega)).trans k.c6⟩⟩, T2.out⟩
      case measure => simp [intOf]; omega
    · obtain rfl : j = l.length := by omega
      have HB := Lib.hid hb; have HP := Lib.hid hp
      clear hb hp hr
      go_wp2_with fail
      go_ret
      exact ⟨_, _, rfl, .inr ⟨g, xs, A, C, rfl, HP.out⟩, HB.out⟩
set_option maxRecDepth 100000 in
set_option maxHeartbeats 1600000 in
theorem copyNodesNil_any (b off c : Nat) (w : World) :
    Calls Tryz.prog 35 #[.slice (some ⟨b, off, none⟩) 0 c] w (MadeN w []) := by
  go_enter Tryz.func35, Tryz.ntmps35
  go_wp2_with fail
  refine (cloneNode_any b off c [] (fun _ => none) (fun _ => 0) _ (fun i n h => by simp at h) (by simp)).mono ?_
  rintro e w1 ⟨ao1, c1, rfl, _, b1⟩
  have B1 := Lib.hid b1
  clear b1
  go_wp2_with fail
  refine wp_loop_rounds 1 ?_; rw [rounds_succ]
  go_wp2_with fail
  go_ret
  exact ⟨_, _, rfl, .inl rfl, B1.out⟩
theorem copyNodesAt_any (b off c : Nat) (l : List Nd) (w : World) (h : RdN w (some ⟨b, off, none⟩) l) (hl : l.length ≤ 1048576) (hcol : ∀ n ∈ l, n.cols.length ≤ 1048576) :
    Calls Tryz.prog 35 #[.slice (some ⟨b, off, none⟩) l.length c] w (MadeN w l) := by
  cases l with
  | nil => exact copyNodesNil_any b off c w
  | cons n l => exact copyNodes_any _ c (n :: l) w h (by simp) hl hcol
end Go.Proofs.YtdkiaahcmoafdaaGreat
namespace Go.Proofs.YtdkiaahcmoafdaaGreat
open Go.RowKit
set_option linter.unusedSimpArgs false
set_option linter.unusedVariables false

theorem OwnN.cap {w : World} {base : Nat} {ao : Option Addr} {c : Nat} {l : List Nd} (h : OwnN w base ao c l) : l = [] ∨ (l.length ≤ c ∧ c ≤ maxLen) := by
  rcases h with h | ⟨g, xs, A, C, _, hp⟩
  · exact .inl h
  · right
    rcases hp.own.2 with ⟨hv, _⟩ | ⟨g', cap, cur, hv, _, _, h1, h2, _⟩
    · simp at hv
    · simp only [Value.slice.injEq] at hv
      rw [hv.2.2]; exact ⟨h1, h2⟩

/-- The part that begins at a place. -/
def partN (p : List Nd) (k : Int) : List Nd := if goodB p k = true then (p.drop k.toNat).take ((endOfN p k).toNat - k.toNat) else []

/-- What is known of a good place. -/
theorem part_good {p : List Nd} {k : Int} (h : goodB p k = true) : ∃ T S, treeN p = some T ∧ fnd k T = some S ∧ S.pl = k.toNat ∧ endOfN p k = S.en ∧ k.toNat < S.en ∧ S.en ≤ p.length ∧ 0 ≤ k ∧ partN p k = (p.drop k.toNat).take (S.en - k.toNat) ∧ (partN p k).length = S.en - k.toNat := by
  obtain ⟨T, S, ht, hf, hpl, hen, hlt, _, _, h0, h1, _⟩ := good_some h
  have he : endOfN p k = S.en := by unfold endOfN; rw [ht]; simp only; rw [hf]
  have hp : partN p k = (p.drop k.toNat).take (S.en - k.toNat) := by unfold partN; rw [if_pos h, he]; simp
  refine ⟨T, S, ht, hf, hpl, he, hlt, hen, h0, hp, ?_⟩
  rw [hp]; simp; omega
theorem part_mem {p : List Nd} {k : Int} {n : Nd} (h : n ∈ partN p k) : n ∈ p := by
  unfold partN at h
  split at h
  · exact List.mem_of_mem_drop (List.mem_of_mem_take h)
  · cases h
theorem partN_no {p : List Nd} {k : Int} (h : goodB p k = false) : partN p k = [] := by unfold partN; rw [if_neg (by simp [h])]

set_option maxRecDepth 100000 in
set_option maxHeartbeats 1600000 in
theorem implPartOf_any (ao : Option Addr) (c : Nat) (p : List Nd) (hp : Small p) (k : Int) (w : World) (h : RdN w ao p) (hcm : p = [] ∨ (p.length ≤ c ∧ c ≤ maxLen)) :
    Calls Tryz.prog 20 #[.slice ao p.length c, .int .i64 k] w (MadeN w (partN p k)) := by
  have H := Lib.hid h; clear h
  have hpl := hp.1
  have SM := Lib.hid hp; clear hp
  have HCM := Lib.hid hcm; clear hcm
  cases hg : goodB p k with
  | false =>
    have GN := Lib.hid (good_none hg)
    rw [partN_no hg]; clear hg
    go_enter Tryz.func20, Tryz.ntmps20
    go_wp2_with fail
    refine (treeOf_any ao c p SM.out _ H.out).mono ?_
    intro e w1 hpost
    rcases GN.out with ht | ⟨T, ht, hf⟩
    · rw [ht] at hpost
      obtain ⟨rfl, b1⟩ := hpost
      clear ht
      go_wp2_with fail
      refine (findNil_any _ _).mono ?_
      rintro e w' ⟨rfl, rfl⟩
      go_wp2_with fail
      go_ret
      exact ⟨none, 0, rfl, .inl rfl, b1⟩
    · rw [ht] at hpost
      obtain ⟨b, rfl, tr, b1⟩ := hpost
      have TR := Lib.hid tr; have B1 := Lib.hid b1; have HF := Lib.hid hf
      clear ht tr b1 hf
      go_wp2_with fail
      refine (find_any k T _ _ _ b TR.out).mono ?_
      rw [HF.out]
      rintro e w' ⟨rfl, rfl⟩
      go_wp2_with fail
      go_ret
      exact ⟨none, 0, rfl, .inl rfl, B1.out⟩
  | true =>
    obtain ⟨T, S, ht, hf, hSp, _, hlt, hen, h0, hpart, hplen⟩ := part_good hg
    obtain ⟨hc, hm⟩ : p.length ≤ c ∧ c ≤ maxLen := by
      rcases HCM.out with hh | hh
      · subst hh; simp at hen; omega
      · exact hh
    unfold maxLen at hm
    have HPA := Lib.hid hpart; have HPL := Lib.hid hplen; have HT := Lib.hid ht; have HF := Lib.hid hf; have HSP := Lib.hid hSp
    clear hg hpart hplen ht hf hSp
    obtain ⟨b, off, rfl⟩ : ∃ b off, ao = some ⟨b, off, none⟩ := by
      obtain ⟨b, off, _, _, _, rfl, _⟩ := H.out.at_ (i := k.toNat) (by omega); exact ⟨b, off, rfl⟩
    have k1 : S.pl < S.en := by have := HSP.out; omega
    have k2 : (S.en : Int) ≤ (c : Int) := by omega
    have k3 : (S.pl : Int) ≤ (c : Int) := by omega
    have k4 : (S.pl : Int) ≤ (S.en : Int) := by omega
    have hcne : ¬ (c = S.pl) := by omega
    go_enter Tryz.func20, Tryz.ntmps20
    go_wp2_with fail
    refine (treeOf_any _ c p SM.out _ H.out).mono ?_
    rw [HT.out]
    rintro e w1 ⟨bt, rfl, tr, b1⟩
    have TR := Lib.hid tr; have B1 := Lib.hid b1
    clear tr b1
    go_wp2_with fail
    refine (find_any k T _ _ _ bt TR.out).mono ?_
    rw [HF.out]
    rintro e w' ⟨bs, rfl, ts, rfl⟩
    obtain ⟨v, _, _, a, c', c0, c1, c2, c3⟩ := ts.head
    clear ts
    have LC := copyNodes_any (some ⟨b, off + S.pl * 7, none⟩) (c - S.pl) (partN p k) w1.drew (by rw [HPA.out, ← HSP.out]; exact (show RdN w1.drew _ p from H.out.below B1.out.drew).part _ _) (by intro hh; have := HPL.out; rw [hh] at this; simp at this; omega) (by rw [HPL.out]; omega) (fun n hn => SM.out.2 n (part_mem hn))
    rw [HPL.out, ← HSP.out] at LC
    have LC' := Lib.hid LC; clear LC
    go_wp2_with fail
    first | go_region_with (go_at_call 35; (try rw [if_neg hcne]); refine LC'.out.mono ?_; rintro e w3 ⟨a3, c3', rfl, o3, b3⟩; have O3 := Lib.hid (o3.base_le B1.out.drew.size); have B3 := Lib.hid (below_step B1.out.drew (Nat.le_refl _) b3); clear o3 b3) | fail
    all_goals
      go_wp2_with fail
      go_ret
      exact ⟨a3, c3', rfl, O3.out, B3.out⟩
end Go.Proofs.YtdkiaahcmoafdaaGreat
namespace Go.Proofs.YtdkiaahcmoafdaaGreat
set_option linter.unusedSimpArgs false
set_option linter.unusedVariables false

/-- A tree, moved to the front by k. -/
def Tr.shift (k : Nat) : Tr → Tr
  | t0 n p e => t0 n (p - k) (e - k)
  | t1 n p e c => t1 n (p - k) (e - k) (c.shift k)
  | t2 n p e c d => t2 n (p - k) (e - k) (c.shift k) (d.shift k)
theorem Tr.shift_en (k : Nat) (T : Tr) : (T.shift k).en = T.en - k := by cases T <;> rfl
theorem Tr.shift_pl (k : Nat) (T : Tr) : (T.shift k).pl = T.pl - k := by cases T <;> rfl
theorem Tr.shift_nd (k : Nat) (T : Tr) : (T.shift k).nd = T.nd := by cases T <;> rfl
theorem Tr.shift_depth (k : Nat) (T : Tr) : (T.shift k).depth = T.depth := by
  induction T with
  | t0 n p e => rfl
  | t1 n p e c ih => simp only [Tr.shift, Tr.depth, ih]
  | t2 n p e c d ih1 ih2 => simp only [Tr.shift, Tr.depth, ih1, ih2]

theorem part_get {p : List Nd} {k m j : Nat} (h : j < m) : ((p.drop k).take m)[j]? = p[k + j]? := by
  rw [List.getElem?_take_of_lt h, List.getElem?_drop]

theorem growT_part (p : List Nd) (k m : Nat) : ∀ (f j : Nat) (T : Tr), growT p f (k + j) = some T → T.en ≤ k + m → growT ((p.drop k).take m) f j = some (T.shift k) := by
  intro f
  induction f with
  | zero => intro j T h; cases h
  | succ f ih =>
    intro j T h hm
    have hs := growT_sound p _ _ _ h
    have hj : j < m := by omega
    simp only [growT] at h ⊢
    rw [part_get hj]
    cases hp : p[k + j]? with
    | none => rw [hp] at h; cases h
    | some n =>
      rw [hp] at h
      simp only at h ⊢
      cases hn : nodeB n with
      | false => rw [hn, if_pos rfl] at h; cases h
      | true =>
        rw [hn] at h
        simp only [Bool.true_eq_false, if_false] at h ⊢
        split at h
        · rename_i h1
          rw [if_pos h1]
          cases hc : growT p f (k + j + 1) with
          | none => rw [hc] at h; cases h
          | some c =>
            rw [hc] at h; simp only [Option.some.injEq] at h; subst h
            have hcs := growT_sound p _ _ _ hc
            simp only [Tr.en1] at hm
            rw [ih (j + 1) c (by rw [← Nat.add_assoc]; exact hc) hm]
            simp only [Tr.shift_en, Tr.shift]
            congr 2; omega
        · rename_i h1
          rw [if_neg h1]
          split at h
          · rename_i h2
            rw [if_pos h2]
            cases hc : growT p f (k + j + 1) with
            | none => rw [hc] at h; cases h
            | some c =>
              rw [hc] at h; simp only at h
              cases hd : growT p f c.en with
              | none => rw [hd] at h; cases h
              | some d =>
                rw [hd] at h; simp only [Option.some.injEq] at h; subst h
                have hcs := growT_sound p _ _ _ hc
                have hds := growT_sound p _ _ _ hd
                simp only [Tr.en2] at hm
                rw [ih (j + 1) c (by rw [← Nat.add_assoc]; exact hc) (by omega)]
                simp only [Tr.shift_en]
                rw [ih (c.en - k) d (by rw [show k + (c.en - k) = c.en by omega]; exact hd) hm]
                simp only [Tr.shift_en, Tr.shift]
                congr 2; omega
          · rename_i h2
            rw [if_neg h2]
            simp only [Option.some.injEq] at h; subst h
            simp only [Tr.shift]
            congr 2 <;> omega

/-- The part at a place is a plan, its tree is the one that is found there. -/
theorem treeN_part {p : List Nd} {k : Nat} {T S : Tr} (ht : treeN p = some T) (hS : growT p p.length k = some S) (hd : S.depth ≤ 10) : treeN ((p.drop k).take (S.en - k)) = some (S.shift k) := by
  have h40 := (treeN_some ht).1
  have hs := growT_sound p _ _ _ hS
  have hl : ((p.drop k).take (S.en - k)).length = S.en - k := by simp; omega
  have hg := growT_part p k (S.en - k) p.length 0 S (by rw [Nat.add_zero]; exact hS) (by omega)
  rw [growT_fuel _ p.length ((p.drop k).take (S.en - k)).length 0 (by rw [hl]; omega) (by omega)] at hg
  unfold treeN
  rw [if_pos (by rw [hl]; omega), hg]
  simp only
  rw [if_pos ⟨by rw [Tr.shift_en, hl], by rw [Tr.shift_depth]; exact hd⟩]
end Go.Proofs.YtdkiaahcmoafdaaGreat
namespace Go.Proofs.YtdkiaahcmoafdaaGreat
open Go.RowKit
set_option linter.unusedSimpArgs false
set_option linter.unusedVariables false

/-- How many letters and columns there are. -/
def tot (l : List Nd) : Nat := (l.map fun n => n.name.size + n.cols.length).sum
theorem tot_take {l : List Nd} {k : Nat} {n : Nd} (h : l[k]? = some n) : tot (l.take (k + 1)) = tot (l.take k) + (n.name.size + n.cols.length) := by
  have hk : k < l.length := by
    rcases Nat.lt_or_ge k l.length with h1 | h1
    · exact h1
    · rw [List.getElem?_eq_none h1] at h; cases h
  rw [List.take_succ_eq_append_getElem hk]
  have : l[k] = n := by rw [List.getElem?_eq_getElem hk] at h; injection h
  rw [this]; simp [tot]

/-- What szNodeS answers. -/
def SzPost (w : World) (l : List Nd) (left : Int) (e : Ending) (w' : World) : Prop :=
  ∃ r : Int, e = .returned (.int .i64 r) ∧ Below w.heap.size w w' ∧ (r = -1 ∨ (0 ≤ r ∧ r + l.length + tot l = left))

theorem szN_neg {n : Nd} {left : Int} (h : szN n left < 0) (h0 : 0 ≤ left) : szN n left = -1 := by
  unfold szN at h ⊢; split
  · rfl
  · rw [if_neg (by assumption)] at h
    split
    · rfl
    · rw [if_neg (by assumption)] at h; omega
theorem szN_pos {n : Nd} {left : Int} (h : 0 ≤ szN n left) : szN n left + (n.name.size + n.cols.length : Nat) = left := by
  unfold szN at h ⊢; split
  · rw [if_pos (by assumption)] at h; omega
  · rw [if_neg (by assumption)] at h
    split
    · rw [if_pos (by assumption)] at h; omega
    · omega

set_option maxHeartbeats 800000 in
theorem szNodeS_any (ao : Option Addr) (c : Nat) (l : List Nd) (left : Int) (w : World) (h : RdN w ao l) (hl : l.length ≤ maxLen) (h0 : 0 ≤ left) (h1 : left ≤ 1048576) :
    Calls Tryz.prog 5 #[.slice ao l.length c, .int .i64 left] w (SzPost w l left) := by
  have hl' := hl; unfold maxLen at hl'
  have H := Lib.hid h; clear h
  by_cases hlt : left < (l.length : Int)
  · have h2 : left - (l.length : Int) < 0 := by omega
    go_enter Tryz.func5, Tryz.ntmps5
    go_wp2_with fail
    go_ret
    exact ⟨-1, rfl, Below.refl _ _, .inl rfl⟩
  · have h2 : 0 ≤ left - (l.length : Int) := by omega
    have h3 : (l.length : Int) ≤ left := by omega
    clear hl' hl
    go_enter Tryz.func5, Tryz.ntmps5
    go_wp2_with fail
    go_loopw [1, 5] (fun r i wr => ∃ (k : Nat) (q : Int), k ≤ l.length ∧ i = .int .i64 k ∧ r = .int .i64 q ∧ 0 ≤ q ∧ q + l.length + tot (l.take k) = left ∧ Below w.heap.size w wr) (fun _ i _ => l.length - (intOf i).toNat)
    case atStart => exact ⟨0, _, Nat.zero_le _, rfl, rfl, by omega, by simp [tot], Below.refl _ _⟩
    case round =>
      obtain ⟨k, q, hk, rfl, rfl, hq0, hq, hb⟩ := hrel
      have HQ := Lib.hid hq; clear hq
      have hq1 : q ≤ 1048576 := by have := HQ.out; omega
      by_cases hlt2 : k < l.length
      · obtain ⟨b, off, n, a, c', rfl, hn, hat⟩ := (H.out.below hb).at_ hlt2
        have HN := Lib.hid hn; clear hn
        have HB := Lib.hid hb; clear hb
        obtain ⟨c0, c1, c2, c3, c4, c5, c6, rd, cap, mx, nm⟩ := hat
        have RD := Lib.hid rd; clear rd
        have cl : n.cols.length ≤ maxLen := Nat.le_trans cap mx
        have Z := Lib.hid (szNode_any n a c' q)
        clear cap mx
        go_wp2_with fail
        refine (Z.out _ hq0 hq1 cl nm).mono ?_
        rintro e w1 ⟨rfl, b1⟩
        have T1 := Lib.hid (below_step HB.out (Nat.le_refl _) b1)
        clear b1
        by_cases hs : szN n q < 0
        · have S := Lib.hid (szN_neg hs hq0)
          go_wp2_with fail
          go_ret
          exact ⟨-1, rfl, T1.out, .inl rfl⟩
        · have hs' : 0 ≤ szN n q := by omega
          have S := Lib.hid (szN_pos hs')
          clear hs
          generalize szN n q = q' at S hs' ⊢
          go_wp2_with fail
          go_roundw
          case rel => exact ⟨k + 1, q', by omega, by go_num, rfl, hs', by have := S.out; have := HQ.out; rw [tot_take HN.out]; omega, T1.out⟩
          case measure => simp [intOf]; omega
      · have e : k = l.length := by omega
        subst e
        have HB := Lib.hid hb; clear hb
        go_wp2_with fail
        go_ret
        exact ⟨q, rfl, HB.out, .inr ⟨hq0, by have := HQ.out; rwa [List.take_length] at this⟩⟩
end Go.Proofs.YtdkiaahcmoafdaaGreat
namespace Go.Proofs.YtdkiaahcmoafdaaGreat
open Go.RowKit
set_option linter.unusedSimpArgs false
set_option linter.unusedVariables false

theorem tot_mem {l : List Nd} {n : Nd} (h : n ∈ l) : n.name.size + n.cols.length ≤ tot l := by
  unfold tot
  induction l with
  | nil => cases h
  | cons m l ih =>
    rcases List.mem_cons.1 h with rfl | h
    · simp only [List.map_cons, List.sum_cons]; omega
    · have := ih h; simp only [List.map_cons, List.sum_cons]; omega
theorem small_of {l : List Nd} {r left : Int} (h0 : 0 ≤ r) (h : r + l.length + tot l = left) (hl : left ≤ 1048576) : Small l := by
  refine ⟨by omega, fun n hn => ?_⟩
  have := tot_mem hn
  omega
end Go.Proofs.YtdkiaahcmoafdaaGreat
namespace Go.Proofs.YtdkiaahcmoafdaaGreat
open Go.RowKit
set_option linter.unusedSimpArgs false
set_option linter.unusedVariables false

theorem widT_shift (f : Fn) (k : Nat) (T : Tr) : widT f (T.shift k) = widT f T := by
  induction T with
  | t0 n p e => rfl
  | t1 n p e c ih => simp only [Tr.shift, widT, ih]
  | t2 n p e c d ih1 ih2 => simp only [Tr.shift, widT, ih1, ih2]
theorem treeN_nil : treeN [] = none := by
  cases h : treeN [] with
  | none => rfl
  | some T => have := treeN_pos h; simp at this
theorem widA_no {s : List Tb} {p : List Nd} {k : Int} (h : goodB p k = false) : widO s (partN p k) = -1 := by
  rw [partN_no h]; exact widO_none treeN_nil
theorem widA_some {s : List Tb} {p : List Nd} {k : Int} (hs : schemaB s = true) (h : goodB p k = true) : ∃ T S, treeN p = some T ∧ growT p p.length k.toNat = some S ∧ S.depth ≤ 10 ∧ 0 ≤ k ∧ k < p.length ∧ widO s (partN p k) = widT (fnOf s) S := by
  obtain ⟨T, S, ht, _, _, hen, hlt, hd, _, h0, h1, hg⟩ := good_some h
  obtain ⟨T', S', ht', hf', _, he, _, _, _, hp, _⟩ := part_good h
  refine ⟨T, S, ht, hg, hd, h0, h1, ?_⟩
  have hS : S'.en = S.en := by
    have e2 : endOfN p k = S.en := by
      unfold endOfN; rw [ht]; simp only
      obtain ⟨T2, S2, ht2, hf2, _, _, _, _, _, _, _, hg2⟩ := good_some h
      rw [ht] at ht2; cases ht2
      rw [hg] at hg2; cases hg2
      rw [hf2]
    omega
  rw [hp, hS]
  rw [widO_some hs (treeN_part ht hg hd), widT_shift]
theorem Small.part {p : List Nd} (h : Small p) (k : Int) : Small (partN p k) := by
  refine ⟨?_, fun n hn => h.2 n (part_mem hn)⟩
  have := h.1
  unfold partN
  split
  · simp; omega
  · simp

set_option maxRecDepth 100000 in
set_option maxHeartbeats 1600000 in
theorem specWidthAt_any (sa : Option Addr) (cs : Nat) (s : List Tb) (ao : Option Addr) (c : Nat) (p : List Nd) (k : Int) (w : World) (hsr : RdT w sa s) (hpr : RdN w ao p) (hsl : s.length ≤ 1048576) (hp : p.length ≤ 1048576) :
    Calls Tryz.prog 6 #[.slice sa s.length cs, .slice ao p.length c, .int .i64 k] w fun e w' => e = .returned (.int .i64 (widO s (partN p k))) ∧ Below w.heap.size w w' := by
  have HS := Lib.hid hsr; have HP := Lib.hid hpr; clear hsr hpr
  have SC := Lib.hid (fun W (h : RdT W sa s) => specSchema_any sa cs s W h (by omega))
  have SP := Lib.hid (fun W (h : RdN W ao p) => specGood_any ao c p k W h hp)
  cases hs : schemaB s with
  | false =>
    have E := Lib.hid (widO_no hs (partN p k)); have HB := Lib.hid hs; clear hs
    go_enter Tryz.func6, Tryz.ntmps6
    go_wp2_with (go_at_call 14; refine (SC.out _ HS.out).mono ?_; rintro e w1 ⟨rfl, b1⟩; rw [HB.out]; have B1 := Lib.hid b1; clear b1)
    go_ret
    rw [E.out]
    exact ⟨rfl, B1.out⟩
  | true =>
    have HB := Lib.hid hs
    cases hg : goodB p k with
    | false =>
      have E := Lib.hid (widA_no (s := s) hg)
      have PB := Lib.hid hg
      clear hs hg
      go_enter Tryz.func6, Tryz.ntmps6
      go_wp2_with (first | (go_at_call 14; refine (SC.out _ HS.out).mono ?_; rintro e w1 ⟨rfl, b1⟩; rw [HB.out]; have B1 := Lib.hid b1; clear b1) | (go_at_call 15; refine (SP.out _ (HP.out.below B1.out)).mono ?_; rintro e w2 ⟨rfl, b2⟩; rw [PB.out]; have B2 := Lib.hid (below_step B1.out (Nat.le_refl _) b2); clear b2))
      go_ret
      rw [E.out]
      exact ⟨rfl, B2.out⟩
    | true =>
      obtain ⟨T, S, ht, hgS, hd, h0, h1, hw⟩ := widA_some hs hg
      have E := Lib.hid hw
      have PB := Lib.hid hg
      have WD := Lib.hid (show ∀ W, RdT W sa s → RdN W ao p → Calls Tryz.prog 16 #[.slice sa s.length cs, .slice ao p.length c, .int .i64 k] W fun e w' => e = .returned (.int .i64 (widT (fnOf s) S)) ∧ Below W.heap.size W w' from fun W g1 g2 => by
        have := l03Width_any sa cs s ao c p T hs hsl hp ht S k.toNat W g1 g2 hgS hd
        rwa [Int.toNat_of_nonneg h0] at this)
      generalize widT (fnOf s) S = res at WD E hw
      clear hs hg ht hgS hd hw
      go_enter Tryz.func6, Tryz.ntmps6
      go_wp2_with (first | (go_at_call 14; refine (SC.out _ HS.out).mono ?_; rintro e w1 ⟨rfl, b1⟩; rw [HB.out]; have B1 := Lib.hid b1; clear b1) | (go_at_call 15; refine (SP.out _ (HP.out.below B1.out)).mono ?_; rintro e w2 ⟨rfl, b2⟩; rw [PB.out]; have B2 := Lib.hid (below_step B1.out (Nat.le_refl _) b2); clear b2) | (go_at_call 16; refine (WD.out _ (HS.out.below B2.out) (HP.out.below B2.out)).mono ?_; rintro e w3 ⟨rfl, b3⟩; have B3 := Lib.hid (below_step B2.out (Nat.le_refl _) b3); clear b3))
      go_ret
      rw [E.out]
      exact ⟨rfl, B3.out⟩

set_option maxRecDepth 100000 in
set_option maxHeartbeats 1600000 in
theorem implWidthAt_any (sa : Option Addr) (cs : Nat) (s : List Tb) (ao : Option Addr) (c : Nat) (p : List Nd) (k : Int) (w : World) (hsr : RdT w sa s) (hpr : RdN w ao p) (hsl : s.length ≤ 1048576) (hp : Small p) (hcm : p = [] ∨ (p.length ≤ c ∧ c ≤ maxLen)) :
    Calls Tryz.prog 9 #[.slice sa s.length cs, .slice ao p.length c, .int .i64 k] w fun e w' => e = .returned (.int .i64 (widO s (partN p k))) ∧ Below w.heap.size w w' := by
  have HS := Lib.hid hsr
  have PO := Lib.hid (implPartOf_any ao c p hp k w hpr hcm)
  have SMP := Lib.hid (hp.part k)
  clear hsr hpr hcm hp
  generalize partN p k = q at PO SMP ⊢
  go_enter Tryz.func9, Tryz.ntmps9
  go_wp2_with fail
  refine PO.out.mono ?_
  rintro e w1 ⟨a1, c1, rfl, o1, b1⟩
  have B1 := Lib.hid b1; have R1 := Lib.hid o1.rd
  clear o1 b1
  have IW := Lib.hid (implWidth_any sa cs s a1 c1 q w1 (HS.out.below B1.out) R1.out hsl SMP.out)
  go_wp2_with fail
  refine IW.out.mono ?_
  rintro e w2 ⟨rfl, b2⟩
  have B2 := Lib.hid (below_step B1.out (Nat.le_refl _) b2); clear b2
  go_wp2_with fail
  go_ret
  exact ⟨rfl, B2.out⟩
end Go.Proofs.YtdkiaahcmoafdaaGreat
namespace Go.Proofs.YtdkiaahcmoafdaaGreat
open Go.RowKit
set_option linter.unusedSimpArgs false
set_option linter.unusedVariables false

/-- Whether two tables are the same. -/
def eqTb (x y : Tb) : Bool := (x.name.toList == y.name.toList) && (x.width == y.width)
theorem eqTb_refl (x : Tb) : eqTb x x = true := by simp [eqTb]
set_option maxHeartbeats 1000000 in
theorem eqTable_any (x y : Tb) (w : World) :
    Calls Tryz.prog 21 #[.agg #[.string x.name, .int .i64 x.width], .agg #[.string y.name, .int .i64 y.width]] w fun e w' => e = .returned (.bool (eqTb x y)) ∧ Below w.heap.size w w' := by
  have B0 := Lib.hid (fun o1 o2 => ((Below.refl w.heap.size w).alloc (Nat.le_refl _) o1).alloc (by simp) o2)
  cases hn : (x.name.toList == y.name.toList) with
  | false =>
    have E := Lib.hid (show eqTb x y = false by unfold eqTb; rw [hn]; rfl)
    have hn' : (x.name.toList != y.name.toList) = true := by simp [bne, hn]
    go_enter Tryz.func21, Tryz.ntmps21
    go_wp2_with fail
    go_ret
    rw [E.out]
    exact ⟨rfl, B0.out _ _⟩
  | true =>
    have hn' : (x.name.toList != y.name.toList) = false := by simp [bne, hn]
    cases hi : (x.width == y.width) with
    | false =>
      have E := Lib.hid (show eqTb x y = false by unfold eqTb; rw [hn, hi]; rfl)
      have hi' : (x.width != y.width) = true := by simp [bne, hi]
      go_enter Tryz.func21, Tryz.ntmps21
      go_wp2_with fail
      go_ret
      rw [E.out]
      exact ⟨rfl, B0.out _ _⟩
    | true =>
      have E := Lib.hid (show eqTb x y = true by unfold eqTb; rw [hn, hi]; rfl)
      have hi' : (x.width != y.width) = false := by simp [bne, hi]
      go_enter Tryz.func21, Tryz.ntmps21
      go_wp2_with fail
      go_ret
      rw [E.out]
      exact ⟨rfl, B0.out _ _⟩

/-- Whether two lists of tables are the same. -/
def eqTs : List Tb → List Tb → Bool
  | [], [] => true
  | n :: l, m :: k => eqTb n m && eqTs l k
  | _, _ => false
theorem eqTs_refl : ∀ l : List Tb, eqTs l l = true
  | [] => rfl
  | n :: l => by simp [eqTs, eqTb_refl, eqTs_refl l]
theorem eqTs_len : ∀ l m : List Tb, l.length ≠ m.length → eqTs l m = false
  | [], [], h => absurd rfl h
  | [], _ :: _, _ => rfl
  | _ :: _, [], _ => rfl
  | n :: l, m :: k, h => by simp only [eqTs]; rw [eqTs_len l k (by simpa using h)]; simp
theorem eqTs_no : ∀ (l m : List Tb) (j : Nat) (x y : Tb), l[j]? = some x → m[j]? = some y → eqTb x y = false → eqTs l m = false
  | [], _, j, x, y, h, _, _ => by simp at h
  | _ :: _, [], j, x, y, _, h, _ => by simp at h
  | n :: l, m :: k, 0, x, y, hx, hy, h => by simp at hx hy; subst hx hy; simp [eqTs, h]
  | n :: l, m :: k, j + 1, x, y, hx, hy, h => by simp at hx hy; simp [eqTs, eqTs_no l k j x y hx hy h]
theorem eqTs_yes : ∀ (l m : List Tb), l.length = m.length → (∀ (j : Nat) (x y : Tb), l[j]? = some x → m[j]? = some y → eqTb x y = true) → eqTs l m = true
  | [], [], _, _ => rfl
  | [], _ :: _, h, _ => by simp at h
  | _ :: _, [], h, _ => by simp at h
  | n :: l, m :: k, h, hh => by
    simp only [eqTs]
    rw [hh 0 n m rfl rfl, eqTs_yes l k (by simpa using h) fun j x y hx hy => hh (j + 1) x y hx hy]; rfl

set_option maxRecDepth 100000 in
set_option maxHeartbeats 1600000 in
theorem eqTableS_any (a b : Option Addr) (c d : Nat) (l m : List Tb) (w : World) (h : RdT w a l) (k : RdT w b m) (hn : l.length ≤ maxLen) (hm : m.length ≤ maxLen) :
    Calls Tryz.prog 10 #[.slice a l.length c, .slice b m.length d] w fun e w' => e = .returned (.bool (eqTs l m)) ∧ Below w.heap.size w w' := by
  unfold maxLen at hn hm
  have H := Lib.hid h; clear h
  have K := Lib.hid k; clear k
  by_cases hlen : l.length = m.length
  · have hne : ((l.length : Int) != (m.length : Int)) = false := by simp [hlen]
    have HL := Lib.hid hlen; clear hlen
    go_enter Tryz.func10, Tryz.ntmps10
    go_wp2_with fail
    go_loopw [5] (fun i wr => ∃ j : Nat, j ≤ l.length ∧ i = .int .i64 j ∧ (∀ i x y, i < j → l[i]? = some x → m[i]? = some y → eqTb x y = true) ∧ Below w.heap.size w wr) (fun i _ => l.length - (intOf i).toNat)
    case atStart => exact ⟨0, Nat.zero_le _, rfl, fun i x y hi => absurd hi (Nat.not_lt_zero _), Below.refl _ _⟩
    case round =>
      obtain ⟨j, hj, rfl, ht, hb⟩ := hrel
      have HT := Lib.hid ht; clear ht
      by_cases hlt : j < l.length
      · have hlt2 : j < m.length := by have := HL.out; omega
        obtain ⟨b1, o1, x, rfl, hx, hat⟩ := (H.out.below hb).at_ hlt
        obtain ⟨b2, o2, y, rfl, hy, hay⟩ := (K.out.below hb).at_ hlt2
        have X := Lib.hid hx; have Y := Lib.hid hy; have HB := Lib.hid hb
        clear hx hy hb
        obtain ⟨c0, c1, nm⟩ := hat
        obtain ⟨d0, d1, nm'⟩ := hay
        have E := Lib.hid (fun W => eqTable_any x y W)
        clear nm nm'
        have i1 : (j : Int) < (l.length : Int) := by omega
        have i2 : (j : Int) < (m.length : Int) := by omega
        cases hxy : eqTb x y with
        | true =>
          have Q := Lib.hid hxy; clear hxy
          go_wp2_with fail
          go_region_with (go_at_call 21; refine (E.out _).mono ?_; rintro e w1 ⟨rfl, b1⟩; rw [Q.out]; have T1 := Lib.hid (below_step HB.out.drew (Nat.le_refl _) b1); clear b1)
          all_goals
            go_wp2_with fail
            go_roundw
            case rel => exact ⟨j + 1, by omega, by go_num, fun i x' y' hi hx' hy' => by
              by_cases hij : i = j
              · subst hij; rw [X.out] at hx'; rw [Y.out] at hy'; cases hx'; cases hy'; exact Q.out
              · exact HT.out i x' y' (by omega) hx' hy', T1.out⟩
            case measure => simp [intOf]; omega
        | false =>
          have Q := Lib.hid hxy; clear hxy
          have F := Lib.hid (eqTs_no l m j x y X.out Y.out Q.out)
          go_wp2_with fail
          go_region_with (go_at_call 21; refine (E.out _).mono ?_; rintro e w1 ⟨rfl, b1⟩; rw [Q.out]; have T1 := Lib.hid (below_step HB.out.drew (Nat.le_refl _) b1); clear b1)
          all_goals
            go_wp2_with fail
            go_ret
            exact ⟨ret_bool F.out.symm, T1.out⟩
      · have HB := Lib.hid hb; clear hb
        go_wp2_with fail
        go_ret
        refine ⟨ret_bool (eqTs_yes l m HL.out fun i x y hx hy => HT.out i x y ?_ hx hy).symm, HB.out⟩
        have : i < l.length := by
          rcases Nat.lt_or_ge i l.length with h1 | h1
          · exact h1
          · rw [List.getElem?_eq_none h1] at hx; cases hx
        omega
  · have hne : ((l.length : Int) != (m.length : Int)) = true := by simp; omega
    have HF := Lib.hid (eqTs_len l m hlen)
    go_enter Tryz.func10, Tryz.ntmps10
    go_wp2_with fail
    go_ret
    exact ⟨ret_bool HF.out.symm, Below.refl _ _⟩
end Go.Proofs.YtdkiaahcmoafdaaGreat
namespace Go.Proofs.YtdkiaahcmoafdaaGreat
open Go.RowKit
set_option linter.unusedSimpArgs false
set_option linter.unusedVariables false

/-- Whether two lists of nodes are the same. -/
def eqNs : List Nd → List Nd → Bool
  | [], [] => true
  | n :: l, m :: k => eqN n m && eqNs l k
  | _, _ => false
theorem eqNs_refl : ∀ l : List Nd, eqNs l l = true
  | [] => rfl
  | n :: l => by simp [eqNs, eqN_refl, eqNs_refl l]
theorem eqNs_len : ∀ l m : List Nd, l.length ≠ m.length → eqNs l m = false
  | [], [], h => absurd rfl h
  | [], _ :: _, _ => rfl
  | _ :: _, [], _ => rfl
  | n :: l, m :: k, h => by simp only [eqNs]; rw [eqNs_len l k (by simpa using h)]; simp
theorem eqNs_no : ∀ (l m : List Nd) (j : Nat) (x y : Nd), l[j]? = some x → m[j]? = some y → eqN x y = false → eqNs l m = false
  | [], _, j, x, y, h, _, _ => by simp at h
  | _ :: _, [], j, x, y, _, h, _ => by simp at h
  | n :: l, m :: k, 0, x, y, hx, hy, h => by simp at hx hy; subst hx hy; simp [eqNs, h]
  | n :: l, m :: k, j + 1, x, y, hx, hy, h => by simp at hx hy; simp [eqNs, eqNs_no l k j x y hx hy h]
theorem eqNs_yes : ∀ (l m : List Nd), l.length = m.length → (∀ (j : Nat) (x y : Nd), l[j]? = some x → m[j]? = some y → eqN x y = true) → eqNs l m = true
  | [], [], _, _ => rfl
  | [], _ :: _, h, _ => by simp at h
  | _ :: _, [], h, _ => by simp at h
  | n :: l, m :: k, h, hh => by
    simp only [eqNs]
    rw [hh 0 n m rfl rfl, eqNs_yes l k (by simpa using h) fun j x y hx hy => hh (j + 1) x y hx hy]; rfl

set_option maxRecDepth 100000 in
set_option maxHeartbeats 1600000 in
theorem eqNodeS_any (a b : Option Addr) (c d : Nat) (l m : List Nd) (w : World) (h : RdN w a l) (k : RdN w b m) (hn : l.length ≤ maxLen) (hm : m.length ≤ maxLen) :
    Calls Tryz.prog 11 #[.slice a l.length c, .slice b m.length d] w fun e w' => e = .returned (.bool (eqNs l m)) ∧ Below w.heap.size w w' := by
  unfold maxLen at hn hm
  have H := Lib.hid h; clear h
  have K := Lib.hid k; clear k
  by_cases hlen : l.length = m.length
  · have hne : ((l.length : Int) != (m.length : Int)) = false := by simp [hlen]
    have HL := Lib.hid hlen; clear hlen
    go_enter Tryz.func11, Tryz.ntmps11
    go_wp2_with fail
    go_loopw [5] (fun i wr => ∃ j : Nat, j ≤ l.length ∧ i = .int .i64 j ∧ (∀ i x y, i < j → l[i]? = some x → m[i]? = some y → eqN x y = true) ∧ Below w.heap.size w wr) (fun i _ => l.length - (intOf i).toNat)
    case atStart => exact ⟨0, Nat.zero_le _, rfl, fun i x y hi => absurd hi (Nat.not_lt_zero _), Below.refl _ _⟩
    case round =>
      obtain ⟨j, hj, rfl, ht, hb⟩ := hrel
      have HT := Lib.hid ht; clear ht
      by_cases hlt : j < l.length
      · have hlt2 : j < m.length := by have := HL.out; omega
        obtain ⟨b1, o1, x, ax, cx, rfl, hx, hat⟩ := (H.out.below hb).at_ hlt
        obtain ⟨b2, o2, y, ay, cy, rfl, hy, hay⟩ := (K.out.below hb).at_ hlt2
        have X := Lib.hid hx; have Y := Lib.hid hy; have HB := Lib.hid hb
        clear hx hy hb
        obtain ⟨c0, c1, c2, c3, c4, c5, c6, rd, cap, mx, nm⟩ := hat
        obtain ⟨d0, d1, d2, d3, d4, d5, d6, rd', cap', mx', nm'⟩ := hay
        have RD := Lib.hid rd; have RD' := Lib.hid rd'
        have E := Lib.hid (fun W => eqNode_any x y ax ay cx cy W)
        have l1 := Nat.le_trans cap mx; have l2 := Nat.le_trans cap' mx'
        clear rd rd' cap mx cap' mx' nm nm'
        have i1 : (j : Int) < (l.length : Int) := by omega
        have i2 : (j : Int) < (m.length : Int) := by omega
        cases hxy : eqN x y with
        | true =>
          have Q := Lib.hid hxy; clear hxy
          go_wp2_with fail
          go_region_with (go_at_call 22; refine (E.out _ ?_ ?_ l1 l2).mono ?_; exact RD.out; exact RD'.out; rintro e w1 ⟨rfl, b1⟩; rw [Q.out]; have T1 := Lib.hid (below_step HB.out.drew (Nat.le_refl _) b1); clear b1)
          all_goals
            go_wp2_with fail
            go_roundw
            case rel => exact ⟨j + 1, by omega, by go_num, fun i x' y' hi hx' hy' => by
              by_cases hij : i = j
              · subst hij; rw [X.out] at hx'; rw [Y.out] at hy'; cases hx'; cases hy'; exact Q.out
              · exact HT.out i x' y' (by omega) hx' hy', T1.out⟩
            case measure => simp [intOf]; omega
        | false =>
          have Q := Lib.hid hxy; clear hxy
          have F := Lib.hid (eqNs_no l m j x y X.out Y.out Q.out)
          go_wp2_with fail
          go_region_with (go_at_call 22; refine (E.out _ ?_ ?_ l1 l2).mono ?_; exact RD.out; exact RD'.out; rintro e w1 ⟨rfl, b1⟩; rw [Q.out]; have T1 := Lib.hid (below_step HB.out.drew (Nat.le_refl _) b1); clear b1)
          all_goals
            go_wp2_with fail
            go_ret
            exact ⟨ret_bool F.out.symm, T1.out⟩
      · have HB := Lib.hid hb; clear hb
        go_wp2_with fail
        go_ret
        refine ⟨ret_bool (eqNs_yes l m HL.out fun i x y hx hy => HT.out i x y ?_ hx hy).symm, HB.out⟩
        have : i < l.length := by
          rcases Nat.lt_or_ge i l.length with h1 | h1
          · exact h1
          · rw [List.getElem?_eq_none h1] at hx; cases hx
        omega
  · have hne : ((l.length : Int) != (m.length : Int)) = true := by simp; omega
    have HF := Lib.hid (eqNs_len l m hlen)
    go_enter Tryz.func11, Tryz.ntmps11
    go_wp2_with fail
    go_ret
    exact ⟨ret_bool HF.out.symm, Below.refl _ _⟩
end Go.Proofs.YtdkiaahcmoafdaaGreat
