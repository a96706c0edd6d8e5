/-
  Contract of spec.l03Width at a node of one child. Contract of spec.l03Width at a join.
-/
import Derived.Test.YtanfllednlpbaaaGreatM46x
import Derived.Test.YtanfllednlpbaaaGreatM11x
import Derived.Test.YtanfllednlpbaaaGreatGrowQ
import Derived.Test.YtanfllednlpbaaaGreatM42x
namespace Go.Proofs.YtanfllednlpbaaaGreat
open Go.RowKit
set_option linter.unusedSimpArgs false
set_option linter.unusedVariables false
set_option maxRecDepth 100000 in
set_option maxHeartbeats 4000000 in
theorem wid_t1 (sa : Option Addr) (cs : Nat) (s : List Tb) (ao : Option Addr) (c : Nat) (p : List Nd) (T0 : Tr) (hs : schemaB s = true) (hsl : s.length ≤ 1048576) (hp : p.length ≤ 1048576) (ht : treeN p = some T0) (n : Nd) (pl en : Nat) (ch : Tr) (ih : ∀ (k : Nat) (w : World), RdT w sa s → RdN w ao p → growT p p.length k = some ch → ch.depth ≤ 10 →
    Calls Tryz.prog 115 #[.slice sa s.length cs, .slice ao p.length c, .int .i64 k] w fun e w' => e = .returned (.int .i64 (widT (fnOf s) ch)) ∧ Below w.heap.size w w') : ∀ (k : Nat) (w : World), RdT w sa s → RdN w ao p → growT p p.length k = some (Tr.t1 n pl en ch) → (Tr.t1 n pl en ch).depth ≤ 10 →
    Calls Tryz.prog 115 #[.slice sa s.length cs, .slice ao p.length c, .int .i64 k] w fun e w' => e = .returned (.int .i64 (widT (fnOf s) (Tr.t1 n pl en ch))) ∧ Below w.heap.size w w' := by
  have hf := fnOk_schema hs
  have TS := Lib.hid (told_self s (schemaB_iff.1 hs).2.2)
  intro k w hrs hrp hg hd
  have HG := Lib.hid hg
  have NDS := Lib.hid (growT_nodes p _ _ _ hg)
  obtain ⟨n', hn, hnb, hS⟩ := grow_inv hg
  rcases hS with ⟨hS, _⟩ | ⟨c', hS, ha, hc⟩ | ⟨c', d', hS, _⟩
  case inl => cases hS
  case inr.inr => cases hS
  cases hS
  have hkl : pl < p.length := (List.getElem?_eq_some_iff.1 hn).1
  obtain ⟨b, off, n2, a, c2, rfl, hn2, hat⟩ := hrp.at_ hkl
  obtain rfl : n = n2 := by rw [hn] at hn2; injection hn2
  obtain ⟨c0, c1, c2', c3, c4, c5, c6, rd, cap, mx, nm⟩ := hat
  have RDC := Lib.hid rd
  have hcl : n.cols.length ≤ maxLen := Nat.le_trans cap mx
  clear rd hn2 cap mx
  obtain ⟨W1, hW1⟩ : ∃ W1, W1 = w.alloc (.cells (#[.int .i64 n.kind, .string n.name, .int .i64 n.col, .int .i64 n.op, .int .i64 n.num, .bool n.slot, .slice a n.cols.length c2]) 39) := ⟨_, rfl⟩
  have Z1 := Lib.hid (show W1.heap.size = w.heap.size + 1 by rw [hW1]; simp)
  have A1 := Lib.hid (show Below w.heap.size w W1 by rw [hW1]; exact (Below.refl _ _).alloc (Nat.le_refl _) _)
  have f0 : W1.cell? ⟨w.heap.size, 0, none⟩ = some (.int .i64 n.kind) := by rw [hW1, World.cell?_alloc_new]; rfl
  have f1 : W1.cell? ⟨w.heap.size, 1, none⟩ = some (.string n.name) := by rw [hW1, World.cell?_alloc_new]; rfl
  have f2 : W1.cell? ⟨w.heap.size, 2, none⟩ = some (.int .i64 n.col) := by rw [hW1, World.cell?_alloc_new]; rfl
  have f4 : W1.cell? ⟨w.heap.size, 4, none⟩ = some (.int .i64 n.num) := by rw [hW1, World.cell?_alloc_new]; rfl
  have f6 : W1.cell? ⟨w.heap.size, 6, none⟩ = some (.slice a n.cols.length c2) := by rw [hW1, World.cell?_alloc_new]; rfl
  have OE := Lib.hid (show Own (W1.alloc (.cells #[] 3)) (w.heap.size + 1) 3 .i64 (some ⟨w.heap.size + 1, 0, none⟩) 0 [] by
    have := own_empty (w := W1) (base := W1.heap.size) (e := 3) (k := .i64) (Nat.le_refl _)
    rw [Z1.out] at this; exact this)
  have NE := Lib.hid ((Below.refl W1.heap.size W1).alloc (Nat.le_refl _) (.cells #[] 3))
  have HRS := Lib.hid (hrs.below A1.out); have HRP := Lib.hid (hrp.below A1.out)
  have FIN := Lib.hid (fun w' (hc : Below W1.heap.size W1 w') => (A1.out.trans (hc.mono (by rw [Z1.out]; exact Nat.le_succ _)) : Below w.heap.size w w'))
  have RD1 := Lib.hid (RDC.out.below A1.out)
  have hbw : b < w.heap.size := World.block_lt_of_cell? w ⟨b, off + pl * 7, none⟩ c0
  have hdc : ch.depth ≤ 9 := by simp only [Tr.depth] at hd; omega
  have IHC := Lib.hid (show ∀ W, RdT W sa s → RdN W (some ⟨b, off, none⟩) p → Calls Tryz.prog 115 #[.slice sa s.length cs, .slice (some ⟨b, off, none⟩) p.length c, .int .i64 ((pl : Int) + 1)] W fun e w' => e = .returned (.int .i64 (widT (fnOf s) ch)) ∧ Below W.heap.size W w' from fun W h1 h2 => by
    have := ih (pl + 1) W h1 h2 hc (by omega)
    rwa [show ((pl + 1 : Nat) : Int) = (pl : Int) + 1 by omega] at this)
  have hwd := widT_wide hf ch NDS.out.2
  have KC := Lib.hid (fun h2 : n.kind = 2 => cols_of_nodeB hnb h2)
  have HA := Lib.hid ha
  have E := Lib.hid (show widT (fnOf s) (.t1 n pl ch.en ch) = if widT (fnOf s) ch = -1 then -1 else over1 n (widT (fnOf s) ch) from rfl)
  have KO := Lib.hid (show KidsOk p ((pl : Int)).toNat [(pl : Int) + 1] by rw [Int.toNat_natCast]; exact ⟨n, hn, .inr (.inl ⟨ha, rfl, _, _, endN_of_grow ht hc (by omega)⟩)⟩)
  clear hn
  go_enter Tryz.func115, Tryz.ntmps115
  go_wp2_with fail
  rw [← hW1]
  refine (specKids_any (some ⟨b, off, none⟩) c p pl [(pl : Int) + 1] _ (HRP.out.below NE.out) hp (by omega) (by omega) KO.out).mono ?_
  rintro e w3 ⟨a3, c3', rfl, o3, b3⟩
  have N3 := Lib.hid (below_step NE.out (Nat.le_refl _) b3)
  have OW3 := Lib.hid (OE.out.below b3)
  have e3 := fun o => N3.out.cell (p := ⟨w.heap.size, o, none⟩) (by rw [Z1.out]; exact Nat.lt_succ_self _)
  obtain ⟨g3, rfl, hgb3, hg3⟩ := own_some o3 (by simp)
  have hgb3' : w.heap.size + 2 ≤ g3 := by have := Z1.out; simp at hgb3; omega
  clear hgb3 c0 c1 c2' c3 c4 c5 c6 hW1
  have kk := own_cell o3 0 ((pl : Int) + 1) rfl
  clear o3 b3 ih hc ha hnb hrs hrp
  generalize widT (fnOf s) ch = x at hwd IHC E
  go_wp2_with fail
  refine wp_loop_rounds 2 ?_; rw [rounds_succ]
  go_wp2_with fail
  refine (IHC.out _ (HRS.out.below N3.out) (HRP.out.below N3.out)).mono ?_
  rintro e w4 ⟨rfl, b4⟩
  have N4 := Lib.hid (below_step N3.out (Nat.le_refl _) b4)
  have e4 := fun o => N4.out.cell (p := ⟨w.heap.size, o, none⟩) (by rw [Z1.out]; exact Nat.lt_succ_self _)
  have OW4 := Lib.hid (OW3.out.below b4)
  clear b4 e3
  rcases hwd with rfl | ⟨hx1, hx2⟩
  · go_wp2_with fail
    go_ret
    rw [E.out]
    exact ⟨rfl, FIN.out _ N4.out⟩
  have E1 := Lib.hid (show widT (fnOf s) (.t1 n pl ch.en ch) = over1 n x by rw [E.out, if_neg (show ¬ x = -1 by omega)])
  clear E
  go_wp2_with (at_builtin; refine wpList_appendI _ rfl (.tmp 37) (.tmp 39) 34 rfl (w.heap.size + 1) 3 Tryz.underlying34 Tryz.infoInt (some ⟨w.heap.size + 1, 0, none⟩) 0 0 [] rfl rfl (OW4.out.alloc _) _ _ x rfl (cell_one _ _ _) (by simp) (by have := N4.out.size; rw [Z1.out] at this; simp; omega) ?_; intro ao5 c5' w5 o5 g5; have n5 := ((Below.refl W1.heap.size w4).alloc N4.out.size _).grown g5 (by have := N4.out.size; simp; omega) (by intro q hq; simp at hq; rw [Z1.out]; omega); have N5 := Lib.hid (N4.out.trans n5); obtain ⟨g5', rfl, hgb5, hgl5⟩ := own_some o5 (by simp); have k0 := own_cell o5 0 x (by simp); clear o5 g5; have e5 := fun o => N5.out.cell (p := ⟨w.heap.size, o, none⟩) (by rw [Z1.out]; exact Nat.lt_succ_self _); clear n5)
  have q0 := (e5 0).trans f0; have q2 := (e5 2).trans f2; have q6 := (e5 6).trans f6
  have RD5 := Lib.hid (RD1.out.below N5.out)
  clear e4 e5 f0 f1 f2 f4 f6 kk
  rcases kinds1 HA.out with hk | hk | hk | hk | hk
  · rw [hk] at q0
    by_cases hx : x ≤ n.col
    · have E2 := Lib.hid (show widT (fnOf s) (.t1 n pl ch.en ch) = -1 by rw [E1.out]; unfold over1; rw [if_pos (by omega), if_pos hx])
      clear hk
      rw [rounds_succ]
      go_wp2_with fail
      go_quiet (fail)
      all_goals
        go_wp2_with fail
        go_ret
        rw [E2.out]
        exact ⟨rfl, FIN.out _ (below_drewN N5.out _)⟩
    · have hx' : n.col < x := by omega
      have E2 := Lib.hid (show widT (fnOf s) (.t1 n pl ch.en ch) = x by rw [E1.out]; unfold over1; rw [if_pos (by omega), if_neg hx])
      clear hk
      rw [rounds_succ]
      go_wp2_with fail
      go_quiet (fail)
      all_goals
        go_wp2_with fail
        go_ret
        rw [E2.out]
        exact ⟨rfl, FIN.out _ (below_drewN N5.out _)⟩
  · rw [hk] at q0
    obtain ⟨hk1, hk6⟩ := KC.out hk
    have EO := Lib.hid (show widT (fnOf s) (.t1 n pl ch.en ch) = if n.cols.all (fun z => decide (z < x)) = true then (n.cols.length : Int) else -1 by rw [E1.out]; unfold over1; rw [if_neg (by omega), if_pos hk])
    clear hk
    rcases RD5.out with hnil | ⟨bb, ob, rfl, hcc⟩
    · rw [hnil] at hk1; simp at hk1
    have HCC := Lib.hid hcc; clear hcc
    rw [rounds_succ]
    go_wp2_with fail
    go_loopw [13] (fun i wr => ∃ j q : Nat, j ≤ n.cols.length ∧ i = .int .i64 j ∧ wr = w5.drewN q ∧ (n.cols.take j).all (fun z => decide (z < x)) = true) (fun i _ => n.cols.length - (intOf i).toNat)
    case atStart => exact ⟨0, 0, Nat.zero_le _, rfl, rfl, rfl⟩
    case round =>
      obtain ⟨j, q, hj, rfl, rfl, hal⟩ := hrel
      have AL := Lib.hid hal; clear hal
      by_cases hlt : j < n.cols.length
      · have hcj := HCC.out j hlt
        have hz : n.cols[j]? = some (n.cols.getD j 0) := by rw [List.getD_eq_getElem?_getD, List.getElem?_eq_getElem hlt]; rfl
        generalize n.cols.getD j 0 = z at hcj hz
        have hlt' : (j : Int) < n.cols.length := by omega
        by_cases hzx : z < x
        · have AN := Lib.hid (show (n.cols.take (j + 1)).all (fun z => decide (z < x)) = true by rw [List.take_add_one, hz, List.all_append, AL.out]; simp [hzx])
          clear hz
          go_wp2_with fail
          go_quiet (fail)
          all_goals
            go_wp2_with fail
            go_roundw
            case rel => exact ⟨j + 1, _, by omega, by go_num, rfl, AN.out⟩
            case measure => simp [intOf]; omega
        · have hzx' : x ≤ z := by omega
          have E2 := Lib.hid (show widT (fnOf s) (.t1 n pl ch.en ch) = -1 by
            rw [EO.out, if_neg]
            intro h
            have := List.all_eq_true.1 h z (List.mem_of_getElem? hz)
            simp at this; omega)
          clear hz
          go_wp2_with fail
          go_quiet (fail)
          all_goals
            go_wp2_with fail
            go_ret
            rw [E2.out]
            exact ⟨rfl, FIN.out _ (by repeat (first | exact N5.out | refine below_drewN ?_ _))⟩
      · obtain rfl : j = n.cols.length := by omega
        have E2 := Lib.hid (show widT (fnOf s) (.t1 n pl ch.en ch) = (n.cols.length : Int) by rw [EO.out, if_pos]; have := AL.out; rwa [List.take_length] at this)
        go_wp2_with fail
        go_ret
        rw [E2.out]
        exact ⟨rfl, FIN.out _ (below_drewN N5.out _)⟩
  · rw [hk] at q0
    by_cases hx : x ≤ n.col
    · have E2 := Lib.hid (show widT (fnOf s) (.t1 n pl ch.en ch) = -1 by rw [E1.out]; unfold over1; rw [if_pos (by omega), if_pos hx])
      clear hk
      rw [rounds_succ]
      go_wp2_with fail
      go_quiet (fail)
      all_goals
        go_wp2_with fail
        go_ret
        rw [E2.out]
        exact ⟨rfl, FIN.out _ (below_drewN N5.out _)⟩
    · have hx' : n.col < x := by omega
      have E2 := Lib.hid (show widT (fnOf s) (.t1 n pl ch.en ch) = x by rw [E1.out]; unfold over1; rw [if_pos (by omega), if_neg hx])
      clear hk
      rw [rounds_succ]
      go_wp2_with fail
      go_quiet (fail)
      all_goals
        go_wp2_with fail
        go_ret
        rw [E2.out]
        exact ⟨rfl, FIN.out _ (below_drewN N5.out _)⟩
  · have E2 := Lib.hid (show widT (fnOf s) (.t1 n pl ch.en ch) = x by rw [E1.out]; unfold over1; rw [if_neg (by omega), if_neg (by omega)])
    rw [hk] at q0
    clear hk
    rw [rounds_succ]
    go_wp2_with fail
    go_ret
    rw [E2.out]
    exact ⟨rfl, FIN.out _ N5.out⟩
  · have E2 := Lib.hid (show widT (fnOf s) (.t1 n pl ch.en ch) = x by rw [E1.out]; unfold over1; rw [if_neg (by omega), if_neg (by omega)])
    rw [hk] at q0
    clear hk
    rw [rounds_succ]
    go_wp2_with fail
    go_ret
    rw [E2.out]
    exact ⟨rfl, FIN.out _ N5.out⟩
set_option maxRecDepth 100000 in
set_option maxHeartbeats 2000000 in
theorem wid_t2j (sa : Option Addr) (cs : Nat) (s : List Tb) (ao : Option Addr) (c : Nat) (p : List Nd) (T0 : Tr) (hs : schemaB s = true) (hsl : s.length ≤ 1048576) (hp : p.length ≤ 1048576) (ht : treeN p = some T0) (n : Nd) (pl en : Nat) (ch dh : Tr) (hk : n.kind = 3) (ihc : ∀ (k : Nat) (w : World), RdT w sa s → RdN w ao p → growT p p.length k = some ch → ch.depth ≤ 10 →
    Calls Tryz.prog 115 #[.slice sa s.length cs, .slice ao p.length c, .int .i64 k] w fun e w' => e = .returned (.int .i64 (widT (fnOf s) ch)) ∧ Below w.heap.size w w') (ihd : ∀ (k : Nat) (w : World), RdT w sa s → RdN w ao p → growT p p.length k = some dh → dh.depth ≤ 10 →
    Calls Tryz.prog 115 #[.slice sa s.length cs, .slice ao p.length c, .int .i64 k] w fun e w' => e = .returned (.int .i64 (widT (fnOf s) dh)) ∧ Below w.heap.size w w') : ∀ (k : Nat) (w : World), RdT w sa s → RdN w ao p → growT p p.length k = some (Tr.t2 n pl en ch dh) → (Tr.t2 n pl en ch dh).depth ≤ 10 →
    Calls Tryz.prog 115 #[.slice sa s.length cs, .slice ao p.length c, .int .i64 k] w fun e w' => e = .returned (.int .i64 (widT (fnOf s) (Tr.t2 n pl en ch dh))) ∧ Below w.heap.size w w' := by
  have hf := fnOk_schema hs
  have TS := Lib.hid (told_self s (schemaB_iff.1 hs).2.2)
  have HK := Lib.hid hk; clear hk
  intro k w hrs hrp hg hd
  have HG := Lib.hid hg
  have NDS := Lib.hid (growT_nodes p _ _ _ hg)
  obtain ⟨n', hn, hnb, hS⟩ := grow_inv hg
  rcases hS with ⟨hS, _⟩ | ⟨c', hS, _⟩ | ⟨c', d', hS, ha, hc, hdd⟩
  case inl => cases hS
  case inr.inl => cases hS
  cases hS
  have hkl : pl < p.length := (List.getElem?_eq_some_iff.1 hn).1
  obtain ⟨b, off, n2, a, c2, rfl, hn2, hat⟩ := hrp.at_ hkl
  obtain rfl : n = n2 := by rw [hn] at hn2; injection hn2
  obtain ⟨c0, c1, c2', c3, c4, c5, c6, rd, cap, mx, nm⟩ := hat
  have RDC := Lib.hid rd
  have hcl : n.cols.length ≤ maxLen := Nat.le_trans cap mx
  clear rd hn2 cap mx
  obtain ⟨W1, hW1⟩ : ∃ W1, W1 = w.alloc (.cells (#[.int .i64 n.kind, .string n.name, .int .i64 n.col, .int .i64 n.op, .int .i64 n.num, .bool n.slot, .slice a n.cols.length c2]) 39) := ⟨_, rfl⟩
  have Z1 := Lib.hid (show W1.heap.size = w.heap.size + 1 by rw [hW1]; simp)
  have A1 := Lib.hid (show Below w.heap.size w W1 by rw [hW1]; exact (Below.refl _ _).alloc (Nat.le_refl _) _)
  have f0 : W1.cell? ⟨w.heap.size, 0, none⟩ = some (.int .i64 n.kind) := by rw [hW1, World.cell?_alloc_new]; rfl
  have f1 : W1.cell? ⟨w.heap.size, 1, none⟩ = some (.string n.name) := by rw [hW1, World.cell?_alloc_new]; rfl
  have f2 : W1.cell? ⟨w.heap.size, 2, none⟩ = some (.int .i64 n.col) := by rw [hW1, World.cell?_alloc_new]; rfl
  have f4 : W1.cell? ⟨w.heap.size, 4, none⟩ = some (.int .i64 n.num) := by rw [hW1, World.cell?_alloc_new]; rfl
  have f6 : W1.cell? ⟨w.heap.size, 6, none⟩ = some (.slice a n.cols.length c2) := by rw [hW1, World.cell?_alloc_new]; rfl
  have OE := Lib.hid (show Own (W1.alloc (.cells #[] 3)) (w.heap.size + 1) 3 .i64 (some ⟨w.heap.size + 1, 0, none⟩) 0 [] by
    have := own_empty (w := W1) (base := W1.heap.size) (e := 3) (k := .i64) (Nat.le_refl _)
    rw [Z1.out] at this; exact this)
  have NE := Lib.hid ((Below.refl W1.heap.size W1).alloc (Nat.le_refl _) (.cells #[] 3))
  have HRS := Lib.hid (hrs.below A1.out); have HRP := Lib.hid (hrp.below A1.out)
  have FIN := Lib.hid (fun w' (hc : Below W1.heap.size W1 w') => (A1.out.trans (hc.mono (by rw [Z1.out]; exact Nat.le_succ _)) : Below w.heap.size w w'))
  have RD1 := Lib.hid (RDC.out.below A1.out)
  have hbw : b < w.heap.size := World.block_lt_of_cell? w ⟨b, off + pl * 7, none⟩ c0
  have hdc : ch.depth ≤ 9 ∧ dh.depth ≤ 9 := by simp only [Tr.depth] at hd; omega
  have IHC := Lib.hid (show ∀ W, RdT W sa s → RdN W (some ⟨b, off, none⟩) p → Calls Tryz.prog 115 #[.slice sa s.length cs, .slice (some ⟨b, off, none⟩) p.length c, .int .i64 ((pl : Int) + 1)] W fun e w' => e = .returned (.int .i64 (widT (fnOf s) ch)) ∧ Below W.heap.size W w' from fun W h1 h2 => by
    have := ihc (pl + 1) W h1 h2 hc (by omega)
    rwa [show ((pl + 1 : Nat) : Int) = (pl : Int) + 1 by omega] at this)
  have IHD := Lib.hid (show ∀ W, RdT W sa s → RdN W (some ⟨b, off, none⟩) p → Calls Tryz.prog 115 #[.slice sa s.length cs, .slice (some ⟨b, off, none⟩) p.length c, .int .i64 (ch.en : Int)] W fun e w' => e = .returned (.int .i64 (widT (fnOf s) dh)) ∧ Below W.heap.size W w' from fun W h1 h2 => ihd ch.en W h1 h2 hdd (by omega))
  have hwc := widT_wide hf ch NDS.out.2.1
  have hwd := widT_wide hf dh NDS.out.2.2
  have HA := Lib.hid ha
  have E := Lib.hid (show widT (fnOf s) (.t2 n pl dh.en ch dh) = if widT (fnOf s) ch = -1 then -1 else if widT (fnOf s) dh = -1 then -1 else over2 n (widT (fnOf s) ch) (widT (fnOf s) dh) from rfl)
  have KO := Lib.hid (show KidsOk p ((pl : Int)).toNat [(pl : Int) + 1, (ch.en : Int)] by rw [Int.toNat_natCast]; exact ⟨n, hn, .inr (.inr ⟨ha, _, _, _, _, endN_of_grow ht hc (by omega), endN_of_grow ht hdd (by omega), rfl⟩)⟩)
  clear hn
  go_enter Tryz.func115, Tryz.ntmps115
  go_wp2_with fail
  rw [← hW1]
  refine (specKids_any (some ⟨b, off, none⟩) c p pl [(pl : Int) + 1, (ch.en : Int)] _ (HRP.out.below NE.out) hp (by omega) (by omega) KO.out).mono ?_
  rintro e w3 ⟨a3, c3', rfl, o3, b3⟩
  have N3 := Lib.hid (below_step NE.out (Nat.le_refl _) b3)
  have OW3 := Lib.hid (OE.out.below b3)
  have e3 := fun o => N3.out.cell (p := ⟨w.heap.size, o, none⟩) (by rw [Z1.out]; exact Nat.lt_succ_self _)
  obtain ⟨g3, rfl, hgb3, hg3⟩ := own_some o3 (by simp)
  have hgb3' : w.heap.size + 2 ≤ g3 := by have := Z1.out; simp at hgb3; omega
  clear hgb3 c0 c1 c2' c3 c4 c5 c6 hW1
  have kk := own_cell o3 0 ((pl : Int) + 1) rfl
  have kl := own_cell o3 1 (ch.en : Int) rfl
  clear o3 b3 ihc ihd hc hdd ha hnb hrs hrp
  generalize widT (fnOf s) ch = x at hwc IHC E
  generalize widT (fnOf s) dh = y at hwd IHD E
  generalize (ch.en : Int) = ce at IHD kl ⊢
  go_wp2_with fail
  refine wp_loop_rounds 3 ?_; rw [rounds_succ]
  go_wp2_with fail
  refine (IHC.out _ (HRS.out.below N3.out) (HRP.out.below N3.out)).mono ?_
  rintro e w4 ⟨rfl, b4⟩
  have N4 := Lib.hid (below_step N3.out (Nat.le_refl _) b4)
  have e4 := fun o => N4.out.cell (p := ⟨w.heap.size, o, none⟩) (by rw [Z1.out]; exact Nat.lt_succ_self _)
  have OW4 := Lib.hid (OW3.out.below b4)
  have kl4 := (b4.cell (p := ⟨g3, 1, none⟩) hg3).trans kl
  have hg34 : g3 < w4.heap.size := Nat.lt_of_lt_of_le hg3 b4.size
  clear b4 e3
  rcases hwc with rfl | ⟨hx1, hx2⟩
  · go_wp2_with fail
    go_ret
    rw [E.out]
    exact ⟨rfl, FIN.out _ N4.out⟩
  have E1 := Lib.hid (show widT (fnOf s) (.t2 n pl dh.en ch dh) = if y = -1 then -1 else over2 n x y by rw [E.out, if_neg (show ¬ x = -1 by omega)])
  clear E
  go_wp2_with (at_builtin; refine wpList_appendI _ rfl (.tmp 37) (.tmp 39) 34 rfl (w.heap.size + 1) 3 Tryz.underlying34 Tryz.infoInt (some ⟨w.heap.size + 1, 0, none⟩) 0 0 [] rfl rfl (OW4.out.alloc _) _ _ x rfl (cell_one _ _ _) (by simp) (by have := N4.out.size; rw [Z1.out] at this; simp; omega) ?_; intro ao5 c5' w5 o5 g5; have n5 := ((Below.refl W1.heap.size w4).alloc N4.out.size _).grown g5 (by have := N4.out.size; simp; omega) (by intro q hq; simp at hq; rw [Z1.out]; omega); have N5 := Lib.hid (N4.out.trans n5); obtain ⟨g5', rfl, hgb5, hgl5⟩ := own_some o5 (by simp); have OW5 := Lib.hid (show Own w5 (w.heap.size + 1) 3 .i64 (some ⟨g5', 0, none⟩) c5' [x] from o5); have kl5 : w5.cell? ⟨g3, 1, none⟩ = some (.int .i64 ce) := (show w5.cell? ⟨g3, 1, none⟩ = (w4.alloc (.cells #[.int .i64 x] 3)).cell? ⟨g3, 1, none⟩ from World.cell?_of_block (g5.block g3 (by simp; omega) (by simp; omega))).trans ((((Below.refl w4.heap.size w4).alloc (Nat.le_refl _) _).cell (p := ⟨g3, 1, none⟩) hg34).trans kl4); clear o5 g5; have e5 := fun o => N5.out.cell (p := ⟨w.heap.size, o, none⟩) (by rw [Z1.out]; exact Nat.lt_succ_self _); clear n5)
  clear e4
  rw [rounds_succ]
  go_wp2_with fail
  refine (IHD.out _ (HRS.out.below N5.out) (HRP.out.below N5.out)).mono ?_
  rintro e w6 ⟨rfl, b6⟩
  have N6 := Lib.hid (below_step N5.out (Nat.le_refl _) b6)
  have e6 := fun o => N6.out.cell (p := ⟨w.heap.size, o, none⟩) (by rw [Z1.out]; exact Nat.lt_succ_self _)
  have OW6 := Lib.hid (OW5.out.below b6)
  clear b6 e5
  rcases hwd with rfl | ⟨hy1, hy2⟩
  · go_wp2_with fail
    go_ret
    rw [E1.out]
    exact ⟨rfl, FIN.out _ N6.out⟩
  have E2 := Lib.hid (show widT (fnOf s) (.t2 n pl dh.en ch dh) = over2 n x y by rw [E1.out, if_neg (show ¬ y = -1 by omega)])
  clear E1
  go_wp2_with (at_builtin; refine wpList_appendI _ rfl (.tmp 37) (.tmp 39) 34 rfl (w.heap.size + 1) 3 Tryz.underlying34 Tryz.infoInt (some ⟨g5', 0, none⟩) c5' 1 [x] rfl rfl (OW6.out.alloc _) _ _ y rfl (cell_one _ _ _) (by simp) (by have := N6.out.size; rw [Z1.out] at this; simp; omega) ?_; intro ao7 c7' w7 o7 g7; have n7 := ((Below.refl W1.heap.size w6).alloc N6.out.size _).grown g7 (by have := N6.out.size; simp; omega) (by intro q hq; simp at hq; rw [Z1.out]; omega); have N7 := Lib.hid (N6.out.trans n7); obtain ⟨g7', rfl, hgb7, hgl7⟩ := own_some o7 (by simp); have k0 := own_cell o7 0 x (by simp); have k1 := own_cell o7 1 y (by simp); clear o7 g7; have e7 := fun o => N7.out.cell (p := ⟨w.heap.size, o, none⟩) (by rw [Z1.out]; exact Nat.lt_succ_self _); clear n7)
  have q0 := (e7 0).trans f0; have q2 := (e7 2).trans f2; have q4 := (e7 4).trans f4
  clear e6 e7 f0 f1 f2 f4 f6 kk kl kl4 kl5
  have hk := HK.out
  rw [hk] at q0
  have EO := Lib.hid (show widT (fnOf s) (.t2 n pl dh.en ch dh) = if x ≤ n.col ∨ y ≤ n.num ∨ 64 < x + y then -1 else x + y by rw [E2.out]; unfold over2; rw [if_pos hk])
  clear hk E2
  by_cases h1 : x ≤ n.col
  · have E3 := Lib.hid (EO.out.trans (if_pos (.inl h1)))
    rw [rounds_succ]
    go_wp2_with fail
    go_quiet (fail)
    all_goals
      go_wp2_with fail
      go_ret
      rw [E3.out]
      exact ⟨rfl, FIN.out _ (below_drewN N7.out _)⟩
  have h1' : n.col < x := by omega
  have hd1 : decide (x ≤ n.col) = false := by simp; omega
  clear h1
  by_cases h2 : y ≤ n.num
  · have E3 := Lib.hid (EO.out.trans (if_pos (.inr (.inl h2))))
    rw [rounds_succ]
    go_wp2_with fail
    go_quiet (fail)
    all_goals
      go_wp2_with fail
      go_ret
      rw [E3.out]
      exact ⟨rfl, FIN.out _ (below_drewN N7.out _)⟩
  have h2' : n.num < y := by omega
  have hd2 : decide (y ≤ n.num) = false := by simp; omega
  clear h2
  have hwrap : IntKind.i64.wrap (x + y) = x + y := IntWalk.i64_in _ (by omega)
  by_cases h3 : 64 < x + y
  · have E3 := Lib.hid (EO.out.trans (if_pos (.inr (.inr h3))))
    rw [rounds_succ]
    go_wp2_with fail
    go_quiet (fail)
    all_goals
      go_wp2_with fail
      go_ret
      rw [E3.out]
      exact ⟨rfl, FIN.out _ (below_drewN N7.out _)⟩
  have h3' : x + y ≤ 64 := by omega
  have E3 := Lib.hid (EO.out.trans (if_neg (by omega)))
  clear h3
  rw [rounds_succ]
  go_wp2_with fail
  go_quiet (fail)
  all_goals
    go_wp2_with fail
    go_quiet (fail)
    all_goals
      go_wp2_with fail
      go_ret
      rw [E3.out]
      exact ⟨rfl, FIN.out _ (by repeat (first | exact N7.out | refine below_drewN ?_ _))⟩
end Go.Proofs.YtanfllednlpbaaaGreat
