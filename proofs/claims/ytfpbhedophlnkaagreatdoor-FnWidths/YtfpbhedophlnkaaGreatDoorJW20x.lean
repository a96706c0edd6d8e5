/-
  Contract of tree.width. For every tree. Contract of spec.l03Width at a scan. Contract of spec.l03Width at a node of one child.
-/
import Derived.Test.YtfpbhedophlnkaaGreatDoorJW19x
import Derived.Test.YtfpbhedophlnkaaGreatDoorJW17x
import Derived.Test.YtfpbhedophlnkaaGreatDoorJW8x
import Derived.Test.YtfpbhedophlnkaaGreatDoorJW18x
namespace Go.Proofs.YtfpbhedophlnkaaGreatDoor
open Go.RowKit Go.Maps
set_option linter.unusedSimpArgs false
set_option linter.unusedVariables false

theorem over1_eq {n : Nd} (ha : arity n.kind = 1) (x : Int) : over1 n x = if fitN1 n x = true then wide1 n x else -1 := by
  unfold over1 fitN1 wide1
  rcases kinds1 ha with hk | hk | hk | hk | hk <;> simp [hk]
  all_goals (split <;> split <;> first | rfl | omega)
theorem over2_eq {n : Nd} (ha : arity n.kind = 2) (x y : Int) : over2 n x y = if fitN2 n x y = true then wide2 n x y else -1 := by
  unfold over2 fitN2 wide2
  rcases kinds2 ha with hk | hk
  · simp only [hk, if_true]
    by_cases h1 : n.col < x
    · by_cases h2 : n.num < y
      · simp only [h1, h2, decide_true, Bool.and_true, if_true]
        by_cases h3 : 64 < x + y
        · rw [if_pos (by omega), if_pos h3]
        · rw [if_neg (by omega), if_neg h3]
      · rw [if_pos (by omega)]; simp [h2]
    · rw [if_pos (by omega)]; simp [h1]
  · have h3 : ¬ n.kind = 3 := by omega
    simp only [h3, if_false]
    by_cases h : x = y <;> simp [h]
theorem own_some {w : World} {base : Nat} {ao : Option Addr} {c : Nat} {l : List Int} (h : Own w base 3 .i64 ao c l) (hl : l ≠ []) : ∃ g, ao = some ⟨g, 0, none⟩ ∧ base ≤ g ∧ g < w.heap.size := by
  rcases h.2 with ⟨hv, hn⟩ | ⟨g, cap, cur, hv, hb, hg, _⟩
  · exact absurd (List.eq_nil_of_length_eq_zero hn) hl
  · simp only [Value.slice.injEq] at hv
    exact ⟨g, hv.1, hb, (Array.getElem?_eq_some_iff.1 hg).1⟩
theorem own_cell {w : World} {base g : Nat} {c : Nat} {l : List Int} (h : Own w base 3 .i64 (some ⟨g, 0, none⟩) c l) (i : Nat) (x : Int) (hi : l[i]? = some x) : w.cell? ⟨g, i, none⟩ = some (.int .i64 x) := by
  have hlt : i < l.length := (List.getElem?_eq_some_iff.1 hi).1
  have := World.ownsRow.cellAt h i (by omega)
  rw [this, List.getElem?_map, hi]; rfl
theorem nodeB_name {n : Nd} (h : nodeB n = true) (hk : n.kind = 0) : n.name.size ≤ maxLen := by
  unfold nodeB at h
  rw [if_pos hk, Bool.and_eq_true] at h
  have h1 := h.1
  have h0 : ¬ ¬ (1 ≤ n.name.size ∧ n.name.size ≤ 12) := fun hn => by rw [wordB_len hn] at h1; cases h1
  unfold maxLen; omega

set_option maxRecDepth 100000 in
set_option maxHeartbeats 4000000 in
theorem width_any (w0 : World) (f : Fn) (hf : FnOk f) (bm nm : Nat) : ∀ (T : Tr) (w : World) (lo hi b : Nat), TrQ w0 w lo hi T b → hi ≤ w.heap.size → Below w0.heap.size w0 w → OwnM w bm nm f → T.nodes →
    Calls Tryz.prog 72 #[.pointer (some ⟨b, 0, none⟩), .map (some bm)] w fun e w' => e = .returned (.int .i64 (widT f T)) ∧ Below w.heap.size w w' := by
  intro T
  induction T with
  | t0 n pl en =>
    intro w lo hi b h hh hb0 hm hn
    obtain ⟨_, hb2, a, c, c0, c1, c2, c3, q⟩ := h
    have hnb : nodeB n = true := hn.1
    have hk : n.kind = 0 := hn.2
    obtain ⟨t, v, hkv⟩ := kindV_iface hnb a c
    rw [hkv] at c0
    have FT := Lib.hid (show ∀ W, Calls Tryz.prog 155 #[.iface t v, .slice none 0 0] W fun e w' => e = .returned (.bool true) ∧ W = w' from fun W => hkv ▸ fits0_any n a c W hk)
    have WO := Lib.hid (show Calls Tryz.prog 156 #[.iface t v, .map (some bm), .slice none 0 0] w fun e w' => e = .returned (.int .i64 ((f n.name.data.toList).getD (-1))) ∧ Below w.heap.size w w' from hkv ▸ wide0_any n a c bm nm f w hk hm (nodeB_name hnb hk))
    have hbw : b < w.heap.size := by omega
    have E := Lib.hid (show widT f (.t0 n pl en) = (f n.name.data.toList).getD (-1) from rfl)
    generalize (f n.name.data.toList).getD (-1) = res at WO E
    clear hkv hm hn hnb hk q hb0
    go_enter Tryz.func72, Tryz.ntmps72
    go_wp2_with fail
    refine wp_loop_rounds 1 ?_; rw [rounds_succ]
    go_wp2_with fail
    refine (FT.out _).mono ?_
    rintro e w' ⟨rfl, rfl⟩
    go_wp2_with fail
    refine WO.out.mono ?_
    rintro e w1 ⟨rfl, b1⟩
    have B1 := Lib.hid b1; clear b1
    go_wp2_with fail
    go_ret
    rw [E.out]
    exact ⟨rfl, B1.out⟩
  | t1 n pl en c ih =>
    intro w lo hi b h hh hb0 hm hn
    obtain ⟨g, cap, bc, ⟨_, hb2, a, cc, c0, c1, c2, c3, q⟩, hg, g0, tc⟩ := h
    have hnb : nodeB n = true := hn.1.1
    have ha : arity n.kind = 1 := hn.1.2
    have hwd := widT_wide hf c hn.2
    obtain ⟨t, v, hkv⟩ := kindV_iface hnb a cc
    rw [hkv] at c0
    have FT := Lib.hid (show ∀ gg cb x W, W.cell? ⟨gg, 0, none⟩ = some (.int .i64 x) → Rd W .i64 a n.cols → Calls Tryz.prog 155 #[.iface t v, .slice (some ⟨gg, 0, none⟩) 1 cb] W fun e w' => e = .returned (.bool (fitN1 n x)) ∧ Below W.heap.size W w' from fun gg cb x W h1 h2 => hkv ▸ fits1_any n a cc ha gg cb x W h1 h2 q.2)
    have WO := Lib.hid (show ∀ gg cb x W, W.cell? ⟨gg, 0, none⟩ = some (.int .i64 x) → Calls Tryz.prog 156 #[.iface t v, .map (some bm), .slice (some ⟨gg, 0, none⟩) 1 cb] W fun e w' => e = .returned (.int .i64 (wide1 n x)) ∧ Below W.heap.size W w' from fun gg cb x W h1 => hkv ▸ wide1_any n a cc ha bm gg cb x W h1 q.2)
    have OV := Lib.hid (over1_eq ha (widT f c))
    have RQ := Lib.hid (q.1.below hb0)
    have E := Lib.hid (show widT f (.t1 n pl en c) = if widT f c = -1 then -1 else over1 n (widT f c) from rfl)
    have hbw : b < w.heap.size := by omega
    have hgw : g < w.heap.size := by omega
    have TC := Lib.hid tc; have IH := Lib.hid ih; have NC := Lib.hid hn.2; have HM := Lib.hid hm; have B00 := Lib.hid hb0
    clear ih tc hn hkv hnb ha q hm hb0
    generalize widT f c = x at hwd IH OV E
    go_enter Tryz.func72, Tryz.ntmps72
    go_wp2_with fail
    refine wp_loop_rounds 2 ?_; rw [rounds_succ]
    go_wp2_with fail
    refine (IH.out w lo hi bc TC.out hh B00.out HM.out NC.out).mono ?_
    rintro e w1 ⟨rfl, b1⟩
    have B1 := Lib.hid b1
    have hc1 := fun o => b1.cell (p := ⟨b, o, none⟩) hbw
    have hd1 := fun o => b1.cell (p := ⟨g, o, none⟩) hgw
    clear b1
    rcases hwd with rfl | ⟨hx1, hx2⟩
    · go_wp2_with fail
      go_ret
      rw [E.out]
      exact ⟨rfl, B1.out⟩
    have hne : (x == -1) = false := by simp; omega
    have hne' : ¬ x = -1 := by omega
    have RES := Lib.hid (show widT f (.t1 n pl en c) = if fitN1 n x = true then wide1 n x else -1 by rw [E.out, if_neg hne', OV.out])
    clear E OV
    go_wp2_with (at_builtin; refine wpList_appendI _ rfl (.tmp 25) (.tmp 27) 47 rfl w.heap.size 3 Tryz.underlying47 Tryz.infoInt none 0 0 [] rfl rfl Own.none_ _ _ x rfl (cell_one _ _ _) (by simp) (by have := B1.out.size; simp; omega) ?_; intro ao2 c2' w2 o2 g2; have b2 := (B1.out.alloc B1.out.size _).grown g2 (by have := B1.out.size; simp; omega) (by intro q hq; cases hq); have hc2 := fun o => b2.cell (p := ⟨b, o, none⟩) hbw; have hd2 := fun o => b2.cell (p := ⟨g, o, none⟩) hgw; have B2 := Lib.hid b2; obtain ⟨g', rfl, hgb, hgl⟩ := own_some o2 (by simp); have k0 := own_cell o2 0 x (by simp); clear o2 g2 b2)
    rw [rounds_succ]
    go_wp2_with fail
    refine (FT.out g' c2' x _ k0 (RQ.out.below B2.out)).mono ?_
    rintro e w3 ⟨rfl, b3⟩
    have B3 := Lib.hid (below_step B2.out (Nat.le_refl _) b3)
    have k3 := (b3.cell (p := ⟨g', 0, none⟩) hgl).trans k0
    have hc3 := fun o => B3.out.cell (p := ⟨b, o, none⟩) hbw
    clear b3
    cases hfit : fitN1 n x with
    | false =>
      have RS := Lib.hid (show widT f (.t1 n pl en c) = -1 by rw [RES.out, hfit]; rfl)
      go_wp2_with fail
      go_ret
      rw [RS.out]
      exact ⟨rfl, B3.out⟩
    | true =>
      have RS := Lib.hid (show widT f (.t1 n pl en c) = wide1 n x by rw [RES.out, hfit]; rfl)
      go_wp2_with fail
      refine (WO.out g' c2' x _ k3).mono ?_
      rintro e w4 ⟨rfl, b4⟩
      have B4 := Lib.hid (below_step B3.out (Nat.le_refl _) b4)
      clear b4
      go_wp2_with fail
      go_ret
      rw [RS.out]
      exact ⟨rfl, B4.out⟩
  | t2 n pl en c d ihc ihd =>
    intro w lo hi b h hh hb0 hm hn
    obtain ⟨g, cap, bc, bd, ⟨_, hb2, a, cc, c0, c1, c2, c3, q⟩, hg, g0, g1', tc, td⟩ := h
    have hnb : nodeB n = true := hn.1.1
    have ha : arity n.kind = 2 := hn.1.2
    have hwc := widT_wide hf c hn.2.1
    have hwd := widT_wide hf d hn.2.2
    obtain ⟨t, v, hkv⟩ := kindV_iface hnb a cc
    rw [hkv] at c0
    have FT := Lib.hid (show ∀ gg cb x y W, W.cell? ⟨gg, 0, none⟩ = some (.int .i64 x) → W.cell? ⟨gg, 1, none⟩ = some (.int .i64 y) → Calls Tryz.prog 155 #[.iface t v, .slice (some ⟨gg, 0, none⟩) 2 cb] W fun e w' => e = .returned (.bool (fitN2 n x y)) ∧ Below W.heap.size W w' from fun gg cb x y W h1 h2 => hkv ▸ fits2_any n a cc ha gg cb x y W h1 h2)
    have WO := Lib.hid (show ∀ gg cb x y W, W.cell? ⟨gg, 0, none⟩ = some (.int .i64 x) → W.cell? ⟨gg, 1, none⟩ = some (.int .i64 y) → 0 ≤ x → x ≤ 64 → 0 ≤ y → y ≤ 64 → Calls Tryz.prog 156 #[.iface t v, .map (some bm), .slice (some ⟨gg, 0, none⟩) 2 cb] W fun e w' => e = .returned (.int .i64 (wide2 n x y)) ∧ Below W.heap.size W w' from fun gg cb x y W h1 h2 k1 k2 k3 k4 => hkv ▸ wide2_any n a cc ha bm gg cb x y W h1 h2 k1 k2 k3 k4)
    have OV := Lib.hid (over2_eq ha (widT f c) (widT f d))
    have E := Lib.hid (show widT f (.t2 n pl en c d) = if widT f c = -1 then -1 else if widT f d = -1 then -1 else over2 n (widT f c) (widT f d) from rfl)
    have hbw : b < w.heap.size := by omega
    have hgw : g < w.heap.size := by omega
    have TC := Lib.hid tc; have IH := Lib.hid ihc; have NC := Lib.hid hn.2.1
    have TD := Lib.hid td; have IJ := Lib.hid ihd; have ND := Lib.hid hn.2.2
    have HM := Lib.hid hm; have B00 := Lib.hid hb0
    clear ihc ihd tc td hn hkv hnb ha q hm hb0
    generalize widT f c = x at hwc IH OV E
    generalize widT f d = y at hwd IJ OV E
    go_enter Tryz.func72, Tryz.ntmps72
    go_wp2_with fail
    refine wp_loop_rounds 3 ?_; rw [rounds_succ]
    go_wp2_with fail
    refine (IH.out w lo hi bc TC.out hh B00.out HM.out NC.out).mono ?_
    rintro e w1 ⟨rfl, b1⟩
    have B1 := Lib.hid b1
    have hc1 := fun o => b1.cell (p := ⟨b, o, none⟩) hbw
    have hd1 := fun o => b1.cell (p := ⟨g, o, none⟩) hgw
    clear b1
    rcases hwc with rfl | ⟨hx1, hx2⟩
    · go_wp2_with fail
      go_ret
      rw [E.out]
      exact ⟨rfl, B1.out⟩
    have hne : (x == -1) = false := by simp; omega
    have hne' : ¬ x = -1 := by omega
    have E1 := Lib.hid (show widT f (.t2 n pl en c d) = if y = -1 then -1 else over2 n x y by rw [E.out, if_neg hne'])
    clear E
    go_wp2_with (at_builtin; refine wpList_appendI _ rfl (.tmp 25) (.tmp 27) 47 rfl w.heap.size 3 Tryz.underlying47 Tryz.infoInt none 0 0 [] rfl rfl Own.none_ _ _ x rfl (cell_one _ _ _) (by simp) (by have := B1.out.size; simp; omega) ?_; intro ao2 c2' w2 o2 g2; have b2 := (B1.out.alloc B1.out.size _).grown g2 (by have := B1.out.size; simp; omega) (by intro q hq; cases hq); have hc2 := fun o => b2.cell (p := ⟨b, o, none⟩) hbw; have hd2 := fun o => b2.cell (p := ⟨g, o, none⟩) hgw; have B2 := Lib.hid b2; obtain ⟨g', rfl, hgb, hgl⟩ := own_some o2 (by simp); have O2 := Lib.hid (show Own w2 w.heap.size 3 .i64 (some ⟨g', 0, none⟩) c2' [x] from o2); clear o2 g2 b2)
    rw [rounds_succ]
    go_wp2_with fail
    refine (IJ.out w2 lo hi bd (TD.out.below hh B2.out) (Nat.le_trans hh B2.out.size) (below_step B00.out (Nat.le_refl _) B2.out) (HM.out.below B2.out) ND.out).mono ?_
    rintro e w3 ⟨rfl, b3⟩
    have B3 := Lib.hid (below_step B2.out (Nat.le_refl _) b3)
    have O3 := Lib.hid (O2.out.below b3)
    have hc3 := fun o => B3.out.cell (p := ⟨b, o, none⟩) hbw
    have hd3 := fun o => B3.out.cell (p := ⟨g, o, none⟩) hgw
    clear b3 O2
    rcases hwd with rfl | ⟨hy1, hy2⟩
    · go_wp2_with fail
      go_ret
      rw [E1.out]
      exact ⟨rfl, B3.out⟩
    have hney : (y == -1) = false := by simp; omega
    have hney' : ¬ y = -1 := by omega
    have RES := Lib.hid (show widT f (.t2 n pl en c d) = if fitN2 n x y = true then wide2 n x y else -1 by rw [E1.out, if_neg hney', OV.out])
    clear E1 OV
    go_wp2_with (at_builtin; refine wpList_appendI _ rfl (.tmp 25) (.tmp 27) 47 rfl w.heap.size 3 Tryz.underlying47 Tryz.infoInt (some ⟨g', 0, none⟩) c2' 1 [x] rfl rfl (O3.out.alloc _) _ _ y rfl (cell_one _ _ _) (by simp) (by have := B3.out.size; simp; omega) ?_; intro ao4 c4' w4 o4 g4; have b4 := (B3.out.alloc B3.out.size _).grown g4 (by have := B3.out.size; simp; omega) (by intro q hq; simp at hq; omega); have hc4 := fun o => b4.cell (p := ⟨b, o, none⟩) hbw; have hd4 := fun o => b4.cell (p := ⟨g, o, none⟩) hgw; have B4 := Lib.hid b4; obtain ⟨g4', rfl, hgb4, hgl4⟩ := own_some o4 (by simp); have k0 := own_cell o4 0 x (by simp); have k1 := own_cell o4 1 y (by simp); clear o4 g4 b4)
    rw [rounds_succ]
    go_wp2_with fail
    refine (FT.out g4' c4' x y _ k0 k1).mono ?_
    rintro e w5 ⟨rfl, b5⟩
    have B5 := Lib.hid (below_step B4.out (Nat.le_refl _) b5)
    have k50 := (b5.cell (p := ⟨g4', 0, none⟩) hgl4).trans k0
    have k51 := (b5.cell (p := ⟨g4', 1, none⟩) hgl4).trans k1
    have hc5 := fun o => B5.out.cell (p := ⟨b, o, none⟩) hbw
    clear b5
    cases hfit : fitN2 n x y with
    | false =>
      have RS := Lib.hid (show widT f (.t2 n pl en c d) = -1 by rw [RES.out, hfit]; rfl)
      go_wp2_with fail
      go_ret
      rw [RS.out]
      exact ⟨rfl, B5.out⟩
    | true =>
      have RS := Lib.hid (show widT f (.t2 n pl en c d) = wide2 n x y by rw [RES.out, hfit]; rfl)
      go_wp2_with fail
      refine (WO.out g4' c4' x y _ k50 k51 (by omega) hx2 (by omega) hy2).mono ?_
      rintro e w6 ⟨rfl, b6⟩
      have B6 := Lib.hid (below_step B5.out (Nat.le_refl _) b6)
      clear b6
      go_wp2_with fail
      go_ret
      rw [RS.out]
      exact ⟨rfl, B6.out⟩
end Go.Proofs.YtfpbhedophlnkaaGreatDoor
namespace Go.Proofs.YtfpbhedophlnkaaGreatDoor
open Go.RowKit
set_option linter.unusedSimpArgs false
set_option linter.unusedVariables false

set_option maxRecDepth 100000 in
set_option maxHeartbeats 4000000 in
theorem wid_t0 (sa : Option Addr) (cs : Nat) (s : List Tb) (ao : Option Addr) (c : Nat) (p : List Nd) (T0 : Tr) (hs : schemaB s = true) (hsl : s.length ≤ 1048576) (hp : p.length ≤ 1048576) (ht : treeN p = some T0) (n : Nd) (pl en : Nat) : ∀ (k : Nat) (w : World), RdT w sa s → RdN w ao p → growT p p.length k = some (Tr.t0 n pl en) → (Tr.t0 n pl en).depth ≤ 10 →
    Calls Tryz.prog 73 #[.slice sa s.length cs, .slice ao p.length c, .int .i64 k] w fun e w' => e = .returned (.int .i64 (widT (fnOf s) (Tr.t0 n pl en))) ∧ Below w.heap.size w w' := by
  have hf := fnOk_schema hs
  have TS := Lib.hid (told_self s (schemaB_iff.1 hs).2.2)
  intro k w hrs hrp hg hd
  have HG := Lib.hid hg
  obtain ⟨n', hn, hnb, hS⟩ := grow_inv hg
  rcases hS with ⟨hS, ha⟩ | ⟨c', hS, _⟩ | ⟨c', d', hS, _⟩
  case inr.inl => cases hS
  case inr.inr => cases hS
  cases hS
  have hkl : pl < p.length := (List.getElem?_eq_some_iff.1 hn).1
  obtain ⟨b, off, n2, a, c2, rfl, hn2, hat⟩ := hrp.at_ hkl
  obtain rfl : n = n2 := by rw [hn] at hn2; injection hn2
  obtain ⟨c0, c1, c2', c3, c4, c5, c6, rd, cap, mx, nm⟩ := hat
  have RDC := Lib.hid rd
  have hcl : n.cols.length ≤ maxLen := Nat.le_trans cap mx
  clear rd hn2 cap mx
  obtain ⟨W1, hW1⟩ : ∃ W1, W1 = w.alloc (.cells (#[.int .i64 n.kind, .string n.name, .int .i64 n.col, .int .i64 n.op, .int .i64 n.num, .bool n.slot, .slice a n.cols.length c2]) 92) := ⟨_, rfl⟩
  have Z1 := Lib.hid (show W1.heap.size = w.heap.size + 1 by rw [hW1]; simp)
  have A1 := Lib.hid (show Below w.heap.size w W1 by rw [hW1]; exact (Below.refl _ _).alloc (Nat.le_refl _) _)
  have f0 : W1.cell? ⟨w.heap.size, 0, none⟩ = some (.int .i64 n.kind) := by rw [hW1, World.cell?_alloc_new]; rfl
  have f1 : W1.cell? ⟨w.heap.size, 1, none⟩ = some (.string n.name) := by rw [hW1, World.cell?_alloc_new]; rfl
  have f2 : W1.cell? ⟨w.heap.size, 2, none⟩ = some (.int .i64 n.col) := by rw [hW1, World.cell?_alloc_new]; rfl
  have f4 : W1.cell? ⟨w.heap.size, 4, none⟩ = some (.int .i64 n.num) := by rw [hW1, World.cell?_alloc_new]; rfl
  have f6 : W1.cell? ⟨w.heap.size, 6, none⟩ = some (.slice a n.cols.length c2) := by rw [hW1, World.cell?_alloc_new]; rfl
  have OE := Lib.hid (show Own (W1.alloc (.cells #[] 3)) (w.heap.size + 1) 3 .i64 (some ⟨w.heap.size + 1, 0, none⟩) 0 [] by
    have := own_empty (w := W1) (base := W1.heap.size) (e := 3) (k := .i64) (Nat.le_refl _)
    rw [Z1.out] at this; exact this)
  have NE := Lib.hid ((Below.refl W1.heap.size W1).alloc (Nat.le_refl _) (.cells #[] 3))
  have HRS := Lib.hid (hrs.below A1.out); have HRP := Lib.hid (hrp.below A1.out)
  have FIN := Lib.hid (fun w' (hc : Below W1.heap.size W1 w') => (A1.out.trans (hc.mono (by rw [Z1.out]; exact Nat.le_succ _)) : Below w.heap.size w w'))
  have RD1 := Lib.hid (RDC.out.below A1.out)
  have hbw : b < w.heap.size := World.block_lt_of_cell? w ⟨b, off + pl * 7, none⟩ c0
  have HK := Lib.hid (show n.kind = 0 from (growT_nodes p _ _ _ HG.out).2)
  have KO := Lib.hid (show KidsOk p ((pl : Int)).toNat [] by rw [Int.toNat_natCast]; exact ⟨n, hn, .inl ⟨ha, rfl⟩⟩)
  go_enter Tryz.func73, Tryz.ntmps73
  go_wp2_with fail
  rw [← hW1]
  refine (specKids_any (some ⟨b, off, none⟩) c p pl [] _ (HRP.out.below NE.out) hp (by omega) (by omega) KO.out).mono ?_
  rintro e w3 ⟨a3, c3', rfl, o3, b3⟩
  have N3 := Lib.hid (below_step NE.out (Nat.le_refl _) b3)
  have OW3 := Lib.hid (OE.out.below b3)
  have e3 := fun o => N3.out.cell (p := ⟨w.heap.size, o, none⟩) (by rw [Z1.out]; exact Nat.lt_succ_self _)
  clear o3 b3
  have g0 := (e3 0).trans f0; have g1 := (e3 1).trans f1
  rw [HK.out] at g0
  clear c0 c1 c2' c3 c4 c5 c6 hW1 f0 f1 f2 f4 f6 e3
  go_wp2_with fail
  refine wp_loop_rounds 1 ?_; rw [rounds_succ]
  go_wp2_with fail
  refine (l03Find_any sa cs s n.name _ (HRS.out.below N3.out) hsl).mono ?_
  rintro e w' ⟨rfl, r, rfl, hr⟩
  rcases hr with ⟨rfl, hno⟩ | ⟨i, t, rfl, hi, hx⟩
  · have E := Lib.hid (show widT (fnOf s) (.t0 n pl (pl + 1)) = -1 by
      unfold widT
      cases hv : fnOf s n.name.data.toList with
      | none => rfl
      | some v =>
        obtain ⟨t, ht, h1, _⟩ := (TS.out.2 _ _).1 hv
        exact absurd h1 (hno t ht))
    clear hno
    go_wp2_with fail
    go_ret
    rw [E.out]
    exact ⟨rfl, FIN.out _ N3.out⟩
  · have E := Lib.hid (show widT (fnOf s) (.t0 n pl (pl + 1)) = t.width by
      unfold widT
      rw [(TS.out.2 n.name.data.toList t.width).2 ⟨t, List.mem_of_getElem? hi, by unfold Tb.key; rw [hx], rfl⟩]; rfl)
    have hil : i < s.length := (List.getElem?_eq_some_iff.1 hi).1
    obtain ⟨bs, os, t', rfl, hi', hat⟩ := (HRS.out.below N3.out).at_ hil
    obtain rfl : t = t' := by rw [hi] at hi'; injection hi'
    obtain ⟨u0, u1, _⟩ := hat
    clear hi hi' hx
    go_wp2_with fail
    go_ret
    rw [E.out]
    exact ⟨rfl, FIN.out _ N3.out⟩
end Go.Proofs.YtfpbhedophlnkaaGreatDoor
namespace Go.Proofs.YtfpbhedophlnkaaGreatDoor
open Go.RowKit
set_option linter.unusedSimpArgs false
set_option linter.unusedVariables false

set_option maxRecDepth 100000 in
set_option maxHeartbeats 4000000 in
theorem wid_t1 (sa : Option Addr) (cs : Nat) (s : List Tb) (ao : Option Addr) (c : Nat) (p : List Nd) (T0 : Tr) (hs : schemaB s = true) (hsl : s.length ≤ 1048576) (hp : p.length ≤ 1048576) (ht : treeN p = some T0) (n : Nd) (pl en : Nat) (ch : Tr) (ih : ∀ (k : Nat) (w : World), RdT w sa s → RdN w ao p → growT p p.length k = some ch → ch.depth ≤ 10 →
    Calls Tryz.prog 73 #[.slice sa s.length cs, .slice ao p.length c, .int .i64 k] w fun e w' => e = .returned (.int .i64 (widT (fnOf s) ch)) ∧ Below w.heap.size w w') : ∀ (k : Nat) (w : World), RdT w sa s → RdN w ao p → growT p p.length k = some (Tr.t1 n pl en ch) → (Tr.t1 n pl en ch).depth ≤ 10 →
    Calls Tryz.prog 73 #[.slice sa s.length cs, .slice ao p.length c, .int .i64 k] w fun e w' => e = .returned (.int .i64 (widT (fnOf s) (Tr.t1 n pl en ch))) ∧ Below w.heap.size w w' := by
  have hf := fnOk_schema hs
  have TS := Lib.hid (told_self s (schemaB_iff.1 hs).2.2)
  intro k w hrs hrp hg hd
  have HG := Lib.hid hg
  have NDS := Lib.hid (growT_nodes p _ _ _ hg)
  obtain ⟨n', hn, hnb, hS⟩ := grow_inv hg
  rcases hS with ⟨hS, _⟩ | ⟨c', hS, ha, hc⟩ | ⟨c', d', hS, _⟩
  case inl => cases hS
  case inr.inr => cases hS
  cases hS
  have hkl : pl < p.length := (List.getElem?_eq_some_iff.1 hn).1
  obtain ⟨b, off, n2, a, c2, rfl, hn2, hat⟩ := hrp.at_ hkl
  obtain rfl : n = n2 := by rw [hn] at hn2; injection hn2
  obtain ⟨c0, c1, c2', c3, c4, c5, c6, rd, cap, mx, nm⟩ := hat
  have RDC := Lib.hid rd
  have hcl : n.cols.length ≤ maxLen := Nat.le_trans cap mx
  clear rd hn2 cap mx
  obtain ⟨W1, hW1⟩ : ∃ W1, W1 = w.alloc (.cells (#[.int .i64 n.kind, .string n.name, .int .i64 n.col, .int .i64 n.op, .int .i64 n.num, .bool n.slot, .slice a n.cols.length c2]) 92) := ⟨_, rfl⟩
  have Z1 := Lib.hid (show W1.heap.size = w.heap.size + 1 by rw [hW1]; simp)
  have A1 := Lib.hid (show Below w.heap.size w W1 by rw [hW1]; exact (Below.refl _ _).alloc (Nat.le_refl _) _)
  have f0 : W1.cell? ⟨w.heap.size, 0, none⟩ = some (.int .i64 n.kind) := by rw [hW1, World.cell?_alloc_new]; rfl
  have f1 : W1.cell? ⟨w.heap.size, 1, none⟩ = some (.string n.name) := by rw [hW1, World.cell?_alloc_new]; rfl
  have f2 : W1.cell? ⟨w.heap.size, 2, none⟩ = some (.int .i64 n.col) := by rw [hW1, World.cell?_alloc_new]; rfl
  have f4 : W1.cell? ⟨w.heap.size, 4, none⟩ = some (.int .i64 n.num) := by rw [hW1, World.cell?_alloc_new]; rfl
  have f6 : W1.cell? ⟨w.heap.size, 6, none⟩ = some (.slice a n.cols.length c2) := by rw [hW1, World.cell?_alloc_new]; rfl
  have OE := Lib.hid (show Own (W1.alloc (.cells #[] 3)) (w.heap.size + 1) 3 .i64 (some ⟨w.heap.size + 1, 0, none⟩) 0 [] by
    have := own_empty (w := W1) (base := W1.heap.size) (e := 3) (k := .i64) (Nat.le_refl _)
    rw [Z1.out] at this; exact this)
  have NE := Lib.hid ((Below.refl W1.heap.size W1).alloc (Nat.le_refl _) (.cells #[] 3))
  have HRS := Lib.hid (hrs.below A1.out); have HRP := Lib.hid (hrp.below A1.out)
  have FIN := Lib.hid (fun w' (hc : Below W1.heap.size W1 w') => (A1.out.trans (hc.mono (by rw [Z1.out]; exact Nat.le_succ _)) : Below w.heap.size w w'))
  have RD1 := Lib.hid (RDC.out.below A1.out)
  have hbw : b < w.heap.size := World.block_lt_of_cell? w ⟨b, off + pl * 7, none⟩ c0
  have hdc : ch.depth ≤ 9 := by simp only [Tr.depth] at hd; omega
  have IHC := Lib.hid (show ∀ W, RdT W sa s → RdN W (some ⟨b, off, none⟩) p → Calls Tryz.prog 73 #[.slice sa s.length cs, .slice (some ⟨b, off, none⟩) p.length c, .int .i64 ((pl : Int) + 1)] W fun e w' => e = .returned (.int .i64 (widT (fnOf s) ch)) ∧ Below W.heap.size W w' from fun W h1 h2 => by
    have := ih (pl + 1) W h1 h2 hc (by omega)
    rwa [show ((pl + 1 : Nat) : Int) = (pl : Int) + 1 by omega] at this)
  have hwd := widT_wide hf ch NDS.out.2
  have KC := Lib.hid (fun h2 : n.kind = 2 => cols_of_nodeB hnb h2)
  have HA := Lib.hid ha
  have E := Lib.hid (show widT (fnOf s) (.t1 n pl ch.en ch) = if widT (fnOf s) ch = -1 then -1 else over1 n (widT (fnOf s) ch) from rfl)
  have KO := Lib.hid (show KidsOk p ((pl : Int)).toNat [(pl : Int) + 1] by rw [Int.toNat_natCast]; exact ⟨n, hn, .inr (.inl ⟨ha, rfl, _, _, endN_of_grow ht hc (by omega)⟩)⟩)
  clear hn
  go_enter Tryz.func73, Tryz.ntmps73
  go_wp2_with fail
  rw [← hW1]
  refine (specKids_any (some ⟨b, off, none⟩) c p pl [(pl : Int) + 1] _ (HRP.out.below NE.out) hp (by omega) (by omega) KO.out).mono ?_
  rintro e w3 ⟨a3, c3', rfl, o3, b3⟩
  have N3 := Lib.hid (below_step NE.out (Nat.le_refl _) b3)
  have OW3 := Lib.hid (OE.out.below b3)
  have e3 := fun o => N3.out.cell (p := ⟨w.heap.size, o, none⟩) (by rw [Z1.out]; exact Nat.lt_succ_self _)
  obtain ⟨g3, rfl, hgb3, hg3⟩ := own_some o3 (by simp)
  have hgb3' : w.heap.size + 2 ≤ g3 := by have := Z1.out; simp at hgb3; omega
  clear hgb3 c0 c1 c2' c3 c4 c5 c6 hW1
  have kk := own_cell o3 0 ((pl : Int) + 1) rfl
  clear o3 b3 ih hc ha hnb hrs hrp
  generalize widT (fnOf s) ch = x at hwd IHC E
  go_wp2_with fail
  refine wp_loop_rounds 2 ?_; rw [rounds_succ]
  go_wp2_with fail
  refine (IHC.out _ (HRS.out.below N3.out) (HRP.out.below N3.out)).mono ?_
  rintro e w4 ⟨rfl, b4⟩
  have N4 := Lib.hid (below_step N3.out (Nat.le_refl _) b4)
  have e4 := fun o => N4.out.cell (p := ⟨w.heap.size, o, none⟩) (by rw [Z1.out]; exact Nat.lt_succ_self _)
  have OW4 := Lib.hid (OW3.out.below b4)
  clear b4 e3
  rcases hwd with rfl | ⟨hx1, hx2⟩
  · go_wp2_with fail
    go_ret
    rw [E.out]
    exact ⟨rfl, FIN.out _ N4.out⟩
  have E1 := Lib.hid (show widT (fnOf s) (.t1 n pl ch.en ch) = over1 n x by rw [E.out, if_neg (show ¬ x = -1 by omega)])
  clear E
  go_wp2_with (at_builtin; refine wpList_appendI _ rfl (.tmp 37) (.tmp 39) 47 rfl (w.heap.size + 1) 3 Tryz.underlying47 Tryz.infoInt (some ⟨w.heap.size + 1, 0, none⟩) 0 0 [] rfl rfl (OW4.out.alloc _) _ _ x rfl (cell_one _ _ _) (by simp) (by have := N4.out.size; rw [Z1.out] at this; simp; omega) ?_; intro ao5 c5' w5 o5 g5; have n5 := ((Below.refl W1.heap.size w4).alloc N4.out.size _).grown g5 (by have := N4.out.size; simp; omega) (by intro q hq; simp at hq; rw [Z1.out]; omega); have N5 := Lib.hid (N4.out.trans n5); obtain ⟨g5', rfl, hgb5, hgl5⟩ := own_some o5 (by simp); have k0 := own_cell o5 0 x (by simp); clear o5 g5; have e5 := fun o => N5.out.cell (p := ⟨w.heap.size, o, none⟩) (by rw [Z1.out]; exact Nat.lt_succ_self _); clear n5)
  have q0 := (e5 0).trans f0; have q2 := (e5 2).trans f2; have q6 := (e5 6).trans f6
  have RD5 := Lib.hid (RD1.out.below N5.out)
  clear e4 e5 f0 f1 f2 f4 f6 kk
  rcases kinds1 HA.out with hk | hk | hk | hk | hk
  · rw [hk] at q0
    by_cases hx : x ≤ n.col
    · have E2 := Lib.hid (show widT (fnOf s) (.t1 n pl ch.en ch) = -1 by rw [E1.out]; unfold over1; rw [if_pos (by omega), if_pos hx])
      clear hk
      rw [rounds_succ]
      go_wp2_with fail
      go_quiet (fail)
      all_goals
        go_wp2_with fail
        go_ret
        rw [E2.out]
        exact ⟨rfl, FIN.out _ (below_drewN N5.out _)⟩
    · have hx' : n.col < x := by omega
      have E2 := Lib.hid (show widT (fnOf s) (.t1 n pl ch.en ch) = x by rw [E1.out]; unfold over1; rw [if_pos (by omega), if_neg hx])
      clear hk
      rw [rounds_succ]
      go_wp2_with fail
      go_quiet (fail)
      all_goals
        go_wp2_with fail
        go_ret
        rw [E2.out]
        exact ⟨rfl, FIN.out _ (below_drewN N5.out _)⟩
  · rw [hk] at q0
    obtain ⟨hk1, hk6⟩ := KC.out hk
    have EO := Lib.hid (show widT (fnOf s) (.t1 n pl ch.en ch) = if n.cols.all (fun z => decide (z < x)) = true then (n.cols.length : Int) else -1 by rw [E1.out]; unfold over1; rw [if_neg (by omega), if_pos hk])
    clear hk
    rcases RD5.out with hnil | ⟨bb, ob, rfl, hcc⟩
    · rw [hnil] at hk1; simp at hk1
    have HCC := Lib.hid hcc; clear hcc
    rw [rounds_succ]
    go_wp2_with fail
    go_loopw [13] (fun i wr => ∃ j q : Nat, j ≤ n.cols.length ∧ i = .int .i64 j ∧ wr = w5.drewN q ∧ (n.cols.take j).all (fun z => decide (z < x)) = true) (fun i _ => n.cols.length - (intOf i).toNat)
    case atStart => exact ⟨0, 0, Nat.zero_le _, rfl, rfl, rfl⟩
    case round =>
      obtain ⟨j, q, hj, rfl, rfl, hal⟩ := hrel
      have AL := Lib.hid hal; clear hal
      by_cases hlt : j < n.cols.length
      · have hcj := HCC.out j hlt
        have hz : n.cols[j]? = some (n.cols.getD j 0) := by rw [List.getD_eq_getElem?_getD, List.getElem?_eq_getElem hlt]; rfl
        generalize n.cols.getD j 0 = z at hcj hz
        have hlt' : (j : Int) < n.cols.length := by omega
        by_cases hzx : z < x
        · have AN := Lib.hid (show (n.cols.take (j + 1)).all (fun z => decide (z < x)) = true by rw [List.take_add_one, hz, List.all_append, AL.out]; simp [hzx])
          clear hz
          go_wp2_with fail
          go_quiet (fail)
          all_goals
            go_wp2_with fail
            go_roundw
            case rel => exact ⟨j + 1, _, by omega, by go_num, rfl, AN.out⟩
            case measure => simp [intOf]; omega
        · have hzx' : x ≤ z := by omega
          have E2 := Lib.hid (show widT (fnOf s) (.t1 n pl ch.en ch) = -1 by
            rw [EO.out, if_neg]
            intro h
            have := List.all_eq_true.1 h z (List.mem_of_getElem? hz)
            simp at this; omega)
          clear hz
          go_wp2_with fail
          go_quiet (fail)
          all_goals
            go_wp2_with fail
            go_ret
            rw [E2.out]
            exact ⟨rfl, FIN.out _ (by repeat (first | exact N5.out | refine below_drewN ?_ _))⟩
      · obtain rfl : j = n.cols.length := by omega
        have E2 := Lib.hid (show widT (fnOf s) (.t1 n pl ch.en ch) = (n.cols.length : Int) by rw [EO.out, if_pos]; have := AL.out; rwa [List.take_length] at this)
        go_wp2_with fail
        go_ret
        rw [E2.out]
        exact ⟨rfl, FIN.out _ (below_drewN N5.out _)⟩
  · rw [hk] at q0
    by_cases hx : x ≤ n.col
    · have E2 := Lib.hid (show widT (fnOf s) (.t1 n pl ch.en ch) = -1 by rw [E1.out]; unfold over1; rw [if_pos (by omega), if_pos hx])
      clear hk
      rw [rounds_succ]
      go_wp2_with fail
      go_quiet (fail)
      all_goals
        go_wp2_with fail
        go_ret
        rw [E2.out]
        exact ⟨rfl, FIN.out _ (below_drewN N5.out _)⟩
    · have hx' : n.col < x := by omega
      have E2 := Lib.hid (show widT (fnOf s) (.t1 n pl ch.en ch) = x by rw [E1.out]; unfold over1; rw [if_pos (by omega), if_neg hx])
      clear hk
      rw [rounds_succ]
      go_wp2_with fail
      go_quiet (fail)
      all_goals
        go_wp2_with fail
        go_ret
        rw [E2.out]
        exact ⟨rfl, FIN.out _ (below_drewN N5.out _)⟩
  · have E2 := Lib.hid (show widT (fnOf s) (.t1 n pl ch.en ch) = x by rw [E1.out]; unfold over1; rw [if_neg (by omega), if_neg (by omega)])
    rw [hk] at q0
    clear hk
    rw [rounds_succ]
    go_wp2_with fail
    go_ret
    rw [E2.out]
    exact ⟨rfl, FIN.out _ N5.out⟩
  · have E2 := Lib.hid (show widT (fnOf s) (.t1 n pl ch.en ch) = x by rw [E1.out]; unfold over1; rw [if_neg (by omega), if_neg (by omega)])
    rw [hk] at q0
    clear hk
    rw [rounds_succ]
    go_wp2_with fail
    go_ret
    rw [E2.out]
    exact ⟨rfl, FIN.out _ N5.out⟩
end Go.Proofs.YtfpbhedophlnkaaGreatDoor
