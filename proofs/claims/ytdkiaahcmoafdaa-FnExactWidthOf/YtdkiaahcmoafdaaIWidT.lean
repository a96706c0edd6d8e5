/-
  Contract of tree.width. For every tree.
-/
import Derived.Test.YtdkiaahcmoafdaaIWidW
import Derived.Test.YtdkiaahcmoafdaaIWidJ
import Derived.Test.YtdkiaahcmoafdaaKids
namespace Go.Proofs.Ytdkiaahcmoafdaa
open Go.RowKit Go.Maps
set_option linter.unusedSimpArgs false
set_option linter.unusedVariables false

theorem over1_eq {n : Nd} (ha : arity n.kind = 1) (x : Int) : over1 n x = if fits1 n x = true then wide1 n x else -1 := by
  unfold over1 fits1 wide1
  rcases kinds1 ha with hk | hk | hk | hk | hk <;> simp [hk]
  all_goals (split <;> split <;> first | rfl | omega)
theorem over2_eq {n : Nd} (ha : arity n.kind = 2) (x y : Int) : over2 n x y = if fits2 n x y = true then wide2 n x y else -1 := by
  unfold over2 fits2 wide2
  rcases kinds2 ha with hk | hk
  · simp only [hk, if_true]
    by_cases h1 : n.col < x
    · by_cases h2 : n.num < y
      · simp only [h1, h2, decide_true, Bool.and_true, if_true]
        by_cases h3 : 64 < x + y
        · rw [if_pos (by omega), if_pos h3]
        · rw [if_neg (by omega), if_neg h3]
      · rw [if_pos (by omega)]; simp [h2]
    · rw [if_pos (by omega)]; simp [h1]
  · have h3 : ¬ n.kind = 3 := by omega
    simp only [h3, if_false]
    by_cases h : x = y <;> simp [h]
theorem own_some {w : World} {base : Nat} {ao : Option Addr} {c : Nat} {l : List Int} (h : Own w base 3 .i64 ao c l) (hl : l ≠ []) : ∃ g, ao = some ⟨g, 0, none⟩ ∧ base ≤ g ∧ g < w.heap.size := by
  rcases h.2 with ⟨hv, hn⟩ | ⟨g, cap, cur, hv, hb, hg, _⟩
  · exact absurd (List.eq_nil_of_length_eq_zero hn) hl
  · simp only [Value.slice.injEq] at hv
    exact ⟨g, hv.1, hb, (Array.getElem?_eq_some_iff.1 hg).1⟩
theorem own_cell {w : World} {base g : Nat} {c : Nat} {l : List Int} (h : Own w base 3 .i64 (some ⟨g, 0, none⟩) c l) (i : Nat) (x : Int) (hi : l[i]? = some x) : w.cell? ⟨g, i, none⟩ = some (.int .i64 x) := by
  have hlt : i < l.length := (List.getElem?_eq_some_iff.1 hi).1
  have := World.ownsRow.cellAt h i (by omega)
  rw [this, List.getElem?_map, hi]; rfl
theorem nodeB_name {n : Nd} (h : nodeB n = true) (hk : n.kind = 0) : n.name.size ≤ maxLen := by
  unfold nodeB at h
  rw [if_pos hk, Bool.and_eq_true] at h
  have h1 := h.1
  have h0 : ¬ ¬ (1 ≤ n.name.size ∧ n.name.size ≤ 12) := fun hn => by rw [wordB_len hn] at h1; cases h1
  unfold maxLen; omega

set_option maxRecDepth 100000 in
set_option maxHeartbeats 4000000 in
theorem width_any (w0 : World) (f : Fn) (hf : FnOk f) (bm nm : Nat) : ∀ (T : Tr) (w : World) (lo hi b : Nat), TrQ w0 w lo hi T b → hi ≤ w.heap.size → Below w0.heap.size w0 w → OwnM w bm nm f → T.nodes →
    Calls Try.prog 84 #[.pointer (some ⟨b, 0, none⟩), .map (some bm)] w fun e w' => e = .returned (.int .i64 (widT f T)) ∧ Below w.heap.size w w' := by
  intro T
  induction T with
  | t0 n pl en =>
    intro w lo hi b h hh hb0 hm hn
    obtain ⟨_, hb2, a, c, c0, c1, c2, c3, q⟩ := h
    have hnb : nodeB n = true := hn.1
    have hk : n.kind = 0 := hn.2
    obtain ⟨t, v, hkv⟩ := kindV_iface hnb a c
    rw [hkv] at c0
    have FT := Lib.hid (show ∀ W, Calls Try.prog 110 #[.iface t v, .slice none 0 0] W fun e w' => e = .returned (.bool true) ∧ W = w' from fun W => hkv ▸ fits0_any n a c W hk)
    have WO := Lib.hid (show Calls Try.prog 111 #[.iface t v, .map (some bm), .slice none 0 0] w fun e w' => e = .returned (.int .i64 ((f n.name.data.toList).getD (-1))) ∧ Below w.heap.size w w' from hkv ▸ wide0_any n a c bm nm f w hk hm (nodeB_name hnb hk))
    have hbw : b < w.heap.size := by omega
    have E := Lib.hid (show widT f (.t0 n pl en) = (f n.name.data.toList).getD (-1) from rfl)
    generalize (f n.name.data.toList).getD (-1) = res at WO E
    clear hkv hm hn hnb hk q hb0
    go_enter Try.func84, Try.ntmps84
    go_wp2_with fail
    refine wp_loop_rounds 1 ?_; rw [rounds_succ]
    go_wp2_with fail
    refine (FT.out _).mono ?_
    rintro e w' ⟨rfl, rfl⟩
    go_wp2_with fail
    refine WO.out.mono ?_
    rintro e w1 ⟨rfl, b1⟩
    have B1 := Lib.hid b1; clear b1
    go_wp2_with fail
    go_ret
    rw [E.out]
    exact ⟨rfl, B1.out⟩
  | t1 n pl en c ih =>
    intro w lo hi b h hh hb0 hm hn
    obtain ⟨g, cap, bc, ⟨_, hb2, a, cc, c0, c1, c2, c3, q⟩, hg, g0, tc⟩ := h
    have hnb : nodeB n = true := hn.1.1
    have ha : arity n.kind = 1 := hn.1.2
    have hwd := widT_wide hf c hn.2
    obtain ⟨t, v, hkv⟩ := kindV_iface hnb a cc
    rw [hkv] at c0
    have FT := Lib.hid (show ∀ gg cb x W, W.cell? ⟨gg, 0, none⟩ = some (.int .i64 x) → Rd W .i64 a n.cols → Calls Try.prog 110 #[.iface t v, .slice (some ⟨gg, 0, none⟩) 1 cb] W fun e w' => e = .returned (.bool (fits1 n x)) ∧ Below W.heap.size W w' from fun gg cb x W h1 h2 => hkv ▸ fits1_any n a cc ha gg cb x W h1 h2 q.2)
    have WO := Lib.hid (show ∀ gg cb x W, W.cell? ⟨gg, 0, none⟩ = some (.int .i64 x) → Calls Try.prog 111 #[.iface t v, .map (some bm), .slice (some ⟨gg, 0, none⟩) 1 cb] W fun e w' => e = .returned (.int .i64 (wide1 n x)) ∧ Below W.heap.size W w' from fun gg cb x W h1 => hkv ▸ wide1_any n a cc ha bm gg cb x W h1 q.2)
    have OV := Lib.hid (over1_eq ha (widT f c))
    have RQ := Lib.hid (q.1.below hb0)
    have E := Lib.hid (show widT f (.t1 n pl en c) = if widT f c = -1 then -1 else over1 n (widT f c) from rfl)
    have hbw : b < w.heap.size := by omega
    have hgw : g < w.heap.size := by omega
    have TC := Lib.hid tc; have IH := Lib.hid ih; have NC := Lib.hid hn.2; have HM := Lib.hid hm; have B00 := Lib.hid hb0
    clear ih tc hn hkv hnb ha q hm hb0
    generalize widT f c = x at hwd IH OV E
    go_enter Try.func84, Try.ntmps84
    go_wp2_with fail
    refine wp_loop_rounds 2 ?_; rw [rounds_succ]
    go_wp2_with fail
    refine (IH.out w lo hi bc TC.out hh B00.out HM.out NC.out).mono ?_
    rintro e w1 ⟨rfl, b1⟩
    have B1 := Lib.hid b1
    have hc1 := fun o => b1.cell (p := ⟨b, o, none⟩) hbw
    have hd1 := fun o => b1.cell (p := ⟨g, o, none⟩) hgw
    clear b1
    rcases hwd with rfl | ⟨hx1, hx2⟩
    · go_wp2_with fail
      go_ret
      rw [E.out]
      exact ⟨rfl, B1.out⟩
    have hne : (x == -1) = false := by simp; omega
    have hne' : ¬ x = -1 := by omega
    have RES := Lib.hid (show widT f (.t1 n pl en c) = if fits1 n x = true then wide1 n x else -1 by rw [E.out, if_neg hne', OV.out])
    clear E OV
    go_wp2_with (at_builtin; refine wpList_appendI _ rfl (.tmp 25) (.tmp 27) 32 rfl w.heap.size 3 Try.underlying32 Try.infoInt none 0 0 [] rfl rfl Own.none_ _ _ x rfl (cell_one _ _ _) (by simp) (by have := B1.out.size; simp; omega) ?_; intro ao2 c2' w2 o2 g2; have b2 := (B1.out.alloc B1.out.size _).grown g2 (by have := B1.out.size; simp; omega) (by intro q hq; cases hq); have hc2 := fun o => b2.cell (p := ⟨b, o, none⟩) hbw; have hd2 := fun o => b2.cell (p := ⟨g, o, none⟩) hgw; have B2 := Lib.hid b2; obtain ⟨g', rfl, hgb, hgl⟩ := own_some o2 (by simp); have k0 := own_cell o2 0 x (by simp); clear o2 g2 b2)
    rw [rounds_succ]
    go_wp2_with fail
    refine (FT.out g' c2' x _ k0 (RQ.out.below B2.out)).mono ?_
    rintro e w3 ⟨rfl, b3⟩
    have B3 := Lib.hid (below_step B2.out (Nat.le_refl _) b3)
    have k3 := (b3.cell (p := ⟨g', 0, none⟩) hgl).trans k0
    have hc3 := fun o => B3.out.cell (p := ⟨b, o, none⟩) hbw
    clear b3
    cases hfit : fits1 n x with
    | false =>
      have RS := Lib.hid (show widT f (.t1 n pl en c) = -1 by rw [RES.out, hfit]; rfl)
      go_wp2_with fail
      go_ret
      rw [RS.out]
      exact ⟨rfl, B3.out⟩
    | true =>
      have RS := Lib.hid (show widT f (.t1 n pl en c) = wide1 n x by rw [RES.out, hfit]; rfl)
      go_wp2_with fail
      refine (WO.out g' c2' x _ k3).mono ?_
      rintro e w4 ⟨rfl, b4⟩
      have B4 := Lib.hid (below_step B3.out (Nat.le_refl _) b4)
      clear b4
      go_wp2_with fail
      go_ret
      rw [RS.out]
      exact ⟨rfl, B4.out⟩
  | t2 n pl en c d ihc ihd =>
    intro w lo hi b h hh hb0 hm hn
    obtain ⟨g, cap, bc, bd, ⟨_, hb2, a, cc, c0, c1, c2, c3, q⟩, hg, g0, g1', tc, td⟩ := h
    have hnb : nodeB n = true := hn.1.1
    have ha : arity n.kind = 2 := hn.1.2
    have hwc := widT_wide hf c hn.2.1
    have hwd := widT_wide hf d hn.2.2
    obtain ⟨t, v, hkv⟩ := kindV_iface hnb a cc
    rw [hkv] at c0
    have FT := Lib.hid (show ∀ gg cb x y W, W.cell? ⟨gg, 0, none⟩ = some (.int .i64 x) → W.cell? ⟨gg, 1, none⟩ = some (.int .i64 y) → Calls Try.prog 110 #[.iface t v, .slice (some ⟨gg, 0, none⟩) 2 cb] W fun e w' => e = .returned (.bool (fits2 n x y)) ∧ Below W.heap.size W w' from fun gg cb x y W h1 h2 => hkv ▸ fits2_any n a cc ha gg cb x y W h1 h2)
    have WO := Lib.hid (show ∀ gg cb x y W, W.cell? ⟨gg, 0, none⟩ = some (.int .i64 x) → W.cell? ⟨gg, 1, none⟩ = some (.int .i64 y) → 0 ≤ x → x ≤ 64 → 0 ≤ y → y ≤ 64 → Calls Try.prog 111 #[.iface t v, .map (some bm), .slice (some ⟨gg, 0, none⟩) 2 cb] W fun e w' => e = .returned (.int .i64 (wide2 n x y)) ∧ Below W.heap.size W w' from fun gg cb x y W h1 h2 k1 k2 k3 k4 => hkv ▸ wide2_any n a cc ha bm gg cb x y W h1 h2 k1 k2 k3 k4)
    have OV := Lib.hid (over2_eq ha (widT f c) (widT f d))
    have E := Lib.hid (show widT f (.t2 n pl en c d) = if widT f c = -1 then -1 else if widT f d = -1 then -1 else over2 n (widT f c) (widT f d) from rfl)
    have hbw : b < w.heap.size := by omega
    have hgw : g < w.heap.size := by omega
    have TC := Lib.hid tc; have IH := Lib.hid ihc; have NC := Lib.hid hn.2.1
    have TD := Lib.hid td; have IJ := Lib.hid ihd; have ND := Lib.hid hn.2.2
    have HM := Lib.hid hm; have B00 := Lib.hid hb0
    clear ihc ihd tc td hn hkv hnb ha q hm hb0
    generalize widT f c = x at hwc IH OV E
    generalize widT f d = y at hwd IJ OV E
    go_enter Try.func84, Try.ntmps84
    go_wp2_with fail
    refine wp_loop_rounds 3 ?_; rw [rounds_succ]
    go_wp2_with fail
    refine (IH.out w lo hi bc TC.out hh B00.out HM.out NC.out).mono ?_
    rintro e w1 ⟨rfl, b1⟩
    have B1 := Lib.hid b1
    have hc1 := fun o => b1.cell (p := ⟨b, o, none⟩) hbw
    have hd1 := fun o => b1.cell (p := ⟨g, o, none⟩) hgw
    clear b1
    rcases hwc with rfl | ⟨hx1, hx2⟩
    · go_wp2_with fail
      go_ret
      rw [E.out]
      exact ⟨rfl, B1.out⟩
    have hne : (x == -1) = false := by simp; omega
    have hne' : ¬ x = -1 := by omega
    have E1 := Lib.hid (show widT f (.t2 n pl en c d) = if y = -1 then -1 else over2 n x y by rw [E.out, if_neg hne'])
    clear E
    go_wp2_with (at_builtin; refine wpList_appendI _ rfl (.tmp 25) (.tmp 27) 32 rfl w.heap.size 3 Try.underlying32 Try.infoInt none 0 0 [] rfl rfl Own.none_ _ _ x rfl (cell_one _ _ _) (by simp) (by have := B1.out.size; simp; omega) ?_; intro ao2 c2' w2 o2 g2; have b2 := (B1.out.alloc B1.out.size _).grown g2 (by have := B1.out.size; simp; omega) (by intro q hq; cases hq); have hc2 := fun o => b2.cell (p := ⟨b, o, none⟩) hbw; have hd2 := fun o => b2.cell (p := ⟨g, o, none⟩) hgw; have B2 := Lib.hid b2; obtain ⟨g', rfl, hgb, hgl⟩ := own_some o2 (by simp); have O2 := Lib.hid (show Own w2 w.heap.size 3 .i64 (some ⟨g', 0, none⟩) c2' [x] from o2); clear o2 g2 b2)
    rw [rounds_succ]
    go_wp2_with fail
    refine (IJ.out w2 lo hi bd (TD.out.below hh B2.out) (Nat.le_trans hh B2.out.size) (below_step B00.out (Nat.le_refl _) B2.out) (HM.out.below B2.out) ND.out).mono ?_
    rintro e w3 ⟨rfl, b3⟩
    have B3 := Lib.hid (below_step B2.out (Nat.le_refl _) b3)
    have O3 := Lib.hid (O2.out.below b3)
    have hc3 := fun o => B3.out.cell (p := ⟨b, o, none⟩) hbw
    have hd3 := fun o => B3.out.cell (p := ⟨g, o, none⟩) hgw
    clear b3 O2
    rcases hwd with rfl | ⟨hy1, hy2⟩
    · go_wp2_with fail
      go_ret
      rw [E1.out]
      exact ⟨rfl, B3.out⟩
    have hney : (y == -1) = false := by simp; omega
    have hney' : ¬ y = -1 := by omega
    have RES := Lib.hid (show widT f (.t2 n pl en c d) = if fits2 n x y = true then wide2 n x y else -1 by rw [E1.out, if_neg hney', OV.out])
    clear E1 OV
    go_wp2_with (at_builtin; refine wpList_appendI _ rfl (.tmp 25) (.tmp 27) 32 rfl w.heap.size 3 Try.underlying32 Try.infoInt (some ⟨g', 0, none⟩) c2' 1 [x] rfl rfl (O3.out.alloc _) _ _ y rfl (cell_one _ _ _) (by simp) (by have := B3.out.size; simp; omega) ?_; intro ao4 c4' w4 o4 g4; have b4 := (B3.out.alloc B3.out.size _).grown g4 (by have := B3.out.size; simp; omega) (by intro q hq; simp at hq; omega); have hc4 := fun o => b4.cell (p := ⟨b, o, none⟩) hbw; have hd4 := fun o => b4.cell (p := ⟨g, o, none⟩) hgw; have B4 := Lib.hid b4; obtain ⟨g4', rfl, hgb4, hgl4⟩ := own_some o4 (by simp); have k0 := own_cell o4 0 x (by simp); have k1 := own_cell o4 1 y (by simp); clear o4 g4 b4)
    rw [rounds_succ]
    go_wp2_with fail
    refine (FT.out g4' c4' x y _ k0 k1).mono ?_
    rintro e w5 ⟨rfl, b5⟩
    have B5 := Lib.hid (below_step B4.out (Nat.le_refl _) b5)
    have k50 := (b5.cell (p := ⟨g4', 0, none⟩) hgl4).trans k0
    have k51 := (b5.cell (p := ⟨g4', 1, none⟩) hgl4).trans k1
    have hc5 := fun o => B5.out.cell (p := ⟨b, o, none⟩) hbw
    clear b5
    cases hfit : fits2 n x y with
    | false =>
      have RS := Lib.hid (show widT f (.t2 n pl en c d) = -1 by rw [RES.out, hfit]; rfl)
      go_wp2_with fail
      go_ret
      rw [RS.out]
      exact ⟨rfl, B5.out⟩
    | true =>
      have RS := Lib.hid (show widT f (.t2 n pl en c d) = wide2 n x y by rw [RES.out, hfit]; rfl)
      go_wp2_with fail
      refine (WO.out g4' c4' x y _ k50 k51 (by omega) hx2 (by omega) hy2).mono ?_
      rintro e w6 ⟨rfl, b6⟩
      have B6 := Lib.hid (below_step B5.out (Nat.le_refl _) b6)
      clear b6
      go_wp2_with fail
      go_ret
      rw [RS.out]
      exact ⟨rfl, B6.out⟩
end Go.Proofs.Ytdkiaahcmoafdaa
