/-
  Contract of tree.width. For every tree. Contract of rowsOf at a scan. Contract of rowsOf over one child.
-/
import Derived.Test.YtanfllednlpbaaaGreatM41x
import Derived.Test.YtanfllednlpbaaaGreatM11x
namespace Go.Proofs.YtanfllednlpbaaaGreat
open Go.RowKit Go.Maps
set_option linter.unusedSimpArgs false
set_option linter.unusedVariables false
theorem over1_eq {n : Nd} (ha : arity n.kind = 1) (x : Int) : over1 n x = if fitN1 n x = true then wide1 n x else -1 := by
  unfold over1 fitN1 wide1
  rcases kinds1 ha with hk | hk | hk | hk | hk <;> simp [hk]
  all_goals (split <;> split <;> first | rfl | omega)
theorem over2_eq {n : Nd} (ha : arity n.kind = 2) (x y : Int) : over2 n x y = if fitN2 n x y = true then wide2 n x y else -1 := by
  unfold over2 fitN2 wide2
  rcases kinds2 ha with hk | hk
  · simp only [hk, if_true]
    by_cases h1 : n.col < x
    · by_cases h2 : n.num < y
      · simp only [h1, h2, decide_true, Bool.and_true, if_true]
        by_cases h3 : 64 < x + y
        · rw [if_pos (by omega), if_pos h3]
        · rw [if_neg (by omega), if_neg h3]
      · rw [if_pos (by omega)]; simp [h2]
    · rw [if_pos (by omega)]; simp [h1]
  · have h3 : ¬ n.kind = 3 := by omega
    simp only [h3, if_false]
    by_cases h : x = y <;> simp [h]
theorem own_some {w : World} {base : Nat} {ao : Option Addr} {c : Nat} {l : List Int} (h : Own w base 3 .i64 ao c l) (hl : l ≠ []) : ∃ g, ao = some ⟨g, 0, none⟩ ∧ base ≤ g ∧ g < w.heap.size := by
  rcases h.2 with ⟨hv, hn⟩ | ⟨g, cap, cur, hv, hb, hg, _⟩
  · exact absurd (List.eq_nil_of_length_eq_zero hn) hl
  · simp only [Value.slice.injEq] at hv
    exact ⟨g, hv.1, hb, (Array.getElem?_eq_some_iff.1 hg).1⟩
theorem own_cell {w : World} {base g : Nat} {c : Nat} {l : List Int} (h : Own w base 3 .i64 (some ⟨g, 0, none⟩) c l) (i : Nat) (x : Int) (hi : l[i]? = some x) : w.cell? ⟨g, i, none⟩ = some (.int .i64 x) := by
  have hlt : i < l.length := (List.getElem?_eq_some_iff.1 hi).1
  have := World.ownsRow.cellAt h i (by omega)
  rw [this, List.getElem?_map, hi]; rfl
theorem nodeB_name {n : Nd} (h : nodeB n = true) (hk : n.kind = 0) : n.name.size ≤ maxLen := by
  unfold nodeB at h
  rw [if_pos hk, Bool.and_eq_true] at h
  have h1 := h.1
  have h0 : ¬ ¬ (1 ≤ n.name.size ∧ n.name.size ≤ 12) := fun hn => by rw [wordB_len hn] at h1; cases h1
  unfold maxLen; omega
set_option maxRecDepth 100000 in
set_option maxHeartbeats 4000000 in
theorem width_any (w0 : World) (f : Fn) (hf : FnOk f) (bm nm : Nat) : ∀ (T : Tr) (w : World) (lo hi b : Nat), TrQ w0 w lo hi T b → hi ≤ w.heap.size → Below w0.heap.size w0 w → OwnM w bm nm f → T.nodes →
    Calls Tryz.prog 53 #[.pointer (some ⟨b, 0, none⟩), .map (some bm)] w fun e w' => e = .returned (.int .i64 (widT f T)) ∧ Below w.heap.size w w' := by
  intro T
  induction T with
  | t0 n pl en =>
    intro w lo hi b h hh hb0 hm hn
    obtain ⟨_, hb2, a, c, c0, c1, c2, c3, q⟩ := h
    have hnb : nodeB n = true := hn.1
    have hk : n.kind = 0 := hn.2
    obtain ⟨t, v, hkv⟩ := kindV_iface hnb a c
    rw [hkv] at c0
    have FT := Lib.hid (show ∀ W, Calls Tryz.prog 99 #[.iface t v, .slice none 0 0] W fun e w' => e = .returned (.bool true) ∧ W = w' from fun W => hkv ▸ fits0_any n a c W hk)
    have WO := Lib.hid (show Calls Tryz.prog 100 #[.iface t v, .map (some bm), .slice none 0 0] w fun e w' => e = .returned (.int .i64 ((f n.name.data.toList).getD (-1))) ∧ Below w.heap.size w w' from hkv ▸ wide0_any n a c bm nm f w hk hm (nodeB_name hnb hk))
    have hbw : b < w.heap.size := by omega
    have E := Lib.hid (show widT f (.t0 n pl en) = (f n.name.data.toList).getD (-1) from rfl)
    generalize (f n.name.data.toList).getD (-1) = res at WO E
    clear hkv hm hn hnb hk q hb0
    go_enter Tryz.func53, Tryz.ntmps53
    go_wp2_with fail
    refine wp_loop_rounds 1 ?_; rw [rounds_succ]
    go_wp2_with fail
    refine (FT.out _).mono ?_
    rintro e w' ⟨rfl, rfl⟩
    go_wp2_with fail
    refine WO.out.mono ?_
    rintro e w1 ⟨rfl, b1⟩
    have B1 := Lib.hid b1; clear b1
    go_wp2_with fail
    go_ret
    rw [E.out]
    exact ⟨rfl, B1.out⟩
  | t1 n pl en c ih =>
    intro w lo hi b h hh hb0 hm hn
    obtain ⟨g, cap, bc, ⟨_, hb2, a, cc, c0, c1, c2, c3, q⟩, hg, g0, tc⟩ := h
    have hnb : nodeB n = true := hn.1.1
    have ha : arity n.kind = 1 := hn.1.2
    have hwd := widT_wide hf c hn.2
    obtain ⟨t, v, hkv⟩ := kindV_iface hnb a cc
    rw [hkv] at c0
    have FT := Lib.hid (show ∀ gg cb x W, W.cell? ⟨gg, 0, none⟩ = some (.int .i64 x) → Rd W .i64 a n.cols → Calls Tryz.prog 99 #[.iface t v, .slice (some ⟨gg, 0, none⟩) 1 cb] W fun e w' => e = .returned (.bool (fitN1 n x)) ∧ Below W.heap.size W w' from fun gg cb x W h1 h2 => hkv ▸ fits1_any n a cc ha gg cb x W h1 h2 q.2)
    have WO := Lib.hid (show ∀ gg cb x W, W.cell? ⟨gg, 0, none⟩ = some (.int .i64 x) → Calls Tryz.prog 100 #[.iface t v, .map (some bm), .slice (some ⟨gg, 0, none⟩) 1 cb] W fun e w' => e = .returned (.int .i64 (wide1 n x)) ∧ Below W.heap.size W w' from fun gg cb x W h1 => hkv ▸ wide1_any n a cc ha bm gg cb x W h1 q.2)
    have OV := Lib.hid (over1_eq ha (widT f c))
    have RQ := Lib.hid (q.1.below hb0)
    have E := Lib.hid (show widT f (.t1 n pl en c) = if widT f c = -1 then -1 else over1 n (widT f c) from rfl)
    have hbw : b < w.heap.size := by omega
    have hgw : g < w.heap.size := by omega
    have TC := Lib.hid tc; have IH := Lib.hid ih; have NC := Lib.hid hn.2; have HM := Lib.hid hm; have B00 := Lib.hid hb0
    clear ih tc hn hkv hnb ha q hm hb0
    generalize widT f c = x at hwd IH OV E
    go_enter Tryz.func53, Tryz.ntmps53
    go_wp2_with fail
    refine wp_loop_rounds 2 ?_; rw [rounds_succ]
    go_wp2_with fail
    refine (IH.out w lo hi bc TC.out hh B00.out HM.out NC.out).mono ?_
    rintro e w1 ⟨rfl, b1⟩
    have B1 := Lib.hid b1
    have hc1 := fun o => b1.cell (p := ⟨b, o, none⟩) hbw
    have hd1 := fun o => b1.cell (p := ⟨g, o, none⟩) hgw
    clear b1
    rcases hwd with rfl | ⟨hx1, hx2⟩
    · go_wp2_with fail
      go_ret
      rw [E.out]
      exact ⟨rfl, B1.out⟩
    have hne : (x == -1) = false := by simp; omega
    have hne' : ¬ x = -1 := by omega
    have RES := Lib.hid (show widT f (.t1 n pl en c) = if fitN1 n x = true then wide1 n x else -1 by rw [E.out, if_neg hne', OV.out])
    clear E OV
    go_wp2_with (at_builtin; refine wpList_appendI _ rfl (.tmp 25) (.tmp 27) 34 rfl w.heap.size 3 Tryz.underlying34 Tryz.infoInt none 0 0 [] rfl rfl Own.none_ _ _ x rfl (cell_one _ _ _) (by simp) (by have := B1.out.size; simp; omega) ?_; intro ao2 c2' w2 o2 g2; have b2 := (B1.out.alloc B1.out.size _).grown g2 (by have := B1.out.size; simp; omega) (by intro q hq; cases hq); have hc2 := fun o => b2.cell (p := ⟨b, o, none⟩) hbw; have hd2 := fun o => b2.cell (p := ⟨g, o, none⟩) hgw; have B2 := Lib.hid b2; obtain ⟨g', rfl, hgb, hgl⟩ := own_some o2 (by simp); have k0 := own_cell o2 0 x (by simp); clear o2 g2 b2)
    rw [rounds_succ]
    go_wp2_with fail
    refine (FT.out g' c2' x _ k0 (RQ.out.below B2.out)).mono ?_
    rintro e w3 ⟨rfl, b3⟩
    have B3 := Lib.hid (below_step B2.out (Nat.le_refl _) b3)
    have k3 := (b3.cell (p := ⟨g', 0, none⟩) hgl).trans k0
    have hc3 := fun o => B3.out.cell (p := ⟨b, o, none⟩) hbw
    clear b3
    cases hfit : fitN1 n x with
    | false =>
      have RS := Lib.hid (show widT f (.t1 n pl en c) = -1 by rw [RES.out, hfit]; rfl)
      go_wp2_with fail
      go_ret
      rw [RS.out]
      exact ⟨rfl, B3.out⟩
    | true =>
      have RS := Lib.hid (show widT f (.t1 n pl en c) = wide1 n x by rw [RES.out, hfit]; rfl)
      go_wp2_with fail
      refine (WO.out g' c2' x _ k3).mono ?_
      rintro e w4 ⟨rfl, b4⟩
      have B4 := Lib.hid (below_step B3.out (Nat.le_refl _) b4)
      clear b4
      go_wp2_with fail
      go_ret
      rw [RS.out]
      exact ⟨rfl, B4.out⟩
  | t2 n pl en c d ihc ihd =>
    intro w lo hi b h hh hb0 hm hn
    obtain ⟨g, cap, bc, bd, ⟨_, hb2, a, cc, c0, c1, c2, c3, q⟩, hg, g0, g1', tc, td⟩ := h
    have hnb : nodeB n = true := hn.1.1
    have ha : arity n.kind = 2 := hn.1.2
    have hwc := widT_wide hf c hn.2.1
    have hwd := widT_wide hf d hn.2.2
    obtain ⟨t, v, hkv⟩ := kindV_iface hnb a cc
    rw [hkv] at c0
    have FT := Lib.hid (show ∀ gg cb x y W, W.cell? ⟨gg, 0, none⟩ = some (.int .i64 x) → W.cell? ⟨gg, 1, none⟩ = some (.int .i64 y) → Calls Tryz.prog 99 #[.iface t v, .slice (some ⟨gg, 0, none⟩) 2 cb] W fun e w' => e = .returned (.bool (fitN2 n x y)) ∧ Below W.heap.size W w' from fun gg cb x y W h1 h2 => hkv ▸ fits2_any n a cc ha gg cb x y W h1 h2)
    have WO := Lib.hid (show ∀ gg cb x y W, W.cell? ⟨gg, 0, none⟩ = some (.int .i64 x) → W.cell? ⟨gg, 1, none⟩ = some (.int .i64 y) → 0 ≤ x → x ≤ 64 → 0 ≤ y → y ≤ 64 → Calls Tryz.prog 100 #[.iface t v, .map (some bm), .slice (some ⟨gg, 0, none⟩) 2 cb] W fun e w' => e = .returned (.int .i64 (wide2 n x y)) ∧ Below W.heap.size W w' from fun gg cb x y W h1 h2 k1 k2 k3 k4 => hkv ▸ wide2_any n a cc ha bm gg cb x y W h1 h2 k1 k2 k3 k4)
    have OV := Lib.hid (over2_eq ha (widT f c) (widT f d))
    have E := Lib.hid (show widT f (.t2 n pl en c d) = if widT f c = -1 then -1 else if widT f d = -1 then -1 else over2 n (widT f c) (widT f d) from rfl)
    have hbw : b < w.heap.size := by omega
    have hgw : g < w.heap.size := by omega
    have TC := Lib.hid tc; have IH := Lib.hid ihc; have NC := Lib.hid hn.2.1
    have TD := Lib.hid td; have IJ := Lib.hid ihd; have ND := Lib.hid hn.2.2
    have HM := Lib.hid hm; have B00 := Lib.hid hb0
    clear ihc ihd tc td hn hkv hnb ha q hm hb0
    generalize widT f c = x at hwc IH OV E
    generalize widT f d = y at hwd IJ OV E
    go_enter Tryz.func53, Tryz.ntmps53
    go_wp2_with fail
    refine wp_loop_rounds 3 ?_; rw [rounds_succ]
    go_wp2_with fail
    refine (IH.out w lo hi bc TC.out hh B00.out HM.out NC.out).mono ?_
    rintro e w1 ⟨rfl, b1⟩
    have B1 := Lib.hid b1
    have hc1 := fun o => b1.cell (p := ⟨b, o, none⟩) hbw
    have hd1 := fun o => b1.cell (p := ⟨g, o, none⟩) hgw
    clear b1
    rcases hwc with rfl | ⟨hx1, hx2⟩
    · go_wp2_with fail
      go_ret
      rw [E.out]
      exact ⟨rfl, B1.out⟩
    have hne : (x == -1) = false := by simp; omega
    have hne' : ¬ x = -1 := by omega
    have E1 := Lib.hid (show widT f (.t2 n pl en c d) = if y = -1 then -1 else over2 n x y by rw [E.out, if_neg hne'])
    clear E
    go_wp2_with (at_builtin; refine wpList_appendI _ rfl (.tmp 25) (.tmp 27) 34 rfl w.heap.size 3 Tryz.underlying34 Tryz.infoInt none 0 0 [] rfl rfl Own.none_ _ _ x rfl (cell_one _ _ _) (by simp) (by have := B1.out.size; simp; omega) ?_; intro ao2 c2' w2 o2 g2; have b2 := (B1.out.alloc B1.out.size _).grown g2 (by have := B1.out.size; simp; omega) (by intro q hq; cases hq); have hc2 := fun o => b2.cell (p := ⟨b, o, none⟩) hbw; have hd2 := fun o => b2.cell (p := ⟨g, o, none⟩) hgw; have B2 := Lib.hid b2; obtain ⟨g', rfl, hgb, hgl⟩ := own_some o2 (by simp); have O2 := Lib.hid (show Own w2 w.heap.size 3 .i64 (some ⟨g', 0, none⟩) c2' [x] from o2); clear o2 g2 b2)
    rw [rounds_succ]
    go_wp2_with fail
    refine (IJ.out w2 lo hi bd (TD.out.below hh B2.out) (Nat.le_trans hh B2.out.size) (below_step B00.out (Nat.le_refl _) B2.out) (HM.out.below B2.out) ND.out).mono ?_
    rintro e w3 ⟨rfl, b3⟩
    have B3 := Lib.hid (below_step B2.out (Nat.le_refl _) b3)
    have O3 := Lib.hid (O2.out.below b3)
    have hc3 := fun o => B3.out.cell (p := ⟨b, o, none⟩) hbw
    have hd3 := fun o => B3.out.cell (p := ⟨g, o, none⟩) hgw
    clear b3 O2
    rcases hwd with rfl | ⟨hy1, hy2⟩
    · go_wp2_with fail
      go_ret
      rw [E1.out]
      exact ⟨rfl, B3.out⟩
    have hney : (y == -1) = false := by simp; omega
    have hney' : ¬ y = -1 := by omega
    have RES := Lib.hid (show widT f (.t2 n pl en c d) = if fitN2 n x y = true then wide2 n x y else -1 by rw [E1.out, if_neg hney', OV.out])
    clear E1 OV
    go_wp2_with (at_builtin; refine wpList_appendI _ rfl (.tmp 25) (.tmp 27) 34 rfl w.heap.size 3 Tryz.underlying34 Tryz.infoInt (some ⟨g', 0, none⟩) c2' 1 [x] rfl rfl (O3.out.alloc _) _ _ y rfl (cell_one _ _ _) (by simp) (by have := B3.out.size; simp; omega) ?_; intro ao4 c4' w4 o4 g4; have b4 := (B3.out.alloc B3.out.size _).grown g4 (by have := B3.out.size; simp; omega) (by intro q hq; simp at hq; omega); have hc4 := fun o => b4.cell (p := ⟨b, o, none⟩) hbw; have hd4 := fun o => b4.cell (p := ⟨g, o, none⟩) hgw; have B4 := Lib.hid b4; obtain ⟨g4', rfl, hgb4, hgl4⟩ := own_some o4 (by simp); have k0 := own_cell o4 0 x (by simp); have k1 := own_cell o4 1 y (by simp); clear o4 g4 b4)
    rw [rounds_succ]
    go_wp2_with fail
    refine (FT.out g4' c4' x y _ k0 k1).mono ?_
    rintro e w5 ⟨rfl, b5⟩
    have B5 := Lib.hid (below_step B4.out (Nat.le_refl _) b5)
    have k50 := (b5.cell (p := ⟨g4', 0, none⟩) hgl4).trans k0
    have k51 := (b5.cell (p := ⟨g4', 1, none⟩) hgl4).trans k1
    have hc5 := fun o => B5.out.cell (p := ⟨b, o, none⟩) hbw
    clear b5
    cases hfit : fitN2 n x y with
    | false =>
      have RS := Lib.hid (show widT f (.t2 n pl en c d) = -1 by rw [RES.out, hfit]; rfl)
      go_wp2_with fail
      go_ret
      rw [RS.out]
      exact ⟨rfl, B5.out⟩
    | true =>
      have RS := Lib.hid (show widT f (.t2 n pl en c d) = wide2 n x y by rw [RES.out, hfit]; rfl)
      go_wp2_with fail
      refine (WO.out g4' c4' x y _ k50 k51 (by omega) hx2 (by omega) hy2).mono ?_
      rintro e w6 ⟨rfl, b6⟩
      have B6 := Lib.hid (below_step B5.out (Nat.le_refl _) b6)
      clear b6
      go_wp2_with fail
      go_ret
      rw [RS.out]
      exact ⟨rfl, B6.out⟩
end Go.Proofs.YtanfllednlpbaaaGreat
namespace Go.Proofs.YtanfllednlpbaaaGreat
open Go.RowKit
set_option linter.unusedSimpArgs false
set_option linter.unusedVariables false
set_option maxRecDepth 100000 in
set_option maxHeartbeats 3200000 in
theorem rowsOf0_any (w00 : World) (fw : Fn) (f : FnV) (g : Sto) (S : StoX w00 fw f g) (bm nm sb : Nat) (n : Nd) (pl en : Nat) (w : World) (lo hi b : Nat) (zs : List Int) (h : TrQ w00 w lo hi (.t0 n pl en) b) (hh : hi ≤ w.heap.size) (hb0 : Below w00.heap.size w00 w) (hm : OwnMV w bm nm f) (hz : SzL w sb zs) (Z : Nat → Prop) (hZs : Z sb) (hZw : ∀ k, Z k → k < w.heap.size) (hZ0 : ∀ k, Z k → w00.heap.size ≤ k) (hnb : nodeB n = true) (hk : n.kind = 0) (hw : widT fw (.t0 n pl en) ≠ -1) (hu : pl < zs.length) (hN : zs.length ≤ 1048576) :
    Calls Tryz.prog 90 #[.agg #[.map (some bm), .slice (some ⟨sb, 0, none⟩) zs.length zs.length], .pointer (some ⟨b, 0, none⟩)] w (RowsPost Z sb w (evT g (.t0 n pl en)) zs (putZ g (.t0 n pl en) zs)) := by
  obtain ⟨hb1, hb2, a, c, c0, c1, c2, c3, q⟩ := h
  have hbw : b < w.heap.size := by omega
  have hzw := hz.lt
  obtain ⟨vv, hv⟩ : ∃ v, fw n.name.data.toList = some v := by
    cases e : fw n.name.data.toList with
    | none => unfold widT at hw; rw [e] at hw; exact absurd rfl hw
    | some v => exact ⟨v, rfl⟩
  obtain ⟨ra, rc, hf, hr, haw, h40⟩ := S.at_ _ vv hv
  have EV := Lib.hid (show evT g (.t0 n pl en) = few (g n.name.data.toList) from rfl)
  have PZ := Lib.hid (show putZ g (.t0 n pl en) zs = zs.set pl (sizN g (.t0 n pl en)) from rfl)
  have hnm := nodeB_name hnb hk
  obtain ⟨t, v, hkv⟩ := kindV_iface hnb a c
  rw [hkv] at c0
  have RO := Lib.hid (show ∀ W, Below w.heap.size w W → Calls Tryz.prog 122 #[.agg #[.map (some bm), .slice (some ⟨sb, 0, none⟩) zs.length zs.length], .iface t v, .slice none 0 0] W (OverPost Z W (g n.name.data.toList)) from fun W hW => hkv ▸ overScan_any Z n hk a c bm nm f (some ⟨sb, 0, none⟩) zs.length zs.length ra rc _ W (fun k hk => Nat.lt_of_lt_of_le (hZw k hk) hW.size) (hm.below (hW.mono (Nat.le_refl _))) hnm hf ((hr.toX hb0 hZ0).below hW) (by omega))
  generalize g n.name.data.toList = L at RO EV
  have GA := Lib.hid (fun g' lb W hz eg h => gather_any Z g' lb L W hz eg h)
  have HZ := Lib.hid hz
  generalize hNl : zs.length = N at hu hN RO ⊢
  have HN := Lib.hid hNl
  clear hkv hm hnb hk q hb0 hz hf hr haw hv S hw hNl
  go_enter Tryz.func90, Tryz.ntmps90
  go_wp2_with fail
  refine wp_loop_rounds 1 ?_; rw [rounds_succ]
  go_wp2_with fail
  obtain ⟨u0, hu0⟩ : ∃ u0, w.alloc (.cells #[.map (some bm), .slice (some ⟨sb, 0, none⟩) N N] 116) = u0 := ⟨_, rfl⟩
  have b0 : Below w.heap.size w u0 := by rw [← hu0]; exact (Below.refl _ w).alloc (Nat.le_refl _) _
  have m0 : u0.cell? ⟨w.heap.size, 0, none⟩ = some (.map (some bm)) := by rw [← hu0]; simp [go_sem]
  have m1 : u0.cell? ⟨w.heap.size, 1, none⟩ = some (.slice (some ⟨sb, 0, none⟩) N N) := by rw [← hu0]; simp [go_sem]
  have s0 : u0.heap.size = w.heap.size + 1 := by rw [← hu0]; simp
  have t0 := (b0.cell (p := ⟨b, 0, none⟩) hbw).trans c0
  have t1 := (b0.cell (p := ⟨b, 1, none⟩) hbw).trans c1
  have B0 := Lib.hid b0
  have B0d := Lib.hid (b0.trans (Below.refl w.heap.size u0).drew)
  have U0 := Lib.hid ((Below.refl u0.heap.size u0).drew)
  have S0 := Lib.hid s0
  rw [hu0]
  clear hu0 b0 c0 c1 c2 c3 s0
  go_region_with (first
    | (go_at_call 122; refine (RO.out _ B0d.out).mono ?_; rintro e w2 ⟨gg, lb, rfl, hb2, hen, hseq⟩; have U2 := Lib.hid (below_step U0.out (Nat.le_refl _) hb2); have EN := Lib.hid hen; have SQ := Lib.hid hseq; clear hb2 hen hseq)
    | (go_at_call 121; refine (GA.out _ _ _ (fun k hk => Nat.lt_of_lt_of_le (hZw k hk) (Nat.le_trans B0.out.size U2.out.size)) EN.out SQ.out).mono ?_; rintro e w3 ⟨gv, ok, rfl, hb3, hres⟩; have U3 := Lib.hid (below_step U2.out (Nat.le_refl _) hb3); have RS := Lib.hid hres; clear hb3 hres))
  all_goals (
    have B3 := Lib.hid (B0.out.trans (U3.out.mono B0.out.size))
    have SZ3 := HZ.out.below (B3.out.mono (Nat.le_refl _))
    have x0 := (U3.out.cell (p := ⟨w.heap.size, 1, none⟩) (by show w.heap.size < _; rw [S0.out]; omega)).trans m1
    have x1 := (U3.out.cell (p := ⟨b, 1, none⟩) (by show b < _; rw [S0.out]; omega)).trans t1
    have x2 := World.rowIs.cell SZ3 (i := pl) (by rw [HN.out]; exact hu)
    have x3 := World.rowIs.frozen SZ3 pl
    have SZ := Lib.hid SZ3
    clear SZ3
    generalize zs.getD pl 0 = old at x2
    rcases RS.out with ⟨hfew, rfl, aa, ac, rfl, hrd⟩ | ⟨hfew, rfl, rfl⟩
    · have RD := Lib.hid hrd
      have FW := Lib.hid hfew
      clear hrd hfew RS
      go_wp2_with fail
      go_region_with (fail)
      all_goals (
        go_wp2_with fail
        first | go_ret | go_ret2 | go_end0
        have SD : SG (fun k => k = sb) w (w3.drew.setCell ⟨sb, pl, none⟩ (.int .i64 (L.length : Int))) := ((SG.of B3.out).trans (SG.of (Below.refl _ _).drew)).trans (SG.set (z := fun k => k = sb) (s := sb) rfl _ _ _)
        have HE : evT g (.t0 n pl en) = some L := by rw [EV.out, FW.out]
        refine ⟨_, true, rfl, SD, .inl ⟨L, HE, rfl, ⟨aa, ac, rfl, (RD.out.below (Below.refl _ _).drew).grown (SG.set hZs _ _ _)⟩, ?_⟩⟩
        rw [PZ.out, sizN_of HE]
        exact (SZ.out.below (Below.refl _ _).drew).set (by rw [HN.out]; exact hu) _)
    · have FW := Lib.hid hfew
      clear hfew RS
      go_wp2_with fail
      go_region_with (fail)
      all_goals (
        go_wp2_with fail
        first | go_ret | go_ret2 | go_end0
        have SD : SG (fun k => k = sb) w (w3.drew.setCell ⟨sb, pl, none⟩ (.int .i64 0)) := ((SG.of B3.out).trans (SG.of (Below.refl _ _).drew)).trans (SG.set (z := fun k => k = sb) (s := sb) rfl _ _ _)
        have HE : evT g (.t0 n pl en) = none := by rw [EV.out, FW.out]
        exact ⟨_, false, rfl, SD, .inr ⟨HE, rfl, rfl, _, by rw [List.length_set], (SZ.out.below (Below.refl _ _).drew).set (by rw [HN.out]; exact hu) _⟩⟩))
def IHt (w00 : World) (bm nm sb : Nat) (f : FnV) (g : Sto) (N lo hi : Nat) (T : Tr) : Prop :=
  ∀ (Z : Nat → Prop) (W : World) (b : Nat) (zs : List Int), Z sb → (∀ k, Z k → k < W.heap.size) → (∀ k, Z k → w00.heap.size ≤ k) → TrQ w00 W lo hi T b → hi ≤ W.heap.size → Below w00.heap.size w00 W → OwnMV W bm nm f → SzL W sb zs → zs.length = N →
    Calls Tryz.prog 90 #[.agg #[.map (some bm), .slice (some ⟨sb, 0, none⟩) N N], .pointer (some ⟨b, 0, none⟩)] W (RowsPost Z sb W (evT g T) zs (putZ g T zs))
theorem SG.own {z : Nat → Prop} {A B : World} {bm nm : Nat} {f : FnV} (h : SG z A B) (hm : OwnMV A bm nm f) (hb : ¬ z bm) : OwnMV B bm nm f := hm.same (h.block _ hm.lt hb)
theorem HdQ.sg {w0 w w' : World} {z : Nat → Prop} {lo hi b : Nat} {n : Nd} {pl en : Nat} {v : Value} (h : HdQ w0 w lo hi b n pl en v) (hg : SG z w w') (hh : hi ≤ w.heap.size) (hz : ∀ k, z k → k < lo ∨ hi ≤ k) : HdQ w0 w' lo hi b n pl en v :=
  h.keep fun p hp1 hp2 => World.cell?_of_block (hg.block _ (by omega) (fun h => by have := hz _ h; omega))
set_option maxRecDepth 100000 in
set_option maxHeartbeats 6400000 in
theorem rowsOf1_any (w00 : World) (fw : Fn) (f : FnV) (g : Sto) (bm nm sb : Nat) (n : Nd) (pl en : Nat) (c : Tr) (w : World) (lo hi b N : Nat) (zs : List Int) (IH : IHt w00 bm nm sb f g N lo hi c) (h : TrQ w00 w lo hi (.t1 n pl en c) b) (hh : hi ≤ w.heap.size) (hb0 : Below w00.heap.size w00 w) (hm : OwnMV w bm nm f) (hbm : bm ≠ sb) (hz : SzL w sb zs) (Z : Nat → Prop) (hZs : Z sb) (hZw : ∀ k, Z k → k < w.heap.size) (hZ0 : ∀ k, Z k → w00.heap.size ≤ k) (hlo : sb < lo ∨ hi ≤ sb) (hnb : nodeB n = true) (ha : arity n.kind = 1) (wd : Int) (hwd : ∀ l, evT g c = some l → AllW wd l ∧ l.length ≤ 200) (ho : over1 n wd ≠ -1) (hu : pl < N) (hNl : zs.length = N) (hN : N ≤ 1048576) :
    Calls Tryz.prog 90 #[.agg #[.map (some bm), .slice (some ⟨sb, 0, none⟩) N N], .pointer (some ⟨b, 0, none⟩)] w (RowsPost Z sb w (evT g (.t1 n pl en c)) zs (putZ g (.t1 n pl en c) zs)) := by
  obtain ⟨gr, cap, bc, ⟨hb1, hb2, a, cc, c0, c1, c2, c3, q⟩, hg, g0, tc⟩ := h
  have hbw : b < w.heap.size := by omega
  have hgw : gr < w.heap.size := by omega
  have hzw := hz.lt
  have hbz : b ≠ sb := by omega
  have hgz : gr ≠ sb := by omega
  have hwz : w.heap.size ≠ sb := by omega
  obtain ⟨i0, hi0, hz0, hz1, hz2⟩ := info_parts infoFn
  obtain ⟨t, v, hkv⟩ := kindV_iface hnb a cc
  rw [hkv] at c0
  have GA := Lib.hid (fun g' lb L W hz eg h => gather_any Z g' lb L W hz eg h)
  have VAL := Lib.hid (fun a m cap W => callsIn_wide.1 (valuesR_in Fence.wide 1 trivial rfl a m cap W))
  have HN := Lib.hid hNl
  have OV := Lib.hid (show ∀ (W : World) (gb cb : Nat) (kv : Value) (l : RowsL), (∀ k, Z k → k < W.heap.size) → W.cell? ⟨gb, 0, none⟩ = some kv → KidAt Z W kv l → l.length ≤ 200 → AllW wd l → Below w00.heap.size w00 W → Calls Tryz.prog 122 #[.agg #[.map (some bm), .slice (some ⟨sb, 0, none⟩) N N], .iface t v, .slice (some ⟨gb, 0, none⟩) 1 cb] W (OverPost Z W (on1 n l)) from
    fun W gb cb kv l h1 h2 h3 h4 h5 h6 => hkv ▸ overOne_any Z n hnb ha a cc (some bm) (some ⟨sb, 0, none⟩) N N gb cb kv l W h1 h2 h3 (by omega) (q.1.below h6) wd h5 ho)
  have b0' : Below w.heap.size w (w.alloc (.cells #[.map (some bm), .slice (some ⟨sb, 0, none⟩) N N] 116)) := (Below.refl _ w).alloc (Nat.le_refl _) _
  have IH1 := Lib.hid (IH Z (w.alloc (.cells #[.map (some bm), .slice (some ⟨sb, 0, none⟩) N N] 116)) bc zs hZs (fun k hk => Nat.lt_of_lt_of_le (hZw k hk) b0'.size) hZ0 (tc.sg (z := fun k => k = sb) (SG.of b0') hh (by rintro k rfl; exact hlo)) (Nat.le_trans hh b0'.size) (hb0.trans (b0'.mono hb0.size)) (hm.below b0') (hz.below b0') hNl)
  have HW := Lib.hid hwd
  have HB00 := Lib.hid hb0
  clear IH tc hm hz hkv hnb ha q hb0 ho hwd hNl b0'
  go_enter Tryz.func90, Tryz.ntmps90
  go_wp2_with fail
  refine wp_loop_rounds 2 ?_; rw [rounds_succ]
  go_wp2_with fail
  obtain ⟨v0, hv0⟩ : ∃ v0, w.alloc (.cells #[.map (some bm), .slice (some ⟨sb, 0, none⟩) N N] 116) = v0 := ⟨_, rfl⟩
  have b0 : Below w.heap.size w v0 := by rw [← hv0]; exact (Below.refl _ w).alloc (Nat.le_refl _) _
  have m0 : v0.cell? ⟨w.heap.size, 0, none⟩ = some (.map (some bm)) := by rw [← hv0]; simp [go_sem]
  have m1 : v0.cell? ⟨w.heap.size, 1, none⟩ = some (.slice (some ⟨sb, 0, none⟩) N N) := by rw [← hv0]; simp [go_sem]
  have s0 : v0.heap.size = w.heap.size + 1 := by rw [← hv0]; simp
  rw [hv0] at IH1 ⊢
  have d0 := (b0.cell (p := ⟨b, 0, none⟩) hbw).trans c0
  have d1 := (b0.cell (p := ⟨b, 1, none⟩) hbw).trans c1
  have V0 := Lib.hid (SG.of (z := fun k => k = sb) b0)
  have S0' := Lib.hid s0
  clear hv0 b0 c0 c1 c2 c3 g0 s0
  refine IH1.out.mono ?_
  rintro e w1 ⟨cv, ok, rfl, sg1, res⟩
  have V1 := Lib.hid (V0.out.trans sg1)
  have n0 := sg1.cell (p := ⟨w.heap.size, 0, none⟩) hwz m0
  have n1 := sg1.cell (p := ⟨w.heap.size, 1, none⟩) hwz m1
  have e0 := sg1.cell (p := ⟨b, 0, none⟩) hbz d0
  have e1 := sg1.cell (p := ⟨b, 1, none⟩) hbz d1
  have HS1 := Lib.hid sg1.size
  clear sg1 m0 m1 d0 d1 IH1
  rcases res with ⟨l, hl, rfl, ⟨ca, cc', rfl, hrd⟩, hsz⟩ | ⟨hl, rfl, rfl, zs'', hzl, hsz⟩
  · obtain ⟨haw, hl2⟩ := HW.out l hl
    have HL := Lib.hid hl
    have RD := Lib.hid hrd
    have SZ1 := Lib.hid hsz
    have AW := Lib.hid haw
    clear hl hrd hsz haw
    go_wp2_with (first
      | (go_at_call 57; refine (VAL.out _ _ _ _).mono ?_; rintro e w2 ⟨rfl, hw2⟩; have b2 := (show Below w1.heap.size w1 w2 by rw [hw2]; exact (Below.refl _ _).alloc (Nat.le_refl _) _); have f0 := (show w2.cell? ⟨w1.heap.size, 0, none⟩ = some (.slice ca l.length cc') by rw [hw2]; simp); have B2 := Lib.hid b2; have F0 := Lib.hid f0; clear hw2 b2 f0)
      | (at_builtin; go_must (refine wpList_append_own_at _ rfl (.tmp 30) (.tmp 33) 145 rfl w.heap.size 82 i0 .nilFunc 1 8 Tryz.underlying145 hi0 hz0 hz1 hz2 rfl (by decide) _ 0 [] rfl (World.ownsRow_nil _ _ _ _) ⟨w2.heap.size, 0, none⟩ 1 1 [.func (.func 106) #[] #[.pointer (some ⟨w1.heap.size, 0, none⟩)]] rfl rfl (cell_one_new _ _ _) (by simp [Value.oneCell']) (by unfold maxLen; omega) (by omega) (by have := V1.out.size; have := B2.out.size; simp; omega) ?_; intro x4 u0 hown' hgrow _ hnew; obtain ⟨g', cap', rfl⟩ := ownsRow_succ hown'; have B4 := Lib.hid (((Below.refl w2.heap.size w2).alloc (Nat.le_refl _) _).grown hgrow (by simp) (by intro q hq; cases hq)); have K0 := Lib.hid (World.ownsRow.cellAt hown' 0 (by omega)); have OW := Lib.hid hown'; clear hown' hgrow hnew)))
    have U1 := Lib.hid (B2.out.trans (B4.out.mono B2.out.size))
    have W0 := Lib.hid (V1.out.trans (SG.of U1.out))
    have lt1 := V1.out.size
    have hw1 : w.heap.size < w1.heap.size := by have := HS1.out; have := S0'.out; omega
    have m1 := (U1.out.cell (p := ⟨w.heap.size, 1, none⟩) hw1).trans n1
    have m0 := (U1.out.cell (p := ⟨w.heap.size, 0, none⟩) hw1).trans n0
    have t0 := (U1.out.cell (p := ⟨b, 0, none⟩) (by show b < _; omega)).trans e0
    have t1 := (U1.out.cell (p := ⟨b, 1, none⟩) (by show b < _; omega)).trans e1
    have S0 := Lib.hid (show w.heap.size < u0.heap.size from Nat.lt_of_lt_of_le hw1 U1.out.size)
    have U0 := Lib.hid ((Below.refl u0.heap.size u0).drew)
    have hkid : KidAt Z u0 (.func (.func 106) #[] #[.pointer (some ⟨w1.heap.size, 0, none⟩)]) l :=
      ⟨_, ca, cc', rfl, fun h => by have := hZw _ h; omega, (B4.out.cell (p := ⟨w1.heap.size, 0, none⟩) (World.block_lt_of_cell? w2 _ F0.out)).trans F0.out, RD.out.below U1.out⟩
    have hk0 : u0.cell? ⟨g', 0, none⟩ = some (.func (.func 106) #[] #[.pointer (some ⟨w1.heap.size, 0, none⟩)]) := K0.out
    have hg'u : g' < u0.heap.size := World.block_lt_of_cell? u0 _ hk0
    have RO := Lib.hid (show ∀ W, Below u0.heap.size u0 W → Calls Tryz.prog 122 #[.agg #[.map (some bm), .slice (some ⟨sb, 0, none⟩) N N], .iface t v, .slice (some ⟨g', 0, none⟩) 1 cap'] W (OverPost Z W (on1 n l)) from
      fun W hW => OV.out W g' cap' _ l (fun k hk => Nat.lt_of_lt_of_le (hZw k hk) (Nat.le_trans W0.out.size hW.size)) ((hW.cell (p := ⟨g', 0, none⟩) hg'u).trans hk0) (hkid.below hW) hl2 AW.out ((W0.out.below HB00.out (by rintro k rfl; exact hZ0 _ hZs)).trans (hW.mono (Nat.le_trans HB00.out.size W0.out.size))))
    have EV := Lib.hid (show evT g (.t1 n pl en c) = few (on1 n l) by show (match evT g c with | none => none | some l => few (on1 n l)) = _; rw [HL.out])
    have HZ := Lib.hid (SZ1.out.below U1.out)
    have HNZ := Lib.hid (show (putZ g c zs).length = N by rw [putZ_len, HN.out])
    have PZ := Lib.hid (show putZ g (.t1 n pl en c) zs = (putZ g c zs).set pl (sizN g (.t1 n pl en c)) from rfl)
    generalize putZ g c zs = ZS at HZ HNZ PZ
    generalize on1 n l = L at RO EV
    clear n0 n1 e0 e1 hkid hk0 hg'u hw1 lt1 hl2
    rw [rounds_succ]
    go_wp2_with fail
    go_region_with (first
      | (go_at_call 122; refine (RO.out _ U0.out).mono ?_; rintro e w2 ⟨gg, lb, rfl, hb2, hen, hseq⟩; have U2 := Lib.hid (below_step U0.out (Nat.le_refl _) hb2); have EN := Lib.hid hen; have SQ := Lib.hid hseq; clear hb2 hen hseq)
      | (go_at_call 121; refine (GA.out _ _ _ _ (fun k hk => Nat.lt_of_lt_of_le (hZw k hk) (Nat.le_trans W0.out.size U2.out.size)) EN.out SQ.out).mono ?_; rintro e w3 ⟨gv, ok, rfl, hb3, hres⟩; have U3 := Lib.hid (below_step U2.out (Nat.le_refl _) hb3); have RS := Lib.hid hres; clear hb3 hres))
    all_goals (
      have SZ3 := HZ.out.below U3.out
      have W3 := Lib.hid (W0.out.trans (SG.of U3.out))
      have x0 := (U3.out.cell (p := ⟨w.heap.size, 1, none⟩) (by show w.heap.size < _; exact S0.out)).trans m1
      have x1 := (U3.out.cell (p := ⟨b, 1, none⟩) (by show b < _; exact Nat.lt_of_lt_of_le hbw W0.out.size)).trans t1
      have x2 := World.rowIs.cell SZ3 (i := pl) (by rw [HNZ.out]; exact hu)
      have x3 := World.rowIs.frozen SZ3 pl
      have SZ := Lib.hid SZ3
      clear SZ3
      generalize ZS.getD pl 0 = old at x2
      rcases RS.out with ⟨hfew, rfl, aa, ac, rfl, hrd⟩ | ⟨hfew, rfl, rfl⟩
      · have RD := Lib.hid hrd
        have FW := Lib.hid hfew
        clear hrd hfew RS
        go_wp2_with fail
        go_region_with (fail)
        all_goals (
          go_wp2_with fail
          first | go_ret | go_ret2 | go_end0
          have SD : SG (fun k => k = sb) w (w3.drew.setCell ⟨sb, pl, none⟩ (.int .i64 (L.length : Int))) := (W3.out.trans (SG.of (Below.refl _ _).drew)).trans (SG.set (z := fun k => k = sb) (s := sb) rfl _ _ _)
          have HE : evT g (.t1 n pl en c) = some L := by rw [EV.out, FW.out]
          refine ⟨_, true, rfl, SD, .inl ⟨L, HE, rfl, ⟨aa, ac, rfl, (RD.out.below (Below.refl _ _).drew).grown (SG.set hZs _ _ _)⟩, ?_⟩⟩
          rw [PZ.out, sizN_of HE]
          exact (SZ.out.below (Below.refl _ _).drew).set (by rw [HNZ.out]; exact hu) _)
      · have FW := Lib.hid hfew
        clear hfew RS
        go_wp2_with fail
        go_region_with (fail)
        all_goals (
          go_wp2_with fail
          first | go_ret | go_ret2 | go_end0
          have SD : SG (fun k => k = sb) w (w3.drew.setCell ⟨sb, pl, none⟩ (.int .i64 0)) := (W3.out.trans (SG.of (Below.refl _ _).drew)).trans (SG.set (z := fun k => k = sb) (s := sb) rfl _ _ _)
          have HE : evT g (.t1 n pl en c) = none := by rw [EV.out, FW.out]
          exact ⟨_, false, rfl, SD, .inr ⟨HE, rfl, rfl, _, by rw [List.length_set, HNZ.out, HN.out], (SZ.out.below (Below.refl _ _).drew).set (by rw [HNZ.out]; exact hu) _⟩⟩))
  · have HL := Lib.hid hl
    have SZ1 := Lib.hid hsz
    have ZL := Lib.hid hzl
    clear hl hsz hzl
    go_wp2_with fail
    first | go_ret | go_ret2 | go_end0
    exact ⟨_, false, rfl, V1.out, .inr ⟨by show (match evT g c with | none => none | some l => few (on1 n l)) = _; rw [HL.out], rfl, rfl, zs'', ZL.out, SZ1.out⟩⟩
end Go.Proofs.YtanfllednlpbaaaGreat
