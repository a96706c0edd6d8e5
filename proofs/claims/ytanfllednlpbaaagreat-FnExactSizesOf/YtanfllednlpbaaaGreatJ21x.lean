/-
  Contract of tree.width. For every tree. Contracts of slices.Values, its function, slices.AppendSeq (onto nothing) and slices.Collect at rows: for whatever comes one by one. Rows of numbers that are handed on as they lie: slices as values, and a row of them that is copied one by one. No walk.
-/
import Derived.Test.YtanfllednlpbaaaGreatJ20x
import Derived.Test.YtanfllednlpbaaaGreatJ18x
import Derived.Test.YtanfllednlpbaaaGreatRows
import Derived.Test.YtanfllednlpbaaaGreatJ3x
import Derived.RangeFuncBox
import Derived.RangeFuncWrites
import Derived.RangeFuncLeaves
import Derived.Shelf.Abstract
import Derived.WalkKit
import Derived.OwnWalkIn
import Derived.TacticsInMore
import Derived.LoopNIn
import Derived.LoopIn
import Derived.Maps.AppendAt
import Derived.Test.YtanfllednlpbaaaGreatJ1x
import Derived.Test.YtanfllednlpbaaaGreatJ5x
namespace Go.Proofs.YtanfllednlpbaaaGreat
open Go.RowKit Go.Maps
set_option linter.unusedSimpArgs false
set_option linter.unusedVariables false

theorem over1_eq {n : Nd} (ha : arity n.kind = 1) (x : Int) : over1 n x = if fitN1 n x = true then wide1 n x else -1 := by
  unfold over1 fitN1 wide1
  rcases kinds1 ha with hk | hk | hk | hk | hk <;> simp [hk]
  all_goals (split <;> split <;> first | rfl | omega)
theorem over2_eq {n : Nd} (ha : arity n.kind = 2) (x y : Int) : over2 n x y = if fitN2 n x y = true then wide2 n x y else -1 := by
  unfold over2 fitN2 wide2
  rcases kinds2 ha with hk | hk
  · simp only [hk, if_true]
    by_cases h1 : n.col < x
    · by_cases h2 : n.num < y
      · simp only [h1, h2, decide_true, Bool.and_true, if_true]
        by_cases h3 : 64 < x + y
        · rw [if_pos (by omega), if_pos h3]
        · rw [if_neg (by omega), if_neg h3]
      · rw [if_pos (by omega)]; simp [h2]
    · rw [if_pos (by omega)]; simp [h1]
  · have h3 : ¬ n.kind = 3 := by omega
    simp only [h3, if_false]
    by_cases h : x = y <;> simp [h]
theorem own_some {w : World} {base : Nat} {ao : Option Addr} {c : Nat} {l : List Int} (h : Own w base 3 .i64 ao c l) (hl : l ≠ []) : ∃ g, ao = some ⟨g, 0, none⟩ ∧ base ≤ g ∧ g < w.heap.size := by
  rcases h.2 with ⟨hv, hn⟩ | ⟨g, cap, cur, hv, hb, hg, _⟩
  · exact absurd (List.eq_nil_of_length_eq_zero hn) hl
  · simp only [Value.slice.injEq] at hv
    exact ⟨g, hv.1, hb, (Array.getElem?_eq_some_iff.1 hg).1⟩
theorem own_cell {w : World} {base g : Nat} {c : Nat} {l : List Int} (h : Own w base 3 .i64 (some ⟨g, 0, none⟩) c l) (i : Nat) (x : Int) (hi : l[i]? = some x) : w.cell? ⟨g, i, none⟩ = some (.int .i64 x) := by
  have hlt : i < l.length := (List.getElem?_eq_some_iff.1 hi).1
  have := World.ownsRow.cellAt h i (by omega)
  rw [this, List.getElem?_map, hi]; rfl
theorem nodeB_name {n : Nd} (h : nodeB n = true) (hk : n.kind = 0) : n.name.size ≤ maxLen := by
  unfold nodeB at h
  rw [if_pos hk, Bool.and_eq_true] at h
  have h1 := h.1
  have h0 : ¬ ¬ (1 ≤ n.name.size ∧ n.name.size ≤ 12) := fun hn => by rw [wordB_len hn] at h1; cases h1
  unfold maxLen; omega

set_option maxRecDepth 100000 in
set_option maxHeartbeats 4000000 in
theorem width_any (w0 : World) (f : Fn) (hf : FnOk f) (bm nm : Nat) : ∀ (T : Tr) (w : World) (lo hi b : Nat), TrQ w0 w lo hi T b → hi ≤ w.heap.size → Below w0.heap.size w0 w → OwnM w bm nm f → T.nodes →
    Calls Tryz.prog 53 #[.pointer (some ⟨b, 0, none⟩), .map (some bm)] w fun e w' => e = .returned (.int .i64 (widT f T)) ∧ Below w.heap.size w w' := by
  intro T
  induction T with
  | t0 n pl en =>
    intro w lo hi b h hh hb0 hm hn
    obtain ⟨_, hb2, a, c, c0, c1, c2, c3, q⟩ := h
    have hnb : nodeB n = true := hn.1
    have hk : n.kind = 0 := hn.2
    obtain ⟨t, v, hkv⟩ := kindV_iface hnb a c
    rw [hkv] at c0
    have FT := Lib.hid (show ∀ W, Calls Tryz.prog 99 #[.iface t v, .slice none 0 0] W fun e w' => e = .returned (.bool true) ∧ W = w' from fun W => hkv ▸ fits0_any n a c W hk)
    have WO := Lib.hid (show Calls Tryz.prog 100 #[.iface t v, .map (some bm), .slice none 0 0] w fun e w' => e = .returned (.int .i64 ((f n.name.data.toList).getD (-1))) ∧ Below w.heap.size w w' from hkv ▸ wide0_any n a c bm nm f w hk hm (nodeB_name hnb hk))
    have hbw : b < w.heap.size := by omega
    have E := Lib.hid (show widT f (.t0 n pl en) = (f n.name.data.toList).getD (-1) from rfl)
    generalize (f n.name.data.toList).getD (-1) = res at WO E
    clear hkv hm hn hnb hk q hb0
    go_enter Tryz.func53, Tryz.ntmps53
    go_wp2_with fail
    refine wp_loop_rounds 1 ?_; rw [rounds_succ]
    go_wp2_with fail
    refine (FT.out _).mono ?_
    rintro e w' ⟨rfl, rfl⟩
    go_wp2_with fail
    refine WO.out.mono ?_
    rintro e w1 ⟨rfl, b1⟩
    have B1 := Lib.hid b1; clear b1
    go_wp2_with fail
    go_ret
    rw [E.out]
    exact ⟨rfl, B1.out⟩
  | t1 n pl en c ih =>
    intro w lo hi b h hh hb0 hm hn
    obtain ⟨g, cap, bc, ⟨_, hb2, a, cc, c0, c1, c2, c3, q⟩, hg, g0, tc⟩ := h
    have hnb : nodeB n = true := hn.1.1
    have ha : arity n.kind = 1 := hn.1.2
    have hwd := widT_wide hf c hn.2
    obtain ⟨t, v, hkv⟩ := kindV_iface hnb a cc
    rw [hkv] at c0
    have FT := Lib.hid (show ∀ gg cb x W, W.cell? ⟨gg, 0, none⟩ = some (.int .i64 x) → Rd W .i64 a n.cols → Calls Tryz.prog 99 #[.iface t v, .slice (some ⟨gg, 0, none⟩) 1 cb] W fun e w' => e = .returned (.bool (fitN1 n x)) ∧ Below W.heap.size W w' from fun gg cb x W h1 h2 => hkv ▸ fits1_any n a cc ha gg cb x W h1 h2 q.2)
    have WO := Lib.hid (show ∀ gg cb x W, W.cell? ⟨gg, 0, none⟩ = some (.int .i64 x) → Calls Tryz.prog 100 #[.iface t v, .map (some bm), .slice (some ⟨gg, 0, none⟩) 1 cb] W fun e w' => e = .returned (.int .i64 (wide1 n x)) ∧ Below W.heap.size W w' from fun gg cb x W h1 => hkv ▸ wide1_any n a cc ha bm gg cb x W h1 q.2)
    have OV := Lib.hid (over1_eq ha (widT f c))
    have RQ := Lib.hid (q.1.below hb0)
    have E := Lib.hid (show widT f (.t1 n pl en c) = if widT f c = -1 then -1 else over1 n (widT f c) from rfl)
    have hbw : b < w.heap.size := by omega
    have hgw : g < w.heap.size := by omega
    have TC := Lib.hid tc; have IH := Lib.hid ih; have NC := Lib.hid hn.2; have HM := Lib.hid hm; have B00 := Lib.hid hb0
    clear ih tc hn hkv hnb ha q hm hb0
    generalize widT f c = x at hwd IH OV E
    go_enter Tryz.func53, Tryz.ntmps53
    go_wp2_with fail
    refine wp_loop_rounds 2 ?_; rw [rounds_succ]
    go_wp2_with fail
    refine (IH.out w lo hi bc TC.out hh B00.out HM.out NC.out).mono ?_
    rintro e w1 ⟨rfl, b1⟩
    have B1 := Lib.hid b1
    have hc1 := fun o => b1.cell (p := ⟨b, o, none⟩) hbw
    have hd1 := fun o => b1.cell (p := ⟨g, o, none⟩) hgw
    clear b1
    rcases hwd with rfl | ⟨hx1, hx2⟩
    · go_wp2_with fail
      go_ret
      rw [E.out]
      exact ⟨rfl, B1.out⟩
    have hne : (x == -1) = false := by simp; omega
    have hne' : ¬ x = -1 := by omega
    have RES := Lib.hid (show widT f (.t1 n pl en c) = if fitN1 n x = true then wide1 n x else -1 by rw [E.out, if_neg hne', OV.out])
    clear E OV
    go_wp2_with (at_builtin; refine wpList_appendI _ rfl (.tmp 25) (.tmp 27) 34 rfl w.heap.size 3 Tryz.underlying34 Tryz.infoInt none 0 0 [] rfl rfl Own.none_ _ _ x rfl (cell_one _ _ _) (by simp) (by have := B1.out.size; simp; omega) ?_; intro ao2 c2' w2 o2 g2; have b2 := (B1.out.alloc B1.out.size _).grown g2 (by have := B1.out.size; simp; omega) (by intro q hq; cases hq); have hc2 := fun o => b2.cell (p := ⟨b, o, none⟩) hbw; have hd2 := fun o => b2.cell (p := ⟨g, o, none⟩) hgw; have B2 := Lib.hid b2; obtain ⟨g', rfl, hgb, hgl⟩ := own_some o2 (by simp); have k0 := own_cell o2 0 x (by simp); clear o2 g2 b2)
    rw [rounds_succ]
    go_wp2_with fail
    refine (FT.out g' c2' x _ k0 (RQ.out.below B2.out)).mono ?_
    rintro e w3 ⟨rfl, b3⟩
    have B3 := Lib.hid (below_step B2.out (Nat.le_refl _) b3)
    have k3 := (b3.cell (p := ⟨g', 0, none⟩) hgl).trans k0
    have hc3 := fun o => B3.out.cell (p := ⟨b, o, none⟩) hbw
    clear b3
    cases hfit : fitN1 n x with
    | false =>
      have RS := Lib.hid (show widT f (.t1 n pl en c) = -1 by rw [RES.out, hfit]; rfl)
      go_wp2_with fail
      go_ret
      rw [RS.out]
      exact ⟨rfl, B3.out⟩
    | true =>
      have RS := Lib.hid (show widT f (.t1 n pl en c) = wide1 n x by rw [RES.out, hfit]; rfl)
      go_wp2_with fail
      refine (WO.out g' c2' x _ k3).mono ?_
      rintro e w4 ⟨rfl, b4⟩
      have B4 := Lib.hid (below_step B3.out (Nat.le_refl _) b4)
      clear b4
      go_wp2_with fail
      go_ret
      rw [RS.out]
      exact ⟨rfl, B4.out⟩
  | t2 n pl en c d ihc ihd =>
    intro w lo hi b h hh hb0 hm hn
    obtain ⟨g, cap, bc, bd, ⟨_, hb2, a, cc, c0, c1, c2, c3, q⟩, hg, g0, g1', tc, td⟩ := h
    have hnb : nodeB n = true := hn.1.1
    have ha : arity n.kind = 2 := hn.1.2
    have hwc := widT_wide hf c hn.2.1
    have hwd := widT_wide hf d hn.2.2
    obtain ⟨t, v, hkv⟩ := kindV_iface hnb a cc
    rw [hkv] at c0
    have FT := Lib.hid (show ∀ gg cb x y W, W.cell? ⟨gg, 0, none⟩ = some (.int .i64 x) → W.cell? ⟨gg, 1, none⟩ = some (.int .i64 y) → Calls Tryz.prog 99 #[.iface t v, .slice (some ⟨gg, 0, none⟩) 2 cb] W fun e w' => e = .returned (.bool (fitN2 n x y)) ∧ Below W.heap.size W w' from fun gg cb x y W h1 h2 => hkv ▸ fits2_any n a cc ha gg cb x y W h1 h2)
    have WO := Lib.hid (show ∀ gg cb x y W, W.cell? ⟨gg, 0, none⟩ = some (.int .i64 x) → W.cell? ⟨gg, 1, none⟩ = some (.int .i64 y) → 0 ≤ x → x ≤ 64 → 0 ≤ y → y ≤ 64 → Calls Tryz.prog 100 #[.iface t v, .map (some bm), .slice (some ⟨gg, 0, none⟩) 2 cb] W fun e w' => e = .returned (.int .i64 (wide2 n x y)) ∧ Below W.heap.size W w' from fun gg cb x y W h1 h2 k1 k2 k3 k4 => hkv ▸ wide2_any n a cc ha bm gg cb x y W h1 h2 k1 k2 k3 k4)
    have OV := Lib.hid (over2_eq ha (widT f c) (widT f d))
    have E := Lib.hid (show widT f (.t2 n pl en c d) = if widT f c = -1 then -1 else if widT f d = -1 then -1 else over2 n (widT f c) (widT f d) from rfl)
    have hbw : b < w.heap.size := by omega
    have hgw : g < w.heap.size := by omega
    have TC := Lib.hid tc; have IH := Lib.hid ihc; have NC := Lib.hid hn.2.1
    have TD := Lib.hid td; have IJ := Lib.hid ihd; have ND := Lib.hid hn.2.2
    have HM := Lib.hid hm; have B00 := Lib.hid hb0
    clear ihc ihd tc td hn hkv hnb ha q hm hb0
    generalize widT f c = x at hwc IH OV E
    generalize widT f d = y at hwd IJ OV E
    go_enter Tryz.func53, Tryz.ntmps53
    go_wp2_with fail
    refine wp_loop_rounds 3 ?_; rw [rounds_succ]
    go_wp2_with fail
    refine (IH.out w lo hi bc TC.out hh B00.out HM.out NC.out).mono ?_
    rintro e w1 ⟨rfl, b1⟩
    have B1 := Lib.hid b1
    have hc1 := fun o => b1.cell (p := ⟨b, o, none⟩) hbw
    have hd1 := fun o => b1.cell (p := ⟨g, o, none⟩) hgw
    clear b1
    rcases hwc with rfl | ⟨hx1, hx2⟩
    · go_wp2_with fail
      go_ret
      rw [E.out]
      exact ⟨rfl, B1.out⟩
    have hne : (x == -1) = false := by simp; omega
    have hne' : ¬ x = -1 := by omega
    have E1 := Lib.hid (show widT f (.t2 n pl en c d) = if y = -1 then -1 else over2 n x y by rw [E.out, if_neg hne'])
    clear E
    go_wp2_with (at_builtin; refine wpList_appendI _ rfl (.tmp 25) (.tmp 27) 34 rfl w.heap.size 3 Tryz.underlying34 Tryz.infoInt none 0 0 [] rfl rfl Own.none_ _ _ x rfl (cell_one _ _ _) (by simp) (by have := B1.out.size; simp; omega) ?_; intro ao2 c2' w2 o2 g2; have b2 := (B1.out.alloc B1.out.size _).grown g2 (by have := B1.out.size; simp; omega) (by intro q hq; cases hq); have hc2 := fun o => b2.cell (p := ⟨b, o, none⟩) hbw; have hd2 := fun o => b2.cell (p := ⟨g, o, none⟩) hgw; have B2 := Lib.hid b2; obtain ⟨g', rfl, hgb, hgl⟩ := own_some o2 (by simp); have O2 := Lib.hid (show Own w2 w.heap.size 3 .i64 (some ⟨g', 0, none⟩) c2' [x] from o2); clear o2 g2 b2)
    rw [rounds_succ]
    go_wp2_with fail
    refine (IJ.out w2 lo hi bd (TD.out.below hh B2.out) (Nat.le_trans hh B2.out.size) (below_step B00.out (Nat.le_refl _) B2.out) (HM.out.below B2.out) ND.out).mono ?_
    rintro e w3 ⟨rfl, b3⟩
    have B3 := Lib.hid (below_step B2.out (Nat.le_refl _) b3)
    have O3 := Lib.hid (O2.out.below b3)
    have hc3 := fun o => B3.out.cell (p := ⟨b, o, none⟩) hbw
    have hd3 := fun o => B3.out.cell (p := ⟨g, o, none⟩) hgw
    clear b3 O2
    rcases hwd with rfl | ⟨hy1, hy2⟩
    · go_wp2_with fail
      go_ret
      rw [E1.out]
      exact ⟨rfl, B3.out⟩
    have hney : (y == -1) = false := by simp; omega
    have hney' : ¬ y = -1 := by omega
    have RES := Lib.hid (show widT f (.t2 n pl en c d) = if fitN2 n x y = true then wide2 n x y else -1 by rw [E1.out, if_neg hney', OV.out])
    clear E1 OV
    go_wp2_with (at_builtin; refine wpList_appendI _ rfl (.tmp 25) (.tmp 27) 34 rfl w.heap.size 3 Tryz.underlying34 Tryz.infoInt (some ⟨g', 0, none⟩) c2' 1 [x] rfl rfl (O3.out.alloc _) _ _ y rfl (cell_one _ _ _) (by simp) (by have := B3.out.size; simp; omega) ?_; intro ao4 c4' w4 o4 g4; have b4 := (B3.out.alloc B3.out.size _).grown g4 (by have := B3.out.size; simp; omega) (by intro q hq; simp at hq; omega); have hc4 := fun o => b4.cell (p := ⟨b, o, none⟩) hbw; have hd4 := fun o => b4.cell (p := ⟨g, o, none⟩) hgw; have B4 := Lib.hid b4; obtain ⟨g4', rfl, hgb4, hgl4⟩ := own_some o4 (by simp); have k0 := own_cell o4 0 x (by simp); have k1 := own_cell o4 1 y (by simp); clear o4 g4 b4)
    rw [rounds_succ]
    go_wp2_with fail
    refine (FT.out g4' c4' x y _ k0 k1).mono ?_
    rintro e w5 ⟨rfl, b5⟩
    have B5 := Lib.hid (below_step B4.out (Nat.le_refl _) b5)
    have k50 := (b5.cell (p := ⟨g4', 0, none⟩) hgl4).trans k0
    have k51 := (b5.cell (p := ⟨g4', 1, none⟩) hgl4).trans k1
    have hc5 := fun o => B5.out.cell (p := ⟨b, o, none⟩) hbw
    clear b5
    cases hfit : fitN2 n x y with
    | false =>
      have RS := Lib.hid (show widT f (.t2 n pl en c d) = -1 by rw [RES.out, hfit]; rfl)
      go_wp2_with fail
      go_ret
      rw [RS.out]
      exact ⟨rfl, B5.out⟩
    | true =>
      have RS := Lib.hid (show widT f (.t2 n pl en c d) = wide2 n x y by rw [RES.out, hfit]; rfl)
      go_wp2_with fail
      refine (WO.out g4' c4' x y _ k50 k51 (by omega) hx2 (by omega) hy2).mono ?_
      rintro e w6 ⟨rfl, b6⟩
      have B6 := Lib.hid (below_step B5.out (Nat.le_refl _) b6)
      clear b6
      go_wp2_with fail
      go_ret
      rw [RS.out]
      exact ⟨rfl, B6.out⟩
end Go.Proofs.YtanfllednlpbaaaGreat
namespace Go.Proofs.YtanfllednlpbaaaGreat
open Go.RowKit Go.Shelf
set_option linter.unusedSimpArgs false
set_option linter.unusedVariables false

attribute [local go_sem] Oper.semAt_some

/-- A slice of numbers as a value: where it lies, what it reads as, its capacity. -/
structure El where
  a : Option Addr
  r : List Int
  c : Nat
def El.val (e : El) : Value := .slice e.a e.r.length e.c
def Good (w : World) (e : El) : Prop := Rd w .i64 e.a e.r ∧ e.r.length ≤ e.c ∧ e.c ≤ maxLen
/-- Those that read so in w. -/
def Els (w : World) : Type := { e : El // Good w e }
instance (w : World) : Inhabited (Els w) := ⟨⟨⟨none, [], 0⟩, Rd.nil, Nat.zero_le _, Nat.zero_le _⟩⟩
def encE {w : World} (x : Els w) : Value := .slice x.1.a x.1.r.length x.1.c
theorem Good.below {w w' : World} {e : El} (h : Good w e) (hb : Below w.heap.size w w') : Good w' e := ⟨h.1.below hb, h.2⟩

/-- A slice whose places hold these. -/
def Lies (n₀ : Nat) (W : World) (sv : Value) {wb : World} (zs : List (Els wb)) : Prop :=
  (∃ a c, sv = .slice a 0 c ∧ zs = []) ∨ ∃ b off cap, sv = .slice (some ⟨b, off, none⟩) zs.length cap ∧ b < n₀ ∧ ∀ j x, zs[j]? = some x → W.cell? ⟨b, off + j, none⟩ = some (encE x)
theorem Lies.below {n₀ : Nat} {A B : World} (h : Below n₀ A B) {sv : Value} {wb : World} {zs : List (Els wb)} : Lies n₀ A sv zs → Lies n₀ B sv zs
  | .inl e => .inl e
  | .inr ⟨b, off, cap, e, hb, hc⟩ => .inr ⟨b, off, cap, e, hb, fun j x hj => (h.cell (p := ⟨b, off + j, none⟩) hb).trans (hc j x hj)⟩

set_option maxRecDepth 100000 in
set_option maxHeartbeats 2000000 in
theorem valuesR1_in (F : Fence) (n : Nat) (h7 : F.fn 106) (hro : F.round = none) (hn : 1 ≤ n) (l Bs n₀ b off cap : Nat) {wb : World} (zs : List (Els wb)) (hreach : zs.length ≤ 1048576) (hb : b < n₀) (J Jx : List (Els wb) → World → Prop)
    (hY : ∀ pre x W, J pre W → pre.length < zs.length → YieldAt F (n - 1) Tryz.prog l #[encE x] W fun e W' =>
      (e = .returned (.bool true) ∧ J (pre ++ [x]) W' ∧ Below n₀ W W') ∨ (e = .returned (.bool false) ∧ Jx (pre ++ [x]) W'))
    (W : World) (hBs : W.cell? ⟨Bs, 0, none⟩ = some (.slice (some ⟨b, off, none⟩) zs.length cap)) (hc : ∀ j x, zs[j]? = some x → W.cell? ⟨b, off + j, none⟩ = some (encE x)) (h0 : J [] W) :
    CallsIn F n Tryz.prog 106 #[.func (.yield l) #[] #[], .pointer (some ⟨Bs, 0, none⟩)] W fun e W' => (∃ v, e = .returned v) ∧
      ((∃ ys, ys = zs ∧ J ys W') ∨ (∃ pre, pre <+: zs ∧ Jx pre W')) := by
  refine callsIn_of_wp Tryz.func106 rfl h7 ?_ hro
  simp only [Tryz.ntmps106, List.size_toArray, List.length_cons, List.length_nil, Nat.reduceAdd, Nat.reduceSub, Array.replicate_succ, Array.replicate_zero, List.push_toArray, List.append_toArray, List.nil_append, List.cons_append]
  have HC : Hid _ := hc
  have HY : Hid _ := hY
  clear hc hY
  gi_wp2
  gi_loopw [7] (fun i wr => ∃ k : Nat, k ≤ zs.length ∧ i = .int .i64 k ∧ J (zs.take k) wr ∧ Below n₀ W wr)
    (fun i _ => zs.length - (intOf i).toNat)
  case atStart => exact ⟨0, Nat.zero_le _, rfl, h0, Below.refl _ _⟩
  case round =>
    obtain ⟨k, hk, rfl, hJs, hnx⟩ := hrel
    by_cases hlt : k < zs.length
    · obtain ⟨x, hx⟩ : ∃ x, zs[k]? = some x := ⟨_, List.getElem?_eq_getElem hlt⟩
      have HX : Hid (zs.take (k + 1) = zs.take k ++ [x] ∧ zs.take k ++ [x] <+: zs) := by
        have e : zs.take (k + 1) = zs.take k ++ [x] := by rw [List.take_add_one, hx]; rfl
        exact ⟨e, by rw [← e]; exact List.take_prefix _ _⟩
      obtain ⟨fn, tmps, assign, body, hy, hR⟩ := HY.out (zs.take k) x wr hJs (by rw [List.length_take]; omega)
      have hcx' : wr.cell? ⟨b, off + k, none⟩ = some (encE x) := (hnx.cell (p := ⟨b, off + k, none⟩) hb).trans (HC.out k x hx)
      clear hx
      unfold encE at hy hcx'
      gi_wp2
      refine hR.mono ?_
      rintro e W3 (⟨rfl, hJ3, hk3⟩ | ⟨rfl, hJx3⟩)
      · gi_wp2
        go_roundw
        case rel => exact ⟨k + 1, by omega, by simp, by rw [HX.out.1]; exact hJ3, hnx.trans hk3⟩
        case measure => simp [intOf]; omega
      · gi_wp2
        refine bodyPost_ret (results_none rfl _ _ _) rfl ?_
        exact ⟨⟨_, rfl⟩, .inr ⟨_, HX.out.2, hJx3⟩⟩
    · obtain rfl : k = zs.length := by omega
      gi_wp2
      go_end0
      exact ⟨⟨_, rfl⟩, .inl ⟨_, rfl, by rw [List.take_length] at hJs; exact hJs⟩⟩

set_option maxRecDepth 100000 in
set_option maxHeartbeats 1000000 in
theorem valuesR1_nil_in (F : Fence) (n : Nat) (h7 : F.fn 106) (hro : F.round = none) (l Bs : Nat) {wb : World} (J : List (Els wb) → World → Prop) (W : World) (a : Option Addr) (c : Nat) (hBs : W.cell? ⟨Bs, 0, none⟩ = some (.slice a 0 c)) (h0 : J [] W) :
    CallsIn F n Tryz.prog 106 #[.func (.yield l) #[] #[], .pointer (some ⟨Bs, 0, none⟩)] W fun e W' => (∃ v, e = .returned v) ∧ J [] W' := by
  refine callsIn_of_wp Tryz.func106 rfl h7 ?_ hro
  simp only [Tryz.ntmps106, List.size_toArray, List.length_cons, List.length_nil, Nat.reduceAdd, Nat.reduceSub, Array.replicate_succ, Array.replicate_zero, List.push_toArray, List.append_toArray, List.nil_append, List.cons_append]
  gi_wp2
  gi_loopw [7] (fun i wr => i = .int .i64 0 ∧ J [] wr) (fun _ _ => 0)
  case atStart => exact ⟨rfl, h0⟩
  case round =>
    obtain ⟨rfl, hJs⟩ := hrel
    gi_wp2
    go_end0
    exact ⟨⟨_, rfl⟩, hJs⟩

set_option maxHeartbeats 1000000 in
theorem valuesR_in (F : Fence) (n : Nat) (h5 : F.fn 57) (hro : F.round = none) (a : Option Addr) (len cap : Nat) (w : World) :
    CallsIn F n Tryz.prog 57 #[.slice a len cap] w fun e w' => e = .returned (.func (.func 106) #[] #[.pointer (some ⟨w.heap.size, 0, none⟩)]) ∧ w' = w.alloc (.cells #[.slice a len cap] 29) := by
  refine callsIn_of_wp Tryz.func57 rfl h5 ?_ hro
  simp only [Tryz.ntmps57, List.size_toArray, List.length_cons, List.length_nil, Nat.reduceAdd, Nat.reduceSub, Array.replicate_succ, Array.replicate_zero, List.push_toArray, List.append_toArray, List.nil_append, List.cons_append]
  gi_wp2
  go_ret
  exact ⟨rfl, rfl⟩

theorem valuesR_stops (F : Fence) (n : Nat) (h7 : F.fn 106) (hro : F.round = none) (hn : 1 ≤ n) (Bs n₀ : Nat) (sv : Value) {wb : World} (zs : List (Els wb)) (hreach : zs.length ≤ 1048576) (w : World) (hBs : Bs < w.heap.size) (hn₀ : n₀ ≤ w.heap.size)
    (hc : w.cell? ⟨Bs, 0, none⟩ = some sv) (hI : Lies n₀ w sv zs) :
    SeqStopsK F n Tryz.prog 106 #[.pointer (some ⟨Bs, 0, none⟩)] (fun x : Els wb => #[encE x]) (Below n₀) (fun ys => ys = zs) (fun pre => pre <+: zs) zs.length w := fun l J Jx W hW _ _ hY h0 => by
  have hc' := (hW.cell (p := ⟨Bs, 0, none⟩) hBs).trans hc
  rcases hI.below (hW.mono hn₀) with ⟨a, c, rfl, rfl⟩ | ⟨b, off, cap, rfl, hb, hcs⟩
  · exact (valuesR1_nil_in F n h7 hro l Bs J W a c hc' h0).mono fun e W' ⟨he, hj⟩ => ⟨he, .inl ⟨_, rfl, hj⟩⟩
  · exact valuesR1_in F n h7 hro hn l Bs n₀ b off cap zs hreach hb J Jx hY W hc' hcs h0

theorem infoRw : (Tryz.prog.info? 34).map (fun i => (i.zero, i.size, i.bytes)) = some (some (.slice none 0 0), 1, 24) := by kernel_rfl

set_option maxRecDepth 100000 in
set_option maxHeartbeats 4000000 in
/-- slices.AppendSeq(nil, seq): a slice of the call's own with all that come; nil just where none does. -/
theorem appendSeqR_in (F : Fence) (n : Nat) (h3 : F.fn 155) (hro : F.round = none) (hn : 3 ≤ n) (g n₀ : Nat) (lb : Array Value) (hg : F.fn g) (eg : ∀ args w, (callFunc g args).run Tryz.prog w = .ok (.enter g args) w) {wb : World} (zs : List (Els wb)) (Sp : List (Els wb) → Prop) (hlen : zs.length ≤ 1048576) (w : World) (hn₀ : n₀ ≤ w.heap.size)
    (hseq : ∀ W, Below w.heap.size w W → SeqStopsK F (n - 1) Tryz.prog g lb (fun x : Els wb => #[encE x]) (Below n₀) (fun ys => ys = zs) Sp zs.length W) :
    CallsIn F n Tryz.prog 155 #[.slice none 0 0, .func (.func g) #[] lb] w fun e W' => ∃ v, e = .returned v ∧ W'.ownsRow w.heap.size 34 1 v zs.length (zs.map encE) ∧ (v = .slice none 0 0 ↔ zs = []) ∧ Below w.heap.size w W' := by
  have h1 : 1 ≤ n := by omega
  obtain ⟨i0, hi, hz0, hz1, hz2⟩ := info_parts infoRw
  refine callsIn_of_wp_marks Tryz.func155 rfl h3 ?_ hro
  simp only [Tryz.ntmps155, List.size_toArray, List.length_cons, List.length_nil, Nat.reduceAdd, Nat.reduceSub, Array.replicate_succ, Array.replicate_zero, List.push_toArray, List.append_toArray, List.nil_append, List.cons_append]
  gi_wp2
  have bO := Boxed.new w 29 (.slice none 0 0)
  have hB0 : Below w.heap.size w (w.alloc (.cells #[.slice none 0 0] 29)) := (Below.refl _ w).alloc (Nat.le_refl _) _
  refine wpIn_rangeFunc_ownG hro h1 (gf := g) (lb := lb) rfl hg eg
    (hseq _ hB0) belowK_t (belowK_b (by simp; omega)) (Below.refl _ _) (fun _ => rfl)
    (fun pre W => (∃ v, Boxed W w.heap.size 29 v ∧ W.ownsRow w.heap.size 34 1 v pre.length (pre.map encE) ∧ (v = .slice none 0 0 ↔ pre = [])) ∧ Below w.heap.size w W)
    (fun _ _ _ => False)
    (OwnFrom.and (Go.Own.from (holdsRow_own w.heap.size w.heap.size 29 34 1 (fun pre => pre.length) (fun pre => pre.map encE) (fun pre v => v = .slice none 0 0 ↔ pre = [])) _) (ownFrom_below (Nat.le_refl _) (by simp)))
    (fun _ _ _ _ _ hs _ _ => hs)
    ⟨⟨_, bO, World.ownsRow_nil _ _ _ _, by simp⟩, hB0⟩
    (fun x => { tmps := #[.slice none 0 0, .func (.func g) #[] lb, .pointer (some ⟨w.heap.size, 0, none⟩), undef, .slice none 0 0, encE x, .func (.func g) #[] lb, encE x, undef, undef, undef, undef, undef], defers := [] }) ?assign ?body ?done ?stop
  case assign =>
    intro l x W K hK
    gi_wp2
    exact hK
  case body =>
    rintro l pre x W ⟨⟨v, hv, hrow, hnil⟩, hB⟩ hlt
    have hc := hv.cell
    unfold encE
    gi_wp2_with (gi_at_builtin; refine wpListIn_append_own _ rfl _ _ 29 rfl w.heap.size 34 i0 (.slice none 0 0) 1 24 Tryz.underlying29 hi hz0 hz1 hz2 rfl (by decide) _ _ _ rfl (hrow.alloc _) ⟨W.heap.size, 0, none⟩ 1 1 [encE x] rfl rfl (cell_one_new _ _ _) (by simp [Value.oneCell', encE]) (by unfold maxLen; omega) (by omega) (by have := hB.size; simp; omega) ?_; intro v' w1 hown' hgrow _; obtain ⟨g', cap', rfl⟩ := ownsRow_succ hown'; obtain ⟨hv1, hv2, hr2, hk2, hb2⟩ := hv.appended (by decide) hrow hB.size (Nat.le_refl _) hown' hgrow; have hc1 := hv1.cell; have hf1 := hv1.frozen)
    exact ⟨hk2.from _, hb2.mono hn₀, ⟨_, hv2, by show World.ownsRow _ _ _ _ _ (pre ++ [x]).length ((pre ++ [x]).map encE); simpa using hr2, by simp⟩, hB.trans hb2⟩
  case done =>
    rintro D ys W hD rfl ⟨⟨v, hv, hrow, hnil⟩, hB⟩ hK
    have hc := hv.cell
    gi_wp2
    refine ⟨by simp, .inl ⟨_, _, rfl, run_takeDeferred hK, ?_⟩⟩
    exact ⟨_, results_tmp rfl _ _ _, v, rfl, ownsRow_putObj hrow _ hK rfl, hnil, hB.trans (belowK_b (w := w) (Nat.le_refl _) W D _ _ (by simp at hD; omega) hK rfl rfl)⟩
  case stop =>
    rintro D c pre W _ _ h _
    exact h.elim
end Go.Proofs.YtanfllednlpbaaaGreat
namespace Go.Proofs.YtanfllednlpbaaaGreat
open Go.RowKit
set_option linter.unusedSimpArgs false
set_option linter.unusedVariables false

/-- What they read as. -/
def rowsE {w : World} (zs : List (Els w)) : List (List Int) := zs.map fun x => x.1.r
theorem RdR.els {w : World} {ao : Option Addr} {l : List (List Int)} (h : RdR w ao l) (c : Nat) : ∃ zs : List (Els w), rowsE zs = l ∧ Lies w.heap.size w (.slice ao l.length c) zs := by
  rcases h with rfl | ⟨b, off, rfl, hc⟩
  · exact ⟨[], rfl, .inl ⟨_, _, rfl, rfl⟩⟩
  · obtain ⟨zs, hl, hz⟩ := rows_of (fun (i : Nat) (x : Els w) => l[i]? = some x.1.r ∧ w.cell? ⟨b, off + i, none⟩ = some (encE x)) l.length (fun i hi => by
      obtain ⟨a, c, h1, h2, h3, h4⟩ := hc i _ (List.getElem?_eq_getElem hi)
      exact ⟨⟨⟨a, l[i], c⟩, h2, h3, h4⟩, List.getElem?_eq_getElem hi, h1⟩)
    have he : rowsE zs = l := by
      apply List.ext_getElem?
      intro i
      unfold rowsE
      rw [List.getElem?_map]
      rcases Nat.lt_or_ge i zs.length with h1 | h1
      · rw [List.getElem?_eq_getElem h1]
        exact ((hz i _ (List.getElem?_eq_getElem h1)).1).symm
      · rw [List.getElem?_eq_none h1, List.getElem?_eq_none (by omega)]; rfl
    refine ⟨zs, he, ?_⟩
    by_cases h0 : l = []
    · subst h0
      exact .inl ⟨_, _, rfl, List.eq_nil_of_length_eq_zero hl⟩
    · have hpos : 0 < l.length := List.length_pos_iff.2 h0
      obtain ⟨a, c', h1, _⟩ := hc 0 _ (List.getElem?_eq_getElem hpos)
      exact .inr ⟨b, off, c, by rw [hl], World.block_lt_of_cell? w ⟨b, off + 0, none⟩ h1, fun j x hj => (hz j x hj).2⟩
theorem rowsE_len {w : World} (zs : List (Els w)) : (rowsE zs).length = zs.length := by simp [rowsE]
theorem rowsE_at {w : World} {zs : List (Els w)} {i : Nat} {x : Els w} (h : zs[i]? = some x) : (rowsE zs)[i]? = some x.1.r := by unfold rowsE; rw [List.getElem?_map, h]; rfl

/-- A row of such slices, read as rows. -/
theorem owns_rdR {wb W : World} {base : Nat} {v : Value} {zs : List (Els wb)} {ao : Option Addr} {n c : Nat} (h : W.ownsRow base 34 1 (.slice ao n c) n (zs.map encE)) (hb : Below wb.heap.size wb W) : RdR W ao (rowsE zs) := by
  rcases h.2 with ⟨_, h0⟩ | ⟨g, cap, cur, e, _⟩
  · left
    have : zs.length = 0 := by have := h.1; simp at this; omega
    rw [List.eq_nil_of_length_eq_zero this]; rfl
  · right
    simp only [Value.slice.injEq] at e
    obtain ⟨rfl, -, rfl⟩ := e
    refine ⟨g, 0, rfl, fun i r hr => ?_⟩
    have hlen : zs.length = n := by have := h.1; simp at this; omega
    have hi : i < zs.length := by have := lt_of_get hr; rw [rowsE_len] at this; exact this
    have hx := rowsE_at (List.getElem?_eq_getElem hi)
    rw [hr, Option.some.injEq] at hx
    subst hx
    refine ⟨zs[i].1.a, zs[i].1.c, ?_, zs[i].2.1.below hb, zs[i].2.2⟩
    rw [Nat.zero_add, World.ownsRow.cellAt h i (by omega), List.getElem?_map, List.getElem?_eq_getElem hi]
    rfl

/-- A row more is appended behind those that lie there. -/
theorem PartR.push {w w1 w4 : World} {base g c j : Nat} {l : List (List Int)} {xs : List Value} {A : Nat → Option Addr} {C : Nat → Nat} (h : PartR w base g c j l j xs A C) {r : List Int} {a1 : Option Addr} {c1 c' : Nat} {ao' : Option Addr} (hn : l[j]? = some r) (hb : Below w.heap.size w w1)
    (ho : Own w1 w.heap.size 3 .i64 a1 c1 r) (hbase : base ≤ w.heap.size) (ho4 : OwnV w4 base 34 ao' c' (xs ++ [.slice a1 r.length c1])) (hg4 : w1.grownBy w4 (some g)) (hao : ao' = some ⟨g, 0, none⟩ ∨ ao' = some ⟨w1.heap.size, 0, none⟩) :
    ∃ g', ao' = some ⟨g', 0, none⟩ ∧ PartR w4 base g' c' (j + 1) l (j + 1) (xs ++ [.slice a1 r.length c1]) (fun i => if i = j then a1 else A i) (fun i => if i = j then c1 else C i) := by
  have hg := (owns_block h.own).2
  have h1 := h.below hb
  have hlen : xs.length = j := by have := h.own.1; omega
  have hblk : ∀ i, i < w1.heap.size → i ≠ g → w4.heap[i]? = w1.heap[i]? := fun i hi hne => hg4.block i hi (by simpa using hne)
  have key : ∀ i x, i < j → i < l.length → A i = some x → x.block < w.heap.size ∧ x.block ≠ g := fun i x hi hil hx => ⟨((h.cols i _ hi (List.getElem?_eq_getElem hil)).lt x hx).2, h.row i x hi hil hx⟩
  have kn : ∀ x, a1 = some x → w.heap.size ≤ x.block ∧ x.block < w1.heap.size ∧ x.block ≠ g := fun x hx => ⟨(ho.lt x hx).1, (ho.lt x hx).2, by have := (ho.lt x hx).1; omega⟩
  have hs := hb.size
  obtain ⟨g', rfl, hg'⟩ : ∃ g', ao' = some ⟨g', 0, none⟩ ∧ (g' = g ∨ g' = w1.heap.size) := by
    rcases hao with rfl | rfl
    · exact ⟨g, rfl, .inl rfl⟩
    · exact ⟨_, rfl, .inr rfl⟩
  refine ⟨g', rfl, ?_, ?_, ?_, ?_, ?_⟩
  · have := ho4
    unfold OwnV at this
    rw [show (xs ++ [Value.slice a1 r.length c1]).length = j + 1 by simp [hlen]] at this
    exact this
  · intro i n' hi hn'
    by_cases hij : i = j
    · subst hij
      rw [hn] at hn'; cases hn'
      simp only [if_true]
      rw [List.getElem?_append_right (by omega), hlen, Nat.sub_self]; rfl
    · simp only [if_neg hij]
      rw [List.getElem?_append_left (by omega)]
      exact h.cells i n' (by omega) hn'
  · intro i n' hi hn'
    by_cases hij : i = j
    · subst hij
      rw [hn] at hn'; cases hn'
      simp only [if_true]
      exact (ho.keep fun x hx _ => hblk _ (kn x hx).2.1 (kn x hx).2.2).base_le hbase
    · simp only [if_neg hij]
      exact (h1.cols i n' (by omega) hn').keep fun x hx _ => hblk _ (by have := (key i x (by omega) (lt_of_get hn') hx).1; omega) (key i x (by omega) (lt_of_get hn') hx).2
  · intro i x hi hil hx
    by_cases hij : i = j
    · subst hij
      simp only [if_true] at hx
      have := kn x hx; omega
    · simp only [if_neg hij] at hx
      have := key i x (by omega) hil hx; omega
  · intro i k x y hi hk hil hkl hik hx hy
    by_cases hij : i = j
    · subst hij
      simp only [if_true] at hx
      simp only [if_neg (Ne.symm hik)] at hy
      have := kn x hx
      have := key k y (by omega) hkl hy
      omega
    · simp only [if_neg hij] at hx
      by_cases hkj : k = j
      · subst hkj
        simp only [if_true] at hy
        have := kn y hy
        have := key i x (by omega) hil hx
        omega
      · simp only [if_neg hkj] at hy
        exact h.apart i k x y (by omega) (by omega) hil hkl hik hx hy
theorem PartR.start (w : World) (l : List (List Int)) : PartR (w.alloc (.cells #[] 34)) w.heap.size w.heap.size 0 0 l 0 [] (fun _ => none) (fun _ => 0) :=
  ⟨⟨rfl, .inr ⟨w.heap.size, 0, #[], rfl, Nat.le_refl _, heap_alloc_new w _, Nat.le_refl _, Nat.zero_le _, rfl, rfl⟩⟩, fun i n hi => absurd hi (Nat.not_lt_zero _), fun i n hi => absurd hi (Nat.not_lt_zero _), fun i x hi => absurd hi (Nat.not_lt_zero _), fun i k x y hi => absurd hi (Nat.not_lt_zero _)⟩
end Go.Proofs.YtanfllednlpbaaaGreat
