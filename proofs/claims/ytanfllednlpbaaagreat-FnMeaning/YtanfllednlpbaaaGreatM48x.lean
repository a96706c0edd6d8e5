/-
  Contract of spec.l03Width at a both. Contract of spec.l03Width: the width of the tree at a place. For every plan and every schema. Contracts of WidthOf and TypedOk, of the model and of the program. For every slice of tables and every slice of nodes. A store's rows by name, and what EvalPlan and SizesOf answer. Plain facts; no walk. Contract of impl.treeOf, the columns where an earlier world has them.
-/
import Derived.Test.YtanfllednlpbaaaGreatM46x
import Derived.Test.YtanfllednlpbaaaGreatM11x
import Derived.Test.YtanfllednlpbaaaGreatGrowQ
import Derived.Test.YtanfllednlpbaaaGreatM42x
import Derived.Test.YtanfllednlpbaaaGreatM47x
import Derived.Test.YtanfllednlpbaaaGreatM6x
import Derived.Test.YtanfllednlpbaaaGreatM25x
import Derived.Test.YtanfllednlpbaaaGreatM43x
namespace Go.Proofs.YtanfllednlpbaaaGreat
open Go.RowKit
set_option linter.unusedSimpArgs false
set_option linter.unusedVariables false
set_option maxRecDepth 100000 in
set_option maxHeartbeats 4000000 in
theorem wid_t2b (sa : Option Addr) (cs : Nat) (s : List Tb) (ao : Option Addr) (c : Nat) (p : List Nd) (T0 : Tr) (hs : schemaB s = true) (hsl : s.length ≤ 1048576) (hp : p.length ≤ 1048576) (ht : treeN p = some T0) (n : Nd) (pl en : Nat) (ch dh : Tr) (hk : n.kind = 4) (ihc : ∀ (k : Nat) (w : World), RdT w sa s → RdN w ao p → growT p p.length k = some ch → ch.depth ≤ 10 →
    Calls Tryz.prog 115 #[.slice sa s.length cs, .slice ao p.length c, .int .i64 k] w fun e w' => e = .returned (.int .i64 (widT (fnOf s) ch)) ∧ Below w.heap.size w w') (ihd : ∀ (k : Nat) (w : World), RdT w sa s → RdN w ao p → growT p p.length k = some dh → dh.depth ≤ 10 →
    Calls Tryz.prog 115 #[.slice sa s.length cs, .slice ao p.length c, .int .i64 k] w fun e w' => e = .returned (.int .i64 (widT (fnOf s) dh)) ∧ Below w.heap.size w w') : ∀ (k : Nat) (w : World), RdT w sa s → RdN w ao p → growT p p.length k = some (Tr.t2 n pl en ch dh) → (Tr.t2 n pl en ch dh).depth ≤ 10 →
    Calls Tryz.prog 115 #[.slice sa s.length cs, .slice ao p.length c, .int .i64 k] w fun e w' => e = .returned (.int .i64 (widT (fnOf s) (Tr.t2 n pl en ch dh))) ∧ Below w.heap.size w w' := by
  have hf := fnOk_schema hs
  have TS := Lib.hid (told_self s (schemaB_iff.1 hs).2.2)
  have HK := Lib.hid hk; clear hk
  intro k w hrs hrp hg hd
  have HG := Lib.hid hg
  have NDS := Lib.hid (growT_nodes p _ _ _ hg)
  obtain ⟨n', hn, hnb, hS⟩ := grow_inv hg
  rcases hS with ⟨hS, _⟩ | ⟨c', hS, _⟩ | ⟨c', d', hS, ha, hc, hdd⟩
  case inl => cases hS
  case inr.inl => cases hS
  cases hS
  have hkl : pl < p.length := (List.getElem?_eq_some_iff.1 hn).1
  obtain ⟨b, off, n2, a, c2, rfl, hn2, hat⟩ := hrp.at_ hkl
  obtain rfl : n = n2 := by rw [hn] at hn2; injection hn2
  obtain ⟨c0, c1, c2', c3, c4, c5, c6, rd, cap, mx, nm⟩ := hat
  have RDC := Lib.hid rd
  have hcl : n.cols.length ≤ maxLen := Nat.le_trans cap mx
  clear rd hn2 cap mx
  obtain ⟨W1, hW1⟩ : ∃ W1, W1 = w.alloc (.cells (#[.int .i64 n.kind, .string n.name, .int .i64 n.col, .int .i64 n.op, .int .i64 n.num, .bool n.slot, .slice a n.cols.length c2]) 39) := ⟨_, rfl⟩
  have Z1 := Lib.hid (show W1.heap.size = w.heap.size + 1 by rw [hW1]; simp)
  have A1 := Lib.hid (show Below w.heap.size w W1 by rw [hW1]; exact (Below.refl _ _).alloc (Nat.le_refl _) _)
  have f0 : W1.cell? ⟨w.heap.size, 0, none⟩ = some (.int .i64 n.kind) := by rw [hW1, World.cell?_alloc_new]; rfl
  have f1 : W1.cell? ⟨w.heap.size, 1, none⟩ = some (.string n.name) := by rw [hW1, World.cell?_alloc_new]; rfl
  have f2 : W1.cell? ⟨w.heap.size, 2, none⟩ = some (.int .i64 n.col) := by rw [hW1, World.cell?_alloc_new]; rfl
  have f4 : W1.cell? ⟨w.heap.size, 4, none⟩ = some (.int .i64 n.num) := by rw [hW1, World.cell?_alloc_new]; rfl
  have f6 : W1.cell? ⟨w.heap.size, 6, none⟩ = some (.slice a n.cols.length c2) := by rw [hW1, World.cell?_alloc_new]; rfl
  have OE := Lib.hid (show Own (W1.alloc (.cells #[] 3)) (w.heap.size + 1) 3 .i64 (some ⟨w.heap.size + 1, 0, none⟩) 0 [] by
    have := own_empty (w := W1) (base := W1.heap.size) (e := 3) (k := .i64) (Nat.le_refl _)
    rw [Z1.out] at this; exact this)
  have NE := Lib.hid ((Below.refl W1.heap.size W1).alloc (Nat.le_refl _) (.cells #[] 3))
  have HRS := Lib.hid (hrs.below A1.out); have HRP := Lib.hid (hrp.below A1.out)
  have FIN := Lib.hid (fun w' (hc : Below W1.heap.size W1 w') => (A1.out.trans (hc.mono (by rw [Z1.out]; exact Nat.le_succ _)) : Below w.heap.size w w'))
  have RD1 := Lib.hid (RDC.out.below A1.out)
  have hbw : b < w.heap.size := World.block_lt_of_cell? w ⟨b, off + pl * 7, none⟩ c0
  have hdc : ch.depth ≤ 9 ∧ dh.depth ≤ 9 := by simp only [Tr.depth] at hd; omega
  have IHC := Lib.hid (show ∀ W, RdT W sa s → RdN W (some ⟨b, off, none⟩) p → Calls Tryz.prog 115 #[.slice sa s.length cs, .slice (some ⟨b, off, none⟩) p.length c, .int .i64 ((pl : Int) + 1)] W fun e w' => e = .returned (.int .i64 (widT (fnOf s) ch)) ∧ Below W.heap.size W w' from fun W h1 h2 => by
    have := ihc (pl + 1) W h1 h2 hc (by omega)
    rwa [show ((pl + 1 : Nat) : Int) = (pl : Int) + 1 by omega] at this)
  have IHD := Lib.hid (show ∀ W, RdT W sa s → RdN W (some ⟨b, off, none⟩) p → Calls Tryz.prog 115 #[.slice sa s.length cs, .slice (some ⟨b, off, none⟩) p.length c, .int .i64 (ch.en : Int)] W fun e w' => e = .returned (.int .i64 (widT (fnOf s) dh)) ∧ Below W.heap.size W w' from fun W h1 h2 => ihd ch.en W h1 h2 hdd (by omega))
  have hwc := widT_wide hf ch NDS.out.2.1
  have hwd := widT_wide hf dh NDS.out.2.2
  have HA := Lib.hid ha
  have E := Lib.hid (show widT (fnOf s) (.t2 n pl dh.en ch dh) = if widT (fnOf s) ch = -1 then -1 else if widT (fnOf s) dh = -1 then -1 else over2 n (widT (fnOf s) ch) (widT (fnOf s) dh) from rfl)
  have KO := Lib.hid (show KidsOk p ((pl : Int)).toNat [(pl : Int) + 1, (ch.en : Int)] by rw [Int.toNat_natCast]; exact ⟨n, hn, .inr (.inr ⟨ha, _, _, _, _, endN_of_grow ht hc (by omega), endN_of_grow ht hdd (by omega), rfl⟩)⟩)
  clear hn
  go_enter Tryz.func115, Tryz.ntmps115
  go_wp2_with fail
  rw [← hW1]
  refine (specKids_any (some ⟨b, off, none⟩) c p pl [(pl : Int) + 1, (ch.en : Int)] _ (HRP.out.below NE.out) hp (by omega) (by omega) KO.out).mono ?_
  rintro e w3 ⟨a3, c3', rfl, o3, b3⟩
  have N3 := Lib.hid (below_step NE.out (Nat.le_refl _) b3)
  have OW3 := Lib.hid (OE.out.below b3)
  have e3 := fun o => N3.out.cell (p := ⟨w.heap.size, o, none⟩) (by rw [Z1.out]; exact Nat.lt_succ_self _)
  obtain ⟨g3, rfl, hgb3, hg3⟩ := own_some o3 (by simp)
  have hgb3' : w.heap.size + 2 ≤ g3 := by have := Z1.out; simp at hgb3; omega
  clear hgb3 c0 c1 c2' c3 c4 c5 c6 hW1
  have kk := own_cell o3 0 ((pl : Int) + 1) rfl
  have kl := own_cell o3 1 (ch.en : Int) rfl
  clear o3 b3 ihc ihd hc hdd ha hnb hrs hrp
  generalize widT (fnOf s) ch = x at hwc IHC E
  generalize widT (fnOf s) dh = y at hwd IHD E
  generalize (ch.en : Int) = ce at IHD kl ⊢
  go_wp2_with fail
  refine wp_loop_rounds 3 ?_; rw [rounds_succ]
  go_wp2_with fail
  refine (IHC.out _ (HRS.out.below N3.out) (HRP.out.below N3.out)).mono ?_
  rintro e w4 ⟨rfl, b4⟩
  have N4 := Lib.hid (below_step N3.out (Nat.le_refl _) b4)
  have e4 := fun o => N4.out.cell (p := ⟨w.heap.size, o, none⟩) (by rw [Z1.out]; exact Nat.lt_succ_self _)
  have OW4 := Lib.hid (OW3.out.below b4)
  have kl4 := (b4.cell (p := ⟨g3, 1, none⟩) hg3).trans kl
  have hg34 : g3 < w4.heap.size := Nat.lt_of_lt_of_le hg3 b4.size
  clear b4 e3
  rcases hwc with rfl | ⟨hx1, hx2⟩
  · go_wp2_with fail
    go_ret
    rw [E.out]
    exact ⟨rfl, FIN.out _ N4.out⟩
  have E1 := Lib.hid (show widT (fnOf s) (.t2 n pl dh.en ch dh) = if y = -1 then -1 else over2 n x y by rw [E.out, if_neg (show ¬ x = -1 by omega)])
  clear E
  go_wp2_with (at_builtin; refine wpList_appendI _ rfl (.tmp 37) (.tmp 39) 34 rfl (w.heap.size + 1) 3 Tryz.underlying34 Tryz.infoInt (some ⟨w.heap.size + 1, 0, none⟩) 0 0 [] rfl rfl (OW4.out.alloc _) _ _ x rfl (cell_one _ _ _) (by simp) (by have := N4.out.size; rw [Z1.out] at this; simp; omega) ?_; intro ao5 c5' w5 o5 g5; have n5 := ((Below.refl W1.heap.size w4).alloc N4.out.size _).grown g5 (by have := N4.out.size; simp; omega) (by intro q hq; simp at hq; rw [Z1.out]; omega); have N5 := Lib.hid (N4.out.trans n5); obtain ⟨g5', rfl, hgb5, hgl5⟩ := own_some o5 (by simp); have OW5 := Lib.hid (show Own w5 (w.heap.size + 1) 3 .i64 (some ⟨g5', 0, none⟩) c5' [x] from o5); have kl5 : w5.cell? ⟨g3, 1, none⟩ = some (.int .i64 ce) := (show w5.cell? ⟨g3, 1, none⟩ = (w4.alloc (.cells #[.int .i64 x] 3)).cell? ⟨g3, 1, none⟩ from World.cell?_of_block (g5.block g3 (by simp; omega) (by simp; omega))).trans ((((Below.refl w4.heap.size w4).alloc (Nat.le_refl _) _).cell (p := ⟨g3, 1, none⟩) hg34).trans kl4); clear o5 g5; have e5 := fun o => N5.out.cell (p := ⟨w.heap.size, o, none⟩) (by rw [Z1.out]; exact Nat.lt_succ_self _); clear n5)
  clear e4
  rw [rounds_succ]
  go_wp2_with fail
  refine (IHD.out _ (HRS.out.below N5.out) (HRP.out.below N5.out)).mono ?_
  rintro e w6 ⟨rfl, b6⟩
  have N6 := Lib.hid (below_step N5.out (Nat.le_refl _) b6)
  have e6 := fun o => N6.out.cell (p := ⟨w.heap.size, o, none⟩) (by rw [Z1.out]; exact Nat.lt_succ_self _)
  have OW6 := Lib.hid (OW5.out.below b6)
  clear b6 e5
  rcases hwd with rfl | ⟨hy1, hy2⟩
  · go_wp2_with fail
    go_ret
    rw [E1.out]
    exact ⟨rfl, FIN.out _ N6.out⟩
  have E2 := Lib.hid (show widT (fnOf s) (.t2 n pl dh.en ch dh) = over2 n x y by rw [E1.out, if_neg (show ¬ y = -1 by omega)])
  clear E1
  go_wp2_with (at_builtin; refine wpList_appendI _ rfl (.tmp 37) (.tmp 39) 34 rfl (w.heap.size + 1) 3 Tryz.underlying34 Tryz.infoInt (some ⟨g5', 0, none⟩) c5' 1 [x] rfl rfl (OW6.out.alloc _) _ _ y rfl (cell_one _ _ _) (by simp) (by have := N6.out.size; rw [Z1.out] at this; simp; omega) ?_; intro ao7 c7' w7 o7 g7; have n7 := ((Below.refl W1.heap.size w6).alloc N6.out.size _).grown g7 (by have := N6.out.size; simp; omega) (by intro q hq; simp at hq; rw [Z1.out]; omega); have N7 := Lib.hid (N6.out.trans n7); obtain ⟨g7', rfl, hgb7, hgl7⟩ := own_some o7 (by simp); have k0 := own_cell o7 0 x (by simp); have k1 := own_cell o7 1 y (by simp); clear o7 g7; have e7 := fun o => N7.out.cell (p := ⟨w.heap.size, o, none⟩) (by rw [Z1.out]; exact Nat.lt_succ_self _); clear n7)
  have q0 := (e7 0).trans f0; have q2 := (e7 2).trans f2; have q4 := (e7 4).trans f4
  clear e6 e7 f0 f1 f2 f4 f6 kk kl kl4 kl5
  have hk := HK.out
  rw [hk] at q0
  have EO := Lib.hid (show widT (fnOf s) (.t2 n pl dh.en ch dh) = if x = y then x else -1 by rw [E2.out]; unfold over2; rw [if_neg (by omega)])
  clear hk E2
  by_cases h1 : x = y
  · subst h1
    have E3 := Lib.hid (EO.out.trans (if_pos rfl))
    have hb1 : (x != x) = false := by simp
    rw [rounds_succ]
    go_wp2_with fail
    go_quiet (fail)
    all_goals
      go_wp2_with fail
      go_ret
      rw [E3.out]
      exact ⟨rfl, FIN.out _ (below_drewN N7.out _)⟩
  · have E3 := Lib.hid (EO.out.trans (if_neg h1))
    have hb1 : (x != y) = true := by simp [h1]
    have hb2 : (x == y) = false := by simp [h1]
    rw [rounds_succ]
    go_wp2_with fail
    go_quiet (fail)
    all_goals
      go_wp2_with fail
      go_ret
      rw [E3.out]
      exact ⟨rfl, FIN.out _ (below_drewN N7.out _)⟩
theorem l03Width_any (sa : Option Addr) (cs : Nat) (s : List Tb) (ao : Option Addr) (c : Nat) (p : List Nd) (T0 : Tr) (hs : schemaB s = true) (hsl : s.length ≤ 1048576) (hp : p.length ≤ 1048576) (ht : treeN p = some T0) : ∀ T : Tr, ∀ (k : Nat) (w : World), RdT w sa s → RdN w ao p → growT p p.length k = some T → T.depth ≤ 10 →
    Calls Tryz.prog 115 #[.slice sa s.length cs, .slice ao p.length c, .int .i64 k] w fun e w' => e = .returned (.int .i64 (widT (fnOf s) T)) ∧ Below w.heap.size w w' := by
  intro T
  induction T with
  | t0 n pl en => exact wid_t0 sa cs s ao c p T0 hs hsl hp ht n pl en
  | t1 n pl en ch ih => exact wid_t1 sa cs s ao c p T0 hs hsl hp ht n pl en ch ih
  | t2 n pl en ch dh ihc ihd =>
    intro k w h1 h2 hg hd
    rcases kinds2 (growT_nodes p _ _ _ hg).1.2 with hk | hk
    · exact wid_t2j sa cs s ao c p T0 hs hsl hp ht n pl en ch dh hk ihc ihd k w h1 h2 hg hd
    · exact wid_t2b sa cs s ao c p T0 hs hsl hp ht n pl en ch dh hk ihc ihd k w h1 h2 hg hd
end Go.Proofs.YtanfllednlpbaaaGreat
namespace Go.Proofs.YtanfllednlpbaaaGreat
open Go.RowKit Go.Maps
set_option linter.unusedSimpArgs false
set_option linter.unusedVariables false
def widO (s : List Tb) (p : List Nd) : Int := if schemaB s = true then (match treeN p with | some T => widT (fnOf s) T | none => -1) else -1
theorem treeN_at {p : List Nd} {T : Tr} (h : treeN p = some T) : growT p p.length 0 = some T := (treeN_some h).2.1
theorem widO_no {s : List Tb} (h : schemaB s = false) (p : List Nd) : widO s p = -1 := by unfold widO; rw [if_neg (by rw [h]; simp)]
theorem widO_none {s : List Tb} {p : List Nd} (h : treeN p = none) : widO s p = -1 := by unfold widO; rw [h]; split <;> rfl
theorem widO_some {s : List Tb} {p : List Nd} {T : Tr} (hs : schemaB s = true) (h : treeN p = some T) : widO s p = widT (fnOf s) T := by unfold widO; rw [if_pos hs, h]
set_option maxRecDepth 100000 in
set_option maxHeartbeats 1600000 in
theorem specWidth_any (sa : Option Addr) (cs : Nat) (s : List Tb) (ao : Option Addr) (c : Nat) (p : List Nd) (w : World) (hsr : RdT w sa s) (hpr : RdN w ao p) (hsl : s.length ≤ 1048576) (hp : p.length ≤ 1048576) :
    Calls Tryz.prog 78 #[.slice sa s.length cs, .slice ao p.length c] w fun e w' => e = .returned (.int .i64 (widO s p)) ∧ Below w.heap.size w w' := by
  have HS := Lib.hid hsr; have HP := Lib.hid hpr; clear hsr hpr
  have SC := Lib.hid (fun W (h : RdT W sa s) => specSchema_any sa cs s W h (by omega))
  have SP := Lib.hid (fun W (h : RdN W ao p) => specPlanOk_any ao c p W h hp)
  cases hs : schemaB s with
  | false =>
    have E := Lib.hid (widO_no hs p); have HB := Lib.hid hs; clear hs
    go_enter Tryz.func78, Tryz.ntmps78
    go_wp2_with (go_at_call 76; refine (SC.out _ HS.out).mono ?_; rintro e w1 ⟨rfl, b1⟩; rw [HB.out]; have B1 := Lib.hid b1; clear b1)
    go_ret
    rw [E.out]
    exact ⟨rfl, B1.out⟩
  | true =>
    have HB := Lib.hid hs
    cases ht : treeN p with
    | none =>
      have E := Lib.hid (widO_none (s := s) ht)
      have PB := Lib.hid (show planB p = false by unfold planB; rw [ht]; rfl)
      clear hs ht
      go_enter Tryz.func78, Tryz.ntmps78
      go_wp2_with (first | (go_at_call 76; refine (SC.out _ HS.out).mono ?_; rintro e w1 ⟨rfl, b1⟩; rw [HB.out]; have B1 := Lib.hid b1; clear b1) | (go_at_call 101; refine (SP.out _ (HP.out.below B1.out)).mono ?_; rintro e w2 ⟨rfl, b2⟩; rw [PB.out]; have B2 := Lib.hid (below_step B1.out (Nat.le_refl _) b2); clear b2))
      go_ret
      rw [E.out]
      exact ⟨rfl, B2.out⟩
    | some T =>
      have E := Lib.hid (widO_some hs ht)
      have PB := Lib.hid (show planB p = true by unfold planB; rw [ht]; rfl)
      have WD := Lib.hid (show ∀ W, RdT W sa s → RdN W ao p → Calls Tryz.prog 115 #[.slice sa s.length cs, .slice ao p.length c, .int .i64 0] W fun e w' => e = .returned (.int .i64 (widT (fnOf s) T)) ∧ Below W.heap.size W w' from fun W h1 h2 => l03Width_any sa cs s ao c p T hs hsl hp ht T 0 W h1 h2 (treeN_at ht) (treeN_some ht).2.2.2)
      generalize widT (fnOf s) T = res at WD E
      clear hs ht
      go_enter Tryz.func78, Tryz.ntmps78
      go_wp2_with (first | (go_at_call 76; refine (SC.out _ HS.out).mono ?_; rintro e w1 ⟨rfl, b1⟩; rw [HB.out]; have B1 := Lib.hid b1; clear b1) | (go_at_call 101; refine (SP.out _ (HP.out.below B1.out)).mono ?_; rintro e w2 ⟨rfl, b2⟩; rw [PB.out]; have B2 := Lib.hid (below_step B1.out (Nat.le_refl _) b2); clear b2) | (go_at_call 115; refine (WD.out _ (HS.out.below B2.out) (HP.out.below B2.out)).mono ?_; rintro e w3 ⟨rfl, b3⟩; have B3 := Lib.hid (below_step B2.out (Nat.le_refl _) b3); clear b3))
      go_ret
      rw [E.out]
      exact ⟨rfl, B3.out⟩
set_option maxHeartbeats 1000000 in
theorem widthNil_any (m : Option Nat) (w : World) : Calls Tryz.prog 53 #[.pointer none, .map m] w fun e w' => e = .returned (.int .i64 (-1)) ∧ w = w' := by
  go_enter Tryz.func53, Tryz.ntmps53
  go_wp2_with fail
  go_ret
  exact ⟨rfl, rfl⟩
set_option maxRecDepth 100000 in
set_option maxHeartbeats 1600000 in
theorem implWidth_any (sa : Option Addr) (cs : Nat) (s : List Tb) (ao : Option Addr) (c : Nat) (p : List Nd) (w : World) (hsr : RdT w sa s) (hpr : RdN w ao p) (hsl : s.length ≤ 1048576) (hp : Small p) :
    Calls Tryz.prog 11 #[.slice sa s.length cs, .slice ao p.length c] w fun e w' => e = .returned (.int .i64 (widO s p)) ∧ Below w.heap.size w w' := by
  have HS := Lib.hid hsr; have HP := Lib.hid hpr; clear hsr hpr
  cases hs : schemaB s with
  | false =>
    have E := Lib.hid (widO_no hs p); have HB := Lib.hid hs; clear hs
    go_enter Tryz.func11, Tryz.ntmps11
    go_wp2_with fail
    refine (widthsIn_any sa cs s _ HS.out hsl).mono ?_
    rintro e w1 ⟨b1, hpo⟩
    rw [HB.out] at hpo
    obtain ⟨m, rfl⟩ := hpo
    have B1 := Lib.hid b1; clear b1
    go_wp2_with fail
    go_ret
    rw [E.out]
    exact ⟨rfl, B1.out⟩
  | true =>
    have HB := Lib.hid hs
    have FO := Lib.hid (fnOk_schema hs)
    cases ht : treeN p with
    | none =>
      have E := Lib.hid (widO_none (s := s) ht); have HT := Lib.hid ht
      clear hs ht
      go_enter Tryz.func11, Tryz.ntmps11
      go_wp2_with fail
      refine (widthsIn_any sa cs s _ HS.out hsl).mono ?_
      rintro e w1 ⟨b1, hpo⟩
      rw [HB.out] at hpo
      obtain ⟨bm, hbm, rfl, om⟩ := hpo
      have B1 := Lib.hid b1; clear b1 om
      go_wp2_with fail
      refine (treeOfQ_any ao c p hp _ (HP.out.below B1.out)).mono ?_
      intro e w2 hpost
      rw [HT.out] at hpost
      obtain ⟨rfl, b2⟩ := hpost
      have B2 := Lib.hid (below_step B1.out (Nat.le_refl _) b2); clear b2
      go_wp2_with fail
      refine (widthNil_any _ _).mono ?_
      rintro e w' ⟨rfl, rfl⟩
      go_wp2_with fail
      go_ret
      rw [E.out]
      exact ⟨rfl, B2.out⟩
    | some T =>
      have E := Lib.hid (widO_some hs ht); have HT := Lib.hid ht
      have ND := Lib.hid (growT_nodes p _ _ _ (treeN_at ht))
      clear hs ht
      go_enter Tryz.func11, Tryz.ntmps11
      go_wp2_with fail
      refine (widthsIn_any sa cs s _ HS.out hsl).mono ?_
      rintro e w1 ⟨b1, hpo⟩
      rw [HB.out] at hpo
      obtain ⟨bm, hbm, rfl, om⟩ := hpo
      have B1 := Lib.hid b1; have OM := Lib.hid om; clear b1 om
      go_wp2_with fail
      refine (treeOfQ_any ao c p hp _ (HP.out.below B1.out)).mono ?_
      intro e w2 hpost
      rw [HT.out] at hpost
      obtain ⟨b, rfl, tr, b2⟩ := hpost
      have B2 := Lib.hid (below_step B1.out (Nat.le_refl _) b2)
      have OM2 := Lib.hid (OM.out.below b2)
      have WT := Lib.hid (width_any w1 (fnOf s) FO.out bm 8 T w2 _ _ b tr (Nat.le_refl _) b2 OM2.out ND.out)
      clear b2 tr
      generalize widT (fnOf s) T = res at WT E
      go_wp2_with fail
      refine WT.out.mono ?_
      rintro e w3 ⟨rfl, b3⟩
      have B3 := Lib.hid (below_step B2.out (Nat.le_refl _) b3); clear b3
      go_wp2_with fail
      go_ret
      rw [E.out]
      exact ⟨rfl, B3.out⟩
def typB (s : List Tb) (p : List Nd) : Bool := widO s p != -1
set_option maxHeartbeats 1000000 in
theorem specTyped_any (sa : Option Addr) (cs : Nat) (s : List Tb) (ao : Option Addr) (c : Nat) (p : List Nd) (w : World) (hsr : RdT w sa s) (hpr : RdN w ao p) (hsl : s.length ≤ 1048576) (hp : p.length ≤ 1048576) :
    Calls Tryz.prog 44 #[.slice sa s.length cs, .slice ao p.length c] w fun e w' => e = .returned (.bool (typB s p)) ∧ Below w.heap.size w w' := by
  have W := Lib.hid (specWidth_any sa cs s ao c p w hsr hpr hsl hp)
  have E := Lib.hid (show typB s p = (widO s p != -1) from rfl)
  generalize widO s p = x at W E
  clear hsr hpr
  go_enter Tryz.func44, Tryz.ntmps44
  go_wp2_with fail
  refine W.out.mono ?_
  rintro e w1 ⟨rfl, b1⟩
  have B1 := Lib.hid b1; clear b1
  go_wp2_with fail
  go_ret
  rw [E.out]
  exact ⟨ret_bool (by first | rfl | simp [bne]), B1.out⟩
set_option maxHeartbeats 1000000 in
theorem implTyped_any (sa : Option Addr) (cs : Nat) (s : List Tb) (ao : Option Addr) (c : Nat) (p : List Nd) (w : World) (hsr : RdT w sa s) (hpr : RdN w ao p) (hsl : s.length ≤ 1048576) (hp : Small p) :
    Calls Tryz.prog 87 #[.slice sa s.length cs, .slice ao p.length c] w fun e w' => e = .returned (.bool (typB s p)) ∧ Below w.heap.size w w' := by
  have W := Lib.hid (implWidth_any sa cs s ao c p w hsr hpr hsl hp)
  have E := Lib.hid (show typB s p = (widO s p != -1) from rfl)
  generalize widO s p = x at W E
  clear hsr hpr
  go_enter Tryz.func87, Tryz.ntmps87
  go_wp2_with fail
  refine W.out.mono ?_
  rintro e w1 ⟨rfl, b1⟩
  have B1 := Lib.hid b1; clear b1
  go_wp2_with fail
  go_ret
  rw [E.out]
  exact ⟨ret_bool (by first | rfl | simp [bne]), B1.out⟩
end Go.Proofs.YtanfllednlpbaaaGreat
namespace Go.Proofs.YtanfllednlpbaaaGreat
open Go.RowKit
set_option linter.unusedSimpArgs false
set_option linter.unusedVariables false
def gOf : List Tb → List RowsL → Sto
  | t :: s, r :: l => fun k => if t.key = k then r else gOf s l k
  | _, _ => fun _ => []
theorem gOf_at : ∀ (s : List Tb) (l : List RowsL), AscT s → ∀ (i : Nat) (t : Tb) (r : RowsL), s[i]? = some t → l[i]? = some r → gOf s l t.key = r
  | [], _, _, i, t, r, h, _ => by simp at h
  | _ :: _, [], _, i, t, r, _, h => by simp at h
  | t' :: s, r' :: l, ha, 0, t, r, ht, hr => by
    simp at ht hr; subst ht hr
    unfold gOf; rw [if_pos rfl]
  | t' :: s, r' :: l, ha, i + 1, t, r, ht, hr => by
    simp at ht hr
    unfold AscT at ha
    rw [List.pairwise_cons] at ha
    have hne : t'.key ≠ t.key := fun e => by
      have := ha.1 t (List.mem_of_getElem? ht)
      rw [e] at this
      exact klt_irrefl _ this
    unfold gOf; rw [if_neg hne]
    exact gOf_at s l ha.2 i t r ht hr
theorem rowsB_wide {wd : Int} {l : RowsL} (h : rowsB wd l = true) : AllW wd l ∧ l.length ≤ 40 := by
  unfold rowsB at h
  rw [Bool.and_eq_true, decide_eq_true_eq, List.all_eq_true] at h
  refine ⟨fun r hr => ?_, h.1⟩
  have := h.2 r hr
  rw [Bool.and_eq_true, decide_eq_true_eq] at this
  exact this.1
theorem fits_at : ∀ (s : List Tb) (l : List RowsL), fitsB s l = true → s.length = l.length ∧ ∀ (i : Nat) (t : Tb) (r : RowsL), s[i]? = some t → l[i]? = some r → rowsB t.width r = true
  | [], [], _ => ⟨rfl, fun i t r h => by simp at h⟩
  | [], _ :: _, h => by simp [fitsB] at h
  | _ :: _, [], h => by simp [fitsB] at h
  | t' :: s, r' :: l, h => by
    unfold fitsB at h
    rw [Bool.and_eq_true] at h
    obtain ⟨h1, h2⟩ := fits_at s l h.2
    refine ⟨by simp [h1], fun i t r ht hr => ?_⟩
    cases i with
    | zero => simp at ht hr; subst ht hr; exact h.1
    | succ i => simp at ht hr; exact h2 i t r ht hr
theorem store_parts {s : List Tb} {l : List RowsL} (h : storeB s l = true) : schemaB s = true ∧ s.length = l.length ∧ ∀ (i : Nat) (t : Tb) (r : RowsL), s[i]? = some t → l[i]? = some r → rowsB t.width r = true := by
  unfold storeB at h
  rw [Bool.and_eq_true] at h
  exact ⟨h.1, fits_at s l h.2⟩
theorem gOf_some {s : List Tb} {l : List RowsL} (h : storeB s l = true) {k : Key} {v : Int} (hv : fnOf s k = some v) : ∃ (i : Nat) (t : Tb) (r : RowsL), s[i]? = some t ∧ l[i]? = some r ∧ t.key = k ∧ t.width = v ∧ gOf s l k = r ∧ AllW v r ∧ r.length ≤ 40 := by
  obtain ⟨hs, hl, hf⟩ := store_parts h
  obtain ⟨_, _, h3⟩ := schemaB_iff.1 hs
  obtain ⟨t, ht, rfl, rfl⟩ := ((told_self s h3).2 k v).1 hv
  obtain ⟨i, hi, e⟩ := List.getElem_of_mem ht
  have hti : s[i]? = some t := by rw [List.getElem?_eq_getElem hi, e]
  have hri : l[i]? = some l[i] := List.getElem?_eq_getElem (by omega)
  obtain ⟨h1, h2⟩ := rowsB_wide (hf i t _ hti hri)
  exact ⟨i, t, _, hti, hri, rfl, rfl, gOf_at s l h3 i t _ hti hri, h1, h2⟩
theorem gOf_wide {s : List Tb} {l : List RowsL} (h : storeB s l = true) : WideSto (fnOf s) (gOf s l) := by
  intro k v hv
  obtain ⟨i, t, r, _, _, _, _, e, h1, _⟩ := gOf_some h hv
  rw [e]; exact h1
def canB (s : List Tb) (l : List RowsL) (p : List Nd) : Bool := storeB s l && (typB s p && !p.any (fun n => n.slot))
def evO (s : List Tb) (l : List RowsL) (p : List Nd) : RowsL × Int :=
  if canB s l p = true then
    match treeN p with
    | none => ([], 1)
    | some T => match evT (gOf s l) T with
      | some x => (x, 0)
      | none => ([], 2)
  else ([], 1)
def sizO (s : List Tb) (l : List RowsL) (p : List Nd) : List Int := if (evO s l p).2 = 0 then sizesO (gOf s l) p else []
theorem typ_tree {s : List Tb} {p : List Nd} (h : typB s p = true) : schemaB s = true ∧ ∃ T, treeN p = some T ∧ widT (fnOf s) T ≠ -1 := by
  unfold typB at h
  rw [bne_iff_ne] at h
  unfold widO at h
  split at h
  · rename_i hs
    refine ⟨hs, ?_⟩
    split at h
    · rename_i T hT; exact ⟨T, hT, h⟩
    · exact absurd rfl h
  · exact absurd rfl h
theorem can_parts {s : List Tb} {l : List RowsL} {p : List Nd} (h : canB s l p = true) : storeB s l = true ∧ typB s p = true ∧ ∀ n ∈ p, n.slot = false := by
  unfold canB at h
  rw [Bool.and_eq_true, Bool.and_eq_true, Bool.not_eq_true', List.any_eq_false] at h
  exact ⟨h.1, h.2.1, fun n hn => by simpa using h.2.2 n hn⟩
theorem evO_no {s : List Tb} {l : List RowsL} {p : List Nd} (h : canB s l p = false) : evO s l p = ([], 1) := by unfold evO; rw [if_neg (by rw [h]; simp)]
theorem evO_big {s : List Tb} {l : List RowsL} {p : List Nd} {T : Tr} (h : canB s l p = true) (ht : treeN p = some T) (he : evT (gOf s l) T = none) : evO s l p = ([], 2) := by
  unfold evO; rw [if_pos h, ht]; simp only; rw [he]
theorem evO_fine {s : List Tb} {l : List RowsL} {p : List Nd} {T : Tr} {x : RowsL} (h : canB s l p = true) (ht : treeN p = some T) (he : evT (gOf s l) T = some x) : evO s l p = (x, 0) := by
  unfold evO; rw [if_pos h, ht]; simp only; rw [he]
theorem can_store {s : List Tb} {l : List RowsL} {p : List Nd} (h : storeB s l = false) : canB s l p = false := by unfold canB; rw [h]; rfl
theorem can_typ {s : List Tb} {l : List RowsL} {p : List Nd} (h : typB s p = false) : canB s l p = false := by unfold canB; rw [h]; simp
theorem can_slot {s : List Tb} {l : List RowsL} {p : List Nd} {n : Nd} (hn : n ∈ p) (h : n.slot = true) : canB s l p = false := by
  unfold canB
  have : p.any (fun n => n.slot) = true := List.any_eq_true.2 ⟨n, hn, h⟩
  rw [this]; simp
theorem can_yes {s : List Tb} {l : List RowsL} {p : List Nd} (h1 : storeB s l = true) (h2 : typB s p = true) (h3 : ∀ n ∈ p, n.slot = false) : canB s l p = true := by
  unfold canB
  have : p.any (fun n => n.slot) = false := List.any_eq_false.2 fun n hn => by rw [h3 n hn]; simp
  rw [h1, h2, this]; rfl
theorem evO_wide {s : List Tb} {l : List RowsL} {p : List Nd} (h : (evO s l p).2 = 0) : AllW (widO s p) (evO s l p).1 ∧ (evO s l p).1.length ≤ 200 ∧ ∃ T, treeN p = some T ∧ evT (gOf s l) T = some (evO s l p).1 := by
  cases hc : canB s l p with
  | false => rw [evO_no hc] at h; cases h
  | true =>
    obtain ⟨h1, h2, h3⟩ := can_parts hc
    obtain ⟨hs, T, hT, hw⟩ := typ_tree h2
    cases he : evT (gOf s l) T with
    | none => rw [evO_big hc hT he] at h; cases h
    | some x =>
      rw [evO_fine hc hT he]
      obtain ⟨a, b⟩ := evT_w (gOf_wide h1) T (growT_nodes p _ _ _ (treeN_at hT)) hw x he
      exact ⟨by rw [widO_some hs hT]; exact a, b, T, hT, he⟩
set_option maxHeartbeats 1600000 in
theorem treeOfW_any (w0 : World) (ao : Option Addr) (c : Nat) (p : List Nd) (hp : Small p) (w : World) (h : RdN w0 ao p) (hb0 : Below w0.heap.size w0 w) :
    Calls Tryz.prog 52 #[.slice ao p.length c] w (GrowPostQ w0 w (treeN p)) := by
  have H := Lib.hid h; clear h
  have hpl := hp.1
  have SM := Lib.hid hp; clear hp
  by_cases h40 : 40 < p.length
  · have E : treeN p = none := by unfold treeN; rw [if_neg (by omega)]
    rw [E]
    have h4 : (40 : Int) < p.length := by omega
    go_enter Tryz.func52, Tryz.ntmps52
    go_wp2_with fail
    go_ret
    exact ⟨rfl, Below.refl _ _⟩
  · have h4 : (p.length : Int) ≤ 40 := by omega
    generalize hres : treeN p = res
    have RES := Lib.hid hres; clear hres
    go_enter Tryz.func52, Tryz.ntmps52
    go_wp2_with fail
    refine (growQ_any w0 ao c p SM.out H.out p.length 0 _ hb0 (by omega) (by omega) (by omega)).mono ?_
    rw [show (0 : Int).toNat = 0 from rfl]
    intro e w1 hpost
    cases hg : growT p p.length 0 with
    | none =>
      rw [hg] at hpost
      obtain ⟨rfl, b1⟩ := hpost
      have E := Lib.hid (RES.out.symm.trans (show treeN p = none by unfold treeN; rw [if_pos (by omega), hg]))
      clear hg
      go_wp2_with fail
      go_ret
      rw [E.out]
      exact ⟨rfl, b1⟩
    | some T =>
      rw [hg] at hpost
      obtain ⟨b, rfl, tr, b1⟩ := hpost
      have TR := Lib.hid tr
      have DE := Lib.hid (depth_any T w1 _ _ b (TrQ.tr _ _ tr) (by have := depth_le p _ _ _ hg; omega))
      obtain ⟨v, _, _, a, c', c0, c1, c2, c3, _⟩ := tr.head
      have B1 := Lib.hid b1
      clear tr b1
      have HG := Lib.hid hg; clear hg
      by_cases he : T.en = p.length
      · have he1 : ((T.en : Int) != (p.length : Int)) = false := by simp [he]
        by_cases hd : T.depth ≤ 10
        · have hd1 : (T.depth : Int) ≤ 10 := by omega
          have E := Lib.hid (RES.out.symm.trans (show treeN p = some T by unfold treeN; rw [if_pos (by omega), HG.out]; simp only; rw [if_pos ⟨he, hd⟩]))
          clear he hd
          go_wp2_with (go_at_call 98; refine DE.out.mono ?_; rintro e w' ⟨rfl, rfl⟩)
          go_ret
          rw [E.out]
          exact ⟨b, rfl, TR.out, B1.out⟩
        · have hd1 : (10 : Int) < T.depth := by omega
          have E := Lib.hid (RES.out.symm.trans (show treeN p = none by unfold treeN; rw [if_pos (by omega), HG.out]; simp only; rw [if_neg (by omega)]))
          clear he hd
          go_wp2_with (go_at_call 98; refine DE.out.mono ?_; rintro e w' ⟨rfl, rfl⟩)
          go_ret
          rw [E.out]
          exact ⟨rfl, B1.out⟩
      · have he1 : ((T.en : Int) != (p.length : Int)) = true := by simp; omega
        have E := Lib.hid (RES.out.symm.trans (show treeN p = none by unfold treeN; rw [if_pos (by omega), HG.out]; simp only; rw [if_neg (by omega)]))
        clear he
        go_wp2_with fail
        go_ret
        rw [E.out]
        exact ⟨rfl, B1.out⟩
end Go.Proofs.YtanfllednlpbaaaGreat
