/-
  Contract of impl.PutPart. For all slices of nodes and every number.
-/
import Derived.Test.YtfbgflmolkgopaaPuts
import Derived.Test.YtfbgflmolkgopaaIConc
import Derived.StillTailTactics
namespace Go.Proofs.Ytfbgflmolkgopaa
open Go.RowKit
set_option linter.unusedSimpArgs false
set_option linter.unusedVariables false

theorem concat3_any (W : World) (t : TypeId) (b0 o0 n0 c0 b1 o1 n1 c1 b2 o2 n2 c2 : Nat) (l0 l1 l2 : List Nd) (e0 : n0 = l0.length) (e1 : n1 = l1.length) (e2 : n2 = l2.length) (h0 : RdN W (some ⟨b0, o0, none⟩) l0) (h1 : RdN W (some ⟨b1, o1, none⟩) l1) (h2 : RdN W (some ⟨b2, o2, none⟩) l2)
    (hne : 0 < l1.length) (k0 : l0.length ≤ 1048576) (k1 : l1.length ≤ 1048576) (k2 : l2.length ≤ 1048576) (J : List Nd) (hJ : l0 ++ l1 ++ l2 = J) :
    Calls Try.prog 38 #[.slice (some ⟨W.heap.size, 0, none⟩) 3 3] (W.alloc (.cells #[.slice (some ⟨b0, o0, none⟩) n0 c0, .slice (some ⟨b1, o1, none⟩) n1 c1, .slice (some ⟨b2, o2, none⟩) n2 c2] t))
      (CatP (W.alloc (.cells #[.slice (some ⟨b0, o0, none⟩) n0 c0, .slice (some ⟨b1, o1, none⟩) n1 c1, .slice (some ⟨b2, o2, none⟩) n2 c2] t)) J) := by
  subst e0 e1 e2 hJ
  have hb : Below W.heap.size W (W.alloc (.cells #[.slice (some ⟨b0, o0, none⟩) l0.length c0, .slice (some ⟨b1, o1, none⟩) l1.length c1, .slice (some ⟨b2, o2, none⟩) l2.length c2] t)) := (Below.refl _ _).alloc (Nat.le_refl _) _
  exact concat_any W.heap.size b0 o0 c0 b1 o1 c1 b2 o2 c2 l0 l1 l2 _ (h0.below hb) (h1.below hb) (h2.below hb) (by rw [World.cell?_alloc_new]; rfl) (by rw [World.cell?_alloc_new]; rfl) (by rw [World.cell?_alloc_new]; rfl) hne k0 k1 k2

set_option maxRecDepth 100000 in
set_option maxHeartbeats 1600000 in
theorem implPut_no1 (b off c : Nat) (p : List Nd) (hp : Small p) (k : Int) (qo : Option Addr) (qc : Nat) (q : List Nd) (w : World) (h : RdN w (some ⟨b, off, none⟩) p) (hg : goodB p k = false) :
    Calls Try.prog 14 #[.slice (some ⟨b, off, none⟩) p.length c, .int .i64 k, .slice qo q.length qc] w (MadeN2 w p false) := by
  have H := Lib.hid h; clear h
  have hpl := hp.1
  have SM := Lib.hid hp; clear hp
  have GN := Lib.hid (good_none hg); clear hg
  go_enter Try.func14, Try.ntmps14
  go_wp2_with fail
  refine (treeOf_any _ c p SM.out _ H.out).mono ?_
  intro e w1 hpost
  rcases GN.out with ht | ⟨T, ht, hf⟩
  · rw [ht] at hpost
    obtain ⟨rfl, b1⟩ := hpost
    have B1 := Lib.hid b1
    clear ht b1
    go_wp2_with fail
    refine (findNil_any _ _).mono ?_
    rintro e w' ⟨rfl, rfl⟩
    go_wp2_with fail
    refine (copyNodesAt_any b off c p _ (H.out.below B1.out) hpl SM.out.2).mono ?_
    rintro e w2 ⟨a2, c2, rfl, o2, b2⟩
    have O2 := Lib.hid (o2.base_le B1.out.size); have B2 := Lib.hid (below_step B1.out (Nat.le_refl _) b2)
    clear o2 b2
    go_wp2_with fail
    go_ret2
    exact ⟨a2, c2, rfl, O2.out, B2.out⟩
  · rw [ht] at hpost
    obtain ⟨bt, rfl, tr, b1⟩ := hpost
    have TR := Lib.hid tr; have B1 := Lib.hid b1; have HF := Lib.hid hf
    clear ht tr b1 hf
    go_wp2_with fail
    refine (find_any k T _ _ _ bt TR.out).mono ?_
    rw [HF.out]
    rintro e w' ⟨rfl, rfl⟩
    go_wp2_with fail
    refine (copyNodesAt_any b off c p _ (H.out.below B1.out) hpl SM.out.2).mono ?_
    rintro e w2 ⟨a2, c2, rfl, o2, b2⟩
    have O2 := Lib.hid (o2.base_le B1.out.size); have B2 := Lib.hid (below_step B1.out (Nat.le_refl _) b2)
    clear o2 b2
    go_wp2_with fail
    go_ret2
    exact ⟨a2, c2, rfl, O2.out, B2.out⟩

set_option maxRecDepth 100000 in
set_option maxHeartbeats 1600000 in
theorem implPut_no2 (b off c : Nat) (p : List Nd) (hp : Small p) (k : Int) (qo : Option Addr) (qc : Nat) (q : List Nd) (hq : Small q) (w : World) (h : RdN w (some ⟨b, off, none⟩) p) (hqr : RdN w qo q) (hg : goodB p k = true) (hqb : planB q = false) :
    Calls Try.prog 14 #[.slice (some ⟨b, off, none⟩) p.length c, .int .i64 k, .slice qo q.length qc] w (MadeN2 w p false) := by
  obtain ⟨T, S, ht, hf, _⟩ := part_good hg
  have H := Lib.hid h; have HQ := Lib.hid hqr; clear h hqr
  have hpl := hp.1
  have SM := Lib.hid hp; have SQ := Lib.hid hq; clear hp hq
  have HQB := Lib.hid hqb; have HT := Lib.hid ht; have HF := Lib.hid hf; clear hqb hg ht hf
  go_enter Try.func14, Try.ntmps14
  go_wp2_with fail
  refine (treeOf_any _ c p SM.out _ H.out).mono ?_
  rw [HT.out]
  rintro e w1 ⟨bt, rfl, tr, b1⟩
  have TR := Lib.hid tr; have B1 := Lib.hid b1
  clear tr b1
  go_wp2_with fail
  refine (find_any k T _ _ _ bt TR.out).mono ?_
  rw [HF.out]
  rintro e w' ⟨bs, rfl, ts, rfl⟩
  clear ts
  go_wp2_with fail
  refine (implPlanOk_any qo qc q SQ.out _ (HQ.out.below B1.out)).mono ?_
  rintro e w2 ⟨rfl, b2⟩
  rw [HQB.out]
  have B2 := Lib.hid (below_step B1.out (Nat.le_refl _) b2); clear b2
  go_wp2_with fail
  refine (copyNodesAt_any b off c p _ (H.out.below B2.out) hpl SM.out.2).mono ?_
  rintro e w3 ⟨a3, c3, rfl, o3, b3⟩
  have O3 := Lib.hid (o3.base_le B2.out.size); have B3 := Lib.hid (below_step B2.out (Nat.le_refl _) b3)
  clear o3 b3
  go_wp2_with fail
  go_ret2
  exact ⟨a3, c3, rfl, O3.out, B3.out⟩

set_option maxRecDepth 100000 in
set_option maxHeartbeats 1000000 in
theorem implPut_yesB (b off c : Nat) (p : List Nd) (hp : Small p) (k : Int) (qb qoff : Nat) (qc : Nat) (q : List Nd) (hq : Small q) (w : World) (h : RdN w (some ⟨b, off, none⟩) p) (hqr : RdN w (some ⟨qb, qoff, none⟩) q) (hg : goodB p k = true) (hqb : planB q = true) (hcm : p = [] ∨ (p.length ≤ c ∧ c ≤ maxLen)) (hce' : (c : Int) ≠ endOfN p k) :
    Calls Try.prog 14 #[.slice (some ⟨b, off, none⟩) p.length c, .int .i64 k, .slice (some ⟨qb, qoff, none⟩) q.length qc] w (MadeN2 w (putN p k q) (putB p k q)) := by
  obtain ⟨T, S, ht, hf, hSp, he, hlt, hen, h0, _, _⟩ := part_good hg
  have hp40 := (planB_40 (good_plan hg)).1
  have hq40 := planB_40 hqb
  obtain ⟨hc, hm⟩ : p.length ≤ c ∧ c ≤ maxLen := by
    rcases hcm with hh | hh
    · subst hh; simp at hen; omega
    · exact hh
  unfold maxLen at hm
  have H := Lib.hid h; have HQ := Lib.hid hqr; clear h hqr
  have hpl := hp.1; have hql := hq.1
  have hEJ : p.take S.pl ++ q ++ p.drop S.en = joinN p k q := by unfold joinN; rw [he, hSp]; simp
  have hSMJ := Small.put hp hq k hp40 hq40.1
  have hYES := put_yes hg hqb
  have hNO := put_no3 (p := p) (k := k) (q := q)
  have hJpos : 0 < (joinN p k q).length := by unfold joinN; simp; omega
  have hce : ¬ (c = S.en) := by omega
  generalize joinN p k q = J at hEJ hSMJ hYES hNO hJpos
  have hJl := hSMJ.1
  have EJ := Lib.hid hEJ; have SMJ := Lib.hid hSMJ; have YES := Lib.hid hYES; have NO := Lib.hid hNO
  clear hEJ hSMJ hYES hNO
  have SM := Lib.hid hp; have SQ := Lib.hid hq; clear hp hq
  have HQB := Lib.hid hqb; have HT := Lib.hid ht; have HF := Lib.hid hf; clear hg hqb he hcm ht hf hce'
  have k0 : (S.pl : Int) < (S.en : Int) := by omega
  have k1 : (S.pl : Int) ≤ (p.length : Int) := by omega
  have k2 : (S.en : Int) ≤ (c : Int) := by omega
  have k3 : (S.pl : Int) ≤ (c : Int) := by omega
  have k4 : (S.en : Int) ≤ (p.length : Int) := by omega
  have k5 : (p.length : Int) ≤ (c : Int) := by omega
  have LT := Lib.hid (show S.pl = (p.take S.pl).length by simp; omega)
  have LD := Lib.hid (show p.length - S.en = (p.drop S.en).length by simp)
  have HSP := Lib.hid hSp; clear hSp
  go_enter Try.func14, Try.ntmps14
  go_wp2_with fail
  refine (treeOf_any _ c p SM.out _ H.out).mono ?_
  rw [HT.out]
  rintro e w1 ⟨bt, rfl, tr, b1⟩
  have TR := Lib.hid tr; have B1 := Lib.hid b1
  clear tr b1
  go_wp2_with fail
  refine (find_any k T _ _ _ bt TR.out).mono ?_
  rw [HF.out]
  rintro e w' ⟨bs, rfl, ts, rfl⟩
  obtain ⟨v, hl1, hl2, a, c', c0, c1, c2, c3⟩ := ts.head
  clear ts
  go_wp2_with fail
  refine (implPlanOk_any _ qc q SQ.out _ (HQ.out.below B1.out)).mono ?_
  rintro e w2 ⟨rfl, b2⟩
  rw [HQB.out]
  have d1 := (b2.cell (p := ⟨bs, 1, none⟩) (World.block_lt_of_cell? w1 ⟨bs, 1, none⟩ c1)).trans c1
  have d2 := (b2.cell (p := ⟨bs, 2, none⟩) (World.block_lt_of_cell? w1 ⟨bs, 2, none⟩ c2)).trans c2
  have B2 := Lib.hid (below_step B1.out (Nat.le_refl _) b2); clear b2 c0 c1 c2 c3
  go_wp2_with fail
  refine wp_region_still_tail 13 (by kernel_rfl) (by kernel_rfl) ?_
  simp only [List.take_succ_cons, List.take_zero, List.drop_succ_cons, List.drop_zero]
  have bd : Below w2.heap.size w2 { w2 with drawn := w2.drawn + 1 } := ⟨rfl, rfl, rfl, Nat.le_refl _, fun _ _ => rfl⟩
  generalize ({ w2 with drawn := w2.drawn + 1 } : World) = w3 at bd ⊢
  have u1 := (bd.cell (p := ⟨bs, 1, none⟩) (World.block_lt_of_cell? w2 ⟨bs, 1, none⟩ d1)).trans d1
  have u2 := (bd.cell (p := ⟨bs, 2, none⟩) (World.block_lt_of_cell? w2 ⟨bs, 2, none⟩ d2)).trans d2
  have B3 := Lib.hid (below_step B2.out (Nat.le_refl _) bd)
  clear bd d1 d2
  repeat still_step
  refine wpStill_nil ?_
  go_wp2_with fail
  refine (concat3_any _ _ b off _ _ qb qoff _ _ b _ _ _ (p.take S.pl) q (p.drop S.en) LT.out rfl LD.out ((H.out.below B3.out).take _) (HQ.out.below B3.out) ((H.out.below B3.out).drop _) (by omega) (SM.out.take _).1 hql (SM.out.drop _).1 J EJ.out).mono ?_
  rintro e w4 ⟨g4, c4, rfl, r4, b4⟩
  have R4 := Lib.hid r4; have Z3 := B3.out.size
  have B4 := Lib.hid (below_step (B3.out.alloc B3.out.size _) (Nat.le_refl _) b4)
  clear r4 b4 u1 u2
  go_wp2_with fail
  refine (copyNodes_any _ c4 J _ R4.out (by intro hh; rw [hh] at hJpos; simp at hJpos) hJl SMJ.out.2).mono ?_
  rintro e w5 ⟨a5, c5, rfl, o5, b5⟩
  have O5 := Lib.hid o5; have B5 := Lib.hid (below_step B4.out (Nat.le_refl _) b5); have Z4 := B4.out.size
  clear o5 b5
  go_wp2_with fail
  refine (implPlanOk_any _ c5 J SMJ.out _ O5.out.rd).mono ?_
  rintro e w6 ⟨rfl, b6⟩
  have O6 := Lib.hid (O5.out.below b6); have B6 := Lib.hid (below_step B5.out (Nat.le_refl _) b6)
  clear b6
  cases hj : planB J with
  | false =>
    have E12 := Lib.hid (NO.out hj)
    clear hj
    go_wp2_with fail
    refine (copyNodesAt_any b off c p _ (H.out.below B6.out) hpl SM.out.2).mono ?_
    rintro e w7 ⟨a7, c7, rfl, o7, b7⟩
    have O7 := Lib.hid (o7.base_le B6.out.size); have B7 := Lib.hid (below_step B6.out (Nat.le_refl _) b7)
    clear o7 b7
    go_wp2_with fail
    go_ret2
    rw [E12.out.1, E12.out.2]
    exact ⟨a7, c7, rfl, O7.out, B7.out⟩
  | true =>
    have E12 := Lib.hid (YES.out hj)
    clear hj
    go_wp2_with fail
    go_ret2
    rw [E12.out.1, E12.out.2]
    exact ⟨_, _, rfl, O6.out.base_le Z4, B6.out⟩

set_option maxRecDepth 100000 in
set_option maxHeartbeats 1000000 in
theorem implPut_yesA (b off c : Nat) (p : List Nd) (hp : Small p) (k : Int) (qb qoff : Nat) (qc : Nat) (q : List Nd) (hq : Small q) (w : World) (h : RdN w (some ⟨b, off, none⟩) p) (hqr : RdN w (some ⟨qb, qoff, none⟩) q) (hg : goodB p k = true) (hqb : planB q = true) (hcm : p = [] ∨ (p.length ≤ c ∧ c ≤ maxLen)) (hce' : (c : Int) = endOfN p k) :
    Calls Try.prog 14 #[.slice (some ⟨b, off, none⟩) p.length c, .int .i64 k, .slice (some ⟨qb, qoff, none⟩) q.length qc] w (MadeN2 w (putN p k q) (putB p k q)) := by
  obtain ⟨T, S, ht, hf, hSp, he, hlt, hen, h0, _, _⟩ := part_good hg
  have hp40 := (planB_40 (good_plan hg)).1
  have hq40 := planB_40 hqb
  obtain ⟨hc, hm⟩ : p.length ≤ c ∧ c ≤ maxLen := by
    rcases hcm with hh | hh
    · subst hh; simp at hen; omega
    · exact hh
  unfold maxLen at hm
  have H := Lib.hid h; have HQ := Lib.hid hqr; clear h hqr
  have hpl := hp.1; have hql := hq.1
  have hEJ : p.take S.pl ++ q ++ p.drop S.en = joinN p k q := by unfold joinN; rw [he, hSp]; simp
  have hSMJ := Small.put hp hq k hp40 hq40.1
  have hYES := put_yes hg hqb
  have hNO := put_no3 (p := p) (k := k) (q := q)
  have hJpos : 0 < (joinN p k q).length := by unfold joinN; simp; omega
  have hce : c = S.en := by omega
  generalize joinN p k q = J at hEJ hSMJ hYES hNO hJpos
  have hJl := hSMJ.1
  have EJ := Lib.hid hEJ; have SMJ := Lib.hid hSMJ; have YES := Lib.hid hYES; have NO := Lib.hid hNO
  clear hEJ hSMJ hYES hNO
  have SM := Lib.hid hp; have SQ := Lib.hid hq; clear hp hq
  have HQB := Lib.hid hqb; have HT := Lib.hid ht; have HF := Lib.hid hf; clear hg hqb he hcm ht hf hce'
  have k0 : (S.pl : Int) < (S.en : Int) := by omega
  have k1 : (S.pl : Int) ≤ (p.length : Int) := by omega
  have k2 : (S.en : Int) ≤ (c : Int) := by omega
  have k3 : (S.pl : Int) ≤ (c : Int) := by omega
  have k4 : (S.en : Int) ≤ (p.length : Int) := by omega
  have k5 : (p.length : Int) ≤ (c : Int) := by omega
  have LT := Lib.hid (show S.pl = (p.take S.pl).length by simp; omega)
  have LD := Lib.hid (show p.length - S.en = (p.drop S.en).length by simp)
  have HSP := Lib.hid hSp; clear hSp
  subst hce
  have LD0 := Lib.hid (show 0 = (p.drop S.en).length by simp; omega)
  go_enter Try.func14, Try.ntmps14
  go_wp2_with fail
  refine (treeOf_any _ _ p SM.out _ H.out).mono ?_
  rw [HT.out]
  rintro e w1 ⟨bt, rfl, tr, b1⟩
  have TR := Lib.hid tr; have B1 := Lib.hid b1
  clear tr b1
  go_wp2_with fail
  refine (find_any k T _ _ _ bt TR.out).mono ?_
  rw [HF.out]
  rintro e w' ⟨bs, rfl, ts, rfl⟩
  obtain ⟨v, hl1, hl2, a, c', c0, c1, c2, c3⟩ := ts.head
  clear ts
  go_wp2_with fail
  refine (implPlanOk_any _ qc q SQ.out _ (HQ.out.below B1.out)).mono ?_
  rintro e w2 ⟨rfl, b2⟩
  rw [HQB.out]
  have d1 := (b2.cell (p := ⟨bs, 1, none⟩) (World.block_lt_of_cell? w1 ⟨bs, 1, none⟩ c1)).trans c1
  have d2 := (b2.cell (p := ⟨bs, 2, none⟩) (World.block_lt_of_cell? w1 ⟨bs, 2, none⟩ c2)).trans c2
  have B2 := Lib.hid (below_step B1.out (Nat.le_refl _) b2); clear b2 c0 c1 c2 c3
  go_wp2_with fail
  refine wp_region_still_tail 13 (by kernel_rfl) (by kernel_rfl) ?_
  simp only [List.take_succ_cons, List.take_zero, List.drop_succ_cons, List.drop_zero]
  have bd : Below w2.heap.size w2 { w2 with drawn := w2.drawn + 1 } := ⟨rfl, rfl, rfl, Nat.le_refl _, fun _ _ => rfl⟩
  generalize ({ w2 with drawn := w2.drawn + 1 } : World) = w3 at bd ⊢
  have u1 := (bd.cell (p := ⟨bs, 1, none⟩) (World.block_lt_of_cell? w2 ⟨bs, 1, none⟩ d1)).trans d1
  have u2 := (bd.cell (p := ⟨bs, 2, none⟩) (World.block_lt_of_cell? w2 ⟨bs, 2, none⟩ d2)).trans d2
  have B3 := Lib.hid (below_step B2.out (Nat.le_refl _) bd)
  clear bd d1 d2
  repeat still_step
  refine wpStill_nil ?_
  go_wp2_with fail
  refine (concat3_any _ _ b off _ _ qb qoff _ _ b _ _ _ (p.take S.pl) q (p.drop S.en) LT.out rfl LD0.out ((H.out.below B3.out).take _) (HQ.out.below B3.out) (drop_none hc) (by omega) (SM.out.take _).1 hql (SM.out.drop _).1 J EJ.out).mono ?_
  rintro e w4 ⟨g4, c4, rfl, r4, b4⟩
  have R4 := Lib.hid r4; have Z3 := B3.out.size
  have B4 := Lib.hid (below_step (B3.out.alloc B3.out.size _) (Nat.le_refl _) b4)
  clear r4 b4 u1 u2
  go_wp2_with fail
  refine (copyNodes_any _ c4 J _ R4.out (by intro hh; rw [hh] at hJpos; simp at hJpos) hJl SMJ.out.2).mono ?_
  rintro e w5 ⟨a5, c5, rfl, o5, b5⟩
  have O5 := Lib.hid o5; have B5 := Lib.hid (below_step B4.out (Nat.le_refl _) b5); have Z4 := B4.out.size
  clear o5 b5
  go_wp2_with fail
  refine (implPlanOk_any _ c5 J SMJ.out _ O5.out.rd).mono ?_
  rintro e w6 ⟨rfl, b6⟩
  have O6 := Lib.hid (O5.out.below b6); have B6 := Lib.hid (below_step B5.out (Nat.le_refl _) b6)
  clear b6
  cases hj : planB J with
  | false =>
    have E12 := Lib.hid (NO.out hj)
    clear hj
    go_wp2_with fail
    refine (copyNodesAt_any b off _ p _ (H.out.below B6.out) hpl SM.out.2).mono ?_
    rintro e w7 ⟨a7, c7, rfl, o7, b7⟩
    have O7 := Lib.hid (o7.base_le B6.out.size); have B7 := Lib.hid (below_step B6.out (Nat.le_refl _) b7)
    clear o7 b7
    go_wp2_with fail
    go_ret2
    rw [E12.out.1, E12.out.2]
    exact ⟨a7, c7, rfl, O7.out, B7.out⟩
  | true =>
    have E12 := Lib.hid (YES.out hj)
    clear hj
    go_wp2_with fail
    go_ret2
    rw [E12.out.1, E12.out.2]
    exact ⟨_, _, rfl, O6.out.base_le Z4, B6.out⟩

theorem implPut_any (b off c : Nat) (p : List Nd) (hp : Small p) (k : Int) (qb qoff : Nat) (qc : Nat) (q : List Nd) (hq : Small q) (w : World) (h : RdN w (some ⟨b, off, none⟩) p) (hqr : RdN w (some ⟨qb, qoff, none⟩) q) (hcm : p = [] ∨ (p.length ≤ c ∧ c ≤ maxLen)) :
    Calls Try.prog 14 #[.slice (some ⟨b, off, none⟩) p.length c, .int .i64 k, .slice (some ⟨qb, qoff, none⟩) q.length qc] w (MadeN2 w (putN p k q) (putB p k q)) := by
  cases hg : goodB p k with
  | false =>
    obtain ⟨e1, e2⟩ := put_no1 (q := q) hg
    rw [e1, e2]
    exact implPut_no1 b off c p hp k _ qc q w h hg
  | true =>
    cases hqb : planB q with
    | false =>
      obtain ⟨e1, e2⟩ := put_no2 (p := p) (k := k) hqb
      rw [e1, e2]
      exact implPut_no2 b off c p hp k _ qc q hq w h hqr hg hqb
    | true =>
      by_cases hce : (c : Int) = endOfN p k
      · exact implPut_yesA b off c p hp k qb qoff qc q hq w h hqr hg hqb hcm hce
      · exact implPut_yesB b off c p hp k qb qoff qc q hq w h hqr hg hqb hcm hce
end Go.Proofs.Ytfbgflmolkgopaa
