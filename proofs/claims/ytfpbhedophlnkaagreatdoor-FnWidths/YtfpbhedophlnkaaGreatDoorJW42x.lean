/-
  Contract of slices.Concat of three slices of nodes: their nodes, one list behind the other. For all slices of which the second has a node. Contract of impl.PutPart. For all slices of nodes and every number. A text parted at each byte of one kind. Plain facts; no walk. Digits and what they are worth. Plain facts; no walk.
-/
import Derived.Test.YtfpbhedophlnkaaGreatDoorJW37x
import Derived.Test.YtfpbhedophlnkaaGreatDoorShelf4
import Derived.Test.YtfpbhedophlnkaaGreatDoorJW24x
import Derived.StillTailTactics
import Derived.Test.YtfpbhedophlnkaaGreatDoorJW3x
import Derived.Test.YtfpbhedophlnkaaGreatDoorJW34x
namespace Go.Proofs.YtfpbhedophlnkaaGreatDoor
open Go.RowKit Go.Shelf
set_option linter.unusedSimpArgs false
set_option linter.unusedVariables false

theorem growNil_any (x : Int) (n : Nat) (hx : x = (n : Int)) (w : World) (h0 : 0 < n) (hn : n ≤ 4194304) :
    Calls Tryz.prog 163 #[.slice none 0 0, .int .i64 x] w fun e w' => ∃ c, e = .returned (.slice (some ⟨w.heap.size, 0, none⟩) 0 c) ∧ w'.ownsRow w.heap.size 92 7 (.slice (some ⟨w.heap.size, 0, none⟩) 0 c) 0 [] ∧ Below w.heap.size w w' := by
  subst hx
  obtain ⟨i0, hi, hz0, hz1, hz2⟩ := info_parts Tryz.infoNode
  refine (Any8.slices_Grow_grow Tryz.laysGrowN i0 _ hi hz0 (by rw [hz1]; omega) none 0 0 n [] w (Nat.le_refl _) (by omega) (by rw [hz2]; omega) (by omega) (by simp) (fun _ => rfl) (by intro a ha; cases ha)).mono ?_
  rintro e w' ⟨rfl, rfl⟩
  have hge := grownCap_ge w (0 + n) 0 92
  have hcm := grownCap_le_maxLen w (0 + n) 0 92 (by unfold maxLen; omega)
  refine ⟨_, rfl, ⟨rfl, .inr ⟨w.heap.size, _, _, rfl, Nat.le_refl _, heap_alloc_new w.drew _, Nat.zero_le _, hcm, ?_, ?_⟩⟩, ?_⟩
  · have key : ∀ (z : Array Value) (G : Nat), z.size = 7 → 0 + n ≤ G → (#[] ++ Builtin.zeroCells z (0 + n - 0) ++ Builtin.zeroCells z (G - (0 + n))).size = G * 7 := by
      intro z G hz hG
      simp only [Array.size_append, size_zeroCells, hz]
      simp
      omega
    exact key _ _ rfl hge
  · simp
  · exact ((Below.refl _ w).drew).alloc (by simp) _

/-- What the three lists give, one behind the other. -/
def CatP (w : World) (l : List Nd) (e : Ending) (w' : World) : Prop := ∃ g c, e = .returned (.slice (some ⟨g, 0, none⟩) l.length c) ∧ RdN w' (some ⟨g, 0, none⟩) l ∧ Below w.heap.size w w'
theorem cat_end {w w' : World} {v : Value} {l0 l1 l2 : List Nd} {A0 A1 A2 : Nat → Option Addr} {C0 C1 C2 : Nat → Nat} {b0 o0 b1 o1 b2 o2 : Nat}
    (n0 : ∀ i n, l0[i]? = some n → NdAt w b0 (o0 + i * 7) n (A0 i) (C0 i)) (n1 : ∀ i n, l1[i]? = some n → NdAt w b1 (o1 + i * 7) n (A1 i) (C1 i)) (n2 : ∀ i n, l2[i]? = some n → NdAt w b2 (o2 + i * 7) n (A2 i) (C2 i))
    (ho : w'.ownsRow w.heap.size 92 7 v (0 + l0.length + l1.length + l2.length) ([] ++ allCells l0 A0 C0 ++ allCells l1 A1 C1 ++ allCells l2 A2 C2)) (hne : 0 < l1.length) (hb : Below w.heap.size w w') :
    ∃ g c, v = .slice (some ⟨g, 0, none⟩) (l0 ++ l1 ++ l2).length c ∧ RdN w' (some ⟨g, 0, none⟩) (l0 ++ l1 ++ l2) := by
  have f : ∀ {l : List Nd} {A : Nat → Option Addr} {C : Nat → Nat} {b o : Nat}, (∀ i n, l[i]? = some n → NdAt w b (o + i * 7) n (A i) (C i)) → ∀ i n, l[i]? = some n → Rd w .i64 (A i) n.cols ∧ n.cols.length ≤ C i ∧ C i ≤ maxLen ∧ n.name.size ≤ maxLen :=
    fun h i n hi => ⟨(h i n hi).rd, (h i n hi).cap, (h i n hi).mx, (h i n hi).nm⟩
  have e : 0 + l0.length + l1.length + l2.length = (l0 ++ l1 ++ l2).length := by simp; omega
  have R : RowN w w' v (l0 ++ l1 ++ l2) := by
    refine rowN_app (l := l0 ++ l1) (A := fun i => if i < l0.length then A0 i else A1 (i - l0.length)) (C := fun i => if i < l0.length then C0 i else C1 (i - l0.length)) ?_ (f n2) (n := 0 + l0.length + l1.length + l2.length) ?_ e
    · intro i n hi
      by_cases hil : i < l0.length
      · simp only [if_pos hil]
        rw [List.getElem?_append_left hil] at hi
        exact f n0 i n hi
      · simp only [if_neg hil]
        rw [List.getElem?_append_right (by omega)] at hi
        exact f n1 _ n hi
    · rw [allCells_app]; rw [List.nil_append] at ho; exact ho
  rcases ho.2 with ⟨rfl, hz⟩ | ⟨g, cap, cur, rfl, _⟩
  · omega
  · refine ⟨g, cap, by rw [e], ?_⟩
    rw [e] at R
    exact R.rdN hb

set_option maxRecDepth 100000 in
set_option maxHeartbeats 1600000 in
theorem concat_any (bv b0 o0 c0 b1 o1 c1 b2 o2 c2 : Nat) (l0 l1 l2 : List Nd) (w : World) (h0 : RdN w (some ⟨b0, o0, none⟩) l0) (h1 : RdN w (some ⟨b1, o1, none⟩) l1) (h2 : RdN w (some ⟨b2, o2, none⟩) l2)
    (v0 : w.cell? ⟨bv, 0, none⟩ = some (.slice (some ⟨b0, o0, none⟩) l0.length c0)) (v1 : w.cell? ⟨bv, 1, none⟩ = some (.slice (some ⟨b1, o1, none⟩) l1.length c1)) (v2 : w.cell? ⟨bv, 2, none⟩ = some (.slice (some ⟨b2, o2, none⟩) l2.length c2))
    (hne : 0 < l1.length) (k0 : l0.length ≤ 1048576) (k1 : l1.length ≤ 1048576) (k2 : l2.length ≤ 1048576) :
    Calls Tryz.prog 81 #[.slice (some ⟨bv, 0, none⟩) 3 3] w (CatP w (l0 ++ l1 ++ l2)) := by
  obtain ⟨A0, C0, n0⟩ := h0.indAt
  obtain ⟨A1, C1, n1⟩ := h1.indAt
  obtain ⟨A2, C2, n2⟩ := h2.indAt
  have N0 := Lib.hid n0; have N1 := Lib.hid n1; have N2 := Lib.hid n2
  have hbv : bv < w.heap.size := World.block_lt_of_cell? w ⟨bv, 0, none⟩ v0
  clear n0 n1 n2 h0 h1 h2
  go_enter Tryz.func81, Tryz.ntmps81
  go_wp2_with fail
  refine wp_loop_rounds 4 ?_; rw [rounds_succ]
  go_wp2_with fail
  rw [rounds_succ]
  go_wp2_with fail
  rw [rounds_succ]
  go_wp2_with fail
  rw [rounds_succ]
  go_wp2_with fail
  refine (growNil_any _ (l0.length + l1.length + l2.length) (by omega) _ (by omega) (by omega)).mono ?_
  rintro e w1 ⟨c, rfl, og, b1⟩
  have OG := Lib.hid og; have B1 := Lib.hid b1
  have u0 := (b1.cell (p := ⟨bv, 0, none⟩) hbv).trans v0
  have u1 := (b1.cell (p := ⟨bv, 1, none⟩) hbv).trans v1
  have u2 := (b1.cell (p := ⟨bv, 2, none⟩) hbv).trans v2
  have hz1 := b1.size
  clear og b1
  go_wp2_with fail
  refine wp_loop_rounds 4 ?_; rw [rounds_succ]
  go_wp2_with (at_builtin; go_must (refine wpList_appendNs _ rfl (.tmp 31) (.tmp 32) 25 rfl w.heap.size Tryz.underlying25 Tryz.infoNode rfl _ 0 [] rfl OG.out b0 o0 _ c0 l0 A0 C0 rfl rfl (fun i n hi => (N0.out i n hi).below B1.out) (by omega) hz1 ?_; intro x2 w2 o2' g2 _; have OW2 := Lib.hid o2'; have B2 := Lib.hid (B1.out.grown g2 hz1 (fun g hg => (OG.out.lt g hg).1)); clear o2' g2))
  have hz2 := B2.out.size
  have u1' := (B2.out.cell (p := ⟨bv, 1, none⟩) hbv).trans v1
  have u2' := (B2.out.cell (p := ⟨bv, 2, none⟩) hbv).trans v2
  clear u0 u1 u2
  rw [rounds_succ]
  go_wp2_with (at_builtin; go_must (refine wpList_appendNs _ rfl (.tmp 31) (.tmp 32) 25 rfl w.heap.size Tryz.underlying25 Tryz.infoNode rfl _ _ _ rfl OW2.out b1 o1 _ c1 l1 A1 C1 rfl rfl (fun i n hi => (N1.out i n hi).below B2.out) (by omega) hz2 ?_; intro x3 w3 o3' g3 _; have OW3 := Lib.hid o3'; have B3 := Lib.hid (B2.out.grown g3 hz2 (fun g hg => (OW2.out.lt g hg).1)); clear o3' g3))
  have hz3 := B3.out.size
  have u2'' := (B3.out.cell (p := ⟨bv, 2, none⟩) hbv).trans v2
  clear u1' u2'
  rw [rounds_succ]
  go_wp2_with (at_builtin; go_must (refine wpList_appendNs _ rfl (.tmp 31) (.tmp 32) 25 rfl w.heap.size Tryz.underlying25 Tryz.infoNode rfl _ _ _ rfl OW3.out b2 o2 _ c2 l2 A2 C2 rfl rfl (fun i n hi => (N2.out i n hi).below B3.out) (by omega) hz3 ?_; intro x4 w4 o4' g4 _; have OW4 := Lib.hid o4'; have B4 := Lib.hid (B3.out.grown g4 hz3 (fun g hg => (OW3.out.lt g hg).1)); clear o4' g4))
  obtain ⟨g, cc, rfl, hrd⟩ := cat_end N0.out N1.out N2.out OW4.out hne B4.out
  have RD := Lib.hid hrd
  clear hrd u2''
  rw [rounds_succ]
  go_wp2_with fail
  go_ret
  exact ⟨_, _, rfl, RD.out, B4.out⟩
end Go.Proofs.YtfpbhedophlnkaaGreatDoor
namespace Go.Proofs.YtfpbhedophlnkaaGreatDoor
open Go.RowKit
set_option linter.unusedSimpArgs false
set_option linter.unusedVariables false

theorem concat3_any (W : World) (t : TypeId) (b0 o0 n0 c0 b1 o1 n1 c1 b2 o2 n2 c2 : Nat) (l0 l1 l2 : List Nd) (e0 : n0 = l0.length) (e1 : n1 = l1.length) (e2 : n2 = l2.length) (h0 : RdN W (some ⟨b0, o0, none⟩) l0) (h1 : RdN W (some ⟨b1, o1, none⟩) l1) (h2 : RdN W (some ⟨b2, o2, none⟩) l2)
    (hne : 0 < l1.length) (k0 : l0.length ≤ 1048576) (k1 : l1.length ≤ 1048576) (k2 : l2.length ≤ 1048576) (J : List Nd) (hJ : l0 ++ l1 ++ l2 = J) :
    Calls Tryz.prog 81 #[.slice (some ⟨W.heap.size, 0, none⟩) 3 3] (W.alloc (.cells #[.slice (some ⟨b0, o0, none⟩) n0 c0, .slice (some ⟨b1, o1, none⟩) n1 c1, .slice (some ⟨b2, o2, none⟩) n2 c2] t))
      (CatP (W.alloc (.cells #[.slice (some ⟨b0, o0, none⟩) n0 c0, .slice (some ⟨b1, o1, none⟩) n1 c1, .slice (some ⟨b2, o2, none⟩) n2 c2] t)) J) := by
  subst e0 e1 e2 hJ
  have hb : Below W.heap.size W (W.alloc (.cells #[.slice (some ⟨b0, o0, none⟩) l0.length c0, .slice (some ⟨b1, o1, none⟩) l1.length c1, .slice (some ⟨b2, o2, none⟩) l2.length c2] t)) := (Below.refl _ _).alloc (Nat.le_refl _) _
  exact concat_any W.heap.size b0 o0 c0 b1 o1 c1 b2 o2 c2 l0 l1 l2 _ (h0.below hb) (h1.below hb) (h2.below hb) (by rw [World.cell?_alloc_new]; rfl) (by rw [World.cell?_alloc_new]; rfl) (by rw [World.cell?_alloc_new]; rfl) hne k0 k1 k2

set_option maxRecDepth 100000 in
set_option maxHeartbeats 1600000 in
theorem implPut_no1 (b off c : Nat) (p : List Nd) (hp : Small p) (k : Int) (qo : Option Addr) (qc : Nat) (q : List Nd) (w : World) (h : RdN w (some ⟨b, off, none⟩) p) (hg : goodB p k = false) :
    Calls Tryz.prog 19 #[.slice (some ⟨b, off, none⟩) p.length c, .int .i64 k, .slice qo q.length qc] w (MadePN w p false) := by
  have H := Lib.hid h; clear h
  have hpl := hp.1
  have SM := Lib.hid hp; clear hp
  have GN := Lib.hid (good_none hg); clear hg
  go_enter Tryz.func19, Tryz.ntmps19
  go_wp2_with fail
  refine (treeOf_any _ c p SM.out _ H.out).mono ?_
  intro e w1 hpost
  rcases GN.out with ht | ⟨T, ht, hf⟩
  · rw [ht] at hpost
    obtain ⟨rfl, b1⟩ := hpost
    have B1 := Lib.hid b1
    clear ht b1
    go_wp2_with fail
    refine (findNil_any _ _).mono ?_
    rintro e w' ⟨rfl, rfl⟩
    go_wp2_with fail
    refine (copyNodesAt_any b off c p _ (H.out.below B1.out) hpl SM.out.2).mono ?_
    rintro e w2 ⟨a2, c2, rfl, o2, b2⟩
    have O2 := Lib.hid (o2.base_le B1.out.size); have B2 := Lib.hid (below_step B1.out (Nat.le_refl _) b2)
    clear o2 b2
    go_wp2_with fail
    go_ret2
    exact ⟨a2, c2, rfl, O2.out, B2.out⟩
  · rw [ht] at hpost
    obtain ⟨bt, rfl, tr, b1⟩ := hpost
    have TR := Lib.hid tr; have B1 := Lib.hid b1; have HF := Lib.hid hf
    clear ht tr b1 hf
    go_wp2_with fail
    refine (find_any k T _ _ _ bt TR.out).mono ?_
    rw [HF.out]
    rintro e w' ⟨rfl, rfl⟩
    go_wp2_with fail
    refine (copyNodesAt_any b off c p _ (H.out.below B1.out) hpl SM.out.2).mono ?_
    rintro e w2 ⟨a2, c2, rfl, o2, b2⟩
    have O2 := Lib.hid (o2.base_le B1.out.size); have B2 := Lib.hid (below_step B1.out (Nat.le_refl _) b2)
    clear o2 b2
    go_wp2_with fail
    go_ret2
    exact ⟨a2, c2, rfl, O2.out, B2.out⟩

set_option maxRecDepth 100000 in
set_option maxHeartbeats 1600000 in
theorem implPut_no2 (b off c : Nat) (p : List Nd) (hp : Small p) (k : Int) (qo : Option Addr) (qc : Nat) (q : List Nd) (hq : Small q) (w : World) (h : RdN w (some ⟨b, off, none⟩) p) (hqr : RdN w qo q) (hg : goodB p k = true) (hqb : planB q = false) :
    Calls Tryz.prog 19 #[.slice (some ⟨b, off, none⟩) p.length c, .int .i64 k, .slice qo q.length qc] w (MadePN w p false) := by
  obtain ⟨T, S, ht, hf, _⟩ := part_good hg
  have H := Lib.hid h; have HQ := Lib.hid hqr; clear h hqr
  have hpl := hp.1
  have SM := Lib.hid hp; have SQ := Lib.hid hq; clear hp hq
  have HQB := Lib.hid hqb; have HT := Lib.hid ht; have HF := Lib.hid hf; clear hqb hg ht hf
  go_enter Tryz.func19, Tryz.ntmps19
  go_wp2_with fail
  refine (treeOf_any _ c p SM.out _ H.out).mono ?_
  rw [HT.out]
  rintro e w1 ⟨bt, rfl, tr, b1⟩
  have TR := Lib.hid tr; have B1 := Lib.hid b1
  clear tr b1
  go_wp2_with fail
  refine (find_any k T _ _ _ bt TR.out).mono ?_
  rw [HF.out]
  rintro e w' ⟨bs, rfl, ts, rfl⟩
  clear ts
  go_wp2_with fail
  refine (implPlanOk_any qo qc q SQ.out _ (HQ.out.below B1.out)).mono ?_
  rintro e w2 ⟨rfl, b2⟩
  rw [HQB.out]
  have B2 := Lib.hid (below_step B1.out (Nat.le_refl _) b2); clear b2
  go_wp2_with fail
  refine (copyNodesAt_any b off c p _ (H.out.below B2.out) hpl SM.out.2).mono ?_
  rintro e w3 ⟨a3, c3, rfl, o3, b3⟩
  have O3 := Lib.hid (o3.base_le B2.out.size); have B3 := Lib.hid (below_step B2.out (Nat.le_refl _) b3)
  clear o3 b3
  go_wp2_with fail
  go_ret2
  exact ⟨a3, c3, rfl, O3.out, B3.out⟩

set_option maxRecDepth 100000 in
set_option maxHeartbeats 1000000 in
theorem implPut_yesB (b off c : Nat) (p : List Nd) (hp : Small p) (k : Int) (qb qoff : Nat) (qc : Nat) (q : List Nd) (hq : Small q) (w : World) (h : RdN w (some ⟨b, off, none⟩) p) (hqr : RdN w (some ⟨qb, qoff, none⟩) q) (hg : goodB p k = true) (hqb : planB q = true) (hcm : p = [] ∨ (p.length ≤ c ∧ c ≤ maxLen)) (hce' : (c : Int) ≠ endOfN p k) :
    Calls Tryz.prog 19 #[.slice (some ⟨b, off, none⟩) p.length c, .int .i64 k, .slice (some ⟨qb, qoff, none⟩) q.length qc] w (MadePN w (putPN p k q) (putPB p k q)) := by
  obtain ⟨T, S, ht, hf, hSp, he, hlt, hen, h0, _, _⟩ := part_good hg
  have hp40 := (planB_le40 (good_plan hg)).1
  have hq40 := planB_le40 hqb
  obtain ⟨hc, hm⟩ : p.length ≤ c ∧ c ≤ maxLen := by
    rcases hcm with hh | hh
    · subst hh; simp at hen; omega
    · exact hh
  unfold maxLen at hm
  have H := Lib.hid h; have HQ := Lib.hid hqr; clear h hqr
  have hpl := hp.1; have hql := hq.1
  have hEJ : p.take S.pl ++ q ++ p.drop S.en = joinN p k q := by unfold joinN; rw [he, hSp]; simp
  have hSMJ := Small.put hp hq k hp40 hq40.1
  have hYES := put_yes hg hqb
  have hNO := put_no3 (p := p) (k := k) (q := q)
  have hJpos : 0 < (joinN p k q).length := by unfold joinN; simp; omega
  have hce : ¬ (c = S.en) := by omega
  generalize joinN p k q = J at hEJ hSMJ hYES hNO hJpos
  have hJl := hSMJ.1
  have EJ := Lib.hid hEJ; have SMJ := Lib.hid hSMJ; have YES := Lib.hid hYES; have NO := Lib.hid hNO
  clear hEJ hSMJ hYES hNO
  have SM := Lib.hid hp; have SQ := Lib.hid hq; clear hp hq
  have HQB := Lib.hid hqb; have HT := Lib.hid ht; have HF := Lib.hid hf; clear hg hqb he hcm ht hf hce'
  have k0 : (S.pl : Int) < (S.en : Int) := by omega
  have k1 : (S.pl : Int) ≤ (p.length : Int) := by omega
  have k2 : (S.en : Int) ≤ (c : Int) := by omega
  have k3 : (S.pl : Int) ≤ (c : Int) := by omega
  have k4 : (S.en : Int) ≤ (p.length : Int) := by omega
  have k5 : (p.length : Int) ≤ (c : Int) := by omega
  have LT := Lib.hid (show S.pl = (p.take S.pl).length by simp; omega)
  have LD := Lib.hid (show p.length - S.en = (p.drop S.en).length by simp)
  have HSP := Lib.hid hSp; clear hSp
  go_enter Tryz.func19, Tryz.ntmps19
  go_wp2_with fail
  refine (treeOf_any _ c p SM.out _ H.out).mono ?_
  rw [HT.out]
  rintro e w1 ⟨bt, rfl, tr, b1⟩
  have TR := Lib.hid tr; have B1 := Lib.hid b1
  clear tr b1
  go_wp2_with fail
  refine (find_any k T _ _ _ bt TR.out).mono ?_
  rw [HF.out]
  rintro e w' ⟨bs, rfl, ts, rfl⟩
  obtain ⟨v, hl1, hl2, a, c', c0, c1, c2, c3⟩ := ts.head
  clear ts
  go_wp2_with fail
  refine (implPlanOk_any _ qc q SQ.out _ (HQ.out.below B1.out)).mono ?_
  rintro e w2 ⟨rfl, b2⟩
  rw [HQB.out]
  have d1 := (b2.cell (p := ⟨bs, 1, none⟩) (World.block_lt_of_cell? w1 ⟨bs, 1, none⟩ c1)).trans c1
  have d2 := (b2.cell (p := ⟨bs, 2, none⟩) (World.block_lt_of_cell? w1 ⟨bs, 2, none⟩ c2)).trans c2
  have B2 := Lib.hid (below_step B1.out (Nat.le_refl _) b2); clear b2 c0 c1 c2 c3
  go_wp2_with fail
  refine wp_region_still_tail 13 (by kernel_rfl) (by kernel_rfl) ?_
  simp only [List.take_succ_cons, List.take_zero, List.drop_succ_cons, List.drop_zero]
  have bd : Below w2.heap.size w2 { w2 with drawn := w2.drawn + 1 } := ⟨rfl, rfl, rfl, Nat.le_refl _, fun _ _ => rfl⟩
  generalize ({ w2 with drawn := w2.drawn + 1 } : World) = w3 at bd ⊢
  have u1 := (bd.cell (p := ⟨bs, 1, none⟩) (World.block_lt_of_cell? w2 ⟨bs, 1, none⟩ d1)).trans d1
  have u2 := (bd.cell (p := ⟨bs, 2, none⟩) (World.block_lt_of_cell? w2 ⟨bs, 2, none⟩ d2)).trans d2
  have B3 := Lib.hid (below_step B2.out (Nat.le_refl _) bd)
  clear bd d1 d2
  repeat still_step
  refine wpStill_nil ?_
  go_wp2_with fail
  refine (concat3_any _ _ b off _ _ qb qoff _ _ b _ _ _ (p.take S.pl) q (p.drop S.en) LT.out rfl LD.out ((H.out.below B3.out).take _) (HQ.out.below B3.out) ((H.out.below B3.out).drop _) (by omega) (SM.out.take _).1 hql (SM.out.drop _).1 J EJ.out).mono ?_
  rintro e w4 ⟨g4, c4, rfl, r4, b4⟩
  have R4 := Lib.hid r4; have Z3 := B3.out.size
  have B4 := Lib.hid (below_step (B3.out.alloc B3.out.size _) (Nat.le_refl _) b4)
  clear r4 b4 u1 u2
  go_wp2_with fail
  refine (copyNodes_any _ c4 J _ R4.out (by intro hh; rw [hh] at hJpos; simp at hJpos) hJl SMJ.out.2).mono ?_
  rintro e w5 ⟨a5, c5, rfl, o5, b5⟩
  have O5 := Lib.hid o5; have B5 := Lib.hid (below_step B4.out (Nat.le_refl _) b5); have Z4 := B4.out.size
  clear o5 b5
  go_wp2_with fail
  refine (implPlanOk_any _ c5 J SMJ.out _ O5.out.rd).mono ?_
  rintro e w6 ⟨rfl, b6⟩
  have O6 := Lib.hid (O5.out.below b6); have B6 := Lib.hid (below_step B5.out (Nat.le_refl _) b6)
  clear b6
  cases hj : planB J with
  | false =>
    have E12 := Lib.hid (NO.out hj)
    clear hj
    go_wp2_with fail
    refine (copyNodesAt_any b off c p _ (H.out.below B6.out) hpl SM.out.2).mono ?_
    rintro e w7 ⟨a7, c7, rfl, o7, b7⟩
    have O7 := Lib.hid (o7.base_le B6.out.size); have B7 := Lib.hid (below_step B6.out (Nat.le_refl _) b7)
    clear o7 b7
    go_wp2_with fail
    go_ret2
    rw [E12.out.1, E12.out.2]
    exact ⟨a7, c7, rfl, O7.out, B7.out⟩
  | true =>
    have E12 := Lib.hid (YES.out hj)
    clear hj
    go_wp2_with fail
    go_ret2
    rw [E12.out.1, E12.out.2]
    exact ⟨_, _, rfl, O6.out.base_le Z4, B6.out⟩

set_option maxRecDepth 100000 in
set_option maxHeartbeats 1000000 in
theorem implPut_yesA (b off c : Nat) (p : List Nd) (hp : Small p) (k : Int) (qb qoff : Nat) (qc : Nat) (q : List Nd) (hq : Small q) (w : World) (h : RdN w (some ⟨b, off, none⟩) p) (hqr : RdN w (some ⟨qb, qoff, none⟩) q) (hg : goodB p k = true) (hqb : planB q = true) (hcm : p = [] ∨ (p.length ≤ c ∧ c ≤ maxLen)) (hce' : (c : Int) = endOfN p k) :
    Calls Tryz.prog 19 #[.slice (some ⟨b, off, none⟩) p.length c, .int .i64 k, .slice (some ⟨qb, qoff, none⟩) q.length qc] w (MadePN w (putPN p k q) (putPB p k q)) := by
  obtain ⟨T, S, ht, hf, hSp, he, hlt, hen, h0, _, _⟩ := part_good hg
  have hp40 := (planB_le40 (good_plan hg)).1
  have hq40 := planB_le40 hqb
  obtain ⟨hc, hm⟩ : p.length ≤ c ∧ c ≤ maxLen := by
    rcases hcm with hh | hh
    · subst hh; simp at hen; omega
    · exact hh
  unfold maxLen at hm
  have H := Lib.hid h; have HQ := Lib.hid hqr; clear h hqr
  have hpl := hp.1; have hql := hq.1
  have hEJ : p.take S.pl ++ q ++ p.drop S.en = joinN p k q := by unfold joinN; rw [he, hSp]; simp
  have hSMJ := Small.put hp hq k hp40 hq40.1
  have hYES := put_yes hg hqb
  have hNO := put_no3 (p := p) (k := k) (q := q)
  have hJpos : 0 < (joinN p k q).length := by unfold joinN; simp; omega
  have hce : c = S.en := by omega
  generalize joinN p k q = J at hEJ hSMJ hYES hNO hJpos
  have hJl := hSMJ.1
  have EJ := Lib.hid hEJ; have SMJ := Lib.hid hSMJ; have YES := Lib.hid hYES; have NO := Lib.hid hNO
  clear hEJ hSMJ hYES hNO
  have SM := Lib.hid hp; have SQ := Lib.hid hq; clear hp hq
  have HQB := Lib.hid hqb; have HT := Lib.hid ht; have HF := Lib.hid hf; clear hg hqb he hcm ht hf hce'
  have k0 : (S.pl : Int) < (S.en : Int) := by omega
  have k1 : (S.pl : Int) ≤ (p.length : Int) := by omega
  have k2 : (S.en : Int) ≤ (c : Int) := by omega
  have k3 : (S.pl : Int) ≤ (c : Int) := by omega
  have k4 : (S.en : Int) ≤ (p.length : Int) := by omega
  have k5 : (p.length : Int) ≤ (c : Int) := by omega
  have LT := Lib.hid (show S.pl = (p.take S.pl).length by simp; omega)
  have LD := Lib.hid (show p.length - S.en = (p.drop S.en).length by simp)
  have HSP := Lib.hid hSp; clear hSp
  subst hce
  have LD0 := Lib.hid (show 0 = (p.drop S.en).length by simp; omega)
  go_enter Tryz.func19, Tryz.ntmps19
  go_wp2_with fail
  refine (treeOf_any _ _ p SM.out _ H.out).mono ?_
  rw [HT.out]
  rintro e w1 ⟨bt, rfl, tr, b1⟩
  have TR := Lib.hid tr; have B1 := Lib.hid b1
  clear tr b1
  go_wp2_with fail
  refine (find_any k T _ _ _ bt TR.out).mono ?_
  rw [HF.out]
  rintro e w' ⟨bs, rfl, ts, rfl⟩
  obtain ⟨v, hl1, hl2, a, c', c0, c1, c2, c3⟩ := ts.head
  clear ts
  go_wp2_with fail
  refine (implPlanOk_any _ qc q SQ.out _ (HQ.out.below B1.out)).mono ?_
  rintro e w2 ⟨rfl, b2⟩
  rw [HQB.out]
  have d1 := (b2.cell (p := ⟨bs, 1, none⟩) (World.block_lt_of_cell? w1 ⟨bs, 1, none⟩ c1)).trans c1
  have d2 := (b2.cell (p := ⟨bs, 2, none⟩) (World.block_lt_of_cell? w1 ⟨bs, 2, none⟩ c2)).trans c2
  have B2 := Lib.hid (below_step B1.out (Nat.le_refl _) b2); clear b2 c0 c1 c2 c3
  go_wp2_with fail
  refine wp_region_still_tail 13 (by kernel_rfl) (by kernel_rfl) ?_
  simp only [List.take_succ_cons, List.take_zero, List.drop_succ_cons, List.drop_zero]
  have bd : Below w2.heap.size w2 { w2 with drawn := w2.drawn + 1 } := ⟨rfl, rfl, rfl, Nat.le_refl _, fun _ _ => rfl⟩
  generalize ({ w2 with drawn := w2.drawn + 1 } : World) = w3 at bd ⊢
  have u1 := (bd.cell (p := ⟨bs, 1, none⟩) (World.block_lt_of_cell? w2 ⟨bs, 1, none⟩ d1)).trans d1
  have u2 := (bd.cell (p := ⟨bs, 2, none⟩) (World.block_lt_of_cell? w2 ⟨bs, 2, none⟩ d2)).trans d2
  have B3 := Lib.hid (below_step B2.out (Nat.le_refl _) bd)
  clear bd d1 d2
  repeat still_step
  refine wpStill_nil ?_
  go_wp2_with fail
  refine (concat3_any _ _ b off _ _ qb qoff _ _ b _ _ _ (p.take S.pl) q (p.drop S.en) LT.out rfl LD0.out ((H.out.below B3.out).take _) (HQ.out.below B3.out) (drop_none hc) (by omega) (SM.out.take _).1 hql (SM.out.drop _).1 J EJ.out).mono ?_
  rintro e w4 ⟨g4, c4, rfl, r4, b4⟩
  have R4 := Lib.hid r4; have Z3 := B3.out.size
  have B4 := Lib.hid (below_step (B3.out.alloc B3.out.size _) (Nat.le_refl _) b4)
  clear r4 b4 u1 u2
  go_wp2_with fail
  refine (copyNodes_any _ c4 J _ R4.out (by intro hh; rw [hh] at hJpos; simp at hJpos) hJl SMJ.out.2).mono ?_
  rintro e w5 ⟨a5, c5, rfl, o5, b5⟩
  have O5 := Lib.hid o5; have B5 := Lib.hid (below_step B4.out (Nat.le_refl _) b5); have Z4 := B4.out.size
  clear o5 b5
  go_wp2_with fail
  refine (implPlanOk_any _ c5 J SMJ.out _ O5.out.rd).mono ?_
  rintro e w6 ⟨rfl, b6⟩
  have O6 := Lib.hid (O5.out.below b6); have B6 := Lib.hid (below_step B5.out (Nat.le_refl _) b6)
  clear b6
  cases hj : planB J with
  | false =>
    have E12 := Lib.hid (NO.out hj)
    clear hj
    go_wp2_with fail
    refine (copyNodesAt_any b off _ p _ (H.out.below B6.out) hpl SM.out.2).mono ?_
    rintro e w7 ⟨a7, c7, rfl, o7, b7⟩
    have O7 := Lib.hid (o7.base_le B6.out.size); have B7 := Lib.hid (below_step B6.out (Nat.le_refl _) b7)
    clear o7 b7
    go_wp2_with fail
    go_ret2
    rw [E12.out.1, E12.out.2]
    exact ⟨a7, c7, rfl, O7.out, B7.out⟩
  | true =>
    have E12 := Lib.hid (YES.out hj)
    clear hj
    go_wp2_with fail
    go_ret2
    rw [E12.out.1, E12.out.2]
    exact ⟨_, _, rfl, O6.out.base_le Z4, B6.out⟩

theorem implPut_any (b off c : Nat) (p : List Nd) (hp : Small p) (k : Int) (qb qoff : Nat) (qc : Nat) (q : List Nd) (hq : Small q) (w : World) (h : RdN w (some ⟨b, off, none⟩) p) (hqr : RdN w (some ⟨qb, qoff, none⟩) q) (hcm : p = [] ∨ (p.length ≤ c ∧ c ≤ maxLen)) :
    Calls Tryz.prog 19 #[.slice (some ⟨b, off, none⟩) p.length c, .int .i64 k, .slice (some ⟨qb, qoff, none⟩) q.length qc] w (MadePN w (putPN p k q) (putPB p k q)) := by
  cases hg : goodB p k with
  | false =>
    obtain ⟨e1, e2⟩ := put_no1 (q := q) hg
    rw [e1, e2]
    exact implPut_no1 b off c p hp k _ qc q w h hg
  | true =>
    cases hqb : planB q with
    | false =>
      obtain ⟨e1, e2⟩ := put_no2 (p := p) (k := k) hqb
      rw [e1, e2]
      exact implPut_no2 b off c p hp k _ qc q hq w h hqr hg hqb
    | true =>
      by_cases hce : (c : Int) = endOfN p k
      · exact implPut_yesA b off c p hp k qb qoff qc q hq w h hqr hg hqb hcm hce
      · exact implPut_yesB b off c p hp k qb qoff qc q hq w h hqr hg hqb hcm hce
end Go.Proofs.YtfpbhedophlnkaaGreatDoor
namespace Go.Proofs.YtfpbhedophlnkaaGreatDoor
set_option linter.unusedSimpArgs false
set_option linter.unusedVariables false

/-- A text parted at each byte of one kind. -/
def splitB (b : UInt8) : List UInt8 → List (List UInt8)
  | [] => [[]]
  | c :: r => if c = b then [] :: splitB b r else
    match splitB b r with
    | [] => [[c]]
    | x :: xs => (c :: x) :: xs
theorem splitB_ne (b : UInt8) : ∀ l, splitB b l ≠ []
  | [] => by simp [splitB]
  | c :: r => by
    unfold splitB
    split
    · simp
    · split <;> simp
theorem split_no {b : UInt8} : ∀ {x : List UInt8}, (∀ c ∈ x, c ≠ b) → splitB b x = [x]
  | [], _ => rfl
  | c :: r, h => by
    unfold splitB
    rw [if_neg (h c (by simp)), split_no (fun d hd => h d (by simp [hd]))]
theorem split_hit {b : UInt8} : ∀ {x : List UInt8} (r : List UInt8), (∀ c ∈ x, c ≠ b) → splitB b (x ++ b :: r) = x :: splitB b r
  | [], r, _ => by simp [splitB]
  | c :: x, r, h => by
    have ih := split_hit (x := x) r (fun d hd => h d (by simp [hd]))
    rw [List.cons_append]
    conv => lhs; unfold splitB
    rw [if_neg (h c (by simp)), ih]
theorem split_len (b : UInt8) : ∀ l, (splitB b l).length ≤ l.length + 1
  | [] => by simp [splitB]
  | c :: r => by
    have ih := split_len b r
    unfold splitB
    split
    · simp; omega
    · split
      · simp
      · rename_i h; rw [h] at ih; simp at ih ⊢; omega
/-- The parts with that byte between them are the text. -/
def joinB (b : UInt8) : List (List UInt8) → List UInt8
  | [] => []
  | [x] => x
  | x :: y :: r => x ++ b :: joinB b (y :: r)
theorem joinB_cons (b c : UInt8) : ∀ (x : List UInt8) (r : List (List UInt8)), joinB b ((c :: x) :: r) = c :: joinB b (x :: r)
  | x, [] => rfl
  | x, y :: r => by simp [joinB]
theorem join_split (b : UInt8) : ∀ l, joinB b (splitB b l) = l
  | [] => rfl
  | c :: r => by
    have ih := join_split b r
    have hne := splitB_ne b r
    unfold splitB
    split
    · rename_i h
      cases hs : splitB b r with
      | nil => exact absurd hs hne
      | cons x xs => rw [hs] at ih; simp only [joinB, List.nil_append]; rw [ih, h]
    · cases hs : splitB b r with
      | nil => exact absurd hs hne
      | cons x xs => simp only; rw [joinB_cons, ← hs, ih]
theorem split_parts {b : UInt8} : ∀ (l x : List UInt8), x ∈ splitB b l → ∀ c ∈ x, c ≠ b
  | [], x, h => by simp [splitB] at h; subst h; simp
  | c :: r, x, h => by
    have ih := split_parts (b := b) r
    unfold splitB at h
    split at h
    · rcases List.mem_cons.1 h with rfl | h
      · simp
      · exact ih x h
    · rename_i hc
      cases hs : splitB b r with
      | nil => rw [hs] at h; simp at h; subst h; intro d hd; simp at hd; subst hd; exact hc
      | cons y ys =>
        rw [hs] at h
        rcases List.mem_cons.1 h with rfl | h
        · intro d hd
          rcases List.mem_cons.1 hd with rfl | hd
          · exact hc
          · exact ih y (by rw [hs]; simp) d hd
        · exact ih x (by rw [hs]; simp [h])
theorem split_part_len (b : UInt8) : ∀ (l x : List UInt8), x ∈ splitB b l → x.length ≤ l.length
  | [], x, h => by simp [splitB] at h; subst h; simp
  | c :: r, x, h => by
    have ih := split_part_len b r
    unfold splitB at h
    split at h
    · rcases List.mem_cons.1 h with rfl | h
      · simp
      · have := ih x h; simp; omega
    · cases hs : splitB b r with
      | nil => rw [hs] at h; simp at h; subst h; simp
      | cons y ys =>
        rw [hs] at h
        rcases List.mem_cons.1 h with rfl | h
        · have := ih y (by rw [hs]; simp); simp; omega
        · have := ih x (by rw [hs]; simp [h]); simp; omega
/-- Parts that do not bear the byte come back. -/
theorem split_join {b : UInt8} : ∀ (l : List (List UInt8)), l ≠ [] → (∀ x ∈ l, ∀ c ∈ x, c ≠ b) → splitB b (joinB b l) = l
  | [], h, _ => absurd rfl h
  | [x], _, h => split_no (h x (by simp))
  | x :: y :: r, _, h => by
    rw [joinB, split_hit _ (h x (by simp)), split_join (y :: r) (by simp) (fun z hz => h z (by simp at hz ⊢; exact Or.inr hz))]
end Go.Proofs.YtfpbhedophlnkaaGreatDoor
namespace Go.Proofs.YtfpbhedophlnkaaGreatDoor
set_option linter.unusedSimpArgs false
set_option linter.unusedVariables false

/-- What some digits are worth. -/
def valD (l : List UInt8) : Nat := l.foldl (fun a c => 10 * a + (c.toNat - 48)) 0
theorem valD_snoc (l : List UInt8) (c : UInt8) : valD (l ++ [c]) = 10 * valD l + (c.toNat - 48) := by simp [valD]
theorem dig_toNat (u : Nat) : (UInt8.ofNat (48 + u % 10)).toNat = 48 + u % 10 := by rw [UInt8.toNat_ofNat']; omega
theorem valD_dec (u : Nat) : valD (Lib.decDigits u) = u := by
  induction u using Nat.strongRecOn with
  | _ u ih =>
    by_cases h : u < 10
    · rw [dec_one h]
      have := dig_toNat u
      rw [Nat.mod_eq_of_lt h] at this
      show 10 * 0 + ((UInt8.ofNat (48 + u)).toNat - 48) = u
      rw [this]; omega
    · rw [dec_ten (by omega), valD_snoc, ih (u / 10) (by omega), dig_toNat]; omega
theorem dec_digit (u : Nat) : ∀ c ∈ Lib.decDigits u, 48 ≤ c.toNat ∧ c.toNat ≤ 57 := by
  induction u using Nat.strongRecOn with
  | _ u ih =>
    by_cases h : u < 10
    · rw [dec_one h]
      have := dig_toNat u
      rw [Nat.mod_eq_of_lt h] at this
      intro c hc
      rw [List.mem_singleton] at hc
      subst hc; omega
    · rw [dec_ten (by omega)]
      intro c hc
      rcases List.mem_append.1 hc with hc | hc
      · exact ih (u / 10) (by omega) c hc
      · rw [List.mem_singleton] at hc
        subst hc; rw [dig_toNat]; omega
theorem dec_pos (u : Nat) : 1 ≤ (Lib.decDigits u).length := by
  by_cases h : u < 10
  · rw [dec_one h]; simp
  · rw [dec_ten (by omega)]; simp
theorem dec_len {u : Nat} (h : u ≤ 1000000) : (Lib.decDigits u).length ≤ 7 := by
  by_cases h0 : u = 0
  · subst h0; rw [dec_one (by omega)]; simp
  · have := leftD_len 7 u (by have : (10 : Nat) ^ 7 = 10000000 := by decide
                              omega)
    unfold leftD at this
    rwa [if_neg h0] at this
theorem valD_acc : ∀ (l : List UInt8) (a : Nat), (∀ c ∈ l, 48 ≤ c.toNat ∧ c.toNat ≤ 57) → l.foldl (fun a c => 10 * a + (c.toNat - 48)) a < (a + 1) * 10 ^ l.length
  | [], a, _ => by simp
  | c :: r, a, h => by
    have h1 := valD_acc r (10 * a + (c.toNat - 48)) (fun d hd => h d (by simp [hd]))
    have h2 := h c (by simp)
    rw [List.foldl_cons, List.length_cons, Nat.pow_succ]
    have h3 : (10 * a + (c.toNat - 48) + 1) * 10 ^ r.length ≤ (10 * (a + 1)) * 10 ^ r.length := Nat.mul_le_mul_right _ (by omega)
    have h4 : (10 * (a + 1)) * 10 ^ r.length = (a + 1) * (10 ^ r.length * 10) := by rw [Nat.mul_comm 10 (a + 1), Nat.mul_assoc, Nat.mul_comm 10]
    omega
theorem valD_lt {l : List UInt8} (h : ∀ c ∈ l, 48 ≤ c.toNat ∧ c.toNat ≤ 57) : valD l < 10 ^ l.length := by
  have := valD_acc l 0 h
  simpa [valD] using this
theorem numT_list (x : Int) : (numT x).data.toList = Lib.itoa x := by simp [numT]
theorem numT_inj {x y : Int} (h : numT x = numT y) : x = y := by
  have h1 : Lib.itoa x = Lib.itoa y := by rw [← numT_list, ← numT_list, h]
  unfold Lib.itoa at h1
  have key : ∀ (u v : Nat), Lib.decDigits u ≠ 45 :: Lib.decDigits v := fun u v hh => by
    have := dec_digit u 45 (by rw [hh]; simp)
    simp at this
  split at h1 <;> split at h1
  · have h2 := congrArg valD (List.cons.inj h1).2
    rw [valD_dec, valD_dec] at h2; omega
  · exact absurd h1.symm (key _ _)
  · exact absurd h1 (key _ _)
  · have h2 := congrArg valD h1
    rw [valD_dec, valD_dec] at h2; omega
end Go.Proofs.YtfpbhedophlnkaaGreatDoor
