/-
  Contract of impl.ChildrenOf. For every slice of nodes and every number.
-/
import Derived.Test.YtfbgflmolkgopaaK5
namespace Go.Proofs.Ytfbgflmolkgopaa
open Go.RowKit
set_option linter.unusedSimpArgs false
set_option linter.unusedVariables false

set_option maxRecDepth 100000 in
set_option maxHeartbeats 4000000 in
theorem implChildren_any (ao : Option Addr) (c : Nat) (p : List Nd) (hp : Small p) (k : Int) (w : World) (h : RdN w ao p) :
    Calls Try.prog 15 #[.slice ao p.length c, .int .i64 k] w (Made w 3 .i64 (kidsN p k)) := by
  have H := Lib.hid h; clear h
  go_enter Try.func15, Try.ntmps15
  go_wp2_with fail
  refine (treeOf_any ao c p hp _ H.out).mono ?_
  intro e w1 hpost
  cases ht : treeN p with
  | none =>
    rw [ht] at hpost
    obtain ⟨rfl, b1⟩ := hpost
    have E := Lib.hid (show kidsN p k = [] by unfold kidsN; rw [ht])
    clear ht
    go_wp2_with fail
    refine (findNil_any _ _).mono ?_
    rintro e w' ⟨rfl, rfl⟩
    go_wp2_with fail
    go_ret
    rw [E.out]
    exact ⟨none, 0, rfl, Own.none_, b1⟩
  | some T =>
    rw [ht] at hpost
    obtain ⟨b, rfl, tr, b1⟩ := hpost
    have TR := Lib.hid tr; have B1 := Lib.hid b1; have HT := Lib.hid ht
    clear tr b1 ht
    go_wp2_with fail
    refine (find_any k T _ _ _ b TR.out).mono ?_
    intro e w' hpost
    cases hf : fnd k T with
    | none =>
      rw [hf] at hpost
      obtain ⟨rfl, rfl⟩ := hpost
      have E := Lib.hid (show kidsN p k = [] by unfold kidsN; rw [HT.out]; simp only; rw [hf])
      clear hf
      go_wp2_with fail
      go_ret
      rw [E.out]
      exact ⟨none, 0, rfl, Own.none_, B1.out⟩
    | some S =>
      rw [hf] at hpost
      obtain ⟨bs, rfl, ts, rfl⟩ := hpost
      have E := Lib.hid (show kidsN p k = S.kids.map (fun c => (c.pl : Int)) by unfold kidsN; rw [HT.out]; simp only; rw [hf])
      clear hf
      have hb1 := B1.out.size
      cases S with
      | t0 n pl en =>
        obtain ⟨_, _, a, cc, c0, c1, c2, c3⟩ := ts
        go_wp2_with fail
        refine wp_loop_rounds 1 ?_; rw [rounds_succ]
        go_wp2_with fail
        go_ret
        rw [E.out]
        exact ⟨none, 0, rfl, Own.none_, B1.out⟩
      | t1 n pl en ch =>
        obtain ⟨g, cap, bc, ⟨_, _, a, cc, c0, c1, c2, c3⟩, hg, g0, tc⟩ := ts
        obtain ⟨_, l1, l2, _, _, _, d1, _, _⟩ := tc.head
        clear tc
        have gl : g < w1.heap.size := hg.2
        go_wp2_with fail
        refine wp_loop_rounds 2 ?_; rw [rounds_succ]
        go_wp2_with (at_builtin; refine wpList_appendI _ rfl (.tmp 24) (.tmp 29) 32 rfl w.heap.size 3 Try.underlying32 Try.infoInt none 0 0 [] rfl rfl Own.none_ w1.heap.size 1 (ch.pl : Int) rfl (cell_one _ _ _) (by simp) (by simp; omega) ?_; intro ao2 c2' w2 o2 g2; have b2 := below_app (e := 3) B1.out Own.none_ g2; have O2 := Lib.hid o2; have B2 := Lib.hid b2; clear o2 g2 b2)
        rw [rounds_succ]
        go_wp2_with fail
        go_ret
        rw [E.out]
        exact ⟨ao2, c2', rfl, O2.out, B2.out⟩
      | t2 n pl en ch dh =>
        obtain ⟨g, cap, bc, bd, ⟨_, _, a, cc, c0, c1, c2, c3⟩, hg, g0, g1, tc, td⟩ := ts
        obtain ⟨_, l1, l2, _, _, _, d1, _, _⟩ := tc.head
        obtain ⟨_, l3, l4, _, _, _, d2, _, _⟩ := td.head
        clear tc td
        have gl : g < w1.heap.size := hg.2
        go_wp2_with fail
        refine wp_loop_rounds 3 ?_; rw [rounds_succ]
        go_wp2_with (at_builtin; refine wpList_appendI _ rfl (.tmp 24) (.tmp 29) 32 rfl w.heap.size 3 Try.underlying32 Try.infoInt none 0 0 [] rfl rfl Own.none_ w1.heap.size 1 (ch.pl : Int) rfl (cell_one _ _ _) (by simp) (by simp; omega) ?_; intro ao2 c2' w2 o2 g2; have b2 := below_app (e := 3) B1.out Own.none_ g2; have bb := below_of_grown (B := w1.heap.size) g2 (by simp) (by intro g hg; cases hg); have e1 := (bb.cell (p := ⟨g, 1, none⟩) gl).trans ((World.cell?_alloc_lt _ _ _ gl).trans g1); have e2 := (bb.cell (p := ⟨bd, 1, none⟩) l4).trans ((World.cell?_alloc_lt _ _ _ l4).trans d2); have O2 := Lib.hid o2; have B2 := Lib.hid b2; clear o2 g2 b2 bb)
        rw [rounds_succ]
        go_wp2_with (at_builtin; refine wpList_appendI _ rfl (.tmp 24) (.tmp 29) 32 rfl w.heap.size 3 Try.underlying32 Try.infoInt ao2 c2' 1 [(ch.pl : Int)] rfl rfl (O2.out.alloc _) w2.heap.size 1 (dh.pl : Int) rfl (cell_one _ _ _) (by simp) (by have := B2.out.size; simp; omega) ?_; intro ao3 c3' w3 o3 g3; have b3 := below_app B2.out O2.out g3; have O3 := Lib.hid o3; have B3 := Lib.hid b3; clear o3 g3 b3)
        rw [rounds_succ]
        go_wp2_with fail
        go_ret
        rw [E.out]
        exact ⟨ao3, c3', rfl, O3.out, B3.out⟩
end Go.Proofs.Ytfbgflmolkgopaa
