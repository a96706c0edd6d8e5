/-
  Contract of slices.Concat of three slices of nodes: their nodes, one list behind the other. For all slices of which the second has a node.
-/
import Derived.Test.YtfbgflmolkgopaaK2
import Derived.Test.YtfbgflmolkgopaaShelf4
namespace Go.Proofs.Ytfbgflmolkgopaa
open Go.RowKit Go.Shelf
set_option linter.unusedSimpArgs false
set_option linter.unusedVariables false

theorem growNil_any (x : Int) (n : Nat) (hx : x = (n : Int)) (w : World) (h0 : 0 < n) (hn : n ≤ 4194304) :
    Calls Try.prog 70 #[.slice none 0 0, .int .i64 x] w fun e w' => ∃ c, e = .returned (.slice (some ⟨w.heap.size, 0, none⟩) 0 c) ∧ w'.ownsRow w.heap.size 37 7 (.slice (some ⟨w.heap.size, 0, none⟩) 0 c) 0 [] ∧ Below w.heap.size w w' := by
  subst hx
  obtain ⟨i0, hi, hz0, hz1, hz2⟩ := info_parts Try.infoNode
  refine (Any8.slices_Grow_grow Try.laysGrowN i0 _ hi hz0 (by rw [hz1]; omega) none 0 0 n [] w (Nat.le_refl _) (by omega) (by rw [hz2]; omega) (by omega) (by simp) (fun _ => rfl) (by intro a ha; cases ha)).mono ?_
  rintro e w' ⟨rfl, rfl⟩
  have hge := grownCap_ge w (0 + n) 0 37
  have hcm := grownCap_le_maxLen w (0 + n) 0 37 (by unfold maxLen; omega)
  refine ⟨_, rfl, ⟨rfl, .inr ⟨w.heap.size, _, _, rfl, Nat.le_refl _, heap_alloc_new w.drew _, Nat.zero_le _, hcm, ?_, ?_⟩⟩, ?_⟩
  · have key : ∀ (z : Array Value) (G : Nat), z.size = 7 → 0 + n ≤ G → (#[] ++ Builtin.zeroCells z (0 + n - 0) ++ Builtin.zeroCells z (G - (0 + n))).size = G * 7 := by
      intro z G hz hG
      simp only [Array.size_append, size_zeroCells, hz]
      simp
      omega
    exact key _ _ rfl hge
  · simp
  · exact ((Below.refl _ w).drew).alloc (by simp) _

/-- What the three lists give, one behind the other. -/
def CatP (w : World) (l : List Nd) (e : Ending) (w' : World) : Prop := ∃ g c, e = .returned (.slice (some ⟨g, 0, none⟩) l.length c) ∧ RdN w' (some ⟨g, 0, none⟩) l ∧ Below w.heap.size w w'
theorem cat_end {w w' : World} {v : Value} {l0 l1 l2 : List Nd} {A0 A1 A2 : Nat → Option Addr} {C0 C1 C2 : Nat → Nat} {b0 o0 b1 o1 b2 o2 : Nat}
    (n0 : ∀ i n, l0[i]? = some n → NdAt w b0 (o0 + i * 7) n (A0 i) (C0 i)) (n1 : ∀ i n, l1[i]? = some n → NdAt w b1 (o1 + i * 7) n (A1 i) (C1 i)) (n2 : ∀ i n, l2[i]? = some n → NdAt w b2 (o2 + i * 7) n (A2 i) (C2 i))
    (ho : w'.ownsRow w.heap.size 37 7 v (0 + l0.length + l1.length + l2.length) ([] ++ allCells l0 A0 C0 ++ allCells l1 A1 C1 ++ allCells l2 A2 C2)) (hne : 0 < l1.length) (hb : Below w.heap.size w w') :
    ∃ g c, v = .slice (some ⟨g, 0, none⟩) (l0 ++ l1 ++ l2).length c ∧ RdN w' (some ⟨g, 0, none⟩) (l0 ++ l1 ++ l2) := by
  have f : ∀ {l : List Nd} {A : Nat → Option Addr} {C : Nat → Nat} {b o : Nat}, (∀ i n, l[i]? = some n → NdAt w b (o + i * 7) n (A i) (C i)) → ∀ i n, l[i]? = some n → Rd w .i64 (A i) n.cols ∧ n.cols.length ≤ C i ∧ C i ≤ maxLen ∧ n.name.size ≤ maxLen :=
    fun h i n hi => ⟨(h i n hi).rd, (h i n hi).cap, (h i n hi).mx, (h i n hi).nm⟩
  have e : 0 + l0.length + l1.length + l2.length = (l0 ++ l1 ++ l2).length := by simp; omega
  have R : RowN w w' v (l0 ++ l1 ++ l2) := by
    refine rowN_app (l := l0 ++ l1) (A := fun i => if i < l0.length then A0 i else A1 (i - l0.length)) (C := fun i => if i < l0.length then C0 i else C1 (i - l0.length)) ?_ (f n2) (n := 0 + l0.length + l1.length + l2.length) ?_ e
    · intro i n hi
      by_cases hil : i < l0.length
      · simp only [if_pos hil]
        rw [List.getElem?_append_left hil] at hi
        exact f n0 i n hi
      · simp only [if_neg hil]
        rw [List.getElem?_append_right (by omega)] at hi
        exact f n1 _ n hi
    · rw [allCells_app]; rw [List.nil_append] at ho; exact ho
  rcases ho.2 with ⟨rfl, hz⟩ | ⟨g, cap, cur, rfl, _⟩
  · omega
  · refine ⟨g, cap, by rw [e], ?_⟩
    rw [e] at R
    exact R.rdN hb

set_option maxRecDepth 100000 in
set_option maxHeartbeats 1600000 in
theorem concat_any (bv b0 o0 c0 b1 o1 c1 b2 o2 c2 : Nat) (l0 l1 l2 : List Nd) (w : World) (h0 : RdN w (some ⟨b0, o0, none⟩) l0) (h1 : RdN w (some ⟨b1, o1, none⟩) l1) (h2 : RdN w (some ⟨b2, o2, none⟩) l2)
    (v0 : w.cell? ⟨bv, 0, none⟩ = some (.slice (some ⟨b0, o0, none⟩) l0.length c0)) (v1 : w.cell? ⟨bv, 1, none⟩ = some (.slice (some ⟨b1, o1, none⟩) l1.length c1)) (v2 : w.cell? ⟨bv, 2, none⟩ = some (.slice (some ⟨b2, o2, none⟩) l2.length c2))
    (hne : 0 < l1.length) (k0 : l0.length ≤ 1048576) (k1 : l1.length ≤ 1048576) (k2 : l2.length ≤ 1048576) :
    Calls Try.prog 38 #[.slice (some ⟨bv, 0, none⟩) 3 3] w (CatP w (l0 ++ l1 ++ l2)) := by
  obtain ⟨A0, C0, n0⟩ := h0.indAt
  obtain ⟨A1, C1, n1⟩ := h1.indAt
  obtain ⟨A2, C2, n2⟩ := h2.indAt
  have N0 := Lib.hid n0; have N1 := Lib.hid n1; have N2 := Lib.hid n2
  have hbv : bv < w.heap.size := World.block_lt_of_cell? w ⟨bv, 0, none⟩ v0
  clear n0 n1 n2 h0 h1 h2
  go_enter Try.func38, Try.ntmps38
  go_wp2_with fail
  refine wp_loop_rounds 4 ?_; rw [rounds_succ]
  go_wp2_with fail
  rw [rounds_succ]
  go_wp2_with fail
  rw [rounds_succ]
  go_wp2_with fail
  rw [rounds_succ]
  go_wp2_with fail
  refine (growNil_any _ (l0.length + l1.length + l2.length) (by omega) _ (by omega) (by omega)).mono ?_
  rintro e w1 ⟨c, rfl, og, b1⟩
  have OG := Lib.hid og; have B1 := Lib.hid b1
  have u0 := (b1.cell (p := ⟨bv, 0, none⟩) hbv).trans v0
  have u1 := (b1.cell (p := ⟨bv, 1, none⟩) hbv).trans v1
  have u2 := (b1.cell (p := ⟨bv, 2, none⟩) hbv).trans v2
  have hz1 := b1.size
  clear og b1
  go_wp2_with fail
  refine wp_loop_rounds 4 ?_; rw [rounds_succ]
  go_wp2_with (at_builtin; go_must (refine wpList_appendNs _ rfl (.tmp 31) (.tmp 32) 24 rfl w.heap.size Try.underlying24 Try.infoNode rfl _ 0 [] rfl OG.out b0 o0 _ c0 l0 A0 C0 rfl rfl (fun i n hi => (N0.out i n hi).below B1.out) (by omega) hz1 ?_; intro x2 w2 o2' g2 _; have OW2 := Lib.hid o2'; have B2 := Lib.hid (B1.out.grown g2 hz1 (fun g hg => (OG.out.lt g hg).1)); clear o2' g2))
  have hz2 := B2.out.size
  have u1' := (B2.out.cell (p := ⟨bv, 1, none⟩) hbv).trans v1
  have u2' := (B2.out.cell (p := ⟨bv, 2, none⟩) hbv).trans v2
  clear u0 u1 u2
  rw [rounds_succ]
  go_wp2_with (at_builtin; go_must (refine wpList_appendNs _ rfl (.tmp 31) (.tmp 32) 24 rfl w.heap.size Try.underlying24 Try.infoNode rfl _ _ _ rfl OW2.out b1 o1 _ c1 l1 A1 C1 rfl rfl (fun i n hi => (N1.out i n hi).below B2.out) (by omega) hz2 ?_; intro x3 w3 o3' g3 _; have OW3 := Lib.hid o3'; have B3 := Lib.hid (B2.out.grown g3 hz2 (fun g hg => (OW2.out.lt g hg).1)); clear o3' g3))
  have hz3 := B3.out.size
  have u2'' := (B3.out.cell (p := ⟨bv, 2, none⟩) hbv).trans v2
  clear u1' u2'
  rw [rounds_succ]
  go_wp2_with (at_builtin; go_must (refine wpList_appendNs _ rfl (.tmp 31) (.tmp 32) 24 rfl w.heap.size Try.underlying24 Try.infoNode rfl _ _ _ rfl OW3.out b2 o2 _ c2 l2 A2 C2 rfl rfl (fun i n hi => (N2.out i n hi).below B3.out) (by omega) hz3 ?_; intro x4 w4 o4' g4 _; have OW4 := Lib.hid o4'; have B4 := Lib.hid (B3.out.grown g4 hz3 (fun g hg => (OW3.out.lt g hg).1)); clear o4' g4))
  obtain ⟨g, cc, rfl, hrd⟩ := cat_end N0.out N1.out N2.out OW4.out hne B4.out
  have RD := Lib.hid hrd
  clear hrd u2''
  rw [rounds_succ]
  go_wp2_with fail
  go_ret
  exact ⟨_, _, rfl, RD.out, B4.out⟩
end Go.Proofs.Ytfbgflmolkgopaa
