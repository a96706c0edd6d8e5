/-
  Contract of tree.tables: the names of the scans, from left to right. For every tree.
-/
import Derived.Test.YtdkiaahcmoafdaaAppS
import Derived.Test.YtdkiaahcmoafdaaITree
namespace Go.Proofs.Ytdkiaahcmoafdaa
open Go.RowKit
set_option linter.unusedSimpArgs false
set_option linter.unusedVariables false

/-- Leaves are scans, and nothing else is. -/
def Tr.ok : Tr → Prop
  | t0 n _ _ => n.kind = 0
  | t1 n _ _ c => (1 ≤ n.kind ∧ n.kind ≤ 7) ∧ c.ok
  | t2 n _ _ c d => (1 ≤ n.kind ∧ n.kind ≤ 7) ∧ c.ok ∧ d.ok
theorem Tr.tabs_pos : ∀ T : Tr, 1 ≤ T.tabs.length
  | t0 _ _ _ => Nat.le_refl _
  | t1 _ _ _ c => tabs_pos c
  | t2 _ _ _ c d => by have := tabs_pos c; simp only [tabs, List.length_append]; omega

theorem tablesNil_any (w : World) : Calls Try.prog 67 #[.pointer none] w fun e w' => e = .returned (.slice none 0 0) ∧ w = w' := by
  go_enter Try.func67, Try.ntmps67
  go_wp2_with fail
  go_ret
  exact ⟨rfl, rfl⟩

theorem not_scan {n : Nd} (h : 1 ≤ n.kind ∧ n.kind ≤ 7) (a : Option Addr) (c : Nat) : ∃ t v, kindV n a c = .iface t v ∧ ∀ W, (Instr.typeAssert (.iface t v) 82 125 true).run Try.prog W = .ok (.tuple #[.agg #[.string ⟨#[]⟩], .bool false]) W := by
  have hc : n.kind = 1 ∨ n.kind = 2 ∨ n.kind = 3 ∨ n.kind = 4 ∨ n.kind = 5 ∨ n.kind = 6 ∨ n.kind = 7 := by omega
  unfold kindV
  rcases hc with h | h | h | h | h | h | h <;> rw [h]
  · exact ⟨_, _, rfl, fun W => Try.as_filterNode_scanNode _ W⟩
  · exact ⟨_, _, rfl, fun W => Try.as_keepNode_scanNode _ W⟩
  · exact ⟨_, _, rfl, fun W => Try.as_joinNode_scanNode _ W⟩
  · exact ⟨_, _, rfl, fun W => Try.as_bothNode_scanNode _ W⟩
  · exact ⟨_, _, rfl, fun W => Try.as_sortNode_scanNode _ W⟩
  · exact ⟨_, _, rfl, fun W => Try.as_limitNode_scanNode _ W⟩
  · exact ⟨_, _, rfl, fun W => Try.as_onceNode_scanNode _ W⟩

set_option maxRecDepth 100000 in
set_option maxHeartbeats 4000000 in
theorem tables_any : ∀ (T : Tr) (w : World) (lo hi b : Nat), TrAt w lo hi T b → hi ≤ w.heap.size → T.ok → T.tabs.length ≤ 1000 →
    Calls Try.prog 67 #[.pointer (some ⟨b, 0, none⟩)] w (MadeS w T.tabs) := by
  intro T
  induction T with
  | t0 n pl en =>
    intro w lo hi b h hh hok hd
    obtain ⟨_, hb2, a, c, c0, c1, c2, c3⟩ := h
    have hk : n.kind = 0 := hok
    simp only [kindV, hk, if_true] at c0
    have A1 := Try.as_scanNode_scanNode
    have hbw : b < w.heap.size := by omega
    go_enter Try.func67, Try.ntmps67
    go_wp2_with (at_builtin; refine wpList_appendSs _ rfl (.tmp 19) (.tmp 22) 38 rfl w.heap.size Try.underlying38 Try.infoStr none 0 0 [] rfl rfl OwnS.none_ (w.heap.size + 1) 1 1 [n.name] rfl rfl (by intro i hi; obtain rfl : i = 0 := (by simpa using hi); simp) (by simp) (by simp <;> omega) ?_; intro ao2 c2 w2 o2 g2; have b2 := below_of_grown g2 (B := w.heap.size) (by simp <;> omega) (by intro g hg; cases hg); have b3 := (((Below.refl w.heap.size w).alloc (Nat.le_refl _) _).alloc (by simp) _).trans b2; have hc2 := (b3.cell (p := ⟨b, 3, none⟩) (show b < w.heap.size by omega)).trans c3; have O2 := Lib.hid o2; have B2 := Lib.hid b3; clear o2 g2 b2 b3)
    refine wp_loop_rounds 1 ?_; rw [rounds_succ]
    go_wp2_with fail
    go_ret
    exact ⟨_, _, rfl, O2.out, B2.out⟩
  | t1 n pl en c ih =>
    intro w lo hi b h hh hok hd
    have hd' : c.tabs.length ≤ 1000 := hd
    have hp := c.tabs_pos
    obtain ⟨g, cap, bc, ⟨_, hb2, a, cc, c0, c1, c2, c3⟩, hg, g0, tc⟩ := h
    obtain ⟨t, v, hkv, hA⟩ := not_scan hok.1 a cc
    rw [hkv] at c0; clear hkv
    have hbw : b < w.heap.size := by omega
    have hgw : g < w.heap.size := by omega
    have TC := Lib.hid tc; have IH := Lib.hid ih; have OK := Lib.hid hok.2
    have TT := Lib.hid (show (Tr.t1 n pl en c).tabs = c.tabs from rfl)
    clear ih tc hok hd
    go_enter Try.func67, Try.ntmps67
    go_wp2_with fail
    refine wp_loop_rounds 2 ?_; rw [rounds_succ]
    go_wp2_with fail
    refine (IH.out _ lo hi bc (TC.out.below hh ((Below.refl _ _).alloc (Nat.le_refl _) _)) (by simp <;> omega) OK.out hd').mono ?_
    rintro e w1 ⟨a1, k1, rfl, o1, b1⟩
    have B1 := Lib.hid ((Below.refl w.heap.size w).alloc (Nat.le_refl _) (.cells #[.string ⟨#[]⟩] 125) |>.trans (b1.mono (by simp)))
    obtain ⟨g1, rfl, _, _⟩ : ∃ g1, a1 = some ⟨g1, 0, none⟩ ∧ (w.heap.size + 1 ≤ g1) ∧ g1 < w1.heap.size := by
      rcases o1.form with ⟨_, _, hz⟩ | ⟨g1, h1, h2, h3⟩
      · rw [hz] at hp; simp at hp
      · exact ⟨g1, h1, by simpa using h2, h3⟩
    have hc1 := fun o => B1.out.cell (p := ⟨b, o, none⟩) hbw
    have hd1 := fun o => B1.out.cell (p := ⟨g, o, none⟩) hgw
    have R1 := Lib.hid (fun i hi => o1.cell i hi)
    have O1 := Lib.hid o1; clear o1 b1
    go_wp2_with (at_builtin; refine wpList_appendSs _ rfl (.tmp 33) (.tmp 35) 38 rfl w.heap.size Try.underlying38 Try.infoStr none 0 0 [] rfl rfl OwnS.none_ g1 c.tabs.length k1 c.tabs rfl rfl R1.out (by simp; omega) B1.out.size ?_; intro ao2 c2 w2 o2 g2; have b2 := below_of_grown g2 (B := w.heap.size) B1.out.size (by intro g hg; cases hg); have b3 := B1.out.trans b2; have hc2 := fun o => b3.cell (p := ⟨b, o, none⟩) hbw; have hd2 := fun o => b3.cell (p := ⟨g, o, none⟩) hgw; have O2 := Lib.hid o2; have B2 := Lib.hid b3; clear o2 g2 b2 b3)
    rw [rounds_succ]
    go_wp2_with fail
    go_ret
    rw [TT.out]
    exact ⟨_, _, rfl, O2.out, B2.out⟩
  | t2 n pl en c d ihc ihd =>
    intro w lo hi b h hh hok hd
    have TT := Lib.hid (show (Tr.t2 n pl en c d).tabs = c.tabs ++ d.tabs from rfl)
    have hdl : c.tabs.length + d.tabs.length ≤ 1000 := by have := hd; rw [TT.out] at this; simpa using this
    have hp := c.tabs_pos
    have hq := d.tabs_pos
    obtain ⟨g, cap, bc, bd, ⟨_, hb2, a, cc, c0, c1, c2, c3⟩, hg, g0, g1', tc, td⟩ := h
    obtain ⟨t, v, hkv, hA⟩ := not_scan hok.1 a cc
    rw [hkv] at c0; clear hkv
    have hbw : b < w.heap.size := by omega
    have hgw : g < w.heap.size := by omega
    have TC := Lib.hid tc; have IH := Lib.hid ihc; have OK := Lib.hid hok.2.1
    have TD := Lib.hid td; have IJ := Lib.hid ihd; have OJ := Lib.hid hok.2.2
    clear ihc ihd tc td hok hd
    go_enter Try.func67, Try.ntmps67
    go_wp2_with fail
    refine wp_loop_rounds 3 ?_; rw [rounds_succ]
    go_wp2_with fail
    refine (IH.out _ lo hi bc (TC.out.below hh ((Below.refl _ _).alloc (Nat.le_refl _) _)) (by simp <;> omega) OK.out (by omega)).mono ?_
    rintro e w1 ⟨a1, k1, rfl, o1, b1⟩
    have B1 := Lib.hid ((Below.refl w.heap.size w).alloc (Nat.le_refl _) (.cells #[.string ⟨#[]⟩] 125) |>.trans (b1.mono (by simp)))
    obtain ⟨g1, rfl, _, _⟩ : ∃ g1, a1 = some ⟨g1, 0, none⟩ ∧ (w.heap.size + 1 ≤ g1) ∧ g1 < w1.heap.size := by
      rcases o1.form with ⟨_, _, hz⟩ | ⟨g1, h1, h2, h3⟩
      · rw [hz] at hp; simp at hp
      · exact ⟨g1, h1, by simpa using h2, h3⟩
    have hc1 := fun o => B1.out.cell (p := ⟨b, o, none⟩) hbw
    have hd1 := fun o => B1.out.cell (p := ⟨g, o, none⟩) hgw
    have R1 := Lib.hid (fun i hi => o1.cell i hi)
    clear o1 b1
    go_wp2_with (at_builtin; refine wpList_appendSs _ rfl (.tmp 33) (.tmp 35) 38 rfl w.heap.size Try.underlying38 Try.infoStr none 0 0 [] rfl rfl OwnS.none_ g1 c.tabs.length k1 c.tabs rfl rfl R1.out (by simp; omega) B1.out.size ?_; intro ao2 c2 w2 o2 g2; have b2 := below_of_grown g2 (B := w.heap.size) B1.out.size (by intro g hg; cases hg); have b3 := B1.out.trans b2; have hc2 := fun o => b3.cell (p := ⟨b, o, none⟩) hbw; have hd2 := fun o => b3.cell (p := ⟨g, o, none⟩) hgw; have O2 := Lib.hid o2; have B2 := Lib.hid b3; clear o2 g2 b2 b3)
    rw [rounds_succ]
    go_wp2_with fail
    refine (IJ.out _ lo hi bd (TD.out.below hh (B2.out.mono (Nat.le_refl _))) (Nat.le_trans hh B2.out.size) OJ.out (by omega)).mono ?_
    rintro e w3 ⟨a3, k3, rfl, o3, b3⟩
    have B3 := Lib.hid (below_step B2.out (Nat.le_refl _) b3)
    have O3 := Lib.hid (O2.out.below b3)
    obtain ⟨g3, rfl⟩ : ∃ g3, a3 = some ⟨g3, 0, none⟩ := by
      rcases o3.form with ⟨_, _, hz⟩ | ⟨g3, h1, h2, h3⟩
      · rw [hz] at hq; simp at hq
      · exact ⟨g3, h1⟩
    have hc3 := fun o => B3.out.cell (p := ⟨b, o, none⟩) hbw
    have hd3 := fun o => B3.out.cell (p := ⟨g, o, none⟩) hgw
    have R3 := Lib.hid (fun i hi => o3.cell i hi)
    clear o3 b3
    go_wp2_with (at_builtin; refine wpList_appendSs _ rfl (.tmp 33) (.tmp 35) 38 rfl w.heap.size Try.underlying38 Try.infoStr ao2 c2 _ ([] ++ c.tabs) rfl rfl O3.out g3 d.tabs.length k3 d.tabs rfl rfl R3.out (by simp; omega) B3.out.size ?_; intro ao4 c4 w4 o4 g4; have b4 := below_appS0 B3.out O3.out g4; have hc4 := fun o => b4.cell (p := ⟨b, o, none⟩) hbw; have hd4 := fun o => b4.cell (p := ⟨g, o, none⟩) hgw; have O4 := Lib.hid o4; have B4 := Lib.hid b4; clear o4 g4 b4)
    rw [rounds_succ]
    go_wp2_with fail
    go_ret
    rw [TT.out]
    exact ⟨_, _, ret_slice (by simp), O4.out, B4.out⟩
end Go.Proofs.Ytdkiaahcmoafdaa
