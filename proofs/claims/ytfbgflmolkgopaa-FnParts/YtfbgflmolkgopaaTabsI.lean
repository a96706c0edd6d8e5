/-
  The names of the scans of a list, each once, by their bytes, as the model puts them in. Plain facts; no walk. append of strings to a row of strings of the call's own: one string, or a whole slice of them. No walk. Contract of tree.tables: the names of the scans, from left to right. For every tree. The names of a tree's scans are those of its nodes; what is sorted and freed of repeats is what the model puts in. Plain facts; no walk. Contract of impl.TablesOf: the names of the scans, each once, by their bytes. For every slice of nodes.
-/
import Derived.Test.YtfbgflmolkgopaaK4
import Derived.Test.YtfbgflmolkgopaaK1
import Derived.Test.YtfbgflmolkgopaaK5
import Derived.Test.YtfbgflmolkgopaaITree
import Derived.Lib.SlicesCompact
import Derived.Sort.EncStr
import Derived.Test.YtfbgflmolkgopaaShelf2
import Derived.Lib.OwnBridge
namespace Go.Proofs.Ytfbgflmolkgopaa
open Go.RowKit
set_option linter.unusedSimpArgs false
set_option linter.unusedVariables false

/-- A name put into its place, if it is not there. -/
def insS (x : ByteArray) : List ByteArray → List ByteArray
  | [] => [x]
  | y :: l => if x = y then y :: l else if lessS x y = true then x :: y :: l else y :: insS x l
/-- One round of the loop that puts it: what is written, and whether it was put. -/
def insR (x : ByteArray) (s : List ByteArray × Bool) (y : ByteArray) : List ByteArray × Bool :=
  if s.2 = true then (s.1 ++ [y], true) else if x = y then (s.1 ++ [y], true) else if lessS x y = true then (s.1 ++ [x] ++ [y], true) else (s.1 ++ [y], false)
theorem insR_put (x : ByteArray) : ∀ (l : List ByteArray) (n : List ByteArray), l.foldl (insR x) (n, true) = (n ++ l, true)
  | [], n => by simp
  | y :: l, n => by
    rw [List.foldl_cons, show insR x (n, true) y = (n ++ [y], true) from rfl, insR_put x l]; simp
theorem insR_ins (x : ByteArray) : ∀ (l : List ByteArray) (n : List ByteArray), (if (l.foldl (insR x) (n, false)).2 = true then (l.foldl (insR x) (n, false)).1 else (l.foldl (insR x) (n, false)).1 ++ [x]) = n ++ insS x l
  | [], n => by simp [insS]
  | y :: l, n => by
    rw [List.foldl_cons]
    by_cases h1 : x = y
    · rw [show insR x (n, false) y = (n ++ [y], true) by simp [insR, h1], insR_put]
      simp [insS, h1]
    · by_cases h2 : lessS x y = true
      · rw [show insR x (n, false) y = (n ++ [x] ++ [y], true) by simp [insR, h1, h2], insR_put]
        simp [insS, h1, h2]
      · rw [show insR x (n, false) y = (n ++ [y], false) by simp [insR, h1, h2], insR_ins x l]
        simp [insS, h1, h2]
/-- The names of the scans of a list. -/
def scans (l : List Nd) : List ByteArray := (l.filter fun n => n.kind == 0).map (·.name)
/-- What the model answers at a plan. -/
def tabsOf (l : List ByteArray) : List ByteArray := l.foldl (fun out x => insS x out) []
theorem insS_len (x : ByteArray) : ∀ l, (insS x l).length ≤ l.length + 1
  | [] => Nat.le_refl _
  | y :: l => by
    have := insS_len x l
    unfold insS; split
    · simp
    · split <;> simp <;> omega
theorem insS_mem (x : ByteArray) : ∀ l z, z ∈ insS x l ↔ z = x ∨ z ∈ l
  | [], z => by simp [insS]
  | y :: l, z => by
    unfold insS
    split
    · rename_i h; subst h; simp
    · split
      · simp
      · rw [List.mem_cons, insS_mem x l z, List.mem_cons]
        constructor
        · rintro (h | h | h) <;> simp [h]
        · rintro (h | h | h) <;> simp [h]

theorem tabsOf_mem (l : List ByteArray) : ∀ (out : List ByteArray) z, z ∈ l.foldl (fun out x => insS x out) out ↔ z ∈ l ∨ z ∈ out := by
  induction l with
  | nil => intro out z; simp
  | cons x l ih =>
    intro out z
    rw [List.foldl_cons, ih, insS_mem, List.mem_cons]
    constructor
    · rintro (h | h | h) <;> simp [h]
    · rintro ((h | h) | h) <;> simp [h]
theorem tabsOf_len (l : List ByteArray) : ∀ (out : List ByteArray), (l.foldl (fun out x => insS x out) out).length ≤ l.length + out.length := by
  induction l with
  | nil => intro out; simp
  | cons x l ih => intro out; have h1 := ih (insS x out); have h2 := insS_len x out; rw [List.foldl_cons, List.length_cons]; omega
theorem scans_take_no {p : List Nd} {j : Nat} {n : Nd} (h : p[j]? = some n) (hk : n.kind ≠ 0) : scans (p.take (j + 1)) = scans (p.take j) := by
  rw [List.take_add_one, h]; simp [scans, hk]
theorem scans_take_yes {p : List Nd} {j : Nat} {n : Nd} (h : p[j]? = some n) (hk : n.kind = 0) : tabsOf (scans (p.take (j + 1))) = insS n.name (tabsOf (scans (p.take j))) := by
  rw [List.take_add_one, h]; simp [scans, hk, tabsOf]
theorem scans_len (l : List Nd) : (scans l).length ≤ l.length := by
  unfold scans; rw [List.length_map]; exact List.length_filter_le _ _
theorem RdN.name {w : World} {ao : Option Addr} {p : List Nd} (h : RdN w ao p) {n : Nd} (hn : n ∈ p) : n.name.size ≤ maxLen := by
  obtain ⟨i, hi, rfl⟩ := List.mem_iff_getElem.1 hn
  obtain ⟨b, off, n', a, c', rfl, hx, hat⟩ := h.at_ (i := i) hi
  rw [List.getElem?_eq_getElem hi] at hx; cases hx
  exact hat.nm
theorem tabs_name {w : World} {ao : Option Addr} {p : List Nd} (h : RdN w ao p) {j : Nat} {z : ByteArray} (hz : z ∈ tabsOf (scans (p.take j))) : z.size ≤ maxLen := by
  rcases (tabsOf_mem _ _ _).1 hz with h1 | h1
  · unfold scans at h1
    obtain ⟨n, hn, rfl⟩ := List.mem_map.1 h1
    exact h.name (List.mem_of_mem_take (List.mem_filter.1 hn).1)
  · cases h1
theorem insR_len (x : ByteArray) : ∀ (l : List ByteArray) (s : List ByteArray × Bool), (l.foldl (insR x) s).1.length ≤ s.1.length + 2 * l.length
  | [], s => by simp
  | y :: l, s => by
    have h1 := insR_len x l (insR x s y)
    have h2 : (insR x s y).1.length ≤ s.1.length + 2 := by
      unfold insR; repeat' split
      all_goals simp
    rw [List.foldl_cons, List.length_cons]; omega
theorem fold_take {x : ByteArray} {out : List ByteArray} {k : Nat} {y : ByteArray} {s : List ByteArray × Bool} (h : out[k]? = some y) (hs : (out.take k).foldl (insR x) ([], false) = s) : (out.take (k + 1)).foldl (insR x) ([], false) = insR x s y := by
  rw [List.take_add_one, h, List.foldl_append, hs]; rfl
theorem str_eq {x y : ByteArray} : x.toList = y.toList ↔ x = y := by
  rw [ByteArray.toList_eq, ByteArray.toList_eq]
  constructor
  · intro h; apply ByteArray.ext; exact Array.toList_inj.1 h
  · rintro rfl; rfl
end Go.Proofs.Ytfbgflmolkgopaa
namespace Go.Proofs.Ytfbgflmolkgopaa
open Go.RowKit
set_option linter.unusedSimpArgs false
set_option linter.unusedVariables false

theorem ownS_empty {w : World} {base : Nat} (h : base ≤ w.heap.size) : OwnS (w.alloc (.cells #[] 9)) base (some ⟨w.heap.size, 0, none⟩) 0 [] :=
  ⟨rfl, .inr ⟨w.heap.size, 0, #[], rfl, h, heap_alloc_new w _, Nat.le_refl _, Nat.zero_le _, rfl, rfl⟩⟩
end Go.Proofs.Ytfbgflmolkgopaa
namespace Go.Proofs.Ytfbgflmolkgopaa
open Go.RowKit
set_option linter.unusedSimpArgs false
set_option linter.unusedVariables false

/-- Leaves are scans, and nothing else is. -/
def Tr.ok : Tr → Prop
  | t0 n _ _ => n.kind = 0
  | t1 n _ _ c => (1 ≤ n.kind ∧ n.kind ≤ 7) ∧ c.ok
  | t2 n _ _ c d => (1 ≤ n.kind ∧ n.kind ≤ 7) ∧ c.ok ∧ d.ok
theorem Tr.tabs_pos : ∀ T : Tr, 1 ≤ T.tabs.length
  | t0 _ _ _ => Nat.le_refl _
  | t1 _ _ _ c => tabs_pos c
  | t2 _ _ _ c d => by have := tabs_pos c; simp only [tabs, List.length_append]; omega

theorem tablesNil_any (w : World) : Calls Try.prog 43 #[.pointer none] w fun e w' => e = .returned (.slice none 0 0) ∧ w = w' := by
  go_enter Try.func43, Try.ntmps43
  go_wp2_with fail
  go_ret
  exact ⟨rfl, rfl⟩

theorem not_scan {n : Nd} (h : 1 ≤ n.kind ∧ n.kind ≤ 7) (a : Option Addr) (c : Nat) : ∃ t v, kindV n a c = .iface t v ∧ ∀ W, (Instr.typeAssert (.iface t v) 57 87 true).run Try.prog W = .ok (.tuple #[.agg #[.string ⟨#[]⟩], .bool false]) W := by
  have hc : n.kind = 1 ∨ n.kind = 2 ∨ n.kind = 3 ∨ n.kind = 4 ∨ n.kind = 5 ∨ n.kind = 6 ∨ n.kind = 7 := by omega
  unfold kindV
  rcases hc with h | h | h | h | h | h | h <;> rw [h]
  · exact ⟨_, _, rfl, fun W => Try.as_filterNode_scanNode _ W⟩
  · exact ⟨_, _, rfl, fun W => Try.as_keepNode_scanNode _ W⟩
  · exact ⟨_, _, rfl, fun W => Try.as_joinNode_scanNode _ W⟩
  · exact ⟨_, _, rfl, fun W => Try.as_bothNode_scanNode _ W⟩
  · exact ⟨_, _, rfl, fun W => Try.as_sortNode_scanNode _ W⟩
  · exact ⟨_, _, rfl, fun W => Try.as_limitNode_scanNode _ W⟩
  · exact ⟨_, _, rfl, fun W => Try.as_onceNode_scanNode _ W⟩

set_option maxRecDepth 100000 in
set_option maxHeartbeats 4000000 in
theorem tables_any : ∀ (T : Tr) (w : World) (lo hi b : Nat), TrAt w lo hi T b → hi ≤ w.heap.size → T.ok → T.tabs.length ≤ 1000 →
    Calls Try.prog 43 #[.pointer (some ⟨b, 0, none⟩)] w (MadeS w T.tabs) := by
  intro T
  induction T with
  | t0 n pl en =>
    intro w lo hi b h hh hok hd
    obtain ⟨_, hb2, a, c, c0, c1, c2, c3⟩ := h
    have hk : n.kind = 0 := hok
    simp only [kindV, hk, if_true] at c0
    have A1 := Try.as_scanNode_scanNode
    have hbw : b < w.heap.size := by omega
    go_enter Try.func43, Try.ntmps43
    go_wp2_with (at_builtin; refine wpList_appendSs _ rfl (.tmp 19) (.tmp 22) 38 rfl w.heap.size Try.underlying38 Try.infoStr none 0 0 [] rfl rfl OwnS.none_ (w.heap.size + 1) 1 1 [n.name] rfl rfl (by intro i hi; obtain rfl : i = 0 := (by simpa using hi); simp) (by simp) (by simp <;> omega) ?_; intro ao2 c2 w2 o2 g2; have b2 := below_of_grown g2 (B := w.heap.size) (by simp <;> omega) (by intro g hg; cases hg); have b3 := (((Below.refl w.heap.size w).alloc (Nat.le_refl _) _).alloc (by simp) _).trans b2; have hc2 := (b3.cell (p := ⟨b, 3, none⟩) (show b < w.heap.size by omega)).trans c3; have O2 := Lib.hid o2; have B2 := Lib.hid b3; clear o2 g2 b2 b3)
    refine wp_loop_rounds 1 ?_; rw [rounds_succ]
    go_wp2_with fail
    go_ret
    exact ⟨_, _, rfl, O2.out, B2.out⟩
  | t1 n pl en c ih =>
    intro w lo hi b h hh hok hd
    have hd' : c.tabs.length ≤ 1000 := hd
    have hp := c.tabs_pos
    obtain ⟨g, cap, bc, ⟨_, hb2, a, cc, c0, c1, c2, c3⟩, hg, g0, tc⟩ := h
    obtain ⟨t, v, hkv, hA⟩ := not_scan hok.1 a cc
    rw [hkv] at c0; clear hkv
    have hbw : b < w.heap.size := by omega
    have hgw : g < w.heap.size := by omega
    have TC := Lib.hid tc; have IH := Lib.hid ih; have OK := Lib.hid hok.2
    have TT := Lib.hid (show (Tr.t1 n pl en c).tabs = c.tabs from rfl)
    clear ih tc hok hd
    go_enter Try.func43, Try.ntmps43
    go_wp2_with fail
    refine wp_loop_rounds 2 ?_; rw [rounds_succ]
    go_wp2_with fail
    refine (IH.out _ lo hi bc (TC.out.below hh ((Below.refl _ _).alloc (Nat.le_refl _) _)) (by simp <;> omega) OK.out hd').mono ?_
    rintro e w1 ⟨a1, k1, rfl, o1, b1⟩
    have B1 := Lib.hid ((Below.refl w.heap.size w).alloc (Nat.le_refl _) (.cells #[.string ⟨#[]⟩] 87) |>.trans (b1.mono (by simp)))
    obtain ⟨g1, rfl, _, _⟩ : ∃ g1, a1 = some ⟨g1, 0, none⟩ ∧ (w.heap.size + 1 ≤ g1) ∧ g1 < w1.heap.size := by
      rcases o1.form with ⟨_, _, hz⟩ | ⟨g1, h1, h2, h3⟩
      · rw [hz] at hp; simp at hp
      · exact ⟨g1, h1, by simpa using h2, h3⟩
    have hc1 := fun o => B1.out.cell (p := ⟨b, o, none⟩) hbw
    have hd1 := fun o => B1.out.cell (p := ⟨g, o, none⟩) hgw
    have R1 := Lib.hid (fun i hi => o1.cell i hi)
    have O1 := Lib.hid o1; clear o1 b1
    go_wp2_with (at_builtin; refine wpList_appendSs _ rfl (.tmp 33) (.tmp 35) 38 rfl w.heap.size Try.underlying38 Try.infoStr none 0 0 [] rfl rfl OwnS.none_ g1 c.tabs.length k1 c.tabs rfl rfl R1.out (by simp; omega) B1.out.size ?_; intro ao2 c2 w2 o2 g2; have b2 := below_of_grown g2 (B := w.heap.size) B1.out.size (by intro g hg; cases hg); have b3 := B1.out.trans b2; have hc2 := fun o => b3.cell (p := ⟨b, o, none⟩) hbw; have hd2 := fun o => b3.cell (p := ⟨g, o, none⟩) hgw; have O2 := Lib.hid o2; have B2 := Lib.hid b3; clear o2 g2 b2 b3)
    rw [rounds_succ]
    go_wp2_with fail
    go_ret
    rw [TT.out]
    exact ⟨_, _, rfl, O2.out, B2.out⟩
  | t2 n pl en c d ihc ihd =>
    intro w lo hi b h hh hok hd
    have TT := Lib.hid (show (Tr.t2 n pl en c d).tabs = c.tabs ++ d.tabs from rfl)
    have hdl : c.tabs.length + d.tabs.length ≤ 1000 := by have := hd; rw [TT.out] at this; simpa using this
    have hp := c.tabs_pos
    have hq := d.tabs_pos
    obtain ⟨g, cap, bc, bd, ⟨_, hb2, a, cc, c0, c1, c2, c3⟩, hg, g0, g1', tc, td⟩ := h
    obtain ⟨t, v, hkv, hA⟩ := not_scan hok.1 a cc
    rw [hkv] at c0; clear hkv
    have hbw : b < w.heap.size := by omega
    have hgw : g < w.heap.size := by omega
    have TC := Lib.hid tc; have IH := Lib.hid ihc; have OK := Lib.hid hok.2.1
    have TD := Lib.hid td; have IJ := Lib.hid ihd; have OJ := Lib.hid hok.2.2
    clear ihc ihd tc td hok hd
    go_enter Try.func43, Try.ntmps43
    go_wp2_with fail
    refine wp_loop_rounds 3 ?_; rw [rounds_succ]
    go_wp2_with fail
    refine (IH.out _ lo hi bc (TC.out.below hh ((Below.refl _ _).alloc (Nat.le_refl _) _)) (by simp <;> omega) OK.out (by omega)).mono ?_
    rintro e w1 ⟨a1, k1, rfl, o1, b1⟩
    have B1 := Lib.hid ((Below.refl w.heap.size w).alloc (Nat.le_refl _) (.cells #[.string ⟨#[]⟩] 87) |>.trans (b1.mono (by simp)))
    obtain ⟨g1, rfl, _, _⟩ : ∃ g1, a1 = some ⟨g1, 0, none⟩ ∧ (w.heap.size + 1 ≤ g1) ∧ g1 < w1.heap.size := by
      rcases o1.form with ⟨_, _, hz⟩ | ⟨g1, h1, h2, h3⟩
      · rw [hz] at hp; simp at hp
      · exact ⟨g1, h1, by simpa using h2, h3⟩
    have hc1 := fun o => B1.out.cell (p := ⟨b, o, none⟩) hbw
    have hd1 := fun o => B1.out.cell (p := ⟨g, o, none⟩) hgw
    have R1 := Lib.hid (fun i hi => o1.cell i hi)
    clear o1 b1
    go_wp2_with (at_builtin; refine wpList_appendSs _ rfl (.tmp 33) (.tmp 35) 38 rfl w.heap.size Try.underlying38 Try.infoStr none 0 0 [] rfl rfl OwnS.none_ g1 c.tabs.length k1 c.tabs rfl rfl R1.out (by simp; omega) B1.out.size ?_; intro ao2 c2 w2 o2 g2; have b2 := below_of_grown g2 (B := w.heap.size) B1.out.size (by intro g hg; cases hg); have b3 := B1.out.trans b2; have hc2 := fun o => b3.cell (p := ⟨b, o, none⟩) hbw; have hd2 := fun o => b3.cell (p := ⟨g, o, none⟩) hgw; have O2 := Lib.hid o2; have B2 := Lib.hid b3; clear o2 g2 b2 b3)
    rw [rounds_succ]
    go_wp2_with fail
    refine (IJ.out _ lo hi bd (TD.out.below hh (B2.out.mono (Nat.le_refl _))) (Nat.le_trans hh B2.out.size) OJ.out (by omega)).mono ?_
    rintro e w3 ⟨a3, k3, rfl, o3, b3⟩
    have B3 := Lib.hid (below_step B2.out (Nat.le_refl _) b3)
    have O3 := Lib.hid (O2.out.below b3)
    obtain ⟨g3, rfl⟩ : ∃ g3, a3 = some ⟨g3, 0, none⟩ := by
      rcases o3.form with ⟨_, _, hz⟩ | ⟨g3, h1, h2, h3⟩
      · rw [hz] at hq; simp at hq
      · exact ⟨g3, h1⟩
    have hc3 := fun o => B3.out.cell (p := ⟨b, o, none⟩) hbw
    have hd3 := fun o => B3.out.cell (p := ⟨g, o, none⟩) hgw
    have R3 := Lib.hid (fun i hi => o3.cell i hi)
    clear o3 b3
    go_wp2_with (at_builtin; refine wpList_appendSs _ rfl (.tmp 33) (.tmp 35) 38 rfl w.heap.size Try.underlying38 Try.infoStr ao2 c2 _ ([] ++ c.tabs) rfl rfl O3.out g3 d.tabs.length k3 d.tabs rfl rfl R3.out (by simp; omega) B3.out.size ?_; intro ao4 c4 w4 o4 g4; have b4 := below_appS0 B3.out O3.out g4; have hc4 := fun o => b4.cell (p := ⟨b, o, none⟩) hbw; have hd4 := fun o => b4.cell (p := ⟨g, o, none⟩) hgw; have O4 := Lib.hid o4; have B4 := Lib.hid b4; clear o4 g4 b4)
    rw [rounds_succ]
    go_wp2_with fail
    go_ret
    rw [TT.out]
    exact ⟨_, _, ret_slice (by simp), O4.out, B4.out⟩
end Go.Proofs.Ytfbgflmolkgopaa
namespace Go.Proofs.Ytfbgflmolkgopaa
open Go.RowKit
set_option linter.unusedSimpArgs false
set_option linter.unusedVariables false

/-- The nodes of a list from k on, till e. -/
def seg (p : List Nd) (k e : Nat) : List Nd := (p.take e).drop k
theorem seg_cons {p : List Nd} {k e : Nat} {n : Nd} (h : p[k]? = some n) (he : k < e) : seg p k e = n :: seg p (k + 1) e := by
  unfold seg
  have h1 : (p.take e)[k]? = some n := by rw [List.getElem?_take_of_lt he]; exact h
  obtain ⟨hk, hn⟩ := List.getElem?_eq_some_iff.1 h1
  rw [List.drop_eq_getElem_cons hk, hn]
theorem seg_app {p : List Nd} {k e e' : Nat} (h1 : k ≤ e) (h2 : e ≤ e') (h3 : e' ≤ p.length) : seg p k e ++ seg p e e' = seg p k e' := by
  unfold seg
  have h : p.take e' = p.take e ++ (p.take e').drop e := by
    have := List.take_append_drop e (p.take e')
    rw [List.take_take, Nat.min_eq_left h2] at this
    exact this.symm
  conv => rhs; rw [h]
  rw [List.drop_append_of_le_length (by rw [List.length_take]; omega)]
theorem seg_self (p : List Nd) (k : Nat) : seg p k k = [] := by
  unfold seg; rw [List.drop_eq_nil_iff]; simp; omega
theorem scans_app (a b : List Nd) : scans (a ++ b) = scans a ++ scans b := by simp [scans]
theorem scans_cons_no {n : Nd} (h : n.kind ≠ 0) (l : List Nd) : scans (n :: l) = scans l := by simp [scans, h]
theorem scans_cons_yes {n : Nd} (h : n.kind = 0) (l : List Nd) : scans (n :: l) = n.name :: scans l := by simp [scans, h]
theorem arity_zero {n : Nd} (h : nodeB n = true) (h1 : arity n.kind ≠ 1) (h2 : arity n.kind ≠ 2) : n.kind = 0 := by
  have := kind_of_nodeB h
  have hc : n.kind = 0 ∨ n.kind = 1 ∨ n.kind = 2 ∨ n.kind = 3 ∨ n.kind = 4 ∨ n.kind = 5 ∨ n.kind = 6 ∨ n.kind = 7 := by omega
  rcases hc with h | h | h | h | h | h | h | h
  · exact h
  all_goals (exfalso; rw [h] at h1 h2; revert h1 h2; decide)
theorem arity_pos {n : Nd} (h : nodeB n = true) (h1 : arity n.kind = 1 ∨ arity n.kind = 2) : 1 ≤ n.kind ∧ n.kind ≤ 7 := by
  have := kind_of_nodeB h
  by_cases h0 : n.kind = 0
  · rw [h0] at h1; exact absurd h1 (by decide)
  · omega

theorem growT_tabs (p : List Nd) : ∀ (f k : Nat) (T : Tr), growT p f k = some T → T.ok ∧ T.tabs = scans (seg p k T.en) := by
  intro f
  induction f with
  | zero => intro k T h; cases h
  | succ f ih =>
    intro k T h
    simp only [growT] at h
    cases hp : p[k]? with
    | none => rw [hp] at h; cases h
    | some n =>
      rw [hp] at h
      simp only at h
      cases hn : nodeB n with
      | false => rw [hn, if_pos rfl] at h; cases h
      | true =>
        rw [hn] at h
        simp only [Bool.true_eq_false, if_false] at h
        split at h
        · rename_i ha
          cases hc : growT p f (k + 1) with
          | none => rw [hc] at h; cases h
          | some c =>
            rw [hc] at h; simp only [Option.some.injEq] at h; subst h
            obtain ⟨h1, h2⟩ := ih _ _ hc
            have hs := growT_sound p _ _ _ hc
            have hk := arity_pos hn (.inl ha)
            refine ⟨⟨hk, h1⟩, ?_⟩
            show c.tabs = scans (seg p k c.en)
            rw [seg_cons hp (by omega), scans_cons_no (by omega), h2]
        · split at h
          · rename_i ha
            cases hc : growT p f (k + 1) with
            | none => rw [hc] at h; cases h
            | some c =>
              rw [hc] at h; simp only at h
              cases hd : growT p f c.en with
              | none => rw [hd] at h; cases h
              | some d =>
                rw [hd] at h; simp only [Option.some.injEq] at h; subst h
                obtain ⟨h1, h2⟩ := ih _ _ hc
                obtain ⟨g1, g2⟩ := ih _ _ hd
                have hs := growT_sound p _ _ _ hc
                have hs' := growT_sound p _ _ _ hd
                have hk := arity_pos hn (.inr ha)
                refine ⟨⟨hk, h1, g1⟩, ?_⟩
                show c.tabs ++ d.tabs = scans (seg p k d.en)
                rw [seg_cons hp (by omega), scans_cons_no (by omega), h2, g2, ← scans_app, seg_app (by omega) (by omega) (by omega)]
          · rename_i ha hb
            simp only [Option.some.injEq] at h; subst h
            have hk := arity_zero hn ha hb
            refine ⟨hk, ?_⟩
            show [n.name] = scans (seg p k (k + 1))
            rw [seg_cons hp (Nat.lt_succ_self _), seg_self, scans_cons_yes hk]; rfl
theorem treeN_tabs {p : List Nd} {T : Tr} (h : treeN p = some T) : T.ok ∧ T.tabs = scans p := by
  obtain ⟨_, h2, h3, _⟩ := treeN_some h
  obtain ⟨h4, h5⟩ := growT_tabs p _ _ _ h2
  refine ⟨h4, ?_⟩
  rw [h5, h3]; unfold seg; rw [List.take_length]; rfl

/-! ### Ascending lists -/
def Asc (l : List (List UInt8)) : Prop := l.Pairwise (· < ·)
theorem lt_irrefl' (a : List UInt8) : ¬ a < a := List.lt_irrefl a
theorem asc_eq : ∀ (l m : List (List UInt8)), Asc l → Asc m → (∀ z, z ∈ l ↔ z ∈ m) → l = m
  | [], [], _, _, _ => rfl
  | [], y :: m, _, _, h => by have := (h y).2 (by simp); cases this
  | x :: l, [], _, _, h => by have := (h x).1 (by simp); cases this
  | x :: l, y :: m, hl, hm, h => by
    have hl' := List.pairwise_cons.1 hl
    have hm' := List.pairwise_cons.1 hm
    have e : x = y := by
      have h1 := (h x).1 (by simp)
      have h2 := (h y).2 (by simp)
      rcases List.mem_cons.1 h1 with h1 | h1
      · exact h1
      rcases List.mem_cons.1 h2 with h2 | h2
      · exact h2.symm
      exact absurd (List.lt_trans (hm'.1 _ h1) (hl'.1 _ h2)) (lt_irrefl' _)
    subst e
    rw [asc_eq l m hl'.2 hm'.2 ?_]
    intro z
    constructor
    · intro hz
      rcases List.mem_cons.1 ((h z).1 (List.mem_cons_of_mem _ hz)) with h1 | h1
      · subst h1; exact absurd (hl'.1 _ hz) (lt_irrefl' _)
      · exact h1
    · intro hz
      rcases List.mem_cons.1 ((h z).2 (List.mem_cons_of_mem _ hz)) with h1 | h1
      · subst h1; exact absurd (hm'.1 _ hz) (lt_irrefl' _)
      · exact h1

/-- The bytes of texts. -/
def bytesS (l : List ByteArray) : List (List UInt8) := l.map fun x => x.data.toList
theorem bytes_inj {x y : ByteArray} (h : x.data.toList = y.data.toList) : x = y := by
  apply ByteArray.ext; exact Array.toList_inj.1 h
theorem bytesS_inj : ∀ {l m : List ByteArray}, bytesS l = bytesS m → l = m
  | [], [], _ => rfl
  | [], y :: m, h => by simp [bytesS] at h
  | x :: l, [], h => by simp [bytesS] at h
  | x :: l, y :: m, h => by
    simp only [bytesS, List.map_cons, List.cons.injEq] at h
    rw [bytes_inj h.1, bytesS_inj (l := l) (m := m) h.2]
theorem insS_asc (x : ByteArray) : ∀ l, Asc (bytesS l) → Asc (bytesS (insS x l))
  | [], _ => by simp [insS, bytesS, Asc]
  | y :: l, h => by
    have h' := List.pairwise_cons.1 (show ((y.data.toList) :: bytesS l).Pairwise (· < ·) from h)
    unfold insS
    split
    · exact h
    · rename_i hne
      split
      · rename_i hlt
        have hlt : x.data.toList < y.data.toList := by simpa [lessS] using hlt
        refine List.pairwise_cons.2 ⟨fun z hz => ?_, h⟩
        rcases List.mem_cons.1 (show z ∈ (y.data.toList) :: bytesS l from hz) with rfl | hz
        · exact hlt
        · exact List.lt_trans hlt (h'.1 _ hz)
      · rename_i hlt
        have hlt : ¬ x.data.toList < y.data.toList := by simpa [lessS] using hlt
        have hgt : y.data.toList < x.data.toList := by
          rcases Std.lt_trichotomy (a := y.data.toList) (b := x.data.toList) with h | h | h
          · exact h
          · exact absurd (bytes_inj h.symm) hne
          · exact absurd h hlt
        refine List.pairwise_cons.2 ⟨fun z hz => ?_, insS_asc x l h'.2⟩
        obtain ⟨u, hu, rfl⟩ := List.mem_map.1 hz
        rcases (insS_mem x l u).1 hu with rfl | hu
        · exact hgt
        · exact h'.1 _ (List.mem_map_of_mem hu)
theorem tabsOf_asc (l : List ByteArray) : ∀ (out : List ByteArray), Asc (bytesS out) → Asc (bytesS (l.foldl (fun out x => insS x out) out)) := by
  induction l with
  | nil => intro out h; exact h
  | cons x l ih => intro out h; exact ih _ (insS_asc x out h)

/-- What is freed of repeats in a list that does not descend ascends. -/
theorem compactUpTo_asc (d : Array (List UInt8)) (hs : ∀ i j, i < j → j < d.size → d[i]! ≤ d[j]!) : ∀ m, m ≤ d.size → Asc (Lib.compactUpTo d m) ∧ (∀ z, z ∈ Lib.compactUpTo d m ↔ ∃ j, j < m ∧ d[j]! = z)
  | 0, _ => by simp [Lib.compactUpTo, Asc]
  | m + 1, hm => by
    obtain ⟨h1, h2⟩ := compactUpTo_asc d hs m (by omega)
    rw [Lib.compactUpTo_succ]
    by_cases hk : Lib.keeps d m = true
    · rw [if_pos hk]
      constructor
      · refine List.pairwise_append.2 ⟨h1, by simp, fun a ha b hb => ?_⟩
        obtain rfl : b = d[m]! := by simpa using hb
        obtain ⟨j, hj, rfl⟩ := (h2 a).1 ha
        have hm0 : m ≠ 0 := by omega
        have hne : d[m]! ≠ d[m - 1]! := by simpa [Lib.keeps, hm0] using hk
        have hle : d[m - 1]! ≤ d[m]! := hs _ _ (by omega) (by omega)
        have hlt : d[m - 1]! < d[m]! := Std.lt_of_le_of_ne hle (Ne.symm hne)
        by_cases he : j = m - 1
        · subst he; exact hlt
        · exact Std.lt_of_le_of_lt (hs j (m - 1) (by omega) (by omega)) hlt
      · intro z
        rw [List.mem_append, h2]
        constructor
        · rintro (⟨j, hj, rfl⟩ | hz)
          · exact ⟨j, by omega, rfl⟩
          · exact ⟨m, by omega, (List.mem_singleton.1 hz).symm⟩
        · rintro ⟨j, hj, rfl⟩
          by_cases he : j = m
          · subst he; right; simp
          · exact .inl ⟨j, by omega, rfl⟩
    · rw [if_neg hk, List.append_nil]
      refine ⟨h1, fun z => ?_⟩
      rw [h2]
      have hm0 : m ≠ 0 := by intro e; subst e; exact hk (by simp [Lib.keeps])
      have he : d[m]! = d[m - 1]! := by
        apply Classical.byContradiction; intro hne
        exact hk (Lib.keeps_pos hne)
      constructor
      · rintro ⟨j, hj, rfl⟩; exact ⟨j, by omega, rfl⟩
      · rintro ⟨j, hj, rfl⟩
        by_cases hjm : j = m
        · subst hjm; exact ⟨j - 1, by omega, he.symm⟩
        · exact ⟨j, by omega, rfl⟩

theorem compact_sorted (l : List ByteArray) : Lib.compact ((bytesS l).mergeSort fun x y => decide (x ≤ y)) = bytesS (tabsOf l) := by
  have hsort : ((bytesS l).mergeSort fun x y => decide (x ≤ y)).Pairwise (fun x y => decide (x ≤ y) = true) :=
    List.pairwise_mergeSort (fun a b c h1 h2 => by simp only [decide_eq_true_eq] at *; exact Std.le_trans h1 h2) (fun a b => by
      rcases Std.le_total (a := a) (b := b) with h | h <;> simp [h]) _
  have hperm := List.mergeSort_perm (bytesS l) (fun x y => decide (x ≤ y))
  generalize (bytesS l).mergeSort (fun x y => decide (x ≤ y)) = s at hsort hperm ⊢
  have hs : ∀ i j, i < j → j < s.toArray.size → s.toArray[i]! ≤ s.toArray[j]! := by
    intro i j hij hj
    have hj' : j < s.length := by simpa using hj
    have := List.pairwise_iff_getElem.1 hsort i j (by omega) hj' hij
    rw [getElem!_pos _ i (by simp; omega), getElem!_pos _ j hj]
    simpa using this
  obtain ⟨h1, h2⟩ := compactUpTo_asc s.toArray hs s.toArray.size (Nat.le_refl _)
  have hsz : s.toArray.size = s.length := by simp
  rw [hsz] at h1 h2
  refine asc_eq _ _ h1 (tabsOf_asc l [] (by simp [bytesS, Asc])) fun z => ?_
  show z ∈ Lib.compactUpTo s.toArray s.length ↔ _
  rw [h2]
  have hm : z ∈ s ↔ z ∈ bytesS l := hperm.mem_iff
  constructor
  · rintro ⟨j, hj, rfl⟩
    have : s.toArray[j]! ∈ s := by rw [getElem!_pos _ j (by simpa using hj)]; simp
    obtain ⟨u, hu, e⟩ := List.mem_map.1 ((hperm.mem_iff).1 this)
    rw [← e]
    exact List.mem_map_of_mem ((tabsOf_mem l [] u).2 (.inl hu))
  · intro hz
    obtain ⟨u, hu, rfl⟩ := List.mem_map.1 hz
    rcases (tabsOf_mem l [] u).1 hu with hu | hu
    · have : u.data.toList ∈ s := (hperm.mem_iff).2 (List.mem_map_of_mem hu)
      obtain ⟨j, hj, e⟩ := List.mem_iff_getElem.1 this
      exact ⟨j, hj, by rw [getElem!_pos _ j (by simpa using hj)]; simpa using e⟩
    · cases hu
end Go.Proofs.Ytfbgflmolkgopaa
namespace Go.Proofs.Ytfbgflmolkgopaa
open Go.RowKit Go.Shelf Go.Lib Go.Sort
set_option linter.unusedSimpArgs false
set_option linter.unusedVariables false

theorem ownS_enc {w : World} {base : Nat} {ao : Option Addr} {c : Nat} {l : List ByteArray} (h : OwnS w base ao c l) : w.ownsRow base 9 1 (.slice ao l.length c) l.length ((bytesS l).map encStr) := by
  unfold bytesS; rw [map_encStr]; exact h
theorem own_grow {w : World} {base : Nat} {e : TypeId} {v : Value} {n : Nat} {xs : List Value} (h : w.ownsRow base e 1 v n xs) (os : Array Obj) : (grow w os).ownsRow base e 1 v n xs := by
  refine ⟨h.1, ?_⟩
  rcases h.2 with h2 | ⟨g, cap, cur, hv, hb, hg, r⟩
  · exact .inl h2
  · refine .inr ⟨g, cap, cur, hv, hb, ?_, r⟩
    have hlt : g < w.heap.size := by
      rcases Nat.lt_or_ge g w.heap.size with h' | h'
      · exact h'
      · rw [Array.getElem?_eq_none h'] at hg; cases hg
    show (w.heap ++ os)[g]? = _
    rw [Array.getElem?_append_left hlt]; exact hg
theorem below_grow' {B : Nat} {a w : World} (h : Below B a w) (hB : B ≤ w.heap.size) (os : Array Obj) : Below B a (grow w os) :=
  ⟨h.os, h.tape, h.output, Nat.le_trans h.size (by show w.heap.size ≤ (w.heap ++ os).size; simp), fun k hk => by
    show (w.heap ++ os)[k]? = _
    rw [Array.getElem?_append_left (by omega)]; exact h.block k hk⟩
theorem bytesS_len (l : List ByteArray) : (bytesS l).length = l.length := by simp [bytesS]
theorem tabsOf_le (l : List ByteArray) : (tabsOf l).length ≤ l.length := by have := tabsOf_len l []; simpa [tabsOf] using this

theorem sortS_any (g cap : Nat) (l : List ByteArray) (base : Nat) (w : World) (h : OwnS w base (some ⟨g, 0, none⟩) cap l) (hl : l.length ≤ 1048576) :
    Calls Try.prog 44 #[.slice (some ⟨g, 0, none⟩) l.length cap] w fun e w' => e = .returned (.tuple #[]) ∧
      w'.ownsRow base 9 1 (.slice (some ⟨g, 0, none⟩) l.length cap) l.length (((bytesS l).mergeSort fun x y => decide (x ≤ y)).map encStr) ∧ Below base w w' := by
  have ho := ownS_enc h
  obtain ⟨g', cap', hv, hb, hg, hn, hm, hz, hH⟩ := holds_of_ownsRow ho (by intro e; cases e)
  simp only [Value.slice.injEq, Option.some.injEq, Addr.mk.injEq] at hv
  obtain ⟨⟨rfl, _⟩, _, rfl⟩ := hv
  have hc := Any.slices_Sort_string Try.lays190 g 0 cap (bytesS l) w hH hg (by rw [bytesS_len]; omega)
  rw [bytesS_len] at hc
  refine hc.mono ?_
  rintro e w' ⟨rfl, n, os, rfl⟩
  have hlen : ((bytesS l).mergeSort fun x y => decide (x ≤ y)).length = l.length := by rw [List.length_mergeSort, bytesS_len]
  have h1 := ownsRow_putRow (q := n) ho hlen (Nat.le_refl _)
  rw [List.take_of_length_le (by omega)] at h1
  refine ⟨rfl, own_grow h1 os, below_grow' (below_putRow (Below.refl _ _) hb) ?_ os⟩
  show base ≤ (putRow encStr (Sort.ahead w n) g 0 _).heap.size
  simp [putRow, mapBlock, Sort.ahead]; omega

theorem compactS_any (g cap n : Nat) (zs : List (List UInt8)) (base : Nat) (w : World) (hzn : zs.length = n) (h : w.ownsRow base 9 1 (.slice (some ⟨g, 0, none⟩) zs.length cap) zs.length (zs.map encStr)) (hl : zs.length ≤ 1048576) :
    Calls Try.prog 45 #[.slice (some ⟨g, 0, none⟩) n cap] w fun e w' => e = .returned (.slice (some ⟨g, 0, none⟩) (compact zs).length cap) ∧
      w'.ownsRow base 9 1 (.slice (some ⟨g, 0, none⟩) (compact zs).length cap) (compact zs).length ((compact zs).map encStr) ∧ Below base w w' := by
  subst hzn
  obtain ⟨g', cap', hv, hb, hg, hn, hm, hz, hH⟩ := holds_of_ownsRow h (by intro e; cases e)
  simp only [Value.slice.injEq, Option.some.injEq, Addr.mk.injEq] at hv
  obtain ⟨⟨rfl, _⟩, _, rfl⟩ := hv
  refine (Any.slices_Compact_string Try.lays194 g 0 cap zs w hH (by omega) hn).mono ?_
  rintro e w' ⟨rfl, q, rfl⟩
  have hle := compact_length_le zs
  have h1 := ownsRow_putRow (q := q) (k := (compact zs).length) (ys := compact zs ++ List.replicate (zs.length - (compact zs).length) []) h (by simp; omega) hle
  rw [List.take_left] at h1
  exact ⟨rfl, h1, below_putRow (Below.refl _ _) hb⟩

set_option maxRecDepth 100000 in
set_option maxHeartbeats 4000000 in
theorem implTables_any (ao : Option Addr) (c : Nat) (p : List Nd) (hp : Small p) (w : World) (h : RdN w ao p) :
    Calls Try.prog 19 #[.slice ao p.length c] w (MadeS w (if planB p = true then tabsOf (scans p) else [])) := by
  have H := Lib.hid h; clear h
  cases ht : treeN p with
  | none =>
    have E := Lib.hid (show (if planB p = true then tabsOf (scans p) else []) = [] by unfold planB; rw [ht]; rfl)
    have HT := Lib.hid ht; clear ht
    rw [E.out]
    go_enter Try.func19, Try.ntmps19
    go_wp2_with fail
    refine (treeOf_any ao c p hp _ H.out).mono ?_
    intro e w1 hpost
    rw [HT.out] at hpost
    obtain ⟨rfl, b1⟩ := hpost
    have B1 := Lib.hid b1; clear b1
    go_wp2_with fail
    refine (tablesNil_any _).mono ?_
    rintro e w' ⟨rfl, rfl⟩
    go_wp2_with fail
    refine (Any.slices_Sort_string_none Try.lays190 none 0 _).mono ?_
    rintro e w' ⟨rfl, rfl⟩
    go_wp2_with fail
    refine (Any.slices_Compact_string_empty Try.lays194 none 0 _).mono ?_
    rintro e w' ⟨rfl, rfl⟩
    go_wp2_with fail
    go_ret
    exact ⟨none, 0, rfl, OwnS.none_, B1.out⟩
  | some T =>
    obtain ⟨hok, htabs⟩ := treeN_tabs ht
    have h40 := (treeN_some ht).1
    have E := Lib.hid (show (if planB p = true then tabsOf (scans p) else []) = tabsOf T.tabs by unfold planB; rw [ht, htabs]; rfl)
    have hpos := T.tabs_pos
    have hlen : T.tabs.length ≤ 40 := by rw [htabs]; have := scans_len p; omega
    have HT := Lib.hid ht
    have HK := Lib.hid hok
    clear ht htabs hok
    rw [E.out]
    go_enter Try.func19, Try.ntmps19
    go_wp2_with fail
    refine (treeOf_any ao c p hp _ H.out).mono ?_
    intro e w1 hpost
    rw [HT.out] at hpost
    obtain ⟨b, rfl, tr, b1⟩ := hpost
    have B1 := Lib.hid b1; have TR := Lib.hid tr; clear b1 tr
    go_wp2_with fail
    refine (tables_any T _ _ _ b TR.out (Nat.le_refl _) HK.out (by omega)).mono ?_
    rintro e w2 ⟨a2, c2, rfl, o2, b2⟩
    have B2 := Lib.hid (below_step B1.out (Nat.le_refl _) b2)
    have O2 := Lib.hid (o2.base_le B1.out.size)
    obtain ⟨g, rfl⟩ : ∃ g, a2 = some ⟨g, 0, none⟩ := by
      rcases o2.form with ⟨_, _, hz⟩ | ⟨g, h1, _⟩
      · rw [hz] at hpos; simp at hpos
      · exact ⟨g, h1⟩
    clear o2 b2
    go_wp2_with fail
    refine (sortS_any g c2 T.tabs w.heap.size _ O2.out (by omega)).mono ?_
    rintro e w3 ⟨rfl, o3, b3⟩
    have B3 := Lib.hid (B2.out.trans b3)
    generalize hzs : (bytesS T.tabs).mergeSort (fun x y => decide (x ≤ y)) = zs at o3
    have ZS := Lib.hid hzs
    have hzl : zs.length = T.tabs.length := by rw [← hzs, List.length_mergeSort, bytesS_len]
    rw [← hzl] at o3
    have O3 := Lib.hid o3
    have HZ := Lib.hid hzl
    clear o3 b3 hzs hzl
    go_wp2_with fail
    refine (compactS_any g c2 T.tabs.length zs w.heap.size _ HZ.out O3.out (by rw [HZ.out]; omega)).mono ?_
    rintro e w4 ⟨rfl, o4, b4⟩
    have B4 := Lib.hid (B3.out.trans b4)
    have e4 : compact zs = bytesS (tabsOf T.tabs) := by rw [← ZS.out]; exact compact_sorted _
    rw [e4] at o4
    rw [e4, bytesS_len]
    have O4 := Lib.hid o4
    clear o4 b4 e4
    go_wp2_with fail
    go_ret
    refine ⟨_, _, rfl, ?_, B4.out⟩
    have := O4.out
    unfold bytesS at this
    rw [map_encStr, List.length_map] at this
    exact this
end Go.Proofs.Ytfbgflmolkgopaa
