/-
  The width of a tree under a map of names to widths. Plain facts; no walk. A tree of the program in memory, its columns where the plan has them; contract of impl.grow in these words. For every slice of nodes and every place. Contracts of hasCols, sumCols, fitsOver and widthOver. For every node. Contract of widthOver. For every node. Contract of fitsOver at nodes of two children. For every node. Contract of tree.width. For every tree.
-/
import Derived.Test.YtdkiaahcmoafdaaGreatTbP
import Derived.Test.YtdkiaahcmoafdaaGreatNodes
import Derived.Test.YtdkiaahcmoafdaaGreatGrow
import Derived.Test.YtdkiaahcmoafdaaGreatITree
import Derived.Test.YtdkiaahcmoafdaaGreatMapT
import Derived.Deep.QuietTactic
import Derived.Deep.RegionHeld3
import Derived.Test.YtdkiaahcmoafdaaGreatKids
namespace Go.Proofs.YtdkiaahcmoafdaaGreat
set_option linter.unusedSimpArgs false
set_option linter.unusedVariables false

/-- What a node of one child gives over a child of width w. -/
def over1 (n : Nd) (w : Int) : Int :=
  if n.kind = 1 ∨ n.kind = 5 then (if w ≤ n.col then -1 else w)
  else if n.kind = 2 then (if n.cols.all (fun x => decide (x < w)) = true then (n.cols.length : Int) else -1)
  else w
/-- What a node of two children gives. -/
def over2 (n : Nd) (w v : Int) : Int :=
  if n.kind = 3 then (if w ≤ n.col ∨ v ≤ n.num ∨ 64 < w + v then -1 else w + v)
  else (if w = v then w else -1)
def widT (f : Fn) : Tr → Int
  | .t0 n _ _ => (f n.name.data.toList).getD (-1)
  | .t1 n _ _ c => if widT f c = -1 then -1 else over1 n (widT f c)
  | .t2 n _ _ c d => if widT f c = -1 then -1 else if widT f d = -1 then -1 else over2 n (widT f c) (widT f d)
/-- The widths of a schema's tables may be. -/
def FnOk (f : Fn) : Prop := ∀ k v, f k = some v → 1 ≤ v ∧ v ≤ 6
theorem fnOk_schema {l : List Tb} (h : schemaB l = true) : FnOk (fnOf l) := by
  obtain ⟨_, h2, h3⟩ := schemaB_iff.1 h
  intro k v hv
  obtain ⟨t, ht, _, rfl⟩ := ((told_self l h3).2 k v).1 hv
  have := h2 t ht
  unfold tableB at this
  rw [Bool.and_eq_true, decide_eq_true_eq] at this
  exact this.2
/-- All its nodes are nodes. -/
def Tr.nodes : Tr → Prop
  | t0 n _ _ => nodeB n = true ∧ n.kind = 0
  | t1 n _ _ c => (nodeB n = true ∧ arity n.kind = 1) ∧ c.nodes
  | t2 n _ _ c d => (nodeB n = true ∧ arity n.kind = 2) ∧ c.nodes ∧ d.nodes
theorem cols_of_nodeB {n : Nd} (h : nodeB n = true) (hk : n.kind = 2) : 1 ≤ n.cols.length ∧ n.cols.length ≤ 6 := by
  unfold nodeB at h
  rw [if_neg (by omega), if_neg (by omega), if_pos hk, Bool.and_eq_true, decide_eq_true_eq] at h
  exact ⟨h.1.2.2.2.2.2.1, h.1.2.2.2.2.2.2⟩
theorem over1_wide {n : Nd} {w : Int} (h : nodeB n = true) (h1 : 1 ≤ w) (h2 : w ≤ 64) : over1 n w = -1 ∨ (1 ≤ over1 n w ∧ over1 n w ≤ 64) := by
  unfold over1
  split
  · split
    · exact .inl rfl
    · exact .inr ⟨h1, h2⟩
  · split
    · rename_i hk
      have := cols_of_nodeB h hk
      split
      · right; omega
      · exact .inl rfl
    · exact .inr ⟨h1, h2⟩
theorem over2_wide {n : Nd} {w v : Int} (h1 : 1 ≤ w) (h2 : w ≤ 64) (h3 : 1 ≤ v) : over2 n w v = -1 ∨ (1 ≤ over2 n w v ∧ over2 n w v ≤ 64) := by
  unfold over2
  split
  · split
    · exact .inl rfl
    · right; omega
  · split
    · exact .inr ⟨h1, h2⟩
    · exact .inl rfl
theorem widT_wide {f : Fn} (hf : FnOk f) : ∀ T : Tr, T.nodes → widT f T = -1 ∨ (1 ≤ widT f T ∧ widT f T ≤ 64) := by
  intro T
  induction T with
  | t0 n pl en =>
    intro _
    unfold widT
    cases hv : f n.name.data.toList with
    | none => exact .inl rfl
    | some v => have := hf _ _ hv; right; simp only [Option.getD_some]; omega
  | t1 n pl en c ih =>
    intro h
    unfold widT
    split
    · exact .inl rfl
    · rename_i hc
      rcases ih h.2 with h1 | ⟨h1, h2⟩
      · exact absurd h1 hc
      · exact over1_wide h.1.1 h1 h2
  | t2 n pl en c d ihc ihd =>
    intro h
    unfold widT
    split
    · exact .inl rfl
    · rename_i hc
      split
      · exact .inl rfl
      · rename_i hd
        rcases ihc h.2.1 with h1 | ⟨h1, h2⟩
        · exact absurd h1 hc
        rcases ihd h.2.2 with h3 | ⟨h3, h4⟩
        · exact absurd h3 hd
        exact over2_wide h1 h2 h3
end Go.Proofs.YtdkiaahcmoafdaaGreat
namespace Go.Proofs.YtdkiaahcmoafdaaGreat
open Go.RowKit
set_option linter.unusedSimpArgs false
set_option linter.unusedVariables false

/-- The four cells of a tree's node. -/
def HdQ (w0 w : World) (lo hi b : Nat) (n : Nd) (pl en : Nat) (below : Value) : Prop :=
  lo ≤ b ∧ b < hi ∧ ∃ a c, w.cell? ⟨b, 0, none⟩ = some (kindV n a c) ∧ w.cell? ⟨b, 1, none⟩ = some (.int .i64 pl) ∧ w.cell? ⟨b, 2, none⟩ = some (.int .i64 en) ∧ w.cell? ⟨b, 3, none⟩ = some below ∧ (Rd w0 .i64 a n.cols ∧ n.cols.length ≤ maxLen)

/-- The tree T lies at block b, all of it between lo and hi. -/
def TrQ (w0 w : World) (lo hi : Nat) : Tr → Nat → Prop
  | .t0 n pl en, b => HdQ w0 w lo hi b n pl en (.slice none 0 0)
  | .t1 n pl en c, b => ∃ g cap bc, HdQ w0 w lo hi b n pl en (.slice (some ⟨g, 0, none⟩) 1 cap) ∧ (lo ≤ g ∧ g < hi) ∧ w.cell? ⟨g, 0, none⟩ = some (.pointer (some ⟨bc, 0, none⟩)) ∧ TrQ w0 w lo hi c bc
  | .t2 n pl en c d, b => ∃ g cap bc bd, HdQ w0 w lo hi b n pl en (.slice (some ⟨g, 0, none⟩) 2 cap) ∧ (lo ≤ g ∧ g < hi) ∧ w.cell? ⟨g, 0, none⟩ = some (.pointer (some ⟨bc, 0, none⟩)) ∧ w.cell? ⟨g, 1, none⟩ = some (.pointer (some ⟨bd, 0, none⟩)) ∧ TrQ w0 w lo hi c bc ∧ TrQ w0 w lo hi d bd

theorem HdQ.keep {w0 w w' : World} {lo hi b : Nat} {n : Nd} {pl en : Nat} {v : Value} (h : HdQ w0 w lo hi b n pl en v) (hk : ∀ p : Addr, lo ≤ p.block → p.block < hi → w'.cell? p = w.cell? p) : HdQ w0 w' lo hi b n pl en v := by
  obtain ⟨h1, h2, a, c, c0, c1, c2, c3, q⟩ := h
  exact ⟨h1, h2, a, c, (hk _ h1 h2).trans c0, (hk _ h1 h2).trans c1, (hk _ h1 h2).trans c2, (hk _ h1 h2).trans c3, q⟩
theorem TrQ.keep {w0 w w' : World} {lo hi : Nat} (hk : ∀ p : Addr, lo ≤ p.block → p.block < hi → w'.cell? p = w.cell? p) : ∀ (T : Tr) (b : Nat), TrQ w0 w lo hi T b → TrQ w0 w' lo hi T b
  | .t0 n pl en, b, h => HdQ.keep h hk
  | .t1 n pl en c, b, ⟨g, cap, bc, h1, h2, h3, h4⟩ => ⟨g, cap, bc, h1.keep hk, h2, (hk _ h2.1 h2.2).trans h3, TrQ.keep hk c bc h4⟩
  | .t2 n pl en c d, b, ⟨g, cap, bc, bd, h1, h2, h3, h4, h5, h6⟩ => ⟨g, cap, bc, bd, h1.keep hk, h2, (hk _ h2.1 h2.2).trans h3, (hk _ h2.1 h2.2).trans h4, TrQ.keep hk c bc h5, TrQ.keep hk d bd h6⟩
theorem HdQ.wide {w0 w : World} {lo hi lo' hi' b : Nat} {n : Nd} {pl en : Nat} {v : Value} (h : HdQ w0 w lo hi b n pl en v) (h1 : lo' ≤ lo) (h2 : hi ≤ hi') : HdQ w0 w lo' hi' b n pl en v :=
  ⟨Nat.le_trans h1 h.1, Nat.lt_of_lt_of_le h.2.1 h2, h.2.2⟩
theorem TrQ.wide {w0 w : World} {lo hi lo' hi' : Nat} (h1 : lo' ≤ lo) (h2 : hi ≤ hi') : ∀ (T : Tr) (b : Nat), TrQ w0 w lo hi T b → TrQ w0 w lo' hi' T b
  | .t0 n pl en, b, h => HdQ.wide h h1 h2
  | .t1 n pl en c, b, ⟨g, cap, bc, k1, k2, k3, k4⟩ => ⟨g, cap, bc, k1.wide h1 h2, ⟨Nat.le_trans h1 k2.1, Nat.lt_of_lt_of_le k2.2 h2⟩, k3, TrQ.wide h1 h2 c bc k4⟩
  | .t2 n pl en c d, b, ⟨g, cap, bc, bd, k1, k2, k3, k4, k5, k6⟩ => ⟨g, cap, bc, bd, k1.wide h1 h2, ⟨Nat.le_trans h1 k2.1, Nat.lt_of_lt_of_le k2.2 h2⟩, k3, k4, TrQ.wide h1 h2 c bc k5, TrQ.wide h1 h2 d bd k6⟩
theorem TrQ.below {w0 w w' : World} {lo hi : Nat} {T : Tr} {b : Nat} (h : TrQ w0 w lo hi T b) (hh : hi ≤ w.heap.size) (hb : Below w.heap.size w w') : TrQ w0 w' lo hi T b :=
  TrQ.keep (fun _ _ hp => hb.cell (Nat.lt_of_lt_of_le hp hh)) T b h
theorem TrQ.head {w0 w : World} {lo hi : Nat} {T : Tr} {b : Nat} (h : TrQ w0 w lo hi T b) : ∃ v, HdQ w0 w lo hi b T.nd T.pl T.en v := by
  cases T with
  | t0 n pl en => exact ⟨_, h⟩
  | t1 n pl en c => obtain ⟨g, cap, bc, h1, _⟩ := h; exact ⟨_, h1⟩
  | t2 n pl en c d => obtain ⟨g, cap, bc, bd, h1, _⟩ := h; exact ⟨_, h1⟩
theorem TrQ.lt {w0 w : World} {lo hi : Nat} {T : Tr} {b : Nat} (h : TrQ w0 w lo hi T b) : lo ≤ b ∧ b < hi := by
  obtain ⟨v, h1, h2, _⟩ := h.head; exact ⟨h1, h2⟩

/-- What growing answers. -/
def GrowPostQ (w0 w : World) : Option Tr → Ending → World → Prop
  | none, e, w' => e = .returned (.pointer none) ∧ Below w.heap.size w w'
  | some T, e, w' => ∃ b, e = .returned (.pointer (some ⟨b, 0, none⟩)) ∧ TrQ w0 w' w.heap.size w'.heap.size T b ∧ Below w.heap.size w w'

theorem TrQ.tr {w0 w : World} {lo hi : Nat} : ∀ (T : Tr) (b : Nat), TrQ w0 w lo hi T b → TrAt w lo hi T b
  | .t0 n pl en, b, ⟨h1, h2, a, c, c0, c1, c2, c3, _⟩ => ⟨h1, h2, a, c, c0, c1, c2, c3⟩
  | .t1 n pl en c, b, ⟨g, cap, bc, ⟨h1, h2, a, c', c0, c1, c2, c3, _⟩, k2, k3, k4⟩ => ⟨g, cap, bc, ⟨h1, h2, a, c', c0, c1, c2, c3⟩, k2, k3, TrQ.tr c bc k4⟩
  | .t2 n pl en c d, b, ⟨g, cap, bc, bd, ⟨h1, h2, a, c', c0, c1, c2, c3, _⟩, k2, k3, k4, k5, k6⟩ => ⟨g, cap, bc, bd, ⟨h1, h2, a, c', c0, c1, c2, c3⟩, k2, k3, k4, TrQ.tr c bc k5, TrQ.tr d bd k6⟩
theorem put2_hdQ {w0 w : World} {lo tb : Nat} {v3 x3 : Value} {x2 : Value} {n : Nd} {a : Option Addr} {c : Nat} {pl en : Nat} (h0 : w.cell? ⟨tb, 0, none⟩ = some (kindV n a c)) (h1 : w.cell? ⟨tb, 1, none⟩ = some (.int .i64 pl))
    (h2 : w.cell? ⟨tb, 2, none⟩ = some x2) (h3 : w.cell? ⟨tb, 3, none⟩ = some x3) (hlo : lo ≤ tb) (q : Rd w0 .i64 a n.cols ∧ n.cols.length ≤ maxLen) : HdQ w0 (put2 w tb v3 (.int .i64 en)) lo w.heap.size tb n pl en v3 := by
  have hlt : tb < w.heap.size := World.block_lt_of_cell? w ⟨tb, 0, none⟩ h0
  refine ⟨hlo, hlt, a, c, ?_, ?_, ?_, ?_, q⟩
  · unfold put2; rw [World.cell?_setCell_other _ _ _ _ (by simp), World.cell?_setCell_other _ _ _ _ (by simp)]; exact h0
  · unfold put2; rw [World.cell?_setCell_other _ _ _ _ (by simp), World.cell?_setCell_other _ _ _ _ (by simp)]; exact h1
  · unfold put2
    exact World.cell?_setCell_same _ _ _ ((World.cell?_setCell_other _ _ _ _ (by simp)).trans h2)
  · unfold put2; rw [World.cell?_setCell_other _ _ _ _ (by simp)]
    exact World.cell?_setCell_same _ _ _ h3

theorem growT_nodes (p : List Nd) : ∀ (f k : Nat) (T : Tr), growT p f k = some T → T.nodes := by
  intro f
  induction f with
  | zero => intro k T h; cases h
  | succ f ih =>
    intro k T h
    simp only [growT] at h
    cases hp : p[k]? with
    | none => rw [hp] at h; cases h
    | some n =>
      rw [hp] at h
      simp only at h
      cases hn : nodeB n with
      | false => rw [hn, if_pos rfl] at h; cases h
      | true =>
        rw [hn] at h
        simp only [Bool.true_eq_false, if_false] at h
        split at h
        · rename_i ha
          cases hc : growT p f (k + 1) with
          | none => rw [hc] at h; cases h
          | some c =>
            rw [hc] at h; simp only [Option.some.injEq] at h; subst h
            exact ⟨⟨hn, ha⟩, ih _ _ hc⟩
        · split at h
          · rename_i ha
            cases hc : growT p f (k + 1) with
            | none => rw [hc] at h; cases h
            | some c =>
              rw [hc] at h; simp only at h
              cases hd : growT p f c.en with
              | none => rw [hd] at h; cases h
              | some d =>
                rw [hd] at h; simp only [Option.some.injEq] at h; subst h
                exact ⟨⟨hn, ha⟩, ih _ _ hc, ih _ _ hd⟩
          · rename_i h1 h2
            simp only [Option.some.injEq] at h; subst h
            refine ⟨hn, ?_⟩
            have := arity_of_nodeB hn
            have hk := kind_of_nodeB hn
            rcases this with h3 | h3 | h3
            · have hc : n.kind = 0 ∨ n.kind = 1 ∨ n.kind = 2 ∨ n.kind = 3 ∨ n.kind = 4 ∨ n.kind = 5 ∨ n.kind = 6 ∨ n.kind = 7 := by omega
              rcases hc with h | h | h | h | h | h | h | h
              · exact h
              all_goals (exfalso; rw [h] at h3; revert h3; decide)
            · exact absurd h3 h1
            · exact absurd h3 h2

set_option maxRecDepth 100000 in
set_option maxHeartbeats 4000000 in
theorem growQ_any (w0 : World) (ao : Option Addr) (c : Nat) (p : List Nd) (hp : Small p) (h0 : RdN w0 ao p) : ∀ (f : Nat) (k : Int) (w : World), Below w0.heap.size w0 w → 0 ≤ k → k ≤ 1048576 → (p.length : Int) ≤ f + k →
    Calls Tryz.prog 43 #[.slice ao p.length c, .int .i64 k] w (GrowPostQ w0 w (growT p f k.toNat)) := by
  have hpl := hp.1
  have HP := Lib.hid hp.2
  have HH0 := Lib.hid h0
  clear hp h0
  intro f
  induction f with
  | zero =>
    intro k w h hk0 hk1 hf
    have hk : (p.length : Int) ≤ k := by omega
    go_enter Tryz.func43, Tryz.ntmps43
    go_wp2_with fail
    go_ret
    exact ⟨rfl, Below.refl _ _⟩
  | succ f ih =>
    intro k w h hk0 hk1 hf
    have IH := Lib.hid ih; clear ih
    by_cases hk : (p.length : Int) ≤ k
    · rw [growT_out (show p.length ≤ k.toNat by omega)]
      go_enter Tryz.func43, Tryz.ntmps43
      go_wp2_with fail
      go_ret
      exact ⟨rfl, Below.refl _ _⟩
    have hk' : k < (p.length : Int) := by omega
    obtain ⟨b, off, n, a, c', rfl, hn, hat00⟩ := HH0.out.at_ (i := k.toNat) (by omega)
    have QQ := Lib.hid (show Rd w0 .i64 a n.cols ∧ n.cols.length ≤ maxLen from ⟨hat00.rd, Nat.le_trans hat00.cap hat00.mx⟩)
    have hat := hat00.below h
    clear hat00
    have H := Lib.hid h; clear h
    have HN := Lib.hid hn
    have hcl := HP.out n (List.mem_of_getElem? hn)
    clear hn hk
    have hat0 := Lib.hid hat
    obtain ⟨c0, c1, c2, c3, c4, c5, c6, rd, cap, mx, nm⟩ := hat
    have RD := Lib.hid rd
    have NK := Lib.hid (fun w => implNodeOk_any n a c' w)
    clear rd cap mx
    cases hnb : nodeB n with
    | false =>
      have HB := Lib.hid hnb; clear hnb
      rw [growT_no HN.out HB.out]
      go_enter Tryz.func43, Tryz.ntmps43
      go_wp2_with fail
      refine (NK.out _ RD.out (by omega) nm).mono ?_
      rintro e w1 ⟨rfl, b1⟩
      rw [HB.out]
      go_wp2_with fail
      go_ret
      exact ⟨rfl, b1⟩
    | true =>
      have HB := Lib.hid hnb; clear hnb
      obtain ⟨t, v, hkv⟩ := kindV_iface HB.out a c'
      have KV := Lib.hid hkv
      have AR := Lib.hid (show ∀ w, Calls Tryz.prog 56 #[.iface t v] w fun e w' => e = .returned (.int .i64 (arity n.kind)) ∧ w = w' from fun w => hkv ▸ arityOf_any n a c' w)
      clear hkv
      have ha := arity_of_nodeB HB.out
      generalize hres : growT p (f + 1) k.toNat = res
      have RES := Lib.hid hres; clear hres
      go_enter Tryz.func43, Tryz.ntmps43
      go_wp2_with fail
      refine (NK.out _ RD.out (by omega) nm).mono ?_
      rintro e w1 ⟨rfl, b1⟩
      rw [HB.out]
      obtain ⟨d0, d1, d2, d3, d4, d5, d6, _⟩ := hat0.out.below b1
      have B1 := Lib.hid b1
      clear b1 c0 c1 c2 c3 c4 c5 c6
      go_wp2_with fail
      refine (kindOf_any n a c' _).mono ?_
      rintro e w2 ⟨rfl, b2⟩
      rw [KV.out]
      have B2 := Lib.hid (below_step B1.out (Nat.le_refl _) b2)
      clear b2 d0 d1 d2 d3 d4 d5 d6
      go_wp2_with fail
      refine (AR.out _).mono ?_
      rintro e w' ⟨rfl, rfl⟩
      have B3 := Lib.hid (show Below w.heap.size w (w2.alloc (.cells #[.iface t v, .int .i64 k, .int .i64 (k + 1), .slice none 0 0] 72)) from B2.out.alloc B2.out.size _)
      have R3 := Lib.hid (below_step H.out (Nat.le_refl _) B3.out)
      rcases ha with ha | ha | ha
      · have HA := Lib.hid ha; clear ha
        rw [HA.out]
        go_wp2_with fail
        refine wp_loop_rounds 1 ?_; rw [rounds_succ]
        go_wp2_with fail
        go_ret
        have e1 : res = some (.t0 n k.toNat (k.toNat + 1)) := RES.out.symm.trans (growT_0 HN.out HB.out (by rw [HA.out]; decide) (by rw [HA.out]; decide))
        rw [e1]
        refine ⟨w2.heap.size, rfl, ⟨B2.out.size, by simp, a, c', ?_, ?_, ?_, ?_, QQ.out⟩, B3.out⟩
        · rw [KV.out]; simp
        · simp; omega
        · simp; omega
        · simp
      · have HA := Lib.hid ha; clear ha
        rw [HA.out]
        go_wp2_with fail
        refine wp_loop_rounds 2 ?_; rw [rounds_succ]
        go_wp2_with fail
        refine (IH.out (k + 1) _ R3.out (by omega) (by omega) (by omega)).mono ?_
        rw [show (k + 1).toNat = k.toNat + 1 from by omega]
        intro e w4 hpost
        cases hc : growT p f (k.toNat + 1) with
        | none =>
          rw [hc] at hpost
          obtain ⟨rfl, b4⟩ := hpost
          have e1 := Lib.hid (RES.out.symm.trans (growT_1n HN.out HA.out hc))
          clear hc
          have T4 := Lib.hid (below_step B3.out (Nat.le_refl _) b4)
          clear b4
          go_wp2_with fail
          go_ret
          rw [e1.out]
          exact ⟨rfl, T4.out⟩
        | some ch =>
          rw [hc] at hpost
          obtain ⟨bc, rfl, tr, b4⟩ := hpost
          have e1 := Lib.hid (RES.out.symm.trans (growT_1s HN.out HB.out HA.out hc))
          clear hc
          have hc4 := fun o => b4.cell (p := ⟨w2.heap.size, o, none⟩) (by simp)
          have hf4 := fun o => b4.frozen (p := ⟨w2.heap.size, o, none⟩) (by simp)
          have hz4 : w2.heap.size < w4.heap.size := by have := b4.size; simp at this; omega
          have T4 := Lib.hid (below_step B3.out (Nat.le_refl _) b4)
          have TR := Lib.hid tr
          have hbc : w2.heap.size < bc := by have := tr.lt.1; simp at this; omega
          have hbc4 : bc < w4.heap.size := tr.lt.2
          obtain ⟨_, _, _, _, _, _, _, hce, _⟩ := tr.head
          clear tr b4
          go_wp2_with (at_builtin; refine wpList_appendV _ rfl (.tmp 48) (.tmp 50) 70 rfl w.heap.size 63 (.pointer none) 8 Tryz.underlying70 Tryz.infoPtr rfl none 0 0 [] rfl rfl OwnV.none_ w4.heap.size 1 (.pointer (some ⟨bc, 0, none⟩)) rfl (cell_one _ _ _) rfl (by simp [maxLen]) (by simp) (by have := T4.out.size; simp; omega) ?_; intro ao' c6 w6 o6 g6 l6; obtain rfl : ao' = some ⟨w4.heap.size + 1, 0, none⟩ := new_row o6 l6; have b6 := below_of_grown g6 (Nat.le_refl _) (by intro g hg; cases hg); have hc6 := fun o => b6.cell (p := ⟨w2.heap.size, o, none⟩) (by simp; omega); have hf6 := fun o => b6.frozen (p := ⟨w2.heap.size, o, none⟩) (by simp; omega); have hd6 := fun o => b6.cell (p := ⟨bc, o, none⟩) (by simp; omega); have O6 := Lib.hid o6; have B6 := Lib.hid b6; clear o6 g6 l6 b6)
          rw [rounds_succ]
          go_wp2_with fail
          go_ret
          rw [e1.out]
          have z6 : w4.heap.size + 1 < (put2 w6 w2.heap.size (.slice (some ⟨w4.heap.size + 1, 0, none⟩) 1 c6) (.int .i64 ch.en)).heap.size := by
            rw [put2_size]; exact ((O6.out.lt _ rfl).2)
          have k0 : w6.cell? ⟨w2.heap.size, 0, none⟩ = some (kindV n a c') := by rw [hc6, World.cell?_alloc_lt _ _ _ (by simp; omega), hc4, KV.out]; simp
          have k1 : w6.cell? ⟨w2.heap.size, 1, none⟩ = some (.int .i64 (k.toNat : Int)) := by rw [hc6, World.cell?_alloc_lt _ _ _ (by simp; omega), hc4]; simp; omega
          have k2 : w6.cell? ⟨w2.heap.size, 2, none⟩ = some (.int .i64 (k + 1)) := by rw [hc6, World.cell?_alloc_lt _ _ _ (by simp; omega), hc4]; simp
          have k3 : w6.cell? ⟨w2.heap.size, 3, none⟩ = some (.slice none 0 0) := by rw [hc6, World.cell?_alloc_lt _ _ _ (by simp; omega), hc4]; simp
          have t6 := (((TR.out.below (Nat.le_refl _) ((Below.refl _ w4).alloc (Nat.le_refl _) _)).below (by simp) B6.out))
          refine ⟨w2.heap.size, rfl, ⟨w4.heap.size + 1, c6, bc, ?_, ⟨?_, z6⟩, ?_, ?_⟩, ?_⟩
          · exact (put2_hdQ k0 k1 k2 k3 B2.out.size QQ.out).wide (Nat.le_refl _) (by rw [← put2_size (v3 := .slice (some ⟨w4.heap.size + 1, 0, none⟩) 1 c6) (v2 := .int .i64 ch.en)]; exact Nat.le_refl _)
          · have := T4.out.size; omega
          · exact (put2_far (by simp; omega)).trans (O6.out.cell 0 (by simp))
          · refine TrQ.wide (lo := w2.heap.size + 1) (hi := w4.heap.size) (by have := B2.out.size; omega) (Nat.le_of_lt (Nat.lt_trans (Nat.lt_succ_self _) z6)) _ _ (TrQ.keep (w := w6) (fun q h1 h2 => put2_far (by omega)) _ _ ?_)
            simpa using t6
          · exact put2_below (below_step (T4.out.alloc T4.out.size _) (Nat.le_refl _) B6.out) B2.out.size
      · have HA := Lib.hid ha; clear ha
        rw [HA.out]
        go_wp2_with fail
        refine wp_loop_rounds 3 ?_; rw [rounds_succ]
        go_wp2_with fail
        refine (IH.out (k + 1) _ R3.out (by omega) (by omega) (by omega)).mono ?_
        rw [show (k + 1).toNat = k.toNat + 1 from by omega]
        intro e w4 hpost
        cases hc : growT p f (k.toNat + 1) with
        | none =>
          rw [hc] at hpost
          obtain ⟨rfl, b4⟩ := hpost
          have e1 := Lib.hid (RES.out.symm.trans (growT_2n HN.out HA.out hc))
          clear hc
          have T4 := Lib.hid (below_step B3.out (Nat.le_refl _) b4)
          clear b4
          go_wp2_with fail
          go_ret
          rw [e1.out]
          exact ⟨rfl, T4.out⟩
        | some ch =>
          rw [hc] at hpost
          obtain ⟨bc, rfl, tr, b4⟩ := hpost
          have HC := Lib.hid hc
          obtain ⟨_, s2, s3, _⟩ := growT_sound p _ _ _ hc
          clear hc
          have hc4 := fun o => b4.cell (p := ⟨w2.heap.size, o, none⟩) (by simp)
          have hf4 := fun o => b4.frozen (p := ⟨w2.heap.size, o, none⟩) (by simp)
          have hz4 : w2.heap.size < w4.heap.size := by have := b4.size; simp at this; omega
          have T4 := Lib.hid (below_step B3.out (Nat.le_refl _) b4)
          have TR := Lib.hid tr
          have hbc : w2.heap.size < bc := by have := tr.lt.1; simp at this; omega
          have hbc4 : bc < w4.heap.size := tr.lt.2
          obtain ⟨_, _, _, _, _, _, _, hce, _⟩ := tr.head
          clear tr b4
          go_wp2_with (at_builtin; refine wpList_appendV _ rfl (.tmp 48) (.tmp 50) 70 rfl w.heap.size 63 (.pointer none) 8 Tryz.underlying70 Tryz.infoPtr rfl none 0 0 [] rfl rfl OwnV.none_ w4.heap.size 1 (.pointer (some ⟨bc, 0, none⟩)) rfl (cell_one _ _ _) rfl (by simp [maxLen]) (by simp) (by have := T4.out.size; simp; omega) ?_; intro ao' c6 w6 o6 g6 l6; obtain rfl : ao' = some ⟨w4.heap.size + 1, 0, none⟩ := new_row o6 l6; have b6 := below_of_grown g6 (Nat.le_refl _) (by intro g hg; cases hg); have hc6 := fun o => b6.cell (p := ⟨w2.heap.size, o, none⟩) (by simp; omega); have hf6 := fun o => b6.frozen (p := ⟨w2.heap.size, o, none⟩) (by simp; omega); have hd6 := fun o => b6.cell (p := ⟨bc, o, none⟩) (by simp; omega); have O6 := Lib.hid o6; have B6 := Lib.hid b6; clear o6 g6 l6 b6)
          rw [rounds_succ]
          go_wp2_with fail
          have k0 : (put2 w6 w2.heap.size (.slice (some ⟨w4.heap.size + 1, 0, none⟩) 1 c6) (.int .i64 ch.en)).cell? ⟨w2.heap.size, 0, none⟩ = some (.iface t v) := by
            unfold put2; rw [World.cell?_setCell_other _ _ _ _ (by simp), World.cell?_setCell_other _ _ _ _ (by simp), hc6, World.cell?_alloc_lt _ _ _ (by simp; omega), hc4]; simp
          have k1 : (put2 w6 w2.heap.size (.slice (some ⟨w4.heap.size + 1, 0, none⟩) 1 c6) (.int .i64 ch.en)).cell? ⟨w2.heap.size, 1, none⟩ = some (.int .i64 k) := by
            unfold put2; rw [World.cell?_setCell_other _ _ _ _ (by simp), World.cell?_setCell_other _ _ _ _ (by simp), hc6, World.cell?_alloc_lt _ _ _ (by simp; omega), hc4]; simp
          have j2 : w6.cell? ⟨w2.heap.size, 2, none⟩ = some (.int .i64 (k + 1)) := by rw [hc6, World.cell?_alloc_lt _ _ _ (by simp; omega), hc4]; simp
          have j3 : w6.cell? ⟨w2.heap.size, 3, none⟩ = some (.slice none 0 0) := by rw [hc6, World.cell?_alloc_lt _ _ _ (by simp; omega), hc4]; simp
          have k2 : (put2 w6 w2.heap.size (.slice (some ⟨w4.heap.size + 1, 0, none⟩) 1 c6) (.int .i64 ch.en)).cell? ⟨w2.heap.size, 2, none⟩ = some (.int .i64 ch.en) := by
            unfold put2; exact World.cell?_setCell_same _ _ _ ((World.cell?_setCell_other _ _ _ _ (by simp)).trans j2)
          have k3 : (put2 w6 w2.heap.size (.slice (some ⟨w4.heap.size + 1, 0, none⟩) 1 c6) (.int .i64 ch.en)).cell? ⟨w2.heap.size, 3, none⟩ = some (.slice (some ⟨w4.heap.size + 1, 0, none⟩) 1 c6) := by
            unfold put2; rw [World.cell?_setCell_other _ _ _ _ (by simp)]; exact World.cell?_setCell_same _ _ _ j3
          have kf : ∀ o, (put2 w6 w2.heap.size (.slice (some ⟨w4.heap.size + 1, 0, none⟩) 1 c6) (.int .i64 ch.en)).frozen? ⟨w2.heap.size, o, none⟩ = false := fun o => by
            unfold put2; go_simp
          have O7 := Lib.hid (show OwnV (put2 w6 w2.heap.size (.slice (some ⟨w4.heap.size + 1, 0, none⟩) 1 c6) (.int .i64 ch.en)) w.heap.size 63 (some ⟨w4.heap.size + 1, 0, none⟩) c6 [.pointer (some ⟨bc, 0, none⟩)] from O6.out.keep fun x hx _ => put2_block (by cases hx; simp; omega))
          have T7 := Lib.hid (put2_below (tb := w2.heap.size) (v3 := .slice (some ⟨w4.heap.size + 1, 0, none⟩) 1 c6) (v2 := .int .i64 ch.en) (below_step (T4.out.alloc T4.out.size _) (Nat.le_refl _) B6.out) B2.out.size)
          have TR7 := Lib.hid (show TrQ w0 (put2 w6 w2.heap.size (.slice (some ⟨w4.heap.size + 1, 0, none⟩) 1 c6) (.int .i64 ch.en)) (w2.heap.size + 1) w4.heap.size ch bc from TrQ.keep (w := w6) (fun q h1 h2 => put2_far (by omega)) _ _ (by simpa using ((TR.out.below (Nat.le_refl _) ((Below.refl _ w4).alloc (Nat.le_refl _) _)).below (by simp) B6.out)))
          have z7 : w4.heap.size + 1 < (put2 w6 w2.heap.size (.slice (some ⟨w4.heap.size + 1, 0, none⟩) 1 c6) (.int .i64 ch.en)).heap.size := by rw [put2_size]; exact ((O6.out.lt _ rfl).2)
          clear hc4 hf4 hc6 hf6 hd6 j2 j3 hce O6 B6 TR T4
          change Calls Tryz.prog 43 _ (put2 w6 w2.heap.size (.slice (some ⟨w4.heap.size + 1, 0, none⟩) 1 c6) (.int .i64 ch.en)) _
          generalize (put2 w6 w2.heap.size (.slice (some ⟨w4.heap.size + 1, 0, none⟩) 1 c6) (.int .i64 ch.en)) = w7 at k0 k1 k2 k3 kf O7 T7 TR7 z7 ⊢
          refine (IH.out (ch.en : Int) _ (below_step H.out (Nat.le_refl _) T7.out) (by omega) (by omega) (by omega)).mono ?_
          rw [Int.toNat_natCast]
          intro e w8 hpost
          cases hd : growT p f ch.en with
          | none =>
            rw [hd] at hpost
            obtain ⟨rfl, b8⟩ := hpost
            have e1 := Lib.hid (RES.out.symm.trans (growT_2sn HN.out HA.out HC.out hd))
            clear hd
            have T8 := Lib.hid (below_step T7.out (Nat.le_refl _) b8)
            clear b8
            go_wp2_with fail
            go_ret
            rw [e1.out]
            exact ⟨rfl, T8.out⟩
          | some dh =>
            rw [hd] at hpost
            obtain ⟨bd, rfl, tr, b8⟩ := hpost
            have e1 := Lib.hid (RES.out.symm.trans (growT_2ss HN.out HB.out HA.out HC.out hd))
            clear hd
            have hc8 := fun o => b8.cell (p := ⟨w2.heap.size, o, none⟩) (by simp; omega)
            have hf8 := fun o => b8.frozen (p := ⟨w2.heap.size, o, none⟩) (by simp; omega)
            have hz8 : w7.heap.size ≤ w8.heap.size := b8.size
            have hz28 : w2.heap.size < w8.heap.size := by omega
            have hz2d : w2.heap.size < bd := by have := tr.lt.1; omega
            have hz2d' : bd ≠ w2.heap.size := by omega
            have T8 := Lib.hid (below_step T7.out (Nat.le_refl _) b8)
            have O8 := Lib.hid (O7.out.below b8)
            have TR8 := Lib.hid (TR7.out.below (by omega) b8)
            have TD := Lib.hid tr
            have hbd : w7.heap.size ≤ bd := tr.lt.1
            have hbd8 : bd < w8.heap.size := tr.lt.2
            obtain ⟨_, _, _, _, _, _, _, hde, _⟩ := tr.head
            clear tr b8
            go_wp2_with (at_builtin; refine wpList_appendV _ rfl (.tmp 48) (.tmp 50) 70 rfl w.heap.size 63 (.pointer none) 8 Tryz.underlying70 Tryz.infoPtr rfl (some ⟨w4.heap.size + 1, 0, none⟩) c6 1 [.pointer (some ⟨bc, 0, none⟩)] rfl rfl (O8.out.alloc _) w8.heap.size 1 (.pointer (some ⟨bd, 0, none⟩)) rfl (cell_one _ _ _) rfl (by simp [maxLen]) (by simp) (by have := T8.out.size; simp; omega) ?_; intro ao' c10 w10 o10 g10 l10; obtain ⟨g', rfl, hg'⟩ := row_of l10; have b10 := below_of_grown (B := w4.heap.size + 1) g10 (by simp; omega) (by intro g hg; simp at hg; omega); have hc10 := fun o => b10.cell (p := ⟨w2.heap.size, o, none⟩) (by simp; omega); have hf10 := fun o => b10.frozen (p := ⟨w2.heap.size, o, none⟩) (by simp; omega); have hd10 := fun o => World.cell?_of_block (a := ⟨bd, o, none⟩) (g10.block bd (by simp; omega) (by simp; omega)); have O10 := Lib.hid o10; have B10 := Lib.hid b10; have G10 := Lib.hid g10; clear o10 g10 l10 b10)
            rw [rounds_succ]
            go_wp2_with fail
            go_ret
            rw [e1.out]
            have g10b := O10.out.lt _ rfl
            simp only at g10b
            have z8 : w8.heap.size < w10.heap.size := by have := G10.out.size; simp at this; omega
            have q0 : w10.cell? ⟨w2.heap.size, 0, none⟩ = some (kindV n a c') := by rw [hc10, World.cell?_alloc_lt _ _ _ (by simp; omega), hc8, k0, KV.out]
            have q1 : w10.cell? ⟨w2.heap.size, 1, none⟩ = some (.int .i64 (k.toNat : Int)) := by rw [hc10, World.cell?_alloc_lt _ _ _ (by simp; omega), hc8, k1]; simp; omega
            have q2 : w10.cell? ⟨w2.heap.size, 2, none⟩ = some (.int .i64 ch.en) := by rw [hc10, World.cell?_alloc_lt _ _ _ (by simp; omega), hc8, k2]
            have q3 : w10.cell? ⟨w2.heap.size, 3, none⟩ = some (.slice (some ⟨w4.heap.size + 1, 0, none⟩) 1 c6) := by rw [hc10, World.cell?_alloc_lt _ _ _ (by simp; omega), hc8, k3]
            have hsz : (put2 w10 w2.heap.size (.slice (some ⟨g', 0, none⟩) 2 c10) (.int .i64 dh.en)).heap.size = w10.heap.size := put2_size
            have tc : TrQ w0 w10 (w2.heap.size + 1) w4.heap.size ch bc := TrQ.keep (w := w8.alloc (.cells #[.pointer (some ⟨bd, 0, none⟩)] 63)) (fun q h1 h2 => B10.out.cell (by omega)) _ _ (TR8.out.below (by omega) ((Below.refl _ w8).alloc (Nat.le_refl _) _))
            have td : TrQ w0 w10 w7.heap.size w8.heap.size dh bd := TrQ.keep (w := w8.alloc (.cells #[.pointer (some ⟨bd, 0, none⟩)] 63)) (fun q h1 h2 => World.cell?_of_block (G10.out.block q.block (by simp; omega) (by simp; omega))) _ _ (TD.out.below (Nat.le_refl _) ((Below.refl _ w8).alloc (Nat.le_refl _) _))
            have hlo := B2.out.size
            have hne : g' ≠ w2.heap.size := by omega
            refine ⟨w2.heap.size, rfl, ⟨g', c10, bc, bd, ?_, ⟨g10b.1, ?_⟩, ?_, ?_, ?_, ?_⟩, ?_⟩
            · exact (put2_hdQ q0 q1 q2 q3 hlo QQ.out).wide (Nat.le_refl _) (Nat.le_of_eq hsz.symm)
            · exact Nat.lt_of_lt_of_le g10b.2 (Nat.le_of_eq hsz.symm)
            · exact (put2_far hne).trans (O10.out.cell 0 (by simp))
            · exact (put2_far hne).trans (O10.out.cell 1 (by simp))
            · exact TrQ.wide (by omega) (Nat.le_trans (show w4.heap.size ≤ w10.heap.size by omega) (Nat.le_of_eq hsz.symm)) _ _ (TrQ.keep (w := w10) (fun q h1 h2 => put2_far (by omega)) _ _ tc)
            · exact TrQ.wide (by omega) (Nat.le_trans (show w8.heap.size ≤ w10.heap.size by omega) (Nat.le_of_eq hsz.symm)) _ _ (TrQ.keep (w := w10) (fun q h1 h2 => put2_far (by omega)) _ _ td)
            · refine put2_below ?_ hlo
              exact (T8.out.alloc T8.out.size _).grown G10.out (by have := T8.out.size; simp; omega) (by intro g hg; simp at hg; omega)
set_option maxHeartbeats 1600000 in
theorem treeOfQ_any (ao : Option Addr) (c : Nat) (p : List Nd) (hp : Small p) (w : World) (h : RdN w ao p) :
    Calls Tryz.prog 32 #[.slice ao p.length c] w (GrowPostQ w w (treeN p)) := by
  have H := Lib.hid h; clear h
  have hpl := hp.1
  have SM := Lib.hid hp; clear hp
  by_cases h40 : 40 < p.length
  · have E : treeN p = none := by unfold treeN; rw [if_neg (by omega)]
    rw [E]
    have h4 : (40 : Int) < p.length := by omega
    go_enter Tryz.func32, Tryz.ntmps32
    go_wp2_with fail
    go_ret
    exact ⟨rfl, Below.refl _ _⟩
  · have h4 : (p.length : Int) ≤ 40 := by omega
    generalize hres : treeN p = res
    have RES := Lib.hid hres; clear hres
    go_enter Tryz.func32, Tryz.ntmps32
    go_wp2_with fail
    refine (growQ_any w ao c p SM.out H.out p.length 0 _ (Below.refl _ _) (by omega) (by omega) (by omega)).mono ?_
    rw [show (0 : Int).toNat = 0 from rfl]
    intro e w1 hpost
    cases hg : growT p p.length 0 with
    | none =>
      rw [hg] at hpost
      obtain ⟨rfl, b1⟩ := hpost
      have E := Lib.hid (RES.out.symm.trans (show treeN p = none by unfold treeN; rw [if_pos (by omega), hg]))
      clear hg
      go_wp2_with fail
      go_ret
      rw [E.out]
      exact ⟨rfl, b1⟩
    | some T =>
      rw [hg] at hpost
      obtain ⟨b, rfl, tr, b1⟩ := hpost
      have TR := Lib.hid tr
      have DE := Lib.hid (depth_any T w1 _ _ b (TrQ.tr _ _ tr) (by have := depth_le p _ _ _ hg; omega))
      obtain ⟨v, _, _, a, c', c0, c1, c2, c3, _⟩ := tr.head
      have B1 := Lib.hid b1
      clear tr b1
      have HG := Lib.hid hg; clear hg
      by_cases he : T.en = p.length
      · have he1 : ((T.en : Int) != (p.length : Int)) = false := by simp [he]
        by_cases hd : T.depth ≤ 10
        · have hd1 : (T.depth : Int) ≤ 10 := by omega
          have E := Lib.hid (RES.out.symm.trans (show treeN p = some T by unfold treeN; rw [if_pos (by omega), HG.out]; simp only; rw [if_pos ⟨he, hd⟩]))
          clear he hd
          go_wp2_with (go_at_call 44; refine DE.out.mono ?_; rintro e w' ⟨rfl, rfl⟩)
          go_ret
          rw [E.out]
          exact ⟨b, rfl, TR.out, B1.out⟩
        · have hd1 : (10 : Int) < T.depth := by omega
          have E := Lib.hid (RES.out.symm.trans (show treeN p = none by unfold treeN; rw [if_pos (by omega), HG.out]; simp only; rw [if_neg (by omega)]))
          clear he hd
          go_wp2_with (go_at_call 44; refine DE.out.mono ?_; rintro e w' ⟨rfl, rfl⟩)
          go_ret
          rw [E.out]
          exact ⟨rfl, B1.out⟩
      · have he1 : ((T.en : Int) != (p.length : Int)) = true := by simp; omega
        have E := Lib.hid (RES.out.symm.trans (show treeN p = none by unfold treeN; rw [if_pos (by omega), HG.out]; simp only; rw [if_neg (by omega)]))
        clear he
        go_wp2_with fail
        go_ret
        rw [E.out]
        exact ⟨rfl, B1.out⟩
end Go.Proofs.YtdkiaahcmoafdaaGreat
namespace Go.Proofs.YtdkiaahcmoafdaaGreat
open Go.RowKit Go.Maps
set_option linter.unusedSimpArgs false
set_option linter.unusedVariables false

theorem rd_one {w : World} {b : Nat} {z : Int} (h : w.cell? ⟨b, 0, none⟩ = some (.int .i64 z)) : Rd w .i64 (some ⟨b, 0, none⟩) [z] :=
  .inr ⟨b, 0, rfl, fun i hi => by obtain rfl : i = 0 := (by simpa using hi); simpa using h⟩

set_option maxHeartbeats 1000000 in
theorem hasCols_any (v : Int) (a : Option Addr) (c : Nat) (l : List Int) (w : World) (h : Rd w .i64 a l) (hl : l.length ≤ maxLen) :
    Calls Tryz.prog 57 #[.int .i64 v, .slice a l.length c] w fun e w' => e = .returned (.bool (l.all fun x => decide (x < v))) ∧ w = w' := by
  unfold maxLen at hl
  rcases h with rfl | ⟨b, off, rfl, hc⟩
  · go_enter Tryz.func57, Tryz.ntmps57
    go_wp2_with fail
    refine wp_loop_rounds 1 ?_; rw [rounds_succ]
    go_wp2_with fail
    go_ret
    exact ⟨rfl, rfl⟩
  · have HC := Lib.hid hc; clear hc
    go_enter Tryz.func57, Tryz.ntmps57
    go_wp2_with fail
    go_loop [9] (fun i => ∃ j : Nat, j ≤ l.length ∧ i = .int .i64 j ∧ (l.take j).all (fun x => decide (x < v)) = true) (fun i => l.length - (intOf i).toNat)
    case atStart => exact ⟨0, Nat.zero_le _, rfl, rfl⟩
    case round =>
      obtain ⟨j, hj, rfl, ha⟩ := hrel
      have AL := Lib.hid ha; clear ha
      by_cases hlt : j < l.length
      · have hcj := HC.out j hlt
        have hx : l[j]? = some (l.getD j 0) := by rw [List.getD_eq_getElem?_getD, List.getElem?_eq_getElem hlt]; rfl
        generalize l.getD j 0 = x at hcj hx
        by_cases hxv : x < v
        · have E := Lib.hid (show (l.take (j + 1)).all (fun x => decide (x < v)) = true by rw [List.take_add_one, hx, List.all_append, AL.out]; simp [hxv])
          clear hx
          go_wp2
          go_round
          case rel => exact ⟨j + 1, by omega, by go_num, E.out⟩
          case measure => simp [intOf]; omega
        · have E := Lib.hid (show (l.all fun x => decide (x < v)) = false by rw [List.all_eq_false]; exact ⟨x, List.mem_of_getElem? hx, by simp [hxv]⟩)
          have hvx : v ≤ x := by omega
          clear hx
          go_wp2
          go_ret
          exact ⟨ret_bool E.out.symm, rfl⟩
      · obtain rfl : j = l.length := by omega
        have E := Lib.hid (show (l.all fun x => decide (x < v)) = true by have := AL.out; rwa [List.take_length] at this)
        go_wp2
        go_ret
        exact ⟨ret_bool E.out.symm, rfl⟩

set_option maxHeartbeats 1000000 in
theorem sumCols_any (g c : Nat) (x y : Int) (w : World) (h0 : w.cell? ⟨g, 0, none⟩ = some (.int .i64 x)) (h1 : w.cell? ⟨g, 1, none⟩ = some (.int .i64 y)) (hx : 0 ≤ x) (hx' : x ≤ 64) (hy : 0 ≤ y) (hy' : y ≤ 64) :
    Calls Tryz.prog 58 #[.slice (some ⟨g, 0, none⟩) 2 c] w fun e w' => e = .returned (.int .i64 (if 64 < x + y then -1 else x + y)) ∧ w = w' := by
  by_cases h : 64 < x + y
  · rw [if_pos h]
    go_enter Tryz.func58, Tryz.ntmps58
    go_wp2_with fail
    refine wp_loop_rounds 3 ?_; rw [rounds_succ]
    go_wp2_with fail
    rw [rounds_succ]
    go_wp2_with fail
    rw [rounds_succ]
    go_wp2_with fail
    go_ret
    exact ⟨rfl, rfl⟩
  · rw [if_neg h]
    have h' : x + y ≤ 64 := by omega
    go_enter Tryz.func58, Tryz.ntmps58
    go_wp2_with fail
    refine wp_loop_rounds 3 ?_; rw [rounds_succ]
    go_wp2_with fail
    rw [rounds_succ]
    go_wp2_with fail
    rw [rounds_succ]
    go_wp2_with fail
    go_ret
    exact ⟨rfl, rfl⟩

def fits1 (n : Nd) (v : Int) : Bool := if n.kind = 1 ∨ n.kind = 5 then decide (n.col < v) else if n.kind = 2 then n.cols.all (fun x => decide (x < v)) else true
def fits2 (n : Nd) (v u : Int) : Bool := if n.kind = 3 then decide (n.col < v) && decide (n.num < u) else decide (v = u)
theorem kinds1 {n : Nd} (h : arity n.kind = 1) : n.kind = 1 ∨ n.kind = 2 ∨ n.kind = 5 ∨ n.kind = 6 ∨ n.kind = 7 := by
  unfold arity at h; split at h
  · omega
  · split at h
    · omega
    · split at h
      · assumption
      · omega
theorem kinds2 {n : Nd} (h : arity n.kind = 2) : n.kind = 3 ∨ n.kind = 4 := by
  unfold arity at h; split at h
  · omega
  · split at h
    · assumption
    · split at h <;> omega

set_option maxHeartbeats 1000000 in
theorem fits0_any (n : Nd) (a : Option Addr) (c : Nat) (w : World) (hk : n.kind = 0) :
    Calls Tryz.prog 45 #[kindV n a c, .slice none 0 0] w fun e w' => e = .returned (.bool true) ∧ w = w' := by
  rw [show kindV n a c = .iface 101 (.agg #[.string n.name]) by unfold kindV; rw [if_pos hk]]
  have A0 := Tryz.as_scanNode_filterNode
  have A1 := Tryz.as_scanNode_keepNode
  have A2 := Tryz.as_scanNode_joinNode
  have A3 := Tryz.as_scanNode_bothNode
  have A4 := Tryz.as_scanNode_sortNode
  go_enter Tryz.func45, Tryz.ntmps45
  go_wp2_with fail
  go_ret
  exact ⟨rfl, rfl⟩

set_option maxRecDepth 100000 in
set_option maxHeartbeats 4000000 in
theorem fits1_any (n : Nd) (a : Option Addr) (c : Nat) (ha : arity n.kind = 1) (g cb : Nat) (v : Int) (w : World) (h0 : w.cell? ⟨g, 0, none⟩ = some (.int .i64 v)) (rd : Rd w .i64 a n.cols) (hl : n.cols.length ≤ maxLen) :
    Calls Tryz.prog 45 #[kindV n a c, .slice (some ⟨g, 0, none⟩) 1 cb] w fun e w' => e = .returned (.bool (fits1 n v)) ∧ Below w.heap.size w w' := by
  have RD := Lib.hid rd; clear rd
  have hg : g < w.heap.size := World.block_lt_of_cell? w ⟨g, 0, none⟩ h0
  rcases kinds1 ha with hk | hk | hk | hk | hk
  · rw [show kindV n a c = .iface 90 (.agg #[.int .i64 n.col, .int .i64 n.op, .int .i64 n.num, .bool n.slot]) by unfold kindV; simp [hk]]
    have A0 := Tryz.as_filterNode_filterNode
    have E := Lib.hid (show fits1 n v = ([n.col].all fun x => decide (x < v)) by unfold fits1; simp [hk])
    clear hk ha
    go_enter Tryz.func45, Tryz.ntmps45
    go_wp2_with fail
    first | go_region_with (go_at_call 57; refine (hasCols_any v _ _ [n.col] _ (rd_one (by first | exact cell_one _ _ _ | simp)) (by simp [maxLen])).mono ?_; rintro e w' ⟨rfl, rfl⟩) | fail
    all_goals
      go_wp2_with fail
      go_ret
      exact ⟨ret_bool (by first | exact E.out.symm | (rw [E.out]; simp)), (by repeat (first | exact Below.refl _ _ | refine Below.alloc ?_ (by simp <;> omega) _ | refine Below.drew ?_ | refine below_drewN ?_ _))⟩
  · rw [show kindV n a c = .iface 93 (.agg #[.slice a n.cols.length c]) by unfold kindV; simp [hk]]
    have A0 := Tryz.as_keepNode_filterNode
    have A1 := Tryz.as_keepNode_keepNode
    have E := Lib.hid (show fits1 n v = (n.cols.all fun x => decide (x < v)) by unfold fits1; simp [hk])
    clear hk ha
    go_enter Tryz.func45, Tryz.ntmps45
    go_wp2_with fail
    first | go_region_with (go_at_call 57; refine (hasCols_any v a c n.cols _ (RD.out.below (by repeat (first | exact Below.refl _ _ | refine Below.alloc ?_ (by simp <;> omega) _ | refine Below.drew ?_ | refine below_drewN ?_ _))) hl).mono ?_; rintro e w' ⟨rfl, rfl⟩) | fail
    all_goals
      go_wp2_with fail
      go_ret
      exact ⟨ret_bool (by first | exact E.out.symm | (rw [E.out]; simp)), (by repeat (first | exact Below.refl _ _ | refine Below.alloc ?_ (by simp <;> omega) _ | refine Below.drew ?_ | refine below_drewN ?_ _))⟩
  · rw [show kindV n a c = .iface 99 (.agg #[.int .i64 n.col]) by unfold kindV; simp [hk]]
    have A0 := Tryz.as_sortNode_filterNode
    have A1 := Tryz.as_sortNode_keepNode
    have A2 := Tryz.as_sortNode_joinNode
    have A3 := Tryz.as_sortNode_bothNode
    have A4 := Tryz.as_sortNode_sortNode
    have E := Lib.hid (show fits1 n v = ([n.col].all fun x => decide (x < v)) by unfold fits1; simp [hk])
    clear hk ha
    go_enter Tryz.func45, Tryz.ntmps45
    go_wp2_with fail
    first | go_region_with (go_at_call 57; refine (hasCols_any v _ _ [n.col] _ (rd_one (by first | exact cell_one _ _ _ | simp)) (by simp [maxLen])).mono ?_; rintro e w' ⟨rfl, rfl⟩) | fail
    all_goals
      go_wp2_with fail
      go_ret
      exact ⟨ret_bool (by first | exact E.out.symm | (rw [E.out]; simp)), (by repeat (first | exact Below.refl _ _ | refine Below.alloc ?_ (by simp <;> omega) _ | refine Below.drew ?_ | refine below_drewN ?_ _))⟩
  · rw [show kindV n a c = .iface 112 (.agg #[.int .i64 n.num, .bool n.slot]) by unfold kindV; simp [hk]]
    have A0 := Tryz.as_limitNode_filterNode
    have A1 := Tryz.as_limitNode_keepNode
    have A2 := Tryz.as_limitNode_joinNode
    have A3 := Tryz.as_limitNode_bothNode
    have A4 := Tryz.as_limitNode_sortNode
    have E := Lib.hid (show fits1 n v = true by unfold fits1; simp [hk])
    clear hk ha
    go_enter Tryz.func45, Tryz.ntmps45
    go_wp2_with fail
    go_ret
    exact ⟨ret_bool E.out.symm, Below.refl _ _⟩
  · rw [show kindV n a c = .iface 113 (.agg #[]) by unfold kindV; simp [hk]]
    have A0 := Tryz.as_onceNode_filterNode
    have A1 := Tryz.as_onceNode_keepNode
    have A2 := Tryz.as_onceNode_joinNode
    have A3 := Tryz.as_onceNode_bothNode
    have A4 := Tryz.as_onceNode_sortNode
    have E := Lib.hid (show fits1 n v = true by unfold fits1; simp [hk])
    clear hk ha
    go_enter Tryz.func45, Tryz.ntmps45
    go_wp2_with fail
    go_ret
    exact ⟨ret_bool E.out.symm, Below.refl _ _⟩
end Go.Proofs.YtdkiaahcmoafdaaGreat
namespace Go.Proofs.YtdkiaahcmoafdaaGreat
open Go.RowKit Go.Maps
set_option linter.unusedSimpArgs false
set_option linter.unusedVariables false

theorem zeroInt' (w : World) : (zeroValue 3).run Tryz.prog w = .ok (.int .i64 0) w := by kernel_rfl
set_option maxRecDepth 100000 in
set_option maxHeartbeats 1600000 in
theorem wide0_any (n : Nd) (a : Option Addr) (c : Nat) (bm nm : Nat) (f : Fn) (w : World) (hk : n.kind = 0) (h : OwnM w bm nm f) (hs : n.name.size ≤ maxLen) :
    Calls Tryz.prog 46 #[kindV n a c, .map (some bm), .slice none 0 0] w fun e w' => e = .returned (.int .i64 ((f n.name.data.toList).getD (-1))) ∧ Below w.heap.size w w' := by
  rw [show kindV n a c = .iface 101 (.agg #[.string n.name]) by unfold kindV; rw [if_pos hk]]
  obtain ⟨D, hown, hD⟩ := h
  have HD := Lib.hid hD; clear hD hk
  have A0 := Tryz.as_scanNode_scanNode
  cases hv : f n.name.data.toList with
  | none =>
    have HH := Lib.hid (show has D (.string n.name.data.toList) = false by rw [(HD.out.2 _).1, hv]; rfl)
    clear hv
    go_enter Tryz.func46, Tryz.ntmps46
    go_wp2_with (first | (at_lookup; refine wpList_lookup_own_ok_int _ rfl _ _ 60 rfl 9 3 .i64 Tryz.keyed Tryz.underlying60 Tryz.underlying3 (zeroInt' _) bm nm _ rfl (hown.alloc _) _ _ rfl (WideMaps.keyOf_string_mk Tryz.underlying9 hs) ?_; intro x hat hwx; rw [HH.out]) | go_in)
    go_ret
    exact ⟨rfl, (Below.refl _ _).alloc (Nat.le_refl _) _⟩
  | some u =>
    have HH := Lib.hid (show has D (.string n.name.data.toList) = true by rw [(HD.out.2 _).1, hv]; rfl)
    have HA := Lib.hid ((HD.out.2 _).2 u hv (.lit (.int .i64 0)))
    clear hv
    go_enter Tryz.func46, Tryz.ntmps46
    go_wp2_with (first | (at_lookup; refine wpList_lookup_own_ok_int _ rfl _ _ 60 rfl 9 3 .i64 Tryz.keyed Tryz.underlying60 Tryz.underlying3 (zeroInt' _) bm nm _ rfl (hown.alloc _) _ _ rfl (WideMaps.keyOf_string_mk Tryz.underlying9 hs) ?_; intro x hat hwx; rw [HH.out]; rw [HA.out] at hat; obtain rfl : u = x := (by injection hat with hat; injection hat)) | go_in)
    go_ret
    exact ⟨rfl, (Below.refl _ _).alloc (Nat.le_refl _) _⟩

def wide1 (n : Nd) (v : Int) : Int := if n.kind = 2 then (n.cols.length : Int) else v
set_option maxRecDepth 100000 in
set_option maxHeartbeats 1600000 in
theorem wide1_any (n : Nd) (a : Option Addr) (c : Nat) (ha : arity n.kind = 1) (bm : Nat) (g cb : Nat) (v : Int) (w : World) (h0 : w.cell? ⟨g, 0, none⟩ = some (.int .i64 v)) (hl : n.cols.length ≤ maxLen) :
    Calls Tryz.prog 46 #[kindV n a c, .map (some bm), .slice (some ⟨g, 0, none⟩) 1 cb] w fun e w' => e = .returned (.int .i64 (wide1 n v)) ∧ Below w.heap.size w w' := by
  unfold maxLen at hl
  have hg : g < w.heap.size := World.block_lt_of_cell? w ⟨g, 0, none⟩ h0
  rcases kinds1 ha with hk | hk | hk | hk | hk
  · rw [show kindV n a c = .iface 90 (.agg #[.int .i64 n.col, .int .i64 n.op, .int .i64 n.num, .bool n.slot]) by unfold kindV; simp [hk]]
    have A0 := Tryz.as_filterNode_scanNode
    have A1 := Tryz.as_filterNode_keepNode
    have A2 := Tryz.as_filterNode_joinNode
    have E := Lib.hid (show wide1 n v = v from if_neg (by omega))
    clear hk ha
    go_enter Tryz.func46, Tryz.ntmps46
    go_wp2_with fail
    go_ret
    rw [E.out]
    exact ⟨rfl, Below.refl _ _⟩
  · rw [show kindV n a c = .iface 93 (.agg #[.slice a n.cols.length c]) by unfold kindV; simp [hk]]
    have A0 := Tryz.as_keepNode_scanNode
    have A1 := Tryz.as_keepNode_keepNode
    have E := Lib.hid (show wide1 n v = (n.cols.length : Int) from if_pos hk)
    clear hk ha
    go_enter Tryz.func46, Tryz.ntmps46
    go_wp2_with fail
    go_ret
    rw [E.out]
    exact ⟨rfl, (Below.refl _ _).alloc (Nat.le_refl _) _⟩
  · rw [show kindV n a c = .iface 99 (.agg #[.int .i64 n.col]) by unfold kindV; simp [hk]]
    have A0 := Tryz.as_sortNode_scanNode
    have A1 := Tryz.as_sortNode_keepNode
    have A2 := Tryz.as_sortNode_joinNode
    have E := Lib.hid (show wide1 n v = v from if_neg (by omega))
    clear hk ha
    go_enter Tryz.func46, Tryz.ntmps46
    go_wp2_with fail
    go_ret
    rw [E.out]
    exact ⟨rfl, Below.refl _ _⟩
  · rw [show kindV n a c = .iface 112 (.agg #[.int .i64 n.num, .bool n.slot]) by unfold kindV; simp [hk]]
    have A0 := Tryz.as_limitNode_scanNode
    have A1 := Tryz.as_limitNode_keepNode
    have A2 := Tryz.as_limitNode_joinNode
    have E := Lib.hid (show wide1 n v = v from if_neg (by omega))
    clear hk ha
    go_enter Tryz.func46, Tryz.ntmps46
    go_wp2_with fail
    go_ret
    rw [E.out]
    exact ⟨rfl, Below.refl _ _⟩
  · rw [show kindV n a c = .iface 113 (.agg #[]) by unfold kindV; simp [hk]]
    have A0 := Tryz.as_onceNode_scanNode
    have A1 := Tryz.as_onceNode_keepNode
    have A2 := Tryz.as_onceNode_joinNode
    have E := Lib.hid (show wide1 n v = v from if_neg (by omega))
    clear hk ha
    go_enter Tryz.func46, Tryz.ntmps46
    go_wp2_with fail
    go_ret
    rw [E.out]
    exact ⟨rfl, Below.refl _ _⟩

def wide2 (n : Nd) (v u : Int) : Int := if n.kind = 3 then (if 64 < v + u then -1 else v + u) else v
set_option maxRecDepth 100000 in
set_option maxHeartbeats 1600000 in
theorem wide2_any (n : Nd) (a : Option Addr) (c : Nat) (ha : arity n.kind = 2) (bm : Nat) (g cb : Nat) (v u : Int) (w : World) (h0 : w.cell? ⟨g, 0, none⟩ = some (.int .i64 v)) (h1 : w.cell? ⟨g, 1, none⟩ = some (.int .i64 u)) (hv : 0 ≤ v) (hv' : v ≤ 64) (hu : 0 ≤ u) (hu' : u ≤ 64) :
    Calls Tryz.prog 46 #[kindV n a c, .map (some bm), .slice (some ⟨g, 0, none⟩) 2 cb] w fun e w' => e = .returned (.int .i64 (wide2 n v u)) ∧ Below w.heap.size w w' := by
  have hg : g < w.heap.size := World.block_lt_of_cell? w ⟨g, 0, none⟩ h0
  have A := Lib.hid (fun o => (Below.refl w.heap.size w).alloc (Nat.le_refl _) o)
  rcases kinds2 ha with hk | hk
  · rw [show kindV n a c = .iface 95 (.agg #[.int .i64 n.col, .int .i64 n.num]) by unfold kindV; simp [hk]]
    have A0 := Tryz.as_joinNode_scanNode
    have A1 := Tryz.as_joinNode_keepNode
    have A2 := Tryz.as_joinNode_joinNode
    have E := Lib.hid (show wide2 n v u = if 64 < v + u then -1 else v + u from if_pos hk)
    clear hk ha
    go_enter Tryz.func46, Tryz.ntmps46
    go_wp2_with fail
    refine (sumCols_any g cb v u _ (((A.out _).cell (p := ⟨g, 0, none⟩) hg).trans h0) (((A.out _).cell (p := ⟨g, 1, none⟩) hg).trans h1) hv hv' hu hu').mono ?_
    rintro e w' ⟨rfl, rfl⟩
    rw [← E.out]
    go_wp2_with fail
    go_ret
    exact ⟨rfl, A.out _⟩
  · rw [show kindV n a c = .iface 97 (.agg #[]) by unfold kindV; simp [hk]]
    have A0 := Tryz.as_bothNode_scanNode
    have A1 := Tryz.as_bothNode_keepNode
    have A2 := Tryz.as_bothNode_joinNode
    have E := Lib.hid (show wide2 n v u = v from if_neg (by omega))
    clear hk ha
    go_enter Tryz.func46, Tryz.ntmps46
    go_wp2_with fail
    go_ret
    rw [E.out]
    exact ⟨rfl, Below.refl _ _⟩
end Go.Proofs.YtdkiaahcmoafdaaGreat
namespace Go.Proofs.YtdkiaahcmoafdaaGreat
open Go.RowKit Go.Maps
set_option linter.unusedSimpArgs false
set_option linter.unusedVariables false

theorem hasOne_any (v : Int) (b c : Nat) (z : Int) (w : World) (h : w.cell? ⟨b, 0, none⟩ = some (.int .i64 z)) :
    Calls Tryz.prog 57 #[.int .i64 v, .slice (some ⟨b, 0, none⟩) 1 c] w fun e w' => e = .returned (.bool (decide (z < v))) ∧ w = w' := by
  refine (hasCols_any v _ c [z] w (rd_one h) (by simp [maxLen])).mono ?_
  rintro e w' ⟨rfl, rfl⟩
  exact ⟨ret_bool (by simp), rfl⟩
theorem cell_sz (w : World) (n : Nat) (v : Value) (t : TypeId) (hn : w.heap.size = n) : (w.alloc (Obj.cells #[v] t)).cell? ⟨n, 0, none⟩ = some v := by subst hn; exact cell_one w v t
theorem cell_sz_drew (w : World) (n : Nat) (v : Value) (t : TypeId) (hn : w.heap.size = n) : ((w.alloc (Obj.cells #[v] t)).drew).cell? ⟨n, 0, none⟩ = some v := cell_sz w n v t hn
theorem cell_2a (w : World) (o : Obj) (v : Value) (t : TypeId) : ((w.alloc o).alloc (Obj.cells #[v] t)).cell? ⟨w.heap.size + 1, 0, none⟩ = some v := cell_sz _ _ v t (by simp)
theorem cell_2b (w : World) (o : Obj) (v : Value) (t : TypeId) : ((w.alloc o).drew.alloc (Obj.cells #[v] t)).cell? ⟨w.heap.size + 1, 0, none⟩ = some v := cell_sz _ _ v t (by simp)
theorem cell_2c (w : World) (o : Obj) (v : Value) (t : TypeId) : (((w.alloc o).alloc (Obj.cells #[v] t)).drew).cell? ⟨w.heap.size + 1, 0, none⟩ = some v := cell_sz_drew _ _ v t (by simp)
theorem cell_2d (w : World) (o : Obj) (v : Value) (t : TypeId) : (((w.alloc o).drew.alloc (Obj.cells #[v] t)).drew).cell? ⟨w.heap.size + 1, 0, none⟩ = some v := cell_sz_drew _ _ v t (by simp)
theorem cell_one_drew (w : World) (v : Value) (t : TypeId) : ((w.alloc (Obj.cells #[v] t)).drew).cell? ⟨w.heap.size, 0, none⟩ = some v := cell_one w v t
theorem cell_one_drewN (w : World) (v : Value) (t : TypeId) (n : Nat) : ((w.alloc (Obj.cells #[v] t)).drewN n).cell? ⟨w.heap.size, 0, none⟩ = some v := cell_one w v t

set_option maxRecDepth 100000 in
set_option maxHeartbeats 4000000 in
theorem fits2_any (n : Nd) (a : Option Addr) (c : Nat) (ha : arity n.kind = 2) (g cb : Nat) (v u : Int) (w : World) (h0 : w.cell? ⟨g, 0, none⟩ = some (.int .i64 v)) (h1 : w.cell? ⟨g, 1, none⟩ = some (.int .i64 u)) :
    Calls Tryz.prog 45 #[kindV n a c, .slice (some ⟨g, 0, none⟩) 2 cb] w fun e w' => e = .returned (.bool (fits2 n v u)) ∧ Below w.heap.size w w' := by
  have hg : g < w.heap.size := World.block_lt_of_cell? w ⟨g, 0, none⟩ h0
  rcases kinds2 ha with hk | hk
  · rw [show kindV n a c = .iface 95 (.agg #[.int .i64 n.col, .int .i64 n.num]) by unfold kindV; simp [hk]]
    have A0 := Tryz.as_joinNode_filterNode
    have A1 := Tryz.as_joinNode_keepNode
    have A2 := Tryz.as_joinNode_joinNode
    obtain ⟨wq, hwq⟩ : ∃ wq, wq = w.alloc (.cells #[.int .i64 n.col, .int .i64 n.num] 95) := ⟨_, rfl⟩
    have BQ := Lib.hid (show Below w.heap.size w wq by rw [hwq]; exact (Below.refl _ _).alloc (Nat.le_refl _) _)
    have HZ := Lib.hid (show wq.heap.size = w.heap.size + 1 by rw [hwq]; simp)
    have hzq : w.heap.size < wq.heap.size := by rw [HZ.out]; omega
    have hgq : g < wq.heap.size := by omega
    have q0 := (BQ.out.cell (p := ⟨g, 0, none⟩) hg).trans h0
    have q1 := (BQ.out.cell (p := ⟨g, 1, none⟩) hg).trans h1
    have k0 : wq.cell? ⟨w.heap.size, 0, none⟩ = some (.int .i64 n.col) := by rw [hwq, World.cell?_alloc_new]; rfl
    have k1 : wq.cell? ⟨w.heap.size, 1, none⟩ = some (.int .i64 n.num) := by rw [hwq, World.cell?_alloc_new]; rfl
    cases hc : decide (n.col < v) with
    | true =>
      have HC := Lib.hid hc
      have E := Lib.hid (show fits2 n v u = decide (n.num < u) by unfold fits2; rw [if_pos hk, hc]; rfl)
      clear hc hk ha
      go_enter Tryz.func45, Tryz.ntmps45
      go_wp2_with fail
      rw [← hwq]
      clear hwq h0 h1
      first | go_region_held3 (fun W => W.cell? ⟨g, 0, none⟩ = some (.int .i64 v) ∧ W.cell? ⟨g, 1, none⟩ = some (.int .i64 u) ∧ W.cell? ⟨w.heap.size, 0, none⟩ = some (.int .i64 n.col) ∧ W.cell? ⟨w.heap.size, 1, none⟩ = some (.int .i64 n.num)) (go_keep) (first | (go_at_call 57; refine Calls.mono (hasOne_any _ _ _ ?_ _ ?_) ?_; rotate_left; (first | exact cell_one _ _ _ | exact cell_one_drew _ _ _ | exact cell_2a _ _ _ _ | exact cell_2b _ _ _ _ | exact cell_2c _ _ _ _ | exact cell_2d _ _ _ _);  rintro e w' ⟨rfl, rfl⟩; try rw [HC.out])) | fail
      all_goals
        go_wp2_with fail
        go_ret
        exact ⟨ret_bool (by first | exact E.out.symm | (rw [E.out]; simp)), (by repeat (first | exact BQ.out | refine Below.alloc ?_ (by have := HZ.out; simp <;> omega) _ | refine Below.drew ?_ | refine below_drewN ?_ _))⟩
    | false =>
      have HC := Lib.hid hc
      have E := Lib.hid (show fits2 n v u = false by unfold fits2; rw [if_pos hk, hc]; rfl)
      clear hc hk ha
      go_enter Tryz.func45, Tryz.ntmps45
      go_wp2_with fail
      rw [← hwq]
      clear hwq h0 h1
      first | go_region_with (go_at_call 57; refine (hasOne_any v _ _ n.col _ (by first | exact cell_one _ _ _ | exact cell_one_drew _ _ _ | simp [*])).mono ?_; rintro e w' ⟨rfl, rfl⟩; rw [HC.out]) | fail
      all_goals
        go_wp2_with fail
        go_ret
        exact ⟨ret_bool E.out.symm, (by repeat (first | exact BQ.out | refine Below.alloc ?_ (by have := HZ.out; simp <;> omega) _ | refine Below.drew ?_ | refine below_drewN ?_ _))⟩
  · rw [show kindV n a c = .iface 97 (.agg #[]) by unfold kindV; simp [hk]]
    have A0 := Tryz.as_bothNode_filterNode
    have A1 := Tryz.as_bothNode_keepNode
    have A2 := Tryz.as_bothNode_joinNode
    have A3 := Tryz.as_bothNode_bothNode
    have E := Lib.hid (show fits2 n v u = (v == u) by unfold fits2; rw [if_neg (by omega)]; rfl)
    clear hk ha
    go_enter Tryz.func45, Tryz.ntmps45
    go_wp2_with fail
    go_quiet (fail)
    all_goals
      go_wp2_with fail
      go_ret
      exact ⟨ret_bool (by first | exact E.out.symm | (rw [E.out]; simp)), (by repeat (first | exact Below.refl _ _ | refine Below.alloc ?_ (by simp <;> omega) _ | refine Below.drew ?_ | refine below_drewN ?_ _))⟩
end Go.Proofs.YtdkiaahcmoafdaaGreat
namespace Go.Proofs.YtdkiaahcmoafdaaGreat
open Go.RowKit Go.Maps
set_option linter.unusedSimpArgs false
set_option linter.unusedVariables false

theorem over1_eq {n : Nd} (ha : arity n.kind = 1) (x : Int) : over1 n x = if fits1 n x = true then wide1 n x else -1 := by
  unfold over1 fits1 wide1
  rcases kinds1 ha with hk | hk | hk | hk | hk <;> simp [hk]
  all_goals (split <;> split <;> first | rfl | omega)
theorem over2_eq {n : Nd} (ha : arity n.kind = 2) (x y : Int) : over2 n x y = if fits2 n x y = true then wide2 n x y else -1 := by
  unfold over2 fits2 wide2
  rcases kinds2 ha with hk | hk
  · simp only [hk, if_true]
    by_cases h1 : n.col < x
    · by_cases h2 : n.num < y
      · simp only [h1, h2, decide_true, Bool.and_true, if_true]
        by_cases h3 : 64 < x + y
        · rw [if_pos (by omega), if_pos h3]
        · rw [if_neg (by omega), if_neg h3]
      · rw [if_pos (by omega)]; simp [h2]
    · rw [if_pos (by omega)]; simp [h1]
  · have h3 : ¬ n.kind = 3 := by omega
    simp only [h3, if_false]
    by_cases h : x = y <;> simp [h]
theorem own_some {w : World} {base : Nat} {ao : Option Addr} {c : Nat} {l : List Int} (h : Own w base 3 .i64 ao c l) (hl : l ≠ []) : ∃ g, ao = some ⟨g, 0, none⟩ ∧ base ≤ g ∧ g < w.heap.size := by
  rcases h.2 with ⟨hv, hn⟩ | ⟨g, cap, cur, hv, hb, hg, _⟩
  · exact absurd (List.eq_nil_of_length_eq_zero hn) hl
  · simp only [Value.slice.injEq] at hv
    exact ⟨g, hv.1, hb, (Array.getElem?_eq_some_iff.1 hg).1⟩
theorem own_cell {w : World} {base g : Nat} {c : Nat} {l : List Int} (h : Own w base 3 .i64 (some ⟨g, 0, none⟩) c l) (i : Nat) (x : Int) (hi : l[i]? = some x) : w.cell? ⟨g, i, none⟩ = some (.int .i64 x) := by
  have hlt : i < l.length := (List.getElem?_eq_some_iff.1 hi).1
  have := World.ownsRow.cellAt h i (by omega)
  rw [this, List.getElem?_map, hi]; rfl
theorem nodeB_name {n : Nd} (h : nodeB n = true) (hk : n.kind = 0) : n.name.size ≤ maxLen := by
  unfold nodeB at h
  rw [if_pos hk, Bool.and_eq_true] at h
  have h1 := h.1
  have h0 : ¬ ¬ (1 ≤ n.name.size ∧ n.name.size ≤ 12) := fun hn => by rw [wordB_len hn] at h1; cases h1
  unfold maxLen; omega

set_option maxRecDepth 100000 in
set_option maxHeartbeats 4000000 in
theorem width_any (w0 : World) (f : Fn) (hf : FnOk f) (bm nm : Nat) : ∀ (T : Tr) (w : World) (lo hi b : Nat), TrQ w0 w lo hi T b → hi ≤ w.heap.size → Below w0.heap.size w0 w → OwnM w bm nm f → T.nodes →
    Calls Tryz.prog 33 #[.pointer (some ⟨b, 0, none⟩), .map (some bm)] w fun e w' => e = .returned (.int .i64 (widT f T)) ∧ Below w.heap.size w w' := by
  intro T
  induction T with
  | t0 n pl en =>
    intro w lo hi b h hh hb0 hm hn
    obtain ⟨_, hb2, a, c, c0, c1, c2, c3, q⟩ := h
    have hnb : nodeB n = true := hn.1
    have hk : n.kind = 0 := hn.2
    obtain ⟨t, v, hkv⟩ := kindV_iface hnb a c
    rw [hkv] at c0
    have FT := Lib.hid (show ∀ W, Calls Tryz.prog 45 #[.iface t v, .slice none 0 0] W fun e w' => e = .returned (.bool true) ∧ W = w' from fun W => hkv ▸ fits0_any n a c W hk)
    have WO := Lib.hid (show Calls Tryz.prog 46 #[.iface t v, .map (some bm), .slice none 0 0] w fun e w' => e = .returned (.int .i64 ((f n.name.data.toList).getD (-1))) ∧ Below w.heap.size w w' from hkv ▸ wide0_any n a c bm nm f w hk hm (nodeB_name hnb hk))
    have hbw : b < w.heap.size := by omega
    have E := Lib.hid (show widT f (.t0 n pl en) = (f n.name.data.toList).getD (-1) from rfl)
    generalize (f n.name.data.toList).getD (-1) = res at WO E
    clear hkv hm hn hnb hk q hb0
    go_enter Tryz.func33, Tryz.ntmps33
    go_wp2_with fail
    refine wp_loop_rounds 1 ?_; rw [rounds_succ]
    go_wp2_with fail
    refine (FT.out _).mono ?_
    rintro e w' ⟨rfl, rfl⟩
    go_wp2_with fail
    refine WO.out.mono ?_
    rintro e w1 ⟨rfl, b1⟩
    have B1 := Lib.hid b1; clear b1
    go_wp2_with fail
    go_ret
    rw [E.out]
    exact ⟨rfl, B1.out⟩
  | t1 n pl en c ih =>
    intro w lo hi b h hh hb0 hm hn
    obtain ⟨g, cap, bc, ⟨_, hb2, a, cc, c0, c1, c2, c3, q⟩, hg, g0, tc⟩ := h
    have hnb : nodeB n = true := hn.1.1
    have ha : arity n.kind = 1 := hn.1.2
    have hwd := widT_wide hf c hn.2
    obtain ⟨t, v, hkv⟩ := kindV_iface hnb a cc
    rw [hkv] at c0
    have FT := Lib.hid (show ∀ gg cb x W, W.cell? ⟨gg, 0, none⟩ = some (.int .i64 x) → Rd W .i64 a n.cols → Calls Tryz.prog 45 #[.iface t v, .slice (some ⟨gg, 0, none⟩) 1 cb] W fun e w' => e = .returned (.bool (fits1 n x)) ∧ Below W.heap.size W w' from fun gg cb x W h1 h2 => hkv ▸ fits1_any n a cc ha gg cb x W h1 h2 q.2)
    have WO := Lib.hid (show ∀ gg cb x W, W.cell? ⟨gg, 0, none⟩ = some (.int .i64 x) → Calls Tryz.prog 46 #[.iface t v, .map (some bm), .slice (some ⟨gg, 0, none⟩) 1 cb] W fun e w' => e = .returned (.int .i64 (wide1 n x)) ∧ Below W.heap.size W w' from fun gg cb x W h1 => hkv ▸ wide1_any n a cc ha bm gg cb x W h1 q.2)
    have OV := Lib.hid (over1_eq ha (widT f c))
    have RQ := Lib.hid (q.1.below hb0)
    have E := Lib.hid (show widT f (.t1 n pl en c) = if widT f c = -1 then -1 else over1 n (widT f c) from rfl)
    have hbw : b < w.heap.size := by omega
    have hgw : g < w.heap.size := by omega
    have TC := Lib.hid tc; have IH := Lib.hid ih; have NC := Lib.hid hn.2; have HM := Lib.hid hm; have B00 := Lib.hid hb0
    clear ih tc hn hkv hnb ha q hm hb0
    generalize widT f c = x at hwd IH OV E
    go_enter Tryz.func33, Tryz.ntmps33
    go_wp2_with fail
    refine wp_loop_rounds 2 ?_; rw [rounds_succ]
    go_wp2_with fail
    refine (IH.out w lo hi bc TC.out hh B00.out HM.out NC.out).mono ?_
    rintro e w1 ⟨rfl, b1⟩
    have B1 := Lib.hid b1
    have hc1 := fun o => b1.cell (p := ⟨b, o, none⟩) hbw
    have hd1 := fun o => b1.cell (p := ⟨g, o, none⟩) hgw
    clear b1
    rcases hwd with rfl | ⟨hx1, hx2⟩
    · go_wp2_with fail
      go_ret
      rw [E.out]
      exact ⟨rfl, B1.out⟩
    have hne : (x == -1) = false := by simp; omega
    have hne' : ¬ x = -1 := by omega
    have RES := Lib.hid (show widT f (.t1 n pl en c) = if fits1 n x = true then wide1 n x else -1 by rw [E.out, if_neg hne', OV.out])
    clear E OV
    go_wp2_with (at_builtin; refine wpList_appendI _ rfl (.tmp 25) (.tmp 27) 38 rfl w.heap.size 3 Tryz.underlying38 Tryz.infoInt none 0 0 [] rfl rfl Own.none_ _ _ x rfl (cell_one _ _ _) (by simp) (by have := B1.out.size; simp; omega) ?_; intro ao2 c2' w2 o2 g2; have b2 := (B1.out.alloc B1.out.size _).grown g2 (by have := B1.out.size; simp; omega) (by intro q hq; cases hq); have hc2 := fun o => b2.cell (p := ⟨b, o, none⟩) hbw; have hd2 := fun o => b2.cell (p := ⟨g, o, none⟩) hgw; have B2 := Lib.hid b2; obtain ⟨g', rfl, hgb, hgl⟩ := own_some o2 (by simp); have k0 := own_cell o2 0 x (by simp); clear o2 g2 b2)
    rw [rounds_succ]
    go_wp2_with fail
    refine (FT.out g' c2' x _ k0 (RQ.out.below B2.out)).mono ?_
    rintro e w3 ⟨rfl, b3⟩
    have B3 := Lib.hid (below_step B2.out (Nat.le_refl _) b3)
    have k3 := (b3.cell (p := ⟨g', 0, none⟩) hgl).trans k0
    have hc3 := fun o => B3.out.cell (p := ⟨b, o, none⟩) hbw
    clear b3
    cases hfit : fits1 n x with
    | false =>
      have RS := Lib.hid (show widT f (.t1 n pl en c) = -1 by rw [RES.out, hfit]; rfl)
      go_wp2_with fail
      go_ret
      rw [RS.out]
      exact ⟨rfl, B3.out⟩
    | true =>
      have RS := Lib.hid (show widT f (.t1 n pl en c) = wide1 n x by rw [RES.out, hfit]; rfl)
      go_wp2_with fail
      refine (WO.out g' c2' x _ k3).mono ?_
      rintro e w4 ⟨rfl, b4⟩
      have B4 := Lib.hid (below_step B3.out (Nat.le_refl _) b4)
      clear b4
      go_wp2_with fail
      go_ret
      rw [RS.out]
      exact ⟨rfl, B4.out⟩
  | t2 n pl en c d ihc ihd =>
    intro w lo hi b h hh hb0 hm hn
    obtain ⟨g, cap, bc, bd, ⟨_, hb2, a, cc, c0, c1, c2, c3, q⟩, hg, g0, g1', tc, td⟩ := h
    have hnb : nodeB n = true := hn.1.1
    have ha : arity n.kind = 2 := hn.1.2
    have hwc := widT_wide hf c hn.2.1
    have hwd := widT_wide hf d hn.2.2
    obtain ⟨t, v, hkv⟩ := kindV_iface hnb a cc
    rw [hkv] at c0
    have FT := Lib.hid (show ∀ gg cb x y W, W.cell? ⟨gg, 0, none⟩ = some (.int .i64 x) → W.cell? ⟨gg, 1, none⟩ = some (.int .i64 y) → Calls Tryz.prog 45 #[.iface t v, .slice (some ⟨gg, 0, none⟩) 2 cb] W fun e w' => e = .returned (.bool (fits2 n x y)) ∧ Below W.heap.size W w' from fun gg cb x y W h1 h2 => hkv ▸ fits2_any n a cc ha gg cb x y W h1 h2)
    have WO := Lib.hid (show ∀ gg cb x y W, W.cell? ⟨gg, 0, none⟩ = some (.int .i64 x) → W.cell? ⟨gg, 1, none⟩ = some (.int .i64 y) → 0 ≤ x → x ≤ 64 → 0 ≤ y → y ≤ 64 → Calls Tryz.prog 46 #[.iface t v, .map (some bm), .slice (some ⟨gg, 0, none⟩) 2 cb] W fun e w' => e = .returned (.int .i64 (wide2 n x y)) ∧ Below W.heap.size W w' from fun gg cb x y W h1 h2 k1 k2 k3 k4 => hkv ▸ wide2_any n a cc ha bm gg cb x y W h1 h2 k1 k2 k3 k4)
    have OV := Lib.hid (over2_eq ha (widT f c) (widT f d))
    have E := Lib.hid (show widT f (.t2 n pl en c d) = if widT f c = -1 then -1 else if widT f d = -1 then -1 else over2 n (widT f c) (widT f d) from rfl)
    have hbw : b < w.heap.size := by omega
    have hgw : g < w.heap.size := by omega
    have TC := Lib.hid tc; have IH := Lib.hid ihc; have NC := Lib.hid hn.2.1
    have TD := Lib.hid td; have IJ := Lib.hid ihd; have ND := Lib.hid hn.2.2
    have HM := Lib.hid hm; have B00 := Lib.hid hb0
    clear ihc ihd tc td hn hkv hnb ha q hm hb0
    generalize widT f c = x at hwc IH OV E
    generalize widT f d = y at hwd IJ OV E
    go_enter Tryz.func33, Tryz.ntmps33
    go_wp2_with fail
    refine wp_loop_rounds 3 ?_; rw [rounds_succ]
    go_wp2_with fail
    refine (IH.out w lo hi bc TC.out hh B00.out HM.out NC.out).mono ?_
    rintro e w1 ⟨rfl, b1⟩
    have B1 := Lib.hid b1
    have hc1 := fun o => b1.cell (p := ⟨b, o, none⟩) hbw
    have hd1 := fun o => b1.cell (p := ⟨g, o, none⟩) hgw
    clear b1
    rcases hwc with rfl | ⟨hx1, hx2⟩
    · go_wp2_with fail
      go_ret
      rw [E.out]
      exact ⟨rfl, B1.out⟩
    have hne : (x == -1) = false := by simp; omega
    have hne' : ¬ x = -1 := by omega
    have E1 := Lib.hid (show widT f (.t2 n pl en c d) = if y = -1 then -1 else over2 n x y by rw [E.out, if_neg hne'])
    clear E
    go_wp2_with (at_builtin; refine wpList_appendI _ rfl (.tmp 25) (.tmp 27) 38 rfl w.heap.size 3 Tryz.underlying38 Tryz.infoInt none 0 0 [] rfl rfl Own.none_ _ _ x rfl (cell_one _ _ _) (by simp) (by have := B1.out.size; simp; omega) ?_; intro ao2 c2' w2 o2 g2; have b2 := (B1.out.alloc B1.out.size _).grown g2 (by have := B1.out.size; simp; omega) (by intro q hq; cases hq); have hc2 := fun o => b2.cell (p := ⟨b, o, none⟩) hbw; have hd2 := fun o => b2.cell (p := ⟨g, o, none⟩) hgw; have B2 := Lib.hid b2; obtain ⟨g', rfl, hgb, hgl⟩ := own_some o2 (by simp); have O2 := Lib.hid (show Own w2 w.heap.size 3 .i64 (some ⟨g', 0, none⟩) c2' [x] from o2); clear o2 g2 b2)
    rw [rounds_succ]
    go_wp2_with fail
    refine (IJ.out w2 lo hi bd (TD.out.below hh B2.out) (Nat.le_trans hh B2.out.size) (below_step B00.out (Nat.le_refl _) B2.out) (HM.out.below B2.out) ND.out).mono ?_
    rintro e w3 ⟨rfl, b3⟩
    have B3 := Lib.hid (below_step B2.out (Nat.le_refl _) b3)
    have O3 := Lib.hid (O2.out.below b3)
    have hc3 := fun o => B3.out.cell (p := ⟨b, o, none⟩) hbw
    have hd3 := fun o => B3.out.cell (p := ⟨g, o, none⟩) hgw
    clear b3 O2
    rcases hwd with rfl | ⟨hy1, hy2⟩
    · go_wp2_with fail
      go_ret
      rw [E1.out]
      exact ⟨rfl, B3.out⟩
    have hney : (y == -1) = false := by simp; omega
    have hney' : ¬ y = -1 := by omega
    have RES := Lib.hid (show widT f (.t2 n pl en c d) = if fits2 n x y = true then wide2 n x y else -1 by rw [E1.out, if_neg hney', OV.out])
    clear E1 OV
    go_wp2_with (at_builtin; refine wpList_appendI _ rfl (.tmp 25) (.tmp 27) 38 rfl w.heap.size 3 Tryz.underlying38 Tryz.infoInt (some ⟨g', 0, none⟩) c2' 1 [x] rfl rfl (O3.out.alloc _) _ _ y rfl (cell_one _ _ _) (by simp) (by have := B3.out.size; simp; omega) ?_; intro ao4 c4' w4 o4 g4; have b4 := (B3.out.alloc B3.out.size _).grown g4 (by have := B3.out.size; simp; omega) (by intro q hq; simp at hq; omega); have hc4 := fun o => b4.cell (p := ⟨b, o, none⟩) hbw; have hd4 := fun o => b4.cell (p := ⟨g, o, none⟩) hgw; have B4 := Lib.hid b4; obtain ⟨g4', rfl, hgb4, hgl4⟩ := own_some o4 (by simp); have k0 := own_cell o4 0 x (by simp); have k1 := own_cell o4 1 y (by simp); clear o4 g4 b4)
    rw [rounds_succ]
    go_wp2_with fail
    refine (FT.out g4' c4' x y _ k0 k1).mono ?_
    rintro e w5 ⟨rfl, b5⟩
    have B5 := Lib.hid (below_step B4.out (Nat.le_refl _) b5)
    have k50 := (b5.cell (p := ⟨g4', 0, none⟩) hgl4).trans k0
    have k51 := (b5.cell (p := ⟨g4', 1, none⟩) hgl4).trans k1
    have hc5 := fun o => B5.out.cell (p := ⟨b, o, none⟩) hbw
    clear b5
    cases hfit : fits2 n x y with
    | false =>
      have RS := Lib.hid (show widT f (.t2 n pl en c d) = -1 by rw [RES.out, hfit]; rfl)
      go_wp2_with fail
      go_ret
      rw [RS.out]
      exact ⟨rfl, B5.out⟩
    | true =>
      have RS := Lib.hid (show widT f (.t2 n pl en c d) = wide2 n x y by rw [RES.out, hfit]; rfl)
      go_wp2_with fail
      refine (WO.out g4' c4' x y _ k50 k51 (by omega) hx2 (by omega) hy2).mono ?_
      rintro e w6 ⟨rfl, b6⟩
      have B6 := Lib.hid (below_step B5.out (Nat.le_refl _) b6)
      clear b6
      go_wp2_with fail
      go_ret
      rw [RS.out]
      exact ⟨rfl, B6.out⟩
end Go.Proofs.YtdkiaahcmoafdaaGreat
