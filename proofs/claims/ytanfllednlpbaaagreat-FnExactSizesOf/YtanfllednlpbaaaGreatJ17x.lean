/-
  Contract of impl.NodeOk: it answers whether the node is one. For every node. Contract of impl.grow: it hangs the tree that begins at a place, or answers nil. For every slice of nodes and every place.
-/
import Derived.Test.YtanfllednlpbaaaGreatJ16x
import Derived.Test.YtanfllednlpbaaaGreatJ13x
import Derived.Test.YtanfllednlpbaaaGreatJ1x
namespace Go.Proofs.YtanfllednlpbaaaGreat
open Go.RowKit
set_option linter.unusedSimpArgs false
set_option linter.unusedVariables false

theorem nodeB_out {k : Int} (hk : k < 0 ∨ 7 < k) (name : ByteArray) (col op num : Int) (slot : Bool) (cols : List Int) : nodeB ⟨k, name, col, op, num, slot, cols⟩ = false := by
  simp only [nodeB]
  rw [if_neg (by omega), if_neg (by omega), if_neg (by omega), if_neg (by omega), if_neg (by omega), if_neg (by omega), if_neg (by omega), if_neg (by omega)]
theorem kindV_out {k : Int} (hk : k < 0 ∨ 7 < k) (name : ByteArray) (col op num : Int) (slot : Bool) (cols : List Int) (a : Option Addr) (c : Nat) : kindV ⟨k, name, col, op, num, slot, cols⟩ a c = .nilIface := by
  simp only [kindV]
  rw [if_neg (by omega), if_neg (by omega), if_neg (by omega), if_neg (by omega), if_neg (by omega), if_neg (by omega), if_neg (by omega), if_neg (by omega)]
theorem implNodeOkOut (k : Int) (hk : k < 0 ∨ 7 < k) (name : ByteArray) (col op num : Int) (slot : Bool) (cols : List Int) (a : Option Addr) (c : Nat) (w : World) :
    Calls Tryz.prog 126 #[.agg #[.int .i64 k, .string name, .int .i64 col, .int .i64 op, .int .i64 num, .bool slot, .slice a cols.length c]] w fun e w' => e = .returned (.bool false) ∧ Below w.heap.size w w' := by
  have HK := Lib.hid (kindOf_any ⟨k, name, col, op, num, slot, cols⟩ a c)
  have KV := Lib.hid (kindV_out hk name col op num slot cols a c)
  clear hk
  go_enter Tryz.func126, Tryz.ntmps126
  go_wp2_with fail
  refine (HK.out _).mono ?_
  rintro e w1 ⟨rfl, b1⟩
  rw [KV.out]
  have B1 := Lib.hid (((Below.refl _ w).alloc (Nat.le_refl _) _).trans (b1.mono (by simp)))
  clear b1
  go_wp2_with fail
  first | go_region_with (fail) | fail
  all_goals
    go_wp2
    go_ret
    exact ⟨rfl, B1.out.drew⟩

theorem implNodeOk_any (n : Nd) (a : Option Addr) (c : Nat) (w : World) (h : Rd w .i64 a n.cols) (hm : n.cols.length ≤ 17592186044416) (hs : n.name.size ≤ maxLen) :
    Calls Tryz.prog 126 #[.agg #[.int .i64 n.kind, .string n.name, .int .i64 n.col, .int .i64 n.op, .int .i64 n.num, .bool n.slot, .slice a n.cols.length c]] w fun e w' => e = .returned (.bool (nodeB n)) ∧ Below w.heap.size w w' := by
  have hl : n.cols.length ≤ maxLen := by unfold maxLen; omega
  obtain ⟨k, name, col, op, num, slot, cols⟩ := n
  rcases kind_ways k with rfl | rfl | rfl | rfl | rfl | rfl | rfl | rfl | hk
  · rw [nodeB_0]; cases hfit : (wordB name.data.toList) with
    | true => rw [Bool.true_and]; exact implNodeOk0t name col op num slot cols a c w hfit h hl hm hs
    | false => rw [Bool.false_and]; exact implNodeOk0f name col op num slot cols a c w hfit h hl hm hs
  · rw [nodeB_1]; cases hfit : (fitF col op num slot) with
    | true => rw [Bool.true_and]; exact implNodeOk1t name col op num slot cols a c w hfit h hl hm hs
    | false => rw [Bool.false_and]; exact implNodeOk1f name col op num slot cols a c w hfit h hl hm hs
  · rw [nodeB_2]; cases hfit : (fitK cols) with
    | true => rw [Bool.true_and]; exact implNodeOk2t name col op num slot cols a c w hfit h hl hm hs
    | false => rw [Bool.false_and]; exact implNodeOk2f name col op num slot cols a c w hfit h hl hm hs
  · rw [nodeB_3]; cases hfit : (colB col && colB num) with
    | true => rw [Bool.true_and]; exact implNodeOk3t name col op num slot cols a c w hfit h hl hm hs
    | false => rw [Bool.false_and]; exact implNodeOk3f name col op num slot cols a c w hfit h hl hm hs
  · rw [nodeB_4, Bool.true_and]; exact implNodeOk4t name col op num slot cols a c w h hl hm hs
  · rw [nodeB_5]; cases hfit : (colB col) with
    | true => rw [Bool.true_and]; exact implNodeOk5t name col op num slot cols a c w hfit h hl hm hs
    | false => rw [Bool.false_and]; exact implNodeOk5f name col op num slot cols a c w hfit h hl hm hs
  · rw [nodeB_6]; cases hfit : (fitL num slot) with
    | true => rw [Bool.true_and]; exact implNodeOk6t name col op num slot cols a c w hfit h hl hm hs
    | false => rw [Bool.false_and]; exact implNodeOk6f name col op num slot cols a c w hfit h hl hm hs
  · rw [nodeB_7, Bool.true_and]; exact implNodeOk7t name col op num slot cols a c w h hl hm hs
  · rw [nodeB_out hk]; exact implNodeOkOut k hk name col op num slot cols a c w
end Go.Proofs.YtanfllednlpbaaaGreat
namespace Go.Proofs.YtanfllednlpbaaaGreat
open Go.RowKit
set_option linter.unusedSimpArgs false
set_option linter.unusedVariables false

theorem Tryz.infoPtr : (Tryz.prog.info? 76).map (fun i => (i.zero, i.size, i.bytes)) = some (some (.pointer none), 1, 8) := by kernel_rfl

theorem growT_out {p : List Nd} {f k : Nat} (h : p.length ≤ k) : growT p f k = none := by
  cases f with
  | zero => rfl
  | succ f => simp only [growT]; rw [List.getElem?_eq_none h]
theorem growT_no {p : List Nd} {f k : Nat} {n : Nd} (hn : p[k]? = some n) (h : nodeB n = false) : growT p (f + 1) k = none := by
  simp only [growT, hn, h]; rfl
theorem growT_0 {p : List Nd} {f k : Nat} {n : Nd} (hn : p[k]? = some n) (h : nodeB n = true) (h1 : arity n.kind ≠ 1) (h2 : arity n.kind ≠ 2) : growT p (f + 1) k = some (.t0 n k (k + 1)) := by
  simp only [growT, hn, h]; rw [if_neg (by simp), if_neg h1, if_neg h2]
theorem growT_1n {p : List Nd} {f k : Nat} {n : Nd} (hn : p[k]? = some n) (h1 : arity n.kind = 1) (hc : growT p f (k + 1) = none) : growT p (f + 1) k = none := by
  simp [growT, hn, h1, hc]
theorem growT_1s {p : List Nd} {f k : Nat} {n : Nd} {c : Tr} (hn : p[k]? = some n) (h : nodeB n = true) (h1 : arity n.kind = 1) (hc : growT p f (k + 1) = some c) : growT p (f + 1) k = some (.t1 n k c.en c) := by
  simp only [growT, hn, h]; rw [if_neg (by simp), if_pos h1, hc]
theorem growT_2n {p : List Nd} {f k : Nat} {n : Nd} (hn : p[k]? = some n) (h1 : arity n.kind = 2) (hc : growT p f (k + 1) = none) : growT p (f + 1) k = none := by
  simp [growT, hn, h1, hc]
theorem growT_2sn {p : List Nd} {f k : Nat} {n : Nd} {c : Tr} (hn : p[k]? = some n) (h1 : arity n.kind = 2) (hc : growT p f (k + 1) = some c) (hd : growT p f c.en = none) : growT p (f + 1) k = none := by
  simp [growT, hn, h1, hc, hd]
theorem growT_2ss {p : List Nd} {f k : Nat} {n : Nd} {c d : Tr} (hn : p[k]? = some n) (h : nodeB n = true) (h1 : arity n.kind = 2) (hc : growT p f (k + 1) = some c) (hd : growT p f c.en = some d) : growT p (f + 1) k = some (.t2 n k d.en c d) := by
  simp only [growT, hn, h]; rw [if_neg (by simp), if_neg (by omega), if_pos h1, hc]; simp only; rw [hd]

theorem new_row {w w6 : World} {base : Nat} {e : TypeId} {v : Value} {o : Obj} {ao' : Option Addr} {c : Nat} (h : OwnV w6 base e ao' c ([] ++ [v])) (hl : ao' = none ∨ ao' = some ⟨(w.alloc o).heap.size, 0, none⟩) : ao' = some ⟨w.heap.size + 1, 0, none⟩ := by
  rcases hl with rfl | rfl
  · rcases h.form with ⟨_, _, hh⟩ | ⟨g, hh, _⟩
    · simp at hh
    · cases hh
  · simp

theorem row_of {w : World} {g : Nat} {o : Obj} {ao' : Option Addr} (hl : ao' = some ⟨g, 0, none⟩ ∨ ao' = some ⟨(w.alloc o).heap.size, 0, none⟩) : ∃ g', ao' = some ⟨g', 0, none⟩ ∧ (g' = g ∨ g' = w.heap.size + 1) := by
  rcases hl with rfl | rfl
  · exact ⟨g, rfl, .inl rfl⟩
  · exact ⟨_, rfl, .inr (by simp)⟩

/-- A tree's node with its children and its end stored. -/
def put2 (w : World) (tb : Nat) (v3 v2 : Value) : World := (w.setCell ⟨tb, 3, none⟩ v3).setCell ⟨tb, 2, none⟩ v2
theorem put2_far {w : World} {tb : Nat} {v3 v2 : Value} {p : Addr} (h : p.block ≠ tb) : (put2 w tb v3 v2).cell? p = w.cell? p := by
  unfold put2
  rw [World.cell?_setCell_other _ _ _ _ (by rintro rfl; exact h rfl), World.cell?_setCell_other _ _ _ _ (by rintro rfl; exact h rfl)]
theorem put2_block {w : World} {tb : Nat} {v3 v2 : Value} {i : Nat} (h : i ≠ tb) : (put2 w tb v3 v2).heap[i]? = w.heap[i]? := by
  unfold put2
  rw [Below.heap_setCell _ _ _ i h, Below.heap_setCell _ _ _ i h]
theorem put2_size {w : World} {tb : Nat} {v3 v2 : Value} : (put2 w tb v3 v2).heap.size = w.heap.size := by unfold put2; simp [World.setCell]
theorem put2_below {w a0 : World} {B tb : Nat} {v3 v2 : Value} (h : Below B a0 w) (hB : B ≤ tb) : Below B a0 (put2 w tb v3 v2) := (h.setCell hB _).setCell hB _
theorem put2_hd {w : World} {lo tb : Nat} {v3 x3 : Value} {x2 : Value} {n : Nd} {a : Option Addr} {c : Nat} {pl en : Nat} (h0 : w.cell? ⟨tb, 0, none⟩ = some (kindV n a c)) (h1 : w.cell? ⟨tb, 1, none⟩ = some (.int .i64 pl))
    (h2 : w.cell? ⟨tb, 2, none⟩ = some x2) (h3 : w.cell? ⟨tb, 3, none⟩ = some x3) (hlo : lo ≤ tb) : Hd (put2 w tb v3 (.int .i64 en)) lo w.heap.size tb n pl en v3 := by
  have hlt : tb < w.heap.size := World.block_lt_of_cell? w ⟨tb, 0, none⟩ h0
  refine ⟨hlo, hlt, a, c, ?_, ?_, ?_, ?_⟩
  · unfold put2; rw [World.cell?_setCell_other _ _ _ _ (by simp), World.cell?_setCell_other _ _ _ _ (by simp)]; exact h0
  · unfold put2; rw [World.cell?_setCell_other _ _ _ _ (by simp), World.cell?_setCell_other _ _ _ _ (by simp)]; exact h1
  · unfold put2
    exact World.cell?_setCell_same _ _ _ ((World.cell?_setCell_other _ _ _ _ (by simp)).trans h2)
  · unfold put2; rw [World.cell?_setCell_other _ _ _ _ (by simp)]
    exact World.cell?_setCell_same _ _ _ h3

/-- What is asked of the nodes. -/
def Small (p : List Nd) : Prop := p.length ≤ 1048576 ∧ ∀ n ∈ p, n.cols.length ≤ 1048576

set_option maxRecDepth 100000 in
set_option maxHeartbeats 4000000 in
theorem grow_any (ao : Option Addr) (c : Nat) (p : List Nd) (hp : Small p) : ∀ (f : Nat) (k : Int) (w : World), RdN w ao p → 0 ≤ k → k ≤ 1048576 → (p.length : Int) ≤ f + k →
    Calls Tryz.prog 97 #[.slice ao p.length c, .int .i64 k] w (GrowPost w (growT p f k.toNat)) := by
  have hpl := hp.1
  have HP := Lib.hid hp.2
  clear hp
  intro f
  induction f with
  | zero =>
    intro k w h hk0 hk1 hf
    have hk : (p.length : Int) ≤ k := by omega
    go_enter Tryz.func97, Tryz.ntmps97
    go_wp2_with fail
    go_ret
    exact ⟨rfl, Below.refl _ _⟩
  | succ f ih =>
    intro k w h hk0 hk1 hf
    have IH := Lib.hid ih; clear ih
    by_cases hk : (p.length : Int) ≤ k
    · rw [growT_out (show p.length ≤ k.toNat by omega)]
      go_enter Tryz.func97, Tryz.ntmps97
      go_wp2_with fail
      go_ret
      exact ⟨rfl, Below.refl _ _⟩
    have hk' : k < (p.length : Int) := by omega
    obtain ⟨b, off, n, a, c', rfl, hn, hat⟩ := h.at_ (i := k.toNat) (by omega)
    have H := Lib.hid h; clear h
    have HN := Lib.hid hn
    have hcl := HP.out n (List.mem_of_getElem? hn)
    clear hn hk
    have hat0 := Lib.hid hat
    obtain ⟨c0, c1, c2, c3, c4, c5, c6, rd, cap, mx, nm⟩ := hat
    have RD := Lib.hid rd
    have NK := Lib.hid (fun w => implNodeOk_any n a c' w)
    clear rd cap mx
    cases hnb : nodeB n with
    | false =>
      have HB := Lib.hid hnb; clear hnb
      rw [growT_no HN.out HB.out]
      go_enter Tryz.func97, Tryz.ntmps97
      go_wp2_with fail
      refine (NK.out _ RD.out (by omega) nm).mono ?_
      rintro e w1 ⟨rfl, b1⟩
      rw [HB.out]
      go_wp2_with fail
      go_ret
      exact ⟨rfl, b1⟩
    | true =>
      have HB := Lib.hid hnb; clear hnb
      obtain ⟨t, v, hkv⟩ := kindV_iface HB.out a c'
      have KV := Lib.hid hkv
      have AR := Lib.hid (show ∀ w, Calls Tryz.prog 128 #[.iface t v] w fun e w' => e = .returned (.int .i64 (arity n.kind)) ∧ w = w' from fun w => hkv ▸ arityOf_any n a c' w)
      clear hkv
      have ha := arity_of_nodeB HB.out
      generalize hres : growT p (f + 1) k.toNat = res
      have RES := Lib.hid hres; clear hres
      go_enter Tryz.func97, Tryz.ntmps97
      go_wp2_with fail
      refine (NK.out _ RD.out (by omega) nm).mono ?_
      rintro e w1 ⟨rfl, b1⟩
      rw [HB.out]
      obtain ⟨d0, d1, d2, d3, d4, d5, d6, _⟩ := hat0.out.below b1
      have B1 := Lib.hid b1
      clear b1 c0 c1 c2 c3 c4 c5 c6
      go_wp2_with fail
      refine (kindOf_any n a c' _).mono ?_
      rintro e w2 ⟨rfl, b2⟩
      rw [KV.out]
      have B2 := Lib.hid (below_step B1.out (Nat.le_refl _) b2)
      clear b2 d0 d1 d2 d3 d4 d5 d6
      go_wp2_with fail
      refine (AR.out _).mono ?_
      rintro e w' ⟨rfl, rfl⟩
      have B3 := Lib.hid (show Below w.heap.size w (w2.alloc (.cells #[.iface t v, .int .i64 k, .int .i64 (k + 1), .slice none 0 0] 124)) from B2.out.alloc B2.out.size _)
      have R3 := Lib.hid (H.out.below B3.out)
      rcases ha with ha | ha | ha
      · have HA := Lib.hid ha; clear ha
        rw [HA.out]
        go_wp2_with fail
        refine wp_loop_rounds 1 ?_; rw [rounds_succ]
        go_wp2_with fail
        go_ret
        have e1 : res = some (.t0 n k.toNat (k.toNat + 1)) := RES.out.symm.trans (growT_0 HN.out HB.out (by rw [HA.out]; decide) (by rw [HA.out]; decide))
        rw [e1]
        refine ⟨w2.heap.size, rfl, ⟨B2.out.size, by simp, a, c', ?_, ?_, ?_, ?_⟩, B3.out⟩
        · rw [KV.out]; simp
        · simp; omega
        · simp; omega
        · simp
      · have HA := Lib.hid ha; clear ha
        rw [HA.out]
        go_wp2_with fail
        refine wp_loop_rounds 2 ?_; rw [rounds_succ]
        go_wp2_with fail
        refine (IH.out (k + 1) _ R3.out (by omega) (by omega) (by omega)).mono ?_
        rw [show (k + 1).toNat = k.toNat + 1 from by omega]
        intro e w4 hpost
        cases hc : growT p f (k.toNat + 1) with
        | none =>
          rw [hc] at hpost
          obtain ⟨rfl, b4⟩ := hpost
          have e1 := Lib.hid (RES.out.symm.trans (growT_1n HN.out HA.out hc))
          clear hc
          have T4 := Lib.hid (below_step B3.out (Nat.le_refl _) b4)
          clear b4
          go_wp2_with fail
          go_ret
          rw [e1.out]
          exact ⟨rfl, T4.out⟩
        | some ch =>
          rw [hc] at hpost
          obtain ⟨bc, rfl, tr, b4⟩ := hpost
          have e1 := Lib.hid (RES.out.symm.trans (growT_1s HN.out HB.out HA.out hc))
          clear hc
          have hc4 := fun o => b4.cell (p := ⟨w2.heap.size, o, none⟩) (by simp)
          have hf4 := fun o => b4.frozen (p := ⟨w2.heap.size, o, none⟩) (by simp)
          have hz4 : w2.heap.size < w4.heap.size := by have := b4.size; simp at this; omega
          have T4 := Lib.hid (below_step B3.out (Nat.le_refl _) b4)
          have TR := Lib.hid tr
          have hbc : w2.heap.size < bc := by have := tr.lt.1; simp at this; omega
          have hbc4 : bc < w4.heap.size := tr.lt.2
          obtain ⟨_, _, _, _, _, _, _, hce, _⟩ := tr.head
          clear tr b4
          go_wp2_with (at_builtin; refine wpList_appendV _ rfl (.tmp 48) (.tmp 50) 122 rfl w.heap.size 76 (.pointer none) 8 Tryz.underlying122 Tryz.infoPtr rfl none 0 0 [] rfl rfl OwnV.none_ w4.heap.size 1 (.pointer (some ⟨bc, 0, none⟩)) rfl (cell_one _ _ _) rfl (by simp [maxLen]) (by simp) (by have := T4.out.size; simp; omega) ?_; intro ao' c6 w6 o6 g6 l6; obtain rfl : ao' = some ⟨w4.heap.size + 1, 0, none⟩ := new_row o6 l6; have b6 := below_of_grown g6 (Nat.le_refl _) (by intro g hg; cases hg); have hc6 := fun o => b6.cell (p := ⟨w2.heap.size, o, none⟩) (by simp; omega); have hf6 := fun o => b6.frozen (p := ⟨w2.heap.size, o, none⟩) (by simp; omega); have hd6 := fun o => b6.cell (p := ⟨bc, o, none⟩) (by simp; omega); have O6 := Lib.hid o6; have B6 := Lib.hid b6; clear o6 g6 l6 b6)
          rw [rounds_succ]
          go_wp2_with fail
          go_ret
          rw [e1.out]
          have z6 : w4.heap.size + 1 < (put2 w6 w2.heap.size (.slice (some ⟨w4.heap.size + 1, 0, none⟩) 1 c6) (.int .i64 ch.en)).heap.size := by
            rw [put2_size]; exact ((O6.out.lt _ rfl).2)
          have k0 : w6.cell? ⟨w2.heap.size, 0, none⟩ = some (kindV n a c') := by rw [hc6, World.cell?_alloc_lt _ _ _ (by simp; omega), hc4, KV.out]; simp
          have k1 : w6.cell? ⟨w2.heap.size, 1, none⟩ = some (.int .i64 (k.toNat : Int)) := by rw [hc6, World.cell?_alloc_lt _ _ _ (by simp; omega), hc4]; simp; omega
          have k2 : w6.cell? ⟨w2.heap.size, 2, none⟩ = some (.int .i64 (k + 1)) := by rw [hc6, World.cell?_alloc_lt _ _ _ (by simp; omega), hc4]; simp
          have k3 : w6.cell? ⟨w2.heap.size, 3, none⟩ = some (.slice none 0 0) := by rw [hc6, World.cell?_alloc_lt _ _ _ (by simp; omega), hc4]; simp
          have t6 := (((TR.out.below (Nat.le_refl _) ((Below.refl _ w4).alloc (Nat.le_refl _) _)).below (by simp) B6.out))
          refine ⟨w2.heap.size, rfl, ⟨w4.heap.size + 1, c6, bc, ?_, ⟨?_, z6⟩, ?_, ?_⟩, ?_⟩
          · exact (put2_hd k0 k1 k2 k3 B2.out.size).wide (Nat.le_refl _) (by rw [← put2_size (v3 := .slice (some ⟨w4.heap.size + 1, 0, none⟩) 1 c6) (v2 := .int .i64 ch.en)]; exact Nat.le_refl _)
          · have := T4.out.size; omega
          · exact (put2_far (by simp; omega)).trans (O6.out.cell 0 (by simp))
          · refine TrAt.wide (lo := w2.heap.size + 1) (hi := w4.heap.size) (by have := B2.out.size; omega) (Nat.le_of_lt (Nat.lt_trans (Nat.lt_succ_self _) z6)) _ _ (TrAt.keep (w := w6) (fun q h1 h2 => put2_far (by omega)) _ _ ?_)
            simpa using t6
          · exact put2_below (below_step (T4.out.alloc T4.out.size _) (Nat.le_refl _) B6.out) B2.out.size
      · have HA := Lib.hid ha; clear ha
        rw [HA.out]
        go_wp2_with fail
        refine wp_loop_rounds 3 ?_; rw [rounds_succ]
        go_wp2_with fail
        refine (IH.out (k + 1) _ R3.out (by omega) (by omega) (by omega)).mono ?_
        rw [show (k + 1).toNat = k.toNat + 1 from by omega]
        intro e w4 hpost
        cases hc : growT p f (k.toNat + 1) with
        | none =>
          rw [hc] at hpost
          obtain ⟨rfl, b4⟩ := hpost
          have e1 := Lib.hid (RES.out.symm.trans (growT_2n HN.out HA.out hc))
          clear hc
          have T4 := Lib.hid (below_step B3.out (Nat.le_refl _) b4)
          clear b4
          go_wp2_with fail
          go_ret
          rw [e1.out]
          exact ⟨rfl, T4.out⟩
        | some ch =>
          rw [hc] at hpost
          obtain ⟨bc, rfl, tr, b4⟩ := hpost
          have HC := Lib.hid hc
          obtain ⟨_, s2, s3, _⟩ := growT_sound p _ _ _ hc
          clear hc
          have hc4 := fun o => b4.cell (p := ⟨w2.heap.size, o, none⟩) (by simp)
          have hf4 := fun o => b4.frozen (p := ⟨w2.heap.size, o, none⟩) (by simp)
          have hz4 : w2.heap.size < w4.heap.size := by have := b4.size; simp at this; omega
          have T4 := Lib.hid (below_step B3.out (Nat.le_refl _) b4)
          have TR := Lib.hid tr
          have hbc : w2.heap.size < bc := by have := tr.lt.1; simp at this; omega
          have hbc4 : bc < w4.heap.size := tr.lt.2
          obtain ⟨_, _, _, _, _, _, _, hce, _⟩ := tr.head
          clear tr b4
          go_wp2_with (at_builtin; refine wpList_appendV _ rfl (.tmp 48) (.tmp 50) 122 rfl w.heap.size 76 (.pointer none) 8 Tryz.underlying122 Tryz.infoPtr rfl none 0 0 [] rfl rfl OwnV.none_ w4.heap.size 1 (.pointer (some ⟨bc, 0, none⟩)) rfl (cell_one _ _ _) rfl (by simp [maxLen]) (by simp) (by have := T4.out.size; simp; omega) ?_; intro ao' c6 w6 o6 g6 l6; obtain rfl : ao' = some ⟨w4.heap.size + 1, 0, none⟩ := new_row o6 l6; have b6 := below_of_grown g6 (Nat.le_refl _) (by intro g hg; cases hg); have hc6 := fun o => b6.cell (p := ⟨w2.heap.size, o, none⟩) (by simp; omega); have hf6 := fun o => b6.frozen (p := ⟨w2.heap.size, o, none⟩) (by simp; omega); have hd6 := fun o => b6.cell (p := ⟨bc, o, none⟩) (by simp; omega); have O6 := Lib.hid o6; have B6 := Lib.hid b6; clear o6 g6 l6 b6)
          rw [rounds_succ]
          go_wp2_with fail
          have k0 : (put2 w6 w2.heap.size (.slice (some ⟨w4.heap.size + 1, 0, none⟩) 1 c6) (.int .i64 ch.en)).cell? ⟨w2.heap.size, 0, none⟩ = some (.iface t v) := by
            unfold put2; rw [World.cell?_setCell_other _ _ _ _ (by simp), World.cell?_setCell_other _ _ _ _ (by simp), hc6, World.cell?_alloc_lt _ _ _ (by simp; omega), hc4]; simp
          have k1 : (put2 w6 w2.heap.size (.slice (some ⟨w4.heap.size + 1, 0, none⟩) 1 c6) (.int .i64 ch.en)).cell? ⟨w2.heap.size, 1, none⟩ = some (.int .i64 k) := by
            unfold put2; rw [World.cell?_setCell_other _ _ _ _ (by simp), World.cell?_setCell_other _ _ _ _ (by simp), hc6, World.cell?_alloc_lt _ _ _ (by simp; omega), hc4]; simp
          have j2 : w6.cell? ⟨w2.heap.size, 2, none⟩ = some (.int .i64 (k + 1)) := by rw [hc6, World.cell?_alloc_lt _ _ _ (by simp; omega), hc4]; simp
          have j3 : w6.cell? ⟨w2.heap.size, 3, none⟩ = some (.slice none 0 0) := by rw [hc6, World.cell?_alloc_lt _ _ _ (by simp; omega), hc4]; simp
          have k2 : (put2 w6 w2.heap.size (.slice (some ⟨w4.heap.size + 1, 0, none⟩) 1 c6) (.int .i64 ch.en)).cell? ⟨w2.heap.size, 2, none⟩ = some (.int .i64 ch.en) := by
            unfold put2; exact World.cell?_setCell_same _ _ _ ((World.cell?_setCell_other _ _ _ _ (by simp)).trans j2)
          have k3 : (put2 w6 w2.heap.size (.slice (some ⟨w4.heap.size + 1, 0, none⟩) 1 c6) (.int .i64 ch.en)).cell? ⟨w2.heap.size, 3, none⟩ = some (.slice (some ⟨w4.heap.size + 1, 0, none⟩) 1 c6) := by
            unfold put2; rw [World.cell?_setCell_other _ _ _ _ (by simp)]; exact World.cell?_setCell_same _ _ _ j3
          have kf : ∀ o, (put2 w6 w2.heap.size (.slice (some ⟨w4.heap.size + 1, 0, none⟩) 1 c6) (.int .i64 ch.en)).frozen? ⟨w2.heap.size, o, none⟩ = false := fun o => by
            unfold put2; go_simp
          have O7 := Lib.hid (show OwnV (put2 w6 w2.heap.size (.slice (some ⟨w4.heap.size + 1, 0, none⟩) 1 c6) (.int .i64 ch.en)) w.heap.size 76 (some ⟨w4.heap.size + 1, 0, none⟩) c6 [.pointer (some ⟨bc, 0, none⟩)] from O6.out.keep fun x hx _ => put2_block (by cases hx; simp; omega))
          have T7 := Lib.hid (put2_below (tb := w2.heap.size) (v3 := .slice (some ⟨w4.heap.size + 1, 0, none⟩) 1 c6) (v2 := .int .i64 ch.en) (below_step (T4.out.alloc T4.out.size _) (Nat.le_refl _) B6.out) B2.out.size)
          have TR7 := Lib.hid (show TrAt (put2 w6 w2.heap.size (.slice (some ⟨w4.heap.size + 1, 0, none⟩) 1 c6) (.int .i64 ch.en)) (w2.heap.size + 1) w4.heap.size ch bc from TrAt.keep (w := w6) (fun q h1 h2 => put2_far (by omega)) _ _ (by simpa using ((TR.out.below (Nat.le_refl _) ((Below.refl _ w4).alloc (Nat.le_refl _) _)).below (by simp) B6.out)))
          have z7 : w4.heap.size + 1 < (put2 w6 w2.heap.size (.slice (some ⟨w4.heap.size + 1, 0, none⟩) 1 c6) (.int .i64 ch.en)).heap.size := by rw [put2_size]; exact ((O6.out.lt _ rfl).2)
          clear hc4 hf4 hc6 hf6 hd6 j2 j3 hce O6 B6 TR T4
          change Calls Tryz.prog 97 _ (put2 w6 w2.heap.size (.slice (some ⟨w4.heap.size + 1, 0, none⟩) 1 c6) (.int .i64 ch.en)) _
          generalize (put2 w6 w2.heap.size (.slice (some ⟨w4.heap.size + 1, 0, none⟩) 1 c6) (.int .i64 ch.en)) = w7 at k0 k1 k2 k3 kf O7 T7 TR7 z7 ⊢
          refine (IH.out (ch.en : Int) _ (H.out.below T7.out) (by omega) (by omega) (by omega)).mono ?_
          rw [Int.toNat_natCast]
          intro e w8 hpost
          cases hd : growT p f ch.en with
          | none =>
            rw [hd] at hpost
            obtain ⟨rfl, b8⟩ := hpost
            have e1 := Lib.hid (RES.out.symm.trans (growT_2sn HN.out HA.out HC.out hd))
            clear hd
            have T8 := Lib.hid (below_step T7.out (Nat.le_refl _) b8)
            clear b8
            go_wp2_with fail
            go_ret
            rw [e1.out]
            exact ⟨rfl, T8.out⟩
          | some dh =>
            rw [hd] at hpost
            obtain ⟨bd, rfl, tr, b8⟩ := hpost
            have e1 := Lib.hid (RES.out.symm.trans (growT_2ss HN.out HB.out HA.out HC.out hd))
            clear hd
            have hc8 := fun o => b8.cell (p := ⟨w2.heap.size, o, none⟩) (by simp; omega)
            have hf8 := fun o => b8.frozen (p := ⟨w2.heap.size, o, none⟩) (by simp; omega)
            have hz8 : w7.heap.size ≤ w8.heap.size := b8.size
            have hz28 : w2.heap.size < w8.heap.size := by omega
            have hz2d : w2.heap.size < bd := by have := tr.lt.1; omega
            have hz2d' : bd ≠ w2.heap.size := by omega
            have T8 := Lib.hid (below_step T7.out (Nat.le_refl _) b8)
            have O8 := Lib.hid (O7.out.below b8)
            have TR8 := Lib.hid (TR7.out.below (by omega) b8)
            have TD := Lib.hid tr
            have hbd : w7.heap.size ≤ bd := tr.lt.1
            have hbd8 : bd < w8.heap.size := tr.lt.2
            obtain ⟨_, _, _, _, _, _, _, hde, _⟩ := tr.head
            clear tr b8
            go_wp2_with (at_builtin; refine wpList_appendV _ rfl (.tmp 48) (.tmp 50) 122 rfl w.heap.size 76 (.pointer none) 8 Tryz.underlying122 Tryz.infoPtr rfl (some ⟨w4.heap.size + 1, 0, none⟩) c6 1 [.pointer (some ⟨bc, 0, none⟩)] rfl rfl (O8.out.alloc _) w8.heap.size 1 (.pointer (some ⟨bd, 0, none⟩)) rfl (cell_one _ _ _) rfl (by simp [maxLen]) (by simp) (by have := T8.out.size; simp; omega) ?_; intro ao' c10 w10 o10 g10 l10; obtain ⟨g', rfl, hg'⟩ := row_of l10; have b10 := below_of_grown (B := w4.heap.size + 1) g10 (by simp; omega) (by intro g hg; simp at hg; omega); have hc10 := fun o => b10.cell (p := ⟨w2.heap.size, o, none⟩) (by simp; omega); have hf10 := fun o => b10.frozen (p := ⟨w2.heap.size, o, none⟩) (by simp; omega); have hd10 := fun o => World.cell?_of_block (a := ⟨bd, o, none⟩) (g10.block bd (by simp; omega) (by simp; omega)); have O10 := Lib.hid o10; have B10 := Lib.hid b10; have G10 := Lib.hid g10; clear o10 g10 l10 b10)
            rw [rounds_succ]
            go_wp2_with fail
            go_ret
            rw [e1.out]
            have g10b := O10.out.lt _ rfl
            simp only at g10b
            have z8 : w8.heap.size < w10.heap.size := by have := G10.out.size; simp at this; omega
            have q0 : w10.cell? ⟨w2.heap.size, 0, none⟩ = some (kindV n a c') := by rw [hc10, World.cell?_alloc_lt _ _ _ (by simp; omega), hc8, k0, KV.out]
            have q1 : w10.cell? ⟨w2.heap.size, 1, none⟩ = some (.int .i64 (k.toNat : Int)) := by rw [hc10, World.cell?_alloc_lt _ _ _ (by simp; omega), hc8, k1]; simp; omega
            have q2 : w10.cell? ⟨w2.heap.size, 2, none⟩ = some (.int .i64 ch.en) := by rw [hc10, World.cell?_alloc_lt _ _ _ (by simp; omega), hc8, k2]
            have q3 : w10.cell? ⟨w2.heap.size, 3, none⟩ = some (.slice (some ⟨w4.heap.size + 1, 0, none⟩) 1 c6) := by rw [hc10, World.cell?_alloc_lt _ _ _ (by simp; omega), hc8, k3]
            have hsz : (put2 w10 w2.heap.size (.slice (some ⟨g', 0, none⟩) 2 c10) (.int .i64 dh.en)).heap.size = w10.heap.size := put2_size
            have tc : TrAt w10 (w2.heap.size + 1) w4.heap.size ch bc := TrAt.keep (w := w8.alloc (.cells #[.pointer (some ⟨bd, 0, none⟩)] 76)) (fun q h1 h2 => B10.out.cell (by omega)) _ _ (TR8.out.below (by omega) ((Below.refl _ w8).alloc (Nat.le_refl _) _))
            have td : TrAt w10 w7.heap.size w8.heap.size dh bd := TrAt.keep (w := w8.alloc (.cells #[.pointer (some ⟨bd, 0, none⟩)] 76)) (fun q h1 h2 => World.cell?_of_block (G10.out.block q.block (by simp; omega) (by simp; omega))) _ _ (TD.out.below (Nat.le_refl _) ((Below.refl _ w8).alloc (Nat.le_refl _) _))
            have hlo := B2.out.size
            have hne : g' ≠ w2.heap.size := by omega
            refine ⟨w2.heap.size, rfl, ⟨g', c10, bc, bd, ?_, ⟨g10b.1, ?_⟩, ?_, ?_, ?_, ?_⟩, ?_⟩
            · exact (put2_hd q0 q1 q2 q3 hlo).wide (Nat.le_refl _) (Nat.le_of_eq hsz.symm)
            · exact Nat.lt_of_lt_of_le g10b.2 (Nat.le_of_eq hsz.symm)
            · exact (put2_far hne).trans (O10.out.cell 0 (by simp))
            · exact (put2_far hne).trans (O10.out.cell 1 (by simp))
            · exact TrAt.wide (by omega) (Nat.le_trans (show w4.heap.size ≤ w10.heap.size by omega) (Nat.le_of_eq hsz.symm)) _ _ (TrAt.keep (w := w10) (fun q h1 h2 => put2_far (by omega)) _ _ tc)
            · exact TrAt.wide (by omega) (Nat.le_trans (show w8.heap.size ≤ w10.heap.size by omega) (Nat.le_of_eq hsz.symm)) _ _ (TrAt.keep (w := w10) (fun q h1 h2 => put2_far (by omega)) _ _ td)
            · refine put2_below ?_ hlo
              exact (T8.out.alloc T8.out.size _).grown G10.out (by have := T8.out.size; simp; omega) (by intro g hg; simp at hg; omega)
end Go.Proofs.YtanfllednlpbaaaGreat
