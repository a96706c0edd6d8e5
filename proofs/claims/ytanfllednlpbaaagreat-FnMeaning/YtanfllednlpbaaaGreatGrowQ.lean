/-
  A tree of the program in memory, its columns where the plan has them; contract of impl.grow in these words. For every slice of nodes and every place.
-/
import Derived.Test.YtanfllednlpbaaaGreatM11x
import Derived.Test.YtanfllednlpbaaaGreatM24x
namespace Go.Proofs.YtanfllednlpbaaaGreat
open Go.RowKit
set_option linter.unusedSimpArgs false
set_option linter.unusedVariables false

/-- The four cells of a tree's node. -/
def HdQ (w0 w : World) (lo hi b : Nat) (n : Nd) (pl en : Nat) (below : Value) : Prop :=
  lo ≤ b ∧ b < hi ∧ ∃ a c, w.cell? ⟨b, 0, none⟩ = some (kindV n a c) ∧ w.cell? ⟨b, 1, none⟩ = some (.int .i64 pl) ∧ w.cell? ⟨b, 2, none⟩ = some (.int .i64 en) ∧ w.cell? ⟨b, 3, none⟩ = some below ∧ (Rd w0 .i64 a n.cols ∧ n.cols.length ≤ maxLen)

/-- The tree T lies at block b, all of it between lo and hi. -/
def TrQ (w0 w : World) (lo hi : Nat) : Tr → Nat → Prop
  | .t0 n pl en, b => HdQ w0 w lo hi b n pl en (.slice none 0 0)
  | .t1 n pl en c, b => ∃ g cap bc, HdQ w0 w lo hi b n pl en (.slice (some ⟨g, 0, none⟩) 1 cap) ∧ (lo ≤ g ∧ g < hi) ∧ w.cell? ⟨g, 0, none⟩ = some (.pointer (some ⟨bc, 0, none⟩)) ∧ TrQ w0 w lo hi c bc
  | .t2 n pl en c d, b => ∃ g cap bc bd, HdQ w0 w lo hi b n pl en (.slice (some ⟨g, 0, none⟩) 2 cap) ∧ (lo ≤ g ∧ g < hi) ∧ w.cell? ⟨g, 0, none⟩ = some (.pointer (some ⟨bc, 0, none⟩)) ∧ w.cell? ⟨g, 1, none⟩ = some (.pointer (some ⟨bd, 0, none⟩)) ∧ TrQ w0 w lo hi c bc ∧ TrQ w0 w lo hi d bd

theorem HdQ.keep {w0 w w' : World} {lo hi b : Nat} {n : Nd} {pl en : Nat} {v : Value} (h : HdQ w0 w lo hi b n pl en v) (hk : ∀ p : Addr, lo ≤ p.block → p.block < hi → w'.cell? p = w.cell? p) : HdQ w0 w' lo hi b n pl en v := by
  obtain ⟨h1, h2, a, c, c0, c1, c2, c3, q⟩ := h
  exact ⟨h1, h2, a, c, (hk _ h1 h2).trans c0, (hk _ h1 h2).trans c1, (hk _ h1 h2).trans c2, (hk _ h1 h2).trans c3, q⟩
theorem TrQ.keep {w0 w w' : World} {lo hi : Nat} (hk : ∀ p : Addr, lo ≤ p.block → p.block < hi → w'.cell? p = w.cell? p) : ∀ (T : Tr) (b : Nat), TrQ w0 w lo hi T b → TrQ w0 w' lo hi T b
  | .t0 n pl en, b, h => HdQ.keep h hk
  | .t1 n pl en c, b, ⟨g, cap, bc, h1, h2, h3, h4⟩ => ⟨g, cap, bc, h1.keep hk, h2, (hk _ h2.1 h2.2).trans h3, TrQ.keep hk c bc h4⟩
  | .t2 n pl en c d, b, ⟨g, cap, bc, bd, h1, h2, h3, h4, h5, h6⟩ => ⟨g, cap, bc, bd, h1.keep hk, h2, (hk _ h2.1 h2.2).trans h3, (hk _ h2.1 h2.2).trans h4, TrQ.keep hk c bc h5, TrQ.keep hk d bd h6⟩
theorem HdQ.wide {w0 w : World} {lo hi lo' hi' b : Nat} {n : Nd} {pl en : Nat} {v : Value} (h : HdQ w0 w lo hi b n pl en v) (h1 : lo' ≤ lo) (h2 : hi ≤ hi') : HdQ w0 w lo' hi' b n pl en v :=
  ⟨Nat.le_trans h1 h.1, Nat.lt_of_lt_of_le h.2.1 h2, h.2.2⟩
theorem TrQ.wide {w0 w : World} {lo hi lo' hi' : Nat} (h1 : lo' ≤ lo) (h2 : hi ≤ hi') : ∀ (T : Tr) (b : Nat), TrQ w0 w lo hi T b → TrQ w0 w lo' hi' T b
  | .t0 n pl en, b, h => HdQ.wide h h1 h2
  | .t1 n pl en c, b, ⟨g, cap, bc, k1, k2, k3, k4⟩ => ⟨g, cap, bc, k1.wide h1 h2, ⟨Nat.le_trans h1 k2.1, Nat.lt_of_lt_of_le k2.2 h2⟩, k3, TrQ.wide h1 h2 c bc k4⟩
  | .t2 n pl en c d, b, ⟨g, cap, bc, bd, k1, k2, k3, k4, k5, k6⟩ => ⟨g, cap, bc, bd, k1.wide h1 h2, ⟨Nat.le_trans h1 k2.1, Nat.lt_of_lt_of_le k2.2 h2⟩, k3, k4, TrQ.wide h1 h2 c bc k5, TrQ.wide h1 h2 d bd k6⟩
theorem TrQ.below {w0 w w' : World} {lo hi : Nat} {T : Tr} {b : Nat} (h : TrQ w0 w lo hi T b) (hh : hi ≤ w.heap.size) (hb : Below w.heap.size w w') : TrQ w0 w' lo hi T b :=
  TrQ.keep (fun _ _ hp => hb.cell (Nat.lt_of_lt_of_le hp hh)) T b h
theorem TrQ.head {w0 w : World} {lo hi : Nat} {T : Tr} {b : Nat} (h : TrQ w0 w lo hi T b) : ∃ v, HdQ w0 w lo hi b T.nd T.pl T.en v := by
  cases T with
  | t0 n pl en => exact ⟨_, h⟩
  | t1 n pl en c => obtain ⟨g, cap, bc, h1, _⟩ := h; exact ⟨_, h1⟩
  | t2 n pl en c d => obtain ⟨g, cap, bc, bd, h1, _⟩ := h; exact ⟨_, h1⟩
theorem TrQ.lt {w0 w : World} {lo hi : Nat} {T : Tr} {b : Nat} (h : TrQ w0 w lo hi T b) : lo ≤ b ∧ b < hi := by
  obtain ⟨v, h1, h2, _⟩ := h.head; exact ⟨h1, h2⟩

/-- What growing answers. -/
def GrowPostQ (w0 w : World) : Option Tr → Ending → World → Prop
  | none, e, w' => e = .returned (.pointer none) ∧ Below w.heap.size w w'
  | some T, e, w' => ∃ b, e = .returned (.pointer (some ⟨b, 0, none⟩)) ∧ TrQ w0 w' w.heap.size w'.heap.size T b ∧ Below w.heap.size w w'

theorem TrQ.tr {w0 w : World} {lo hi : Nat} : ∀ (T : Tr) (b : Nat), TrQ w0 w lo hi T b → TrAt w lo hi T b
  | .t0 n pl en, b, ⟨h1, h2, a, c, c0, c1, c2, c3, _⟩ => ⟨h1, h2, a, c, c0, c1, c2, c3⟩
  | .t1 n pl en c, b, ⟨g, cap, bc, ⟨h1, h2, a, c', c0, c1, c2, c3, _⟩, k2, k3, k4⟩ => ⟨g, cap, bc, ⟨h1, h2, a, c', c0, c1, c2, c3⟩, k2, k3, TrQ.tr c bc k4⟩
  | .t2 n pl en c d, b, ⟨g, cap, bc, bd, ⟨h1, h2, a, c', c0, c1, c2, c3, _⟩, k2, k3, k4, k5, k6⟩ => ⟨g, cap, bc, bd, ⟨h1, h2, a, c', c0, c1, c2, c3⟩, k2, k3, k4, TrQ.tr c bc k5, TrQ.tr d bd k6⟩
theorem put2_hdQ {w0 w : World} {lo tb : Nat} {v3 x3 : Value} {x2 : Value} {n : Nd} {a : Option Addr} {c : Nat} {pl en : Nat} (h0 : w.cell? ⟨tb, 0, none⟩ = some (kindV n a c)) (h1 : w.cell? ⟨tb, 1, none⟩ = some (.int .i64 pl))
    (h2 : w.cell? ⟨tb, 2, none⟩ = some x2) (h3 : w.cell? ⟨tb, 3, none⟩ = some x3) (hlo : lo ≤ tb) (q : Rd w0 .i64 a n.cols ∧ n.cols.length ≤ maxLen) : HdQ w0 (put2 w tb v3 (.int .i64 en)) lo w.heap.size tb n pl en v3 := by
  have hlt : tb < w.heap.size := World.block_lt_of_cell? w ⟨tb, 0, none⟩ h0
  refine ⟨hlo, hlt, a, c, ?_, ?_, ?_, ?_, q⟩
  · unfold put2; rw [World.cell?_setCell_other _ _ _ _ (by simp), World.cell?_setCell_other _ _ _ _ (by simp)]; exact h0
  · unfold put2; rw [World.cell?_setCell_other _ _ _ _ (by simp), World.cell?_setCell_other _ _ _ _ (by simp)]; exact h1
  · unfold put2
    exact World.cell?_setCell_same _ _ _ ((World.cell?_setCell_other _ _ _ _ (by simp)).trans h2)
  · unfold put2; rw [World.cell?_setCell_other _ _ _ _ (by simp)]
    exact World.cell?_setCell_same _ _ _ h3

theorem growT_nodes (p : List Nd) : ∀ (f k : Nat) (T : Tr), growT p f k = some T → T.nodes := by
  intro f
  induction f with
  | zero => intro k T h; cases h
  | succ f ih =>
    intro k T h
    simp only [growT] at h
    cases hp : p[k]? with
    | none => rw [hp] at h; cases h
    | some n =>
      rw [hp] at h
      simp only at h
      cases hn : nodeB n with
      | false => rw [hn, if_pos rfl] at h; cases h
      | true =>
        rw [hn] at h
        simp only [Bool.true_eq_false, if_false] at h
        split at h
        · rename_i ha
          cases hc : growT p f (k + 1) with
          | none => rw [hc] at h; cases h
          | some c =>
            rw [hc] at h; simp only [Option.some.injEq] at h; subst h
            exact ⟨⟨hn, ha⟩, ih _ _ hc⟩
        · split at h
          · rename_i ha
            cases hc : growT p f (k + 1) with
            | none => rw [hc] at h; cases h
            | some c =>
              rw [hc] at h; simp only at h
              cases hd : growT p f c.en with
              | none => rw [hd] at h; cases h
              | some d =>
                rw [hd] at h; simp only [Option.some.injEq] at h; subst h
                exact ⟨⟨hn, ha⟩, ih _ _ hc, ih _ _ hd⟩
          · rename_i h1 h2
            simp only [Option.some.injEq] at h; subst h
            refine ⟨hn, ?_⟩
            have := arity_of_nodeB hn
            have hk := kind_of_nodeB hn
            rcases this with h3 | h3 | h3
            · have hc : n.kind = 0 ∨ n.kind = 1 ∨ n.kind = 2 ∨ n.kind = 3 ∨ n.kind = 4 ∨ n.kind = 5 ∨ n.kind = 6 ∨ n.kind = 7 := by omega
              rcases hc with h | h | h | h | h | h | h | h
              · exact h
              all_goals (exfalso; rw [h] at h3; revert h3; decide)
            · exact absurd h3 h1
            · exact absurd h3 h2

set_option maxRecDepth 100000 in
set_option maxHeartbeats 4000000 in
theorem growQ_any (w0 : World) (ao : Option Addr) (c : Nat) (p : List Nd) (hp : Small p) (h0 : RdN w0 ao p) : ∀ (f : Nat) (k : Int) (w : World), Below w0.heap.size w0 w → 0 ≤ k → k ≤ 1048576 → (p.length : Int) ≤ f + k →
    Calls Tryz.prog 97 #[.slice ao p.length c, .int .i64 k] w (GrowPostQ w0 w (growT p f k.toNat)) := by
  have hpl := hp.1
  have HP := Lib.hid hp.2
  have HH0 := Lib.hid h0
  clear hp h0
  intro f
  induction f with
  | zero =>
    intro k w h hk0 hk1 hf
    have hk : (p.length : Int) ≤ k := by omega
    go_enter Tryz.func97, Tryz.ntmps97
    go_wp2_with fail
    go_ret
    exact ⟨rfl, Below.refl _ _⟩
  | succ f ih =>
    intro k w h hk0 hk1 hf
    have IH := Lib.hid ih; clear ih
    by_cases hk : (p.length : Int) ≤ k
    · rw [growT_out (show p.length ≤ k.toNat by omega)]
      go_enter Tryz.func97, Tryz.ntmps97
      go_wp2_with fail
      go_ret
      exact ⟨rfl, Below.refl _ _⟩
    have hk' : k < (p.length : Int) := by omega
    obtain ⟨b, off, n, a, c', rfl, hn, hat00⟩ := HH0.out.at_ (i := k.toNat) (by omega)
    have QQ := Lib.hid (show Rd w0 .i64 a n.cols ∧ n.cols.length ≤ maxLen from ⟨hat00.rd, Nat.le_trans hat00.cap hat00.mx⟩)
    have hat := hat00.below h
    clear hat00
    have H := Lib.hid h; clear h
    have HN := Lib.hid hn
    have hcl := HP.out n (List.mem_of_getElem? hn)
    clear hn hk
    have hat0 := Lib.hid hat
    obtain ⟨c0, c1, c2, c3, c4, c5, c6, rd, cap, mx, nm⟩ := hat
    have RD := Lib.hid rd
    have NK := Lib.hid (fun w => implNodeOk_any n a c' w)
    clear rd cap mx
    cases hnb : nodeB n with
    | false =>
      have HB := Lib.hid hnb; clear hnb
      rw [growT_no HN.out HB.out]
      go_enter Tryz.func97, Tryz.ntmps97
      go_wp2_with fail
      refine (NK.out _ RD.out (by omega) nm).mono ?_
      rintro e w1 ⟨rfl, b1⟩
      rw [HB.out]
      go_wp2_with fail
      go_ret
      exact ⟨rfl, b1⟩
    | true =>
      have HB := Lib.hid hnb; clear hnb
      obtain ⟨t, v, hkv⟩ := kindV_iface HB.out a c'
      have KV := Lib.hid hkv
      have AR := Lib.hid (show ∀ w, Calls Tryz.prog 128 #[.iface t v] w fun e w' => e = .returned (.int .i64 (arity n.kind)) ∧ w = w' from fun w => hkv ▸ arityOf_any n a c' w)
      clear hkv
      have ha := arity_of_nodeB HB.out
      generalize hres : growT p (f + 1) k.toNat = res
      have RES := Lib.hid hres; clear hres
      go_enter Tryz.func97, Tryz.ntmps97
      go_wp2_with fail
      refine (NK.out _ RD.out (by omega) nm).mono ?_
      rintro e w1 ⟨rfl, b1⟩
      rw [HB.out]
      obtain ⟨d0, d1, d2, d3, d4, d5, d6, _⟩ := hat0.out.below b1
      have B1 := Lib.hid b1
      clear b1 c0 c1 c2 c3 c4 c5 c6
      go_wp2_with fail
      refine (kindOf_any n a c' _).mono ?_
      rintro e w2 ⟨rfl, b2⟩
      rw [KV.out]
      have B2 := Lib.hid (below_step B1.out (Nat.le_refl _) b2)
      clear b2 d0 d1 d2 d3 d4 d5 d6
      go_wp2_with fail
      refine (AR.out _).mono ?_
      rintro e w' ⟨rfl, rfl⟩
      have B3 := Lib.hid (show Below w.heap.size w (w2.alloc (.cells #[.iface t v, .int .i64 k, .int .i64 (k + 1), .slice none 0 0] 124)) from B2.out.alloc B2.out.size _)
      have R3 := Lib.hid (below_step H.out (Nat.le_refl _) B3.out)
      rcases ha with ha | ha | ha
      · have HA := Lib.hid ha; clear ha
        rw [HA.out]
        go_wp2_with fail
        refine wp_loop_rounds 1 ?_; rw [rounds_succ]
        go_wp2_with fail
        go_ret
        have e1 : res = some (.t0 n k.toNat (k.toNat + 1)) := RES.out.symm.trans (growT_0 HN.out HB.out (by rw [HA.out]; decide) (by rw [HA.out]; decide))
        rw [e1]
        refine ⟨w2.heap.size, rfl, ⟨B2.out.size, by simp, a, c', ?_, ?_, ?_, ?_, QQ.out⟩, B3.out⟩
        · rw [KV.out]; simp
        · simp; omega
        · simp; omega
        · simp
      · have HA := Lib.hid ha; clear ha
        rw [HA.out]
        go_wp2_with fail
        refine wp_loop_rounds 2 ?_; rw [rounds_succ]
        go_wp2_with fail
        refine (IH.out (k + 1) _ R3.out (by omega) (by omega) (by omega)).mono ?_
        rw [show (k + 1).toNat = k.toNat + 1 from by omega]
        intro e w4 hpost
        cases hc : growT p f (k.toNat + 1) with
        | none =>
          rw [hc] at hpost
          obtain ⟨rfl, b4⟩ := hpost
          have e1 := Lib.hid (RES.out.symm.trans (growT_1n HN.out HA.out hc))
          clear hc
          have T4 := Lib.hid (below_step B3.out (Nat.le_refl _) b4)
          clear b4
          go_wp2_with fail
          go_ret
          rw [e1.out]
          exact ⟨rfl, T4.out⟩
        | some ch =>
          rw [hc] at hpost
          obtain ⟨bc, rfl, tr, b4⟩ := hpost
          have e1 := Lib.hid (RES.out.symm.trans (growT_1s HN.out HB.out HA.out hc))
          clear hc
          have hc4 := fun o => b4.cell (p := ⟨w2.heap.size, o, none⟩) (by simp)
          have hf4 := fun o => b4.frozen (p := ⟨w2.heap.size, o, none⟩) (by simp)
          have hz4 : w2.heap.size < w4.heap.size := by have := b4.size; simp at this; omega
          have T4 := Lib.hid (below_step B3.out (Nat.le_refl _) b4)
          have TR := Lib.hid tr
          have hbc : w2.heap.size < bc := by have := tr.lt.1; simp at this; omega
          have hbc4 : bc < w4.heap.size := tr.lt.2
          obtain ⟨_, _, _, _, _, _, _, hce, _⟩ := tr.head
          clear tr b4
          go_wp2_with (at_builtin; refine wpList_appendV _ rfl (.tmp 48) (.tmp 50) 122 rfl w.heap.size 76 (.pointer none) 8 Tryz.underlying122 Tryz.infoPtr rfl none 0 0 [] rfl rfl OwnV.none_ w4.heap.size 1 (.pointer (some ⟨bc, 0, none⟩)) rfl (cell_one _ _ _) rfl (by simp [maxLen]) (by simp) (by have := T4.out.size; simp; omega) ?_; intro ao' c6 w6 o6 g6 l6; obtain rfl : ao' = some ⟨w4.heap.size + 1, 0, none⟩ := new_row o6 l6; have b6 := below_of_grown g6 (Nat.le_refl _) (by intro g hg; cases hg); have hc6 := fun o => b6.cell (p := ⟨w2.heap.size, o, none⟩) (by simp; omega); have hf6 := fun o => b6.frozen (p := ⟨w2.heap.size, o, none⟩) (by simp; omega); have hd6 := fun o => b6.cell (p := ⟨bc, o, none⟩) (by simp; omega); have O6 := Lib.hid o6; have B6 := Lib.hid b6; clear o6 g6 l6 b6)
          rw [rounds_succ]
          go_wp2_with fail
          go_ret
          rw [e1.out]
          have z6 : w4.heap.size + 1 < (put2 w6 w2.heap.size (.slice (some ⟨w4.heap.size + 1, 0, none⟩) 1 c6) (.int .i64 ch.en)).heap.size := by
            rw [put2_size]; exact ((O6.out.lt _ rfl).2)
          have k0 : w6.cell? ⟨w2.heap.size, 0, none⟩ = some (kindV n a c') := by rw [hc6, World.cell?_alloc_lt _ _ _ (by simp; omega), hc4, KV.out]; simp
          have k1 : w6.cell? ⟨w2.heap.size, 1, none⟩ = some (.int .i64 (k.toNat : Int)) := by rw [hc6, World.cell?_alloc_lt _ _ _ (by simp; omega), hc4]; simp; omega
          have k2 : w6.cell? ⟨w2.heap.size, 2, none⟩ = some (.int .i64 (k + 1)) := by rw [hc6, World.cell?_alloc_lt _ _ _ (by simp; omega), hc4]; simp
          have k3 : w6.cell? ⟨w2.heap.size, 3, none⟩ = some (.slice none 0 0) := by rw [hc6, World.cell?_alloc_lt _ _ _ (by simp; omega), hc4]; simp
          have t6 := (((TR.out.below (Nat.le_refl _) ((Below.refl _ w4).alloc (Nat.le_refl _) _)).below (by simp) B6.out))
          refine ⟨w2.heap.size, rfl, ⟨w4.heap.size + 1, c6, bc, ?_, ⟨?_, z6⟩, ?_, ?_⟩, ?_⟩
          · exact (put2_hdQ k0 k1 k2 k3 B2.out.size QQ.out).wide (Nat.le_refl _) (by rw [← put2_size (v3 := .slice (some ⟨w4.heap.size + 1, 0, none⟩) 1 c6) (v2 := .int .i64 ch.en)]; exact Nat.le_refl _)
          · have := T4.out.size; omega
          · exact (put2_far (by simp; omega)).trans (O6.out.cell 0 (by simp))
          · refine TrQ.wide (lo := w2.heap.size + 1) (hi := w4.heap.size) (by have := B2.out.size; omega) (Nat.le_of_lt (Nat.lt_trans (Nat.lt_succ_self _) z6)) _ _ (TrQ.keep (w := w6) (fun q h1 h2 => put2_far (by omega)) _ _ ?_)
            simpa using t6
          · exact put2_below (below_step (T4.out.alloc T4.out.size _) (Nat.le_refl _) B6.out) B2.out.size
      · have HA := Lib.hid ha; clear ha
        rw [HA.out]
        go_wp2_with fail
        refine wp_loop_rounds 3 ?_; rw [rounds_succ]
        go_wp2_with fail
        refine (IH.out (k + 1) _ R3.out (by omega) (by omega) (by omega)).mono ?_
        rw [show (k + 1).toNat = k.toNat + 1 from by omega]
        intro e w4 hpost
        cases hc : growT p f (k.toNat + 1) with
        | none =>
          rw [hc] at hpost
          obtain ⟨rfl, b4⟩ := hpost
          have e1 := Lib.hid (RES.out.symm.trans (growT_2n HN.out HA.out hc))
          clear hc
          have T4 := Lib.hid (below_step B3.out (Nat.le_refl _) b4)
          clear b4
          go_wp2_with fail
          go_ret
          rw [e1.out]
          exact ⟨rfl, T4.out⟩
        | some ch =>
          rw [hc] at hpost
          obtain ⟨bc, rfl, tr, b4⟩ := hpost
          have HC := Lib.hid hc
          obtain ⟨_, s2, s3, _⟩ := growT_sound p _ _ _ hc
          clear hc
          have hc4 := fun o => b4.cell (p := ⟨w2.heap.size, o, none⟩) (by simp)
          have hf4 := fun o => b4.frozen (p := ⟨w2.heap.size, o, none⟩) (by simp)
          have hz4 : w2.heap.size < w4.heap.size := by have := b4.size; simp at this; omega
          have T4 := Lib.hid (below_step B3.out (Nat.le_refl _) b4)
          have TR := Lib.hid tr
          have hbc : w2.heap.size < bc := by have := tr.lt.1; simp at this; omega
          have hbc4 : bc < w4.heap.size := tr.lt.2
          obtain ⟨_, _, _, _, _, _, _, hce, _⟩ := tr.head
          clear tr b4
          go_wp2_with (at_builtin; refine wpList_appendV _ rfl (.tmp 48) (.tmp 50) 122 rfl w.heap.size 76 (.pointer none) 8 Tryz.underlying122 Tryz.infoPtr rfl none 0 0 [] rfl rfl OwnV.none_ w4.heap.size 1 (.pointer (some ⟨bc, 0, none⟩)) rfl (cell_one _ _ _) rfl (by simp [maxLen]) (by simp) (by have := T4.out.size; simp; omega) ?_; intro ao' c6 w6 o6 g6 l6; obtain rfl : ao' = some ⟨w4.heap.size + 1, 0, none⟩ := new_row o6 l6; have b6 := below_of_grown g6 (Nat.le_refl _) (by intro g hg; cases hg); have hc6 := fun o => b6.cell (p := ⟨w2.heap.size, o, none⟩) (by simp; omega); have hf6 := fun o => b6.frozen (p := ⟨w2.heap.size, o, none⟩) (by simp; omega); have hd6 := fun o => b6.cell (p := ⟨bc, o, none⟩) (by simp; omega); have O6 := Lib.hid o6; have B6 := Lib.hid b6; clear o6 g6 l6 b6)
          rw [rounds_succ]
          go_wp2_with fail
          have k0 : (put2 w6 w2.heap.size (.slice (some ⟨w4.heap.size + 1, 0, none⟩) 1 c6) (.int .i64 ch.en)).cell? ⟨w2.heap.size, 0, none⟩ = some (.iface t v) := by
            unfold put2; rw [World.cell?_setCell_other _ _ _ _ (by simp), World.cell?_setCell_other _ _ _ _ (by simp), hc6, World.cell?_alloc_lt _ _ _ (by simp; omega), hc4]; simp
          have k1 : (put2 w6 w2.heap.size (.slice (some ⟨w4.heap.size + 1, 0, none⟩) 1 c6) (.int .i64 ch.en)).cell? ⟨w2.heap.size, 1, none⟩ = some (.int .i64 k) := by
            unfold put2; rw [World.cell?_setCell_other _ _ _ _ (by simp), World.cell?_setCell_other _ _ _ _ (by simp), hc6, World.cell?_alloc_lt _ _ _ (by simp; omega), hc4]; simp
          have j2 : w6.cell? ⟨w2.heap.size, 2, none⟩ = some (.int .i64 (k + 1)) := by rw [hc6, World.cell?_alloc_lt _ _ _ (by simp; omega), hc4]; simp
          have j3 : w6.cell? ⟨w2.heap.size, 3, none⟩ = some (.slice none 0 0) := by rw [hc6, World.cell?_alloc_lt _ _ _ (by simp; omega), hc4]; simp
          have k2 : (put2 w6 w2.heap.size (.slice (some ⟨w4.heap.size + 1, 0, none⟩) 1 c6) (.int .i64 ch.en)).cell? ⟨w2.heap.size, 2, none⟩ = some (.int .i64 ch.en) := by
            unfold put2; exact World.cell?_setCell_same _ _ _ ((World.cell?_setCell_other _ _ _ _ (by simp)).trans j2)
          have k3 : (put2 w6 w2.heap.size (.slice (some ⟨w4.heap.size + 1, 0, none⟩) 1 c6) (.int .i64 ch.en)).cell? ⟨w2.heap.size, 3, none⟩ = some (.slice (some ⟨w4.heap.size + 1, 0, none⟩) 1 c6) := by
            unfold put2; rw [World.cell?_setCell_other _ _ _ _ (by simp)]; exact World.cell?_setCell_same _ _ _ j3
          have kf : ∀ o, (put2 w6 w2.heap.size (.slice (some ⟨w4.heap.size + 1, 0, none⟩) 1 c6) (.int .i64 ch.en)).frozen? ⟨w2.heap.size, o, none⟩ = false := fun o => by
            unfold put2; go_simp
          have O7 := Lib.hid (show OwnV (put2 w6 w2.heap.size (.slice (some ⟨w4.heap.size + 1, 0, none⟩) 1 c6) (.int .i64 ch.en)) w.heap.size 76 (some ⟨w4.heap.size + 1, 0, none⟩) c6 [.pointer (some ⟨bc, 0, none⟩)] from O6.out.keep fun x hx _ => put2_block (by cases hx; simp; omega))
          have T7 := Lib.hid (put2_below (tb := w2.heap.size) (v3 := .slice (some ⟨w4.heap.size + 1, 0, none⟩) 1 c6) (v2 := .int .i64 ch.en) (below_step (T4.out.alloc T4.out.size _) (Nat.le_refl _) B6.out) B2.out.size)
          have TR7 := Lib.hid (show TrQ w0 (put2 w6 w2.heap.size (.slice (some ⟨w4.heap.size + 1, 0, none⟩) 1 c6) (.int .i64 ch.en)) (w2.heap.size + 1) w4.heap.size ch bc from TrQ.keep (w := w6) (fun q h1 h2 => put2_far (by omega)) _ _ (by simpa using ((TR.out.below (Nat.le_refl _) ((Below.refl _ w4).alloc (Nat.le_refl _) _)).below (by simp) B6.out)))
          have z7 : w4.heap.size + 1 < (put2 w6 w2.heap.size (.slice (some ⟨w4.heap.size + 1, 0, none⟩) 1 c6) (.int .i64 ch.en)).heap.size := by rw [put2_size]; exact ((O6.out.lt _ rfl).2)
          clear hc4 hf4 hc6 hf6 hd6 j2 j3 hce O6 B6 TR T4
          change Calls Tryz.prog 97 _ (put2 w6 w2.heap.size (.slice (some ⟨w4.heap.size + 1, 0, none⟩) 1 c6) (.int .i64 ch.en)) _
          generalize (put2 w6 w2.heap.size (.slice (some ⟨w4.heap.size + 1, 0, none⟩) 1 c6) (.int .i64 ch.en)) = w7 at k0 k1 k2 k3 kf O7 T7 TR7 z7 ⊢
          refine (IH.out (ch.en : Int) _ (below_step H.out (Nat.le_refl _) T7.out) (by omega) (by omega) (by omega)).mono ?_
          rw [Int.toNat_natCast]
          intro e w8 hpost
          cases hd : growT p f ch.en with
          | none =>
            rw [hd] at hpost
            obtain ⟨rfl, b8⟩ := hpost
            have e1 := Lib.hid (RES.out.symm.trans (growT_2sn HN.out HA.out HC.out hd))
            clear hd
            have T8 := Lib.hid (below_step T7.out (Nat.le_refl _) b8)
            clear b8
            go_wp2_with fail
            go_ret
            rw [e1.out]
            exact ⟨rfl, T8.out⟩
          | some dh =>
            rw [hd] at hpost
            obtain ⟨bd, rfl, tr, b8⟩ := hpost
            have e1 := Lib.hid (RES.out.symm.trans (growT_2ss HN.out HB.out HA.out HC.out hd))
            clear hd
            have hc8 := fun o => b8.cell (p := ⟨w2.heap.size, o, none⟩) (by simp; omega)
            have hf8 := fun o => b8.frozen (p := ⟨w2.heap.size, o, none⟩) (by simp; omega)
            have hz8 : w7.heap.size ≤ w8.heap.size := b8.size
            have hz28 : w2.heap.size < w8.heap.size := by omega
            have hz2d : w2.heap.size < bd := by have := tr.lt.1; omega
            have hz2d' : bd ≠ w2.heap.size := by omega
            have T8 := Lib.hid (below_step T7.out (Nat.le_refl _) b8)
            have O8 := Lib.hid (O7.out.below b8)
            have TR8 := Lib.hid (TR7.out.below (by omega) b8)
            have TD := Lib.hid tr
            have hbd : w7.heap.size ≤ bd := tr.lt.1
            have hbd8 : bd < w8.heap.size := tr.lt.2
            obtain ⟨_, _, _, _, _, _, _, hde, _⟩ := tr.head
            clear tr b8
            go_wp2_with (at_builtin; refine wpList_appendV _ rfl (.tmp 48) (.tmp 50) 122 rfl w.heap.size 76 (.pointer none) 8 Tryz.underlying122 Tryz.infoPtr rfl (some ⟨w4.heap.size + 1, 0, none⟩) c6 1 [.pointer (some ⟨bc, 0, none⟩)] rfl rfl (O8.out.alloc _) w8.heap.size 1 (.pointer (some ⟨bd, 0, none⟩)) rfl (cell_one _ _ _) rfl (by simp [maxLen]) (by simp) (by have := T8.out.size; simp; omega) ?_; intro ao' c10 w10 o10 g10 l10; obtain ⟨g', rfl, hg'⟩ := row_of l10; have b10 := below_of_grown (B := w4.heap.size + 1) g10 (by simp; omega) (by intro g hg; simp at hg; omega); have hc10 := fun o => b10.cell (p := ⟨w2.heap.size, o, none⟩) (by simp; omega); have hf10 := fun o => b10.frozen (p := ⟨w2.heap.size, o, none⟩) (by simp; omega); have hd10 := fun o => World.cell?_of_block (a := ⟨bd, o, none⟩) (g10.block bd (by simp; omega) (by simp; omega)); have O10 := Lib.hid o10; have B10 := Lib.hid b10; have G10 := Lib.hid g10; clear o10 g10 l10 b10)
            rw [rounds_succ]
            go_wp2_with fail
            go_ret
            rw [e1.out]
            have g10b := O10.out.lt _ rfl
            simp only at g10b
            have z8 : w8.heap.size < w10.heap.size := by have := G10.out.size; simp at this; omega
            have q0 : w10.cell? ⟨w2.heap.size, 0, none⟩ = some (kindV n a c') := by rw [hc10, World.cell?_alloc_lt _ _ _ (by simp; omega), hc8, k0, KV.out]
            have q1 : w10.cell? ⟨w2.heap.size, 1, none⟩ = some (.int .i64 (k.toNat : Int)) := by rw [hc10, World.cell?_alloc_lt _ _ _ (by simp; omega), hc8, k1]; simp; omega
            have q2 : w10.cell? ⟨w2.heap.size, 2, none⟩ = some (.int .i64 ch.en) := by rw [hc10, World.cell?_alloc_lt _ _ _ (by simp; omega), hc8, k2]
            have q3 : w10.cell? ⟨w2.heap.size, 3, none⟩ = some (.slice (some ⟨w4.heap.size + 1, 0, none⟩) 1 c6) := by rw [hc10, World.cell?_alloc_lt _ _ _ (by simp; omega), hc8, k3]
            have hsz : (put2 w10 w2.heap.size (.slice (some ⟨g', 0, none⟩) 2 c10) (.int .i64 dh.en)).heap.size = w10.heap.size := put2_size
            have tc : TrQ w0 w10 (w2.heap.size + 1) w4.heap.size ch bc := TrQ.keep (w := w8.alloc (.cells #[.pointer (some ⟨bd, 0, none⟩)] 76)) (fun q h1 h2 => B10.out.cell (by omega)) _ _ (TR8.out.below (by omega) ((Below.refl _ w8).alloc (Nat.le_refl _) _))
            have td : TrQ w0 w10 w7.heap.size w8.heap.size dh bd := TrQ.keep (w := w8.alloc (.cells #[.pointer (some ⟨bd, 0, none⟩)] 76)) (fun q h1 h2 => World.cell?_of_block (G10.out.block q.block (by simp; omega) (by simp; omega))) _ _ (TD.out.below (Nat.le_refl _) ((Below.refl _ w8).alloc (Nat.le_refl _) _))
            have hlo := B2.out.size
            have hne : g' ≠ w2.heap.size := by omega
            refine ⟨w2.heap.size, rfl, ⟨g', c10, bc, bd, ?_, ⟨g10b.1, ?_⟩, ?_, ?_, ?_, ?_⟩, ?_⟩
            · exact (put2_hdQ q0 q1 q2 q3 hlo QQ.out).wide (Nat.le_refl _) (Nat.le_of_eq hsz.symm)
            · exact Nat.lt_of_lt_of_le g10b.2 (Nat.le_of_eq hsz.symm)
            · exact (put2_far hne).trans (O10.out.cell 0 (by simp))
            · exact (put2_far hne).trans (O10.out.cell 1 (by simp))
            · exact TrQ.wide (by omega) (Nat.le_trans (show w4.heap.size ≤ w10.heap.size by omega) (Nat.le_of_eq hsz.symm)) _ _ (TrQ.keep (w := w10) (fun q h1 h2 => put2_far (by omega)) _ _ tc)
            · exact TrQ.wide (by omega) (Nat.le_trans (show w8.heap.size ≤ w10.heap.size by omega) (Nat.le_of_eq hsz.symm)) _ _ (TrQ.keep (w := w10) (fun q h1 h2 => put2_far (by omega)) _ _ td)
            · refine put2_below ?_ hlo
              exact (T8.out.alloc T8.out.size _).grown G10.out (by have := T8.out.size; simp; omega) (by intro g hg; simp at hg; omega)
set_option maxHeartbeats 1600000 in
theorem treeOfQ_any (ao : Option Addr) (c : Nat) (p : List Nd) (hp : Small p) (w : World) (h : RdN w ao p) :
    Calls Tryz.prog 52 #[.slice ao p.length c] w (GrowPostQ w w (treeN p)) := by
  have H := Lib.hid h; clear h
  have hpl := hp.1
  have SM := Lib.hid hp; clear hp
  by_cases h40 : 40 < p.length
  · have E : treeN p = none := by unfold treeN; rw [if_neg (by omega)]
    rw [E]
    have h4 : (40 : Int) < p.length := by omega
    go_enter Tryz.func52, Tryz.ntmps52
    go_wp2_with fail
    go_ret
    exact ⟨rfl, Below.refl _ _⟩
  · have h4 : (p.length : Int) ≤ 40 := by omega
    generalize hres : treeN p = res
    have RES := Lib.hid hres; clear hres
    go_enter Tryz.func52, Tryz.ntmps52
    go_wp2_with fail
    refine (growQ_any w ao c p SM.out H.out p.length 0 _ (Below.refl _ _) (by omega) (by omega) (by omega)).mono ?_
    rw [show (0 : Int).toNat = 0 from rfl]
    intro e w1 hpost
    cases hg : growT p p.length 0 with
    | none =>
      rw [hg] at hpost
      obtain ⟨rfl, b1⟩ := hpost
      have E := Lib.hid (RES.out.symm.trans (show treeN p = none by unfold treeN; rw [if_pos (by omega), hg]))
      clear hg
      go_wp2_with fail
      go_ret
      rw [E.out]
      exact ⟨rfl, b1⟩
    | some T =>
      rw [hg] at hpost
      obtain ⟨b, rfl, tr, b1⟩ := hpost
      have TR := Lib.hid tr
      have DE := Lib.hid (depth_any T w1 _ _ b (TrQ.tr _ _ tr) (by have := depth_le p _ _ _ hg; omega))
      obtain ⟨v, _, _, a, c', c0, c1, c2, c3, _⟩ := tr.head
      have B1 := Lib.hid b1
      clear tr b1
      have HG := Lib.hid hg; clear hg
      by_cases he : T.en = p.length
      · have he1 : ((T.en : Int) != (p.length : Int)) = false := by simp [he]
        by_cases hd : T.depth ≤ 10
        · have hd1 : (T.depth : Int) ≤ 10 := by omega
          have E := Lib.hid (RES.out.symm.trans (show treeN p = some T by unfold treeN; rw [if_pos (by omega), HG.out]; simp only; rw [if_pos ⟨he, hd⟩]))
          clear he hd
          go_wp2_with (go_at_call 98; refine DE.out.mono ?_; rintro e w' ⟨rfl, rfl⟩)
          go_ret
          rw [E.out]
          exact ⟨b, rfl, TR.out, B1.out⟩
        · have hd1 : (10 : Int) < T.depth := by omega
          have E := Lib.hid (RES.out.symm.trans (show treeN p = none by unfold treeN; rw [if_pos (by omega), HG.out]; simp only; rw [if_neg (by omega)]))
          clear he hd
          go_wp2_with (go_at_call 98; refine DE.out.mono ?_; rintro e w' ⟨rfl, rfl⟩)
          go_ret
          rw [E.out]
          exact ⟨rfl, B1.out⟩
      · have he1 : ((T.en : Int) != (p.length : Int)) = true := by simp; omega
        have E := Lib.hid (RES.out.symm.trans (show treeN p = none by unfold treeN; rw [if_pos (by omega), HG.out]; simp only; rw [if_neg (by omega)]))
        clear he
        go_wp2_with fail
        go_ret
        rw [E.out]
        exact ⟨rfl, B1.out⟩
end Go.Proofs.YtanfllednlpbaaaGreat

