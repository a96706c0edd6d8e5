/-
  Contract of spec.l04Eval at a node of one child.
-/
import Derived.Test.YtanfllednlpbaaaGreatM50x
import Derived.Test.YtanfllednlpbaaaGreatM34x
import Derived.Test.YtanfllednlpbaaaGreatM39x
import Derived.Deep.RegionWith
namespace Go.Proofs.YtanfllednlpbaaaGreat
open Go.RowKit
set_option linter.unusedSimpArgs false
set_option linter.unusedVariables false

theorem infoRr : (Tryz.prog.info? 29).map (fun i => (i.zero, i.size, i.bytes)) = some (some (.slice none 0 0), 1, 24) := by kernel_rfl
/-- What is known of l04Eval at a tree. -/
def EvK (sa : Option Addr) (cs : Nat) (s : List Tb) (ra : Option Addr) (cr : Nat) (l : List RowsL) (ao : Option Addr) (c : Nat) (p : List Nd) (w0 : World) (T : Tr) : Prop :=
  ∀ (z : Nat → Prop) (k : Nat) (w : World), Below w0.heap.size w0 w → (∀ k, z k → w0.heap.size ≤ k ∧ k < w.heap.size) → RdT w sa s → RdN w ao p → growT p p.length k = some T → T.depth ≤ 10 → widT (fnOf s) T ≠ -1 →
    Calls Tryz.prog 45 #[.slice sa s.length cs, .slice ra l.length cr, .slice ao p.length c, .int .i64 k] w (EvQ z (gOf s l) T w)
theorem EvQ.split {z : Nat → Prop} {g : Sto} {T : Tr} {w w' : World} {e : Ending} (h : EvQ z g T w e w') : Below w.heap.size w w' ∧ ((∃ (L : RowsL) (ao : Option Addr) (cc : Nat), evT g T = some L ∧ e = .returned (.tuple #[.slice ao L.length cc, .bool true]) ∧ RdX z w' ao L ∧ L.length ≤ cc) ∨ (evT g T = none ∧ ∃ v, e = .returned (.tuple #[v, .bool false]))) := h

theorem RdX.take {z : Nat → Prop} {w : World} {a : Option Addr} {l : RowsL} (h : RdX z w a l) (k : Nat) : RdX z w a (l.take k) := by
  rcases h with h | ⟨b, off, rfl, hb, hc⟩
  · subst h; exact .inl (by simp)
  · refine .inr ⟨b, off, rfl, hb, fun i r hr => hc i r ?_⟩
    rw [List.getElem?_take] at hr
    split at hr
    · exact hr
    · cases hr
theorem ev_end {z : Nat → Prop} {g : Sto} {T : Tr} {M : RowsL} {w w' : World} {ao : Option Addr} {cc : Nat} (E : evT g T = few M) (b : Below w.heap.size w w') (rd : RdX z w' ao M) (hc : M.length ≤ cc) : EvQ z g T w (.returned (.tuple #[.slice ao M.length cc, .bool (decide ((M.length : Int) ≤ 200))])) w' := by
  refine ⟨b, ?_⟩
  by_cases h : M.length ≤ 200
  · have h' : ((M.length : Int) ≤ 200) := by omega
    exact .inl ⟨M, ao, cc, E.trans (few_of h), by simp [h'], rd, hc⟩
  · have h' : ¬ ((M.length : Int) ≤ 200) := by omega
    exact .inr ⟨E.trans (few_no (by omega)), .slice ao M.length cc, by simp only [h', decide_false]⟩

set_option maxRecDepth 100000 in
set_option maxHeartbeats 12800000 in
theorem ev_t1 (sa : Option Addr) (cs : Nat) (s : List Tb) (ra : Option Addr) (cr : Nat) (l : List RowsL) (ao : Option Addr) (c : Nat) (p : List Nd) (T0 : Tr) (hst : storeB s l = true) (hsl : s.length ≤ 1048576) (hp : p.length ≤ 1048576) (ht : treeN p = some T0) (w0 : World) (n : Nd) (pl en : Nat) (ch : Tr) (ih : EvK sa cs s ra cr l ao c p w0 ch) : EvK sa cs s ra cr l ao c p w0 (Tr.t1 n pl en ch) := by
  intro z k w hb0 hzz hrs hrp hg hd hw
  have HB0 := Lib.hid hb0
  have HZZ := Lib.hid hzz
  clear hb0 hzz
  have HG := Lib.hid hg
  have NDS := Lib.hid (growT_nodes p _ _ _ hg)
  obtain ⟨n', hn, hnb, hS⟩ := grow_inv hg
  rcases hS with ⟨hS, _⟩ | ⟨c', hS, ha, hc⟩ | ⟨c', d', hS, _⟩
  case inl => cases hS
  case inr.inr => cases hS
  cases hS
  have hwc : widT (fnOf s) ch ≠ -1 := fun h => hw (by unfold widT; rw [h]; rfl)
  have hov : over1 n (widT (fnOf s) ch) ≠ -1 := by
    have := hw; unfold widT at this; rwa [if_neg hwc] at this
  have HWD := Lib.hid (evT_w (gOf_wide hst) ch NDS.out.2 hwc)
  have hkl : pl < p.length := (List.getElem?_eq_some_iff.1 hn).1
  obtain ⟨b, off, n2, a, c2, rfl, hn2, hat⟩ := hrp.at_ hkl
  obtain rfl : n = n2 := by rw [hn] at hn2; injection hn2
  obtain ⟨c0, c1, c2', c3, c4, c5, c6, rd, cap, mx, nm⟩ := hat
  have RDC := Lib.hid rd
  have hcl : n.cols.length ≤ maxLen := Nat.le_trans cap mx
  clear rd hn2 cap mx
  obtain ⟨W1, hW1⟩ : ∃ W1, W1 = w.alloc (.cells (#[.int .i64 n.kind, .string n.name, .int .i64 n.col, .int .i64 n.op, .int .i64 n.num, .bool n.slot, .slice a n.cols.length c2]) 39) := ⟨_, rfl⟩
  have Z1 := Lib.hid (show W1.heap.size = w.heap.size + 1 by rw [hW1]; simp)
  have A1 := Lib.hid (show Below w.heap.size w W1 by rw [hW1]; exact (Below.refl _ _).alloc (Nat.le_refl _) _)
  have f0 : W1.cell? ⟨w.heap.size, 0, none⟩ = some (.int .i64 n.kind) := by rw [hW1, World.cell?_alloc_new]; rfl
  have f1 : W1.cell? ⟨w.heap.size, 1, none⟩ = some (.string n.name) := by rw [hW1, World.cell?_alloc_new]; rfl
  have f2 : W1.cell? ⟨w.heap.size, 2, none⟩ = some (.int .i64 n.col) := by rw [hW1, World.cell?_alloc_new]; rfl
  have f3 : W1.cell? ⟨w.heap.size, 3, none⟩ = some (.int .i64 n.op) := by rw [hW1, World.cell?_alloc_new]; rfl
  have f4 : W1.cell? ⟨w.heap.size, 4, none⟩ = some (.int .i64 n.num) := by rw [hW1, World.cell?_alloc_new]; rfl
  have f5 : W1.cell? ⟨w.heap.size, 5, none⟩ = some (.bool n.slot) := by rw [hW1, World.cell?_alloc_new]; rfl
  have f6 : W1.cell? ⟨w.heap.size, 6, none⟩ = some (.slice a n.cols.length c2) := by rw [hW1, World.cell?_alloc_new]; rfl
  have OE := Lib.hid (show OwnV (W1.alloc (.cells #[] 29)) (w.heap.size + 1) 29 (some ⟨w.heap.size + 1, 0, none⟩) 0 [] from by
    rw [← Z1.out]; exact World.ownsRow_lit W1 #[] 0 (Nat.le_refl _) (Nat.zero_le _) rfl)
  have NE := Lib.hid ((Below.refl W1.heap.size W1).alloc (Nat.le_refl _) (.cells #[] 29))
  have HRS := Lib.hid (hrs.below A1.out); have HRP := Lib.hid (hrp.below A1.out)
  have FIN := Lib.hid (fun w' (hc : Below W1.heap.size W1 w') => (A1.out.trans (hc.mono (by rw [Z1.out]; exact Nat.le_succ _)) : Below w.heap.size w w'))
  have RD1 := Lib.hid (RDC.out.below A1.out)
  have hbw : b < w.heap.size := World.block_lt_of_cell? w ⟨b, off + pl * 7, none⟩ c0
  have hdc : ch.depth ≤ 9 := by simp only [Tr.depth] at hd; omega
  have IHC := Lib.hid (show ∀ W, Below w.heap.size w W → RdT W sa s → RdN W (some ⟨b, off, none⟩) p → Calls Tryz.prog 45 #[.slice sa s.length cs, .slice ra l.length cr, .slice (some ⟨b, off, none⟩) p.length c, .int .i64 ((pl : Int) + 1)] W (EvQ z (gOf s l) ch W) from fun W h1 h2 h3 => by
    have := ih z (pl + 1) W (HB0.out.trans (h1.mono HB0.out.size)) (fun k hk => ⟨(HZZ.out k hk).1, Nat.lt_of_lt_of_le (HZZ.out k hk).2 h1.size⟩) h2 h3 hc (by omega) hwc
    rwa [show ((pl + 1 : Nat) : Int) = (pl : Int) + 1 by omega] at this)
  have KC := Lib.hid (fun h2 : n.kind = 2 => cols_of_nodeB hnb h2)
  have HNB := Lib.hid hnb
  have HA := Lib.hid ha
  have HOV := Lib.hid hov
  have EN := Lib.hid (show evT (gOf s l) ch = none → evT (gOf s l) (.t1 n pl ch.en ch) = none from fun h => by unfold evT; rw [h])
  have EY := Lib.hid (show ∀ L, evT (gOf s l) ch = some L → evT (gOf s l) (.t1 n pl ch.en ch) = few (on1 n L) from fun L h => by conv => lhs; unfold evT; rw [h])
  have KO := Lib.hid (show KidsOk p ((pl : Int)).toNat [(pl : Int) + 1] by rw [Int.toNat_natCast]; exact ⟨n, hn, .inr (.inl ⟨ha, rfl, _, _, endN_of_grow ht hc (by omega)⟩)⟩)
  clear hn hw hwc hov
  go_enter Tryz.func45, Tryz.ntmps45
  go_wp2_with fail
  rw [← hW1]
  refine (specKids_any (some ⟨b, off, none⟩) c p pl [(pl : Int) + 1] _ (HRP.out.below NE.out) hp (by omega) (by omega) KO.out).mono ?_
  rintro e w3 ⟨a3, c3', rfl, o3, b3⟩
  have N3 := Lib.hid (below_step NE.out (Nat.le_refl _) b3)
  have OW3 := Lib.hid (OE.out.below b3)
  obtain ⟨g3, rfl, hgb3, hg3⟩ := own_some o3 (by simp)
  have hgb3' : w.heap.size + 2 ≤ g3 := by have := Z1.out; simp at hgb3; omega
  clear hgb3 c0 c1 c2' c3 c4 c5 c6 hW1
  have kk := own_cell o3 0 ((pl : Int) + 1) rfl
  clear o3 b3 ih hc ha hnb hrs hrp
  go_wp2_with fail
  refine wp_loop_rounds 2 ?_; rw [rounds_succ]
  go_wp2_with fail
  refine (IHC.out _ (FIN.out _ N3.out) (HRS.out.below N3.out) (HRP.out.below N3.out)).mono ?_
  rintro e w4 h4
  obtain ⟨b4, res⟩ := h4.split
  have N4 := Lib.hid (below_step N3.out (Nat.le_refl _) b4)
  have OW4 := Lib.hid (OW3.out.below b4)
  clear b4 h4 kk
  rcases res with ⟨L, xa, xc, hL, rfl, hrd, hcap⟩ | ⟨hL, v, rfl⟩
  · obtain ⟨hAW, h200⟩ := HWD.out L hL
    have E1 := Lib.hid (EY.out L hL)
    have AW := Lib.hid hAW
    have RDL := Lib.hid hrd
    have CAP := Lib.hid hcap
    clear hL hrd hAW hcap
    go_wp2_with (at_builtin; refine wpList_appendV _ rfl (.tmp 46) (.tmp 48) 25 rfl (w.heap.size + 1) 29 (.slice none 0 0) 24 Tryz.underlying25 infoRr rfl (some ⟨w.heap.size + 1, 0, none⟩) 0 0 [] rfl rfl (OW4.out.alloc _) _ 1 (.slice xa L.length xc) rfl (cell_one _ _ _) rfl (by simp [maxLen]) (by simp) (by have := N4.out.size; rw [Z1.out] at this; simp; omega) ?_; intro ao5 c5' w5 o5 g5 k5; have n5 := ((Below.refl W1.heap.size w4).alloc N4.out.size (.cells #[.slice xa L.length xc] 29)).grown g5 (by have := N4.out.size; simp; omega) (by intro q hq; simp at hq; rw [Z1.out]; omega); have R5 := Lib.hid (RDL.out.below (((Below.refl w4.heap.size w4).alloc (Nat.le_refl _) (.cells #[.slice xa L.length xc] 29)))); have N5 := Lib.hid (N4.out.trans n5); have O5 := Lib.hid o5; have G5 := Lib.hid g5; clear o5 g5 n5)
    have R5' := Lib.hid (RDL.out.staysX (stays_grown OW4.out rfl G5.out))
    obtain ⟨g5', rfl, hgb5, hgl5⟩ : ∃ g, ao5 = some ⟨g, 0, none⟩ ∧ w.heap.size + 1 ≤ g ∧ g < w5.heap.size := by
      rcases O5.out.form with ⟨_, _, e⟩ | h
      · cases e
      · exact h
    have in0 : w5.cell? ⟨g5', 0, none⟩ = some (.slice xa L.length xc) := O5.out.cell 0 (by simp)
    have e5 := fun o => N5.out.cell (p := ⟨w.heap.size, o, none⟩) (by rw [Z1.out]; exact Nat.lt_succ_self _)
    have q0 := (e5 0).trans f0; have q1 := (e5 1).trans f1; have q2 := (e5 2).trans f2; have q3 := (e5 3).trans f3; have q4 := (e5 4).trans f4; have q5 := (e5 5).trans f5; have q6 := (e5 6).trans f6
    have hsz5 : w.heap.size < w5.heap.size := by omega
    have RDN5 := Lib.hid (RD1.out.below N5.out)
    have F6 := Lib.hid (fun w' (h : Below w5.heap.size w5 w') => FIN.out w' (below_step N5.out (Nat.le_refl _) h))
    have OUT := Lib.hid ((Below.refl w5.heap.size w5).alloc (Nat.le_refl _) (.cells #[] 34))
    clear e5 f0 f1 f2 f3 f4 f5 f6 G5 O5 R5
    have OUTD := Lib.hid OUT.out.drew
    rcases arity_1 HA.out with e | e | e | e | e
    · rw [on1_1 e] at E1
      obtain ⟨h1, h2⟩ := nodeE_1 HNB.out e
      have AWL := AW.out
      have FI := Lib.hid (show ∀ W, Below w5.heap.size w5 W → Calls Tryz.prog 80 #[.agg #[.int .i64 n.kind, .string n.name, .int .i64 n.col, .int .i64 n.op, .int .i64 n.num, .bool n.slot, .slice a n.cols.length c2], .slice xa L.length xc] W (GivesR z W (filtL n L)) from fun W hW => specFilter_any z n h2 a c2 xa xc L W (R5'.out.below hW) (fun k hk => Nat.lt_of_lt_of_le (Nat.lt_trans (HZZ.out k hk).2 hsz5) hW.size) (by omega) h1 (fun r hr => by have := AWL r hr; have := (over1_c (.inl e) HOV.out).2; omega))
      generalize filtL n L = M at E1 FI
      rw [e] at FI q0
      clear AWL
      rw [rounds_succ]
      go_wp2_with fail
      go_region_with (go_at_call 80; refine (FI.out _ OUTD.out).mono ?_; rintro e w7 ⟨ao, cc, rfl, rd, b7, hcap⟩; have RD7 := Lib.hid rd; have B7 := Lib.hid (below_step OUTD.out (Nat.le_refl _) b7); have CP7 := Lib.hid hcap; clear rd b7 hcap)
      all_goals
        go_wp2_with fail
        go_ret2
        exact ev_end E1.out (F6.out _ B7.out) RD7.out CP7.out
    · rw [on1_2 e] at E1
      have h1 := nodeE_2 HNB.out e
      have h2 := cols_of_nodeB HNB.out e
      have AWL := AW.out
      have FI := Lib.hid (show ∀ W, Below w5.heap.size w5 W → Calls Tryz.prog 81 #[.agg #[.int .i64 n.kind, .string n.name, .int .i64 n.col, .int .i64 n.op, .int .i64 n.num, .bool n.slot, .slice a n.cols.length c2], .slice xa L.length xc] W (GivesR z W (keepL n L)) from fun W hW => specKeep_any z n a c2 xa xc L W (R5'.out.below hW).rd (fun k hk => Nat.lt_of_lt_of_le (Nat.lt_trans (HZZ.out k hk).2 hsz5) hW.size) (by omega) (RDN5.out.below hW) (by omega) (fun r hr cc hcc => by have := AWL r hr; have := (over1_k e HOV.out).2 cc hcc; have := h1 cc hcc; omega))
      generalize keepL n L = M at E1 FI
      rw [e] at FI q0
      clear AWL
      rw [rounds_succ]
      go_wp2_with fail
      go_region_with (go_at_call 81; refine (FI.out _ OUTD.out).mono ?_; rintro e w7 ⟨ao, cc, rfl, rd, b7, hcap⟩; have RD7 := Lib.hid rd; have B7 := Lib.hid (below_step OUTD.out (Nat.le_refl _) b7); have CP7 := Lib.hid hcap; clear rd b7 hcap)
      all_goals
        go_wp2_with fail
        go_ret2
        exact ev_end E1.out (F6.out _ B7.out) RD7.out CP7.out
    · rw [on1_5 e] at E1
      have h1 := nodeE_5 HNB.out e
      have AWL := AW.out
      have FI := Lib.hid (show ∀ W, Below w5.heap.size w5 W → Calls Tryz.prog 83 #[.agg #[.int .i64 n.kind, .string n.name, .int .i64 n.col, .int .i64 n.op, .int .i64 n.num, .bool n.slot, .slice a n.cols.length c2], .slice xa L.length xc] W (GivesR z W (sortL (lessC n.col) L)) from fun W hW => specSort_any z n a c2 xa xc L W (R5'.out.below hW) (fun k hk => Nat.lt_of_lt_of_le (Nat.lt_trans (HZZ.out k hk).2 hsz5) hW.size) h200 h1 (fun r hr => by have := AWL r hr; have := (over1_c (.inr e) HOV.out).2; omega))
      generalize sortL (lessC n.col) L = M at E1 FI
      rw [e] at FI q0
      clear AWL
      rw [rounds_succ]
      go_wp2_with fail
      go_region_with (go_at_call 83; refine (FI.out _ OUTD.out).mono ?_; rintro e w7 ⟨ao, cc, rfl, rd, b7, hcap⟩; have RD7 := Lib.hid rd; have B7 := Lib.hid (below_step OUTD.out (Nat.le_refl _) b7); have CP7 := Lib.hid hcap; clear rd b7 hcap)
      all_goals
        go_wp2_with fail
        go_ret2
        exact ev_end E1.out (F6.out _ B7.out) RD7.out CP7.out
    · rw [on1_6 e] at E1
      have h1 := nodeE_6 HNB.out e
      obtain ⟨nk, hnk⟩ : ∃ k : Nat, n.num = (k : Int) := ⟨_, (Int.toNat_of_nonneg (by omega)).symm⟩
      rw [hnk, Int.toNat_natCast] at E1
      rw [e] at q0
      rw [hnk] at q4
      have OUTQ := Lib.hid (OUT.out)
      have R6 := Lib.hid (R5'.out.below OUT.out)
      have hcl5 : g5' < w5.heap.size := hgl5
      clear h1
      by_cases hlt : nk < L.length
      · have hlz : (nk : Int) < (L.length : Int) := by omega
        obtain ⟨xb, xo, rfl⟩ : ∃ b o, xa = some ⟨b, o, none⟩ := by
          rcases R6.out.rd with h | ⟨b, o, h, _⟩
          · rw [h] at hlt; cases hlt
          · exact ⟨b, o, h⟩
        have hcap := CAP.out
        have TL := Lib.hid (show (L.take nk).length = nk by rw [List.length_take]; omega)
        have RT := Lib.hid (R6.out.take nk)
        rw [rounds_succ]
        go_wp2_with fail
        go_ret2
        have := ev_end (w := w) (cc := xc) E1.out (F6.out _ OUT.out) RT.out (by rw [TL.out]; omega)
        rw [TL.out] at this
        exact this
      · have hlz : ¬ (nk : Int) < (L.length : Int) := by omega
        have TL := Lib.hid (show L.take nk = L from List.take_of_length_le (by omega))
        rw [TL.out] at E1
        rw [rounds_succ]
        go_wp2_with fail
        go_ret2
        exact ev_end E1.out (F6.out _ OUT.out) R6.out CAP.out
    · rw [on1_7 e] at E1
      have FI := Lib.hid (show ∀ W, Below w5.heap.size w5 W → Calls Tryz.prog 84 #[.slice xa L.length xc] W (GivesR z W (onceL L)) from fun W hW => specOnce_any z xa xc L W (R5'.out.below hW) (fun k hk => Nat.lt_of_lt_of_le (Nat.lt_trans (HZZ.out k hk).2 hsz5) hW.size) (by omega))
      generalize onceL L = M at E1 FI
      rw [e] at q0
      rw [rounds_succ]
      go_wp2_with fail
      refine (FI.out _ OUT.out).mono ?_
      rintro e w7 ⟨ao, cc, rfl, rd, b7, hcap⟩
      have RD7 := Lib.hid rd
      have B7 := Lib.hid (below_step OUT.out (Nat.le_refl _) b7)
      have CP7 := Lib.hid hcap
      clear rd b7 hcap
      go_wp2_with fail
      go_ret2
      exact ev_end E1.out (F6.out _ B7.out) RD7.out CP7.out
  · have E1 := Lib.hid (EN.out hL)
    go_wp2_with fail
    go_ret2
    exact ⟨FIN.out _ N4.out, .inr ⟨E1.out, _, rfl⟩⟩
end Go.Proofs.YtanfllednlpbaaaGreat

