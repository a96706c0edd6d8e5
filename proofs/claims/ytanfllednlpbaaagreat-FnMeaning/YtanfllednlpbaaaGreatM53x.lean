/-
  Contract of spec.l04Eval at a node of two children. Contract of spec.l04Eval: the rows of the tree at a place. For every store and every plan.
-/
import Derived.Test.YtanfllednlpbaaaGreatSEv1
import Derived.Test.YtanfllednlpbaaaGreatSJnR
namespace Go.Proofs.YtanfllednlpbaaaGreat
open Go.RowKit
set_option linter.unusedSimpArgs false
set_option linter.unusedVariables false
theorem sg_grown {z : Nat → Prop} {w w' : World} {g : Nat} {o : Obj} (h : (w.alloc o).grownBy w' (some g)) : SG (fun k => z k ∨ k = g) w w' :=
  ⟨h.os, h.tape, h.output, Nat.le_trans (by simp) h.size, fun k hk hn => (h.block k (by simp; omega) (by simpa using fun e => hn (.inr e))).trans (heap_alloc_old w _ hk)⟩
set_option maxRecDepth 100000 in
set_option maxHeartbeats 12800000 in
theorem ev_t2 (sa : Option Addr) (cs : Nat) (s : List Tb) (ra : Option Addr) (cr : Nat) (l : List RowsL) (ao : Option Addr) (c : Nat) (p : List Nd) (T0 : Tr) (hst : storeB s l = true) (hsl : s.length ≤ 1048576) (hp : p.length ≤ 1048576) (ht : treeN p = some T0) (w0 : World) (n : Nd) (pl en : Nat) (ch dh : Tr) (ih : EvK sa cs s ra cr l ao c p w0 ch) (ihd : EvK sa cs s ra cr l ao c p w0 dh) : EvK sa cs s ra cr l ao c p w0 (Tr.t2 n pl en ch dh) := by
  intro z k w hb0 hzz hrs hrp hg hd hw
  have HB0 := Lib.hid hb0
  have HZZ := Lib.hid hzz
  clear hb0 hzz
  have HG := Lib.hid hg
  have NDS := Lib.hid (growT_nodes p _ _ _ hg)
  obtain ⟨n', hn, hnb, hS⟩ := grow_inv hg
  rcases hS with ⟨hS, _⟩ | ⟨c', hS, _⟩ | ⟨c', d', hS, ha, hc, hdd⟩
  case inl => cases hS
  case inr.inl => cases hS
  cases hS
  have hwc : widT (fnOf s) ch ≠ -1 := fun h => hw (by unfold widT; rw [h]; rfl)
  have hwd : widT (fnOf s) dh ≠ -1 := fun h => hw (by unfold widT; rw [if_neg hwc, h]; rfl)
  have hov : over2 n (widT (fnOf s) ch) (widT (fnOf s) dh) ≠ -1 := by
    have := hw; unfold widT at this; rwa [if_neg hwc, if_neg hwd] at this
  have HWD := Lib.hid (evT_w (gOf_wide hst) ch NDS.out.2.1 hwc)
  have HWE := Lib.hid (evT_w (gOf_wide hst) dh NDS.out.2.2 hwd)
  have hkl : pl < p.length := (List.getElem?_eq_some_iff.1 hn).1
  obtain ⟨b, off, n2, a, c2, rfl, hn2, hat⟩ := hrp.at_ hkl
  obtain rfl : n = n2 := by rw [hn] at hn2; injection hn2
  obtain ⟨c0, c1, c2', c3, c4, c5, c6, rd, cap, mx, nm⟩ := hat
  have RDC := Lib.hid rd
  have hcl : n.cols.length ≤ maxLen := Nat.le_trans cap mx
  clear rd hn2 cap mx
  obtain ⟨W1, hW1⟩ : ∃ W1, W1 = w.alloc (.cells (#[.int .i64 n.kind, .string n.name, .int .i64 n.col, .int .i64 n.op, .int .i64 n.num, .bool n.slot, .slice a n.cols.length c2]) 39) := ⟨_, rfl⟩
  have Z1 := Lib.hid (show W1.heap.size = w.heap.size + 1 by rw [hW1]; simp)
  have A1 := Lib.hid (show Below w.heap.size w W1 by rw [hW1]; exact (Below.refl _ _).alloc (Nat.le_refl _) _)
  have WC := widT_wide (fnOk_schema (store_parts hst).1) ch NDS.out.2.1
  have WD := widT_wide (fnOk_schema (store_parts hst).1) dh NDS.out.2.2
  have f0 : W1.cell? ⟨w.heap.size, 0, none⟩ = some (.int .i64 n.kind) := by rw [hW1, World.cell?_alloc_new]; rfl
  have f1 : W1.cell? ⟨w.heap.size, 1, none⟩ = some (.string n.name) := by rw [hW1, World.cell?_alloc_new]; rfl
  have f2 : W1.cell? ⟨w.heap.size, 2, none⟩ = some (.int .i64 n.col) := by rw [hW1, World.cell?_alloc_new]; rfl
  have f3 : W1.cell? ⟨w.heap.size, 3, none⟩ = some (.int .i64 n.op) := by rw [hW1, World.cell?_alloc_new]; rfl
  have f4 : W1.cell? ⟨w.heap.size, 4, none⟩ = some (.int .i64 n.num) := by rw [hW1, World.cell?_alloc_new]; rfl
  have f5 : W1.cell? ⟨w.heap.size, 5, none⟩ = some (.bool n.slot) := by rw [hW1, World.cell?_alloc_new]; rfl
  have f6 : W1.cell? ⟨w.heap.size, 6, none⟩ = some (.slice a n.cols.length c2) := by rw [hW1, World.cell?_alloc_new]; rfl
  have OE := Lib.hid (show OwnV (W1.alloc (.cells #[] 29)) (w.heap.size + 1) 29 (some ⟨w.heap.size + 1, 0, none⟩) 0 [] from by
    rw [← Z1.out]; exact World.ownsRow_lit W1 #[] 0 (Nat.le_refl _) (Nat.zero_le _) rfl)
  have NE := Lib.hid ((Below.refl W1.heap.size W1).alloc (Nat.le_refl _) (.cells #[] 29))
  have HRS := Lib.hid (hrs.below A1.out); have HRP := Lib.hid (hrp.below A1.out)
  have FIN := Lib.hid (fun w' (hc : Below W1.heap.size W1 w') => (A1.out.trans (hc.mono (by rw [Z1.out]; exact Nat.le_succ _)) : Below w.heap.size w w'))
  have RD1 := Lib.hid (RDC.out.below A1.out)
  have hbw : b < w.heap.size := World.block_lt_of_cell? w ⟨b, off + pl * 7, none⟩ c0
  have hdc : ch.depth ≤ 9 ∧ dh.depth ≤ 9 := by simp only [Tr.depth] at hd; omega
  have IHC := Lib.hid (show ∀ W, Below w.heap.size w W → RdT W sa s → RdN W (some ⟨b, off, none⟩) p → Calls Tryz.prog 45 #[.slice sa s.length cs, .slice ra l.length cr, .slice (some ⟨b, off, none⟩) p.length c, .int .i64 ((pl : Int) + 1)] W (EvQ z (gOf s l) ch W) from fun W h1 h2 h3 => by
    have := ih z (pl + 1) W (HB0.out.trans (h1.mono HB0.out.size)) (fun k hk => ⟨(HZZ.out k hk).1, Nat.lt_of_lt_of_le (HZZ.out k hk).2 h1.size⟩) h2 h3 hc (by omega) hwc
    rwa [show ((pl + 1 : Nat) : Int) = (pl : Int) + 1 by omega] at this)
  have IHD := Lib.hid (show ∀ (z : Nat → Prop) W, (∀ k, z k → w0.heap.size ≤ k ∧ k < W.heap.size) → Below w.heap.size w W → RdT W sa s → RdN W (some ⟨b, off, none⟩) p → Calls Tryz.prog 45 #[.slice sa s.length cs, .slice ra l.length cr, .slice (some ⟨b, off, none⟩) p.length c, .int .i64 (ch.en : Int)] W (EvQ z (gOf s l) dh W) from fun z W hz h1 h2 h3 => ihd z ch.en W (HB0.out.trans (h1.mono HB0.out.size)) hz h2 h3 hdd (by omega) hwd)
  have HNB := Lib.hid hnb
  have HA := Lib.hid ha
  have HOV := Lib.hid hov
  have EN := Lib.hid (show evT (gOf s l) ch = none → evT (gOf s l) (.t2 n pl dh.en ch dh) = none from fun h => by unfold evT; rw [h])
  have EM := Lib.hid (show ∀ L, evT (gOf s l) ch = some L → evT (gOf s l) dh = none → evT (gOf s l) (.t2 n pl dh.en ch dh) = none from fun L h h' => by conv => (lhs; unfold evT; rw [h, h']))
  have EY := Lib.hid (show ∀ L M, evT (gOf s l) ch = some L → evT (gOf s l) dh = some M → evT (gOf s l) (.t2 n pl dh.en ch dh) = few (on2 n L M) from fun L M h h' => by conv => (lhs; unfold evT; rw [h, h']))
  have KO := Lib.hid (show KidsOk p ((pl : Int)).toNat [(pl : Int) + 1, (ch.en : Int)] by rw [Int.toNat_natCast]; exact ⟨n, hn, .inr (.inr ⟨ha, _, _, _, _, endN_of_grow ht hc (by omega), endN_of_grow ht hdd (by omega), rfl⟩)⟩)
  clear hn hw hwc hwd hov
  go_enter Tryz.func45, Tryz.ntmps45
  go_wp2_with fail
  rw [← hW1]
  refine (specKids_any (some ⟨b, off, none⟩) c p pl [(pl : Int) + 1, (ch.en : Int)] _ (HRP.out.below NE.out) hp (by omega) (by omega) KO.out).mono ?_
  rintro e w3 ⟨a3, c3', rfl, o3, b3⟩
  have N3 := Lib.hid (below_step NE.out (Nat.le_refl _) b3)
  have OW3 := Lib.hid (OE.out.below b3)
  obtain ⟨g3, rfl, hgb3, hg3⟩ := own_some o3 (by simp)
  have hgb3' : w.heap.size + 2 ≤ g3 := by have := Z1.out; simp at hgb3; omega
  clear hgb3 c0 c1 c2' c3 c4 c5 c6 hW1
  have kk := own_cell o3 0 ((pl : Int) + 1) rfl
  have kl := own_cell o3 1 (ch.en : Int) rfl
  clear o3 b3 ih ihd hc hdd ha hnb hrs hrp
  generalize (ch.en : Int) = ce at IHD kl ⊢
  go_wp2_with fail
  refine wp_loop_rounds 3 ?_; rw [rounds_succ]
  go_wp2_with fail
  refine (IHC.out _ (FIN.out _ N3.out) (HRS.out.below N3.out) (HRP.out.below N3.out)).mono ?_
  rintro e w4 h4
  obtain ⟨b4, res⟩ := h4.split
  have N4 := Lib.hid (below_step N3.out (Nat.le_refl _) b4)
  have OW4 := Lib.hid (OW3.out.below b4)
  have kl4 := (b4.cell (p := ⟨g3, 1, none⟩) hg3).trans kl
  clear b4 h4 kk
  rcases res with ⟨L, xa, xc, hL, rfl, hrd, hcap⟩ | ⟨hL, v, rfl⟩
  · obtain ⟨hAW, h200⟩ := HWD.out L hL
    have HL := Lib.hid hL
    have AW := Lib.hid hAW
    have RDL := Lib.hid hrd
    have CAP := Lib.hid hcap
    clear hL hrd hAW hcap
    go_wp2_with (at_builtin; refine wpList_appendV _ rfl (.tmp 46) (.tmp 48) 25 rfl (w.heap.size + 1) 29 (.slice none 0 0) 24 Tryz.underlying25 infoRr rfl (some ⟨w.heap.size + 1, 0, none⟩) 0 0 [] rfl rfl (OW4.out.alloc _) _ 1 (.slice xa L.length xc) rfl (cell_one _ _ _) rfl (by simp [maxLen]) (by simp) (by have := N4.out.size; rw [Z1.out] at this; simp; omega) ?_; intro ao5 c5' w5 o5 g5 k5; have n5 := ((Below.refl W1.heap.size w4).alloc N4.out.size (.cells #[.slice xa L.length xc] 29)).grown g5 (by have := N4.out.size; simp; omega) (by intro q hq; simp at hq; rw [Z1.out]; omega); have R5 := Lib.hid (RDL.out.below (((Below.refl w4.heap.size w4).alloc (Nat.le_refl _) (.cells #[.slice xa L.length xc] 29)))); have N5 := Lib.hid (N4.out.trans n5); have O5 := Lib.hid o5; have G5 := Lib.hid g5; clear o5 g5 n5)
    have ST := stays_grown OW4.out rfl G5.out
    obtain ⟨g5', rfl, hgb5, hgl5⟩ : ∃ g, ao5 = some ⟨g, 0, none⟩ ∧ w.heap.size + 1 ≤ g ∧ g < w5.heap.size := by
      rcases O5.out.form with ⟨_, _, e⟩ | h
      · cases e
      · exact h
    have hg5 : g5' = w.heap.size + 1 ∨ w4.heap.size ≤ g5' := by rcases k5 with h | h <;> simp at h <;> omega
    have L5 := Lib.hid (RDL.out.off ST (held_none OW4.out rfl hg5))
    have kl5 := ST _ _ _ kl4
    have hz5 : ∀ k, (z k ∨ k = g5') → w0.heap.size ≤ k ∧ k < w5.heap.size := by
      have h1 := HB0.out.size
      have h2 := N5.out.size
      have h3 := Z1.out
      rintro k (h | rfl)
      · have := HZZ.out k h; omega
      · omega
    have HZ5 := Lib.hid hz5
    clear k5 hg5 ST G5 R5 hz5 kl4
    rw [rounds_succ]
    go_wp2_with fail
    refine (IHD.out _ _ HZ5.out (FIN.out _ N5.out) (HRS.out.below N5.out) (HRP.out.below N5.out)).mono ?_
    rintro e w6 h6
    obtain ⟨b6, res⟩ := h6.split
    have N6 := Lib.hid (below_step N5.out (Nat.le_refl _) b6)
    have OW6 := Lib.hid (O5.out.below b6)
    have L6 := Lib.hid (L5.out.below b6)
    have hsz6 : w5.heap.size ≤ w6.heap.size := b6.size
    clear b6 h6 kl5 O5 L5
    rcases res with ⟨M, xb, xd, hM, rfl, hrd, hcap⟩ | ⟨hM, v, rfl⟩
    · obtain ⟨hBW, h200'⟩ := HWE.out M hM
      have E1 := Lib.hid (EY.out L M HL.out hM)
      have BW := Lib.hid hBW
      have RDM := Lib.hid hrd
      clear hM hrd hBW hcap
      go_wp2_with (at_builtin; refine wpList_appendV _ rfl (.tmp 46) (.tmp 48) 25 rfl (w.heap.size + 1) 29 (.slice none 0 0) 24 Tryz.underlying25 infoRr rfl (some ⟨g5', 0, none⟩) c5' 1 [.slice xa L.length xc] rfl rfl (OW6.out.alloc _) _ 1 (.slice xb M.length xd) rfl (cell_one _ _ _) rfl (by simp [maxLen]) (by simp) (by have := N6.out.size; rw [Z1.out] at this; simp; omega) ?_; intro ao7 c7' w7 o7 g7 k7; have n7 := ((Below.refl W1.heap.size w6).alloc N6.out.size (.cells #[.slice xb M.length xd] 29)).grown g7 (by have := N6.out.size; simp; omega) (by intro q hq; simp at hq; rw [Z1.out]; omega); have N7 := Lib.hid (N6.out.trans n7); have O7 := Lib.hid o7; have G7 := Lib.hid g7; clear o7 g7 n7)
      have SG7 := Lib.hid (sg_grown (z := z) G7.out)
      have L7 := Lib.hid ((L6.out.grown SG7.out).mono (y := z) (fun k h => .inl h))
      have M7 := Lib.hid ((RDM.out.grown SG7.out).mono (y := z) (fun k h => .inl h))
      obtain ⟨g7', rfl, hgb7, hgl7⟩ : ∃ g, ao7 = some ⟨g, 0, none⟩ ∧ w.heap.size + 1 ≤ g ∧ g < w7.heap.size := by
        rcases O7.out.form with ⟨_, _, e⟩ | h
        · cases e
        · exact h
      have in0 : w7.cell? ⟨g7', 0, none⟩ = some (.slice xa L.length xc) := O7.out.cell 0 (by simp)
      have in1 : w7.cell? ⟨g7', 1, none⟩ = some (.slice xb M.length xd) := O7.out.cell 1 (by simp)
      have e7 := fun o => N7.out.cell (p := ⟨w.heap.size, o, none⟩) (by rw [Z1.out]; exact Nat.lt_succ_self _)
      have q0 := (e7 0).trans f0; have q1 := (e7 1).trans f1; have q2 := (e7 2).trans f2; have q3 := (e7 3).trans f3; have q4 := (e7 4).trans f4; have q5 := (e7 5).trans f5; have q6 := (e7 6).trans f6
      have hsz7 : w.heap.size < w7.heap.size := by omega
      have F8 := Lib.hid (fun w' (h : Below w7.heap.size w7 w') => FIN.out w' (below_step N7.out (Nat.le_refl _) h))
      have OUT := Lib.hid ((Below.refl w7.heap.size w7).alloc (Nat.le_refl _) (.cells #[] 34))
      have OUTD := Lib.hid OUT.out.drew
      clear e7 f0 f1 f2 f3 f4 f5 f6 G7 O7 SG7 OW6 L6 RDM k7
      rcases kinds2 HA.out with e | e
      · obtain ⟨h1, h2⟩ := nodeE_3 HNB.out e
        have AWL := AW.out
        have BWL := BW.out
        obtain ⟨_, h5, h6, h7⟩ := over2_j e HOV.out
        have JL := joinL_len n L M
        have JL2 : L.length * M.length ≤ 200 * 200 := Nat.mul_le_mul h200 h200'
        have FI := Lib.hid (show ∀ W, Below w7.heap.size w7 W → Calls Tryz.prog 82 #[.agg #[.int .i64 n.kind, .string n.name, .int .i64 n.col, .int .i64 n.op, .int .i64 n.num, .bool n.slot, .slice a n.cols.length c2], .slice xa L.length xc, .slice xb M.length xd] W (GivesR z W (joinL n L M)) from fun W hW => specJoin_any z n a c2 xa xc L xb xd M W (L7.out.below hW).rd (M7.out.below hW).rd (fun k hk => Nat.lt_of_lt_of_le (Nat.lt_trans (HZZ.out k hk).2 hsz7) hW.size) (by omega) (by omega) (by omega) h1 h2 (fun r hr => by have := AWL r hr; omega) (fun r hr => by have := BWL r hr; omega))
        have EJ : on2 n L M = joinL n L M := by unfold on2; rw [if_pos e]
        rw [EJ] at E1
        generalize joinL n L M = J at E1 FI
        rw [e] at FI q0
        clear AWL BWL JL JL2 EJ
        rw [rounds_succ]
        go_wp2_with fail
        go_region_with (go_at_call 82; refine (FI.out _ OUTD.out).mono ?_; rintro e w9 ⟨ao, cc, rfl, rd, b9, hcap⟩; have RD9 := Lib.hid rd; have B9 := Lib.hid (below_step OUTD.out (Nat.le_refl _) b9); have CP9 := Lib.hid hcap; clear rd b9 hcap)
        all_goals
          go_wp2_with fail
          go_ret2
          exact ev_end E1.out (F8.out _ B9.out) RD9.out CP9.out
      · have EB : on2 n L M = L ++ M := by unfold on2; rw [if_neg (by omega)]
        rw [EB] at E1
        obtain ⟨zs, hzs, hLz, hPz⟩ := L7.out.els xc
        obtain ⟨ys, hys, hLy, hPy⟩ := M7.out.els xd
        have hzl : zs.length = L.length := by rw [← hzs, rowsE_len]
        have hyl : ys.length = M.length := by rw [← hys, rowsE_len]
        obtain ⟨Q, hQ⟩ : ∃ Q : Nat → List (Els w7), Q = fun i => if i = 0 then [] else if i = 1 then zs else zs ++ ys := ⟨_, rfl⟩
        have Q0 := Lib.hid (show Q 0 = [] by rw [hQ]; rfl)
        have QE := Lib.hid (show rowsE (Q 2) = L ++ M by rw [hQ]; show rowsE (zs ++ ys) = _; rw [← hzs, ← hys]; simp [rowsE])
        have QP := Lib.hid (show ∀ x ∈ Q 2, PX z x.1 by
          rw [hQ]; intro x hx
          rcases List.mem_append.1 (show x ∈ zs ++ ys from hx) with hx | hx
          · exact hPz x hx
          · exact hPy x hx)
        have QL := Lib.hid (show ∀ i, i ≤ 2 → (Q i).length ≤ 400 by
          intro i hi
          obtain rfl | rfl | rfl : i = 0 ∨ i = 1 ∨ i = 2 := by omega
          · rw [hQ]; simp
          · rw [hQ]; show zs.length ≤ 400; omega
          · rw [hQ]; show (zs ++ ys).length ≤ 400; rw [List.length_append]; omega)
        have STEP := Lib.hid (show ∀ i, i < 2 → ∃ (X : Option Addr) (m cp : Nat) (xs : List (Els w7)), w7.cell? ⟨g7', i, none⟩ = some (.slice X m cp) ∧ m = xs.length ∧ Q (i + 1) = Q i ++ xs ∧ ∀ k x, xs[k]? = some x → ∃ b o, X = some ⟨b, o, none⟩ ∧ b < w7.heap.size ∧ w7.cell? ⟨b, o + k, none⟩ = some (encE x) by
          intro i hi
          obtain rfl | rfl : i = 0 ∨ i = 1 := by omega
          · refine ⟨xa, L.length, xc, zs, in0, hzl.symm, by rw [hQ]; rfl, fun k x hx => ?_⟩
            rcases hLz with ⟨_, _, e, rfl⟩ | ⟨b, off, cap, e, hb, hc⟩
            · simp at hx
            · simp only [Value.slice.injEq] at e
              exact ⟨b, off, e.1, hb, hc k x hx⟩
          · refine ⟨xb, M.length, xd, ys, in1, hyl.symm, by rw [hQ]; rfl, fun k x hx => ?_⟩
            rcases hLy with ⟨_, _, e, rfl⟩ | ⟨b, off, cap, e, hb, hc⟩
            · simp at hx
            · simp only [Value.slice.injEq] at e
              exact ⟨b, off, e.1, hb, hc k x hx⟩)
        have O8 := Lib.hid (show OwnV (w7.alloc (.cells #[] 34)) w7.heap.size 34 (some ⟨w7.heap.size, 0, none⟩) 0 ((Q 0).map encE) from by rw [Q0.out]; exact World.ownsRow_lit w7 #[] 0 (Nat.le_refl _) (Nat.zero_le _) rfl)
        have Q0L := Lib.hid (show 0 = (Q 0).length by rw [Q0.out]; rfl)
        have HZ8 := Lib.hid (show ∀ k, z k → k < w7.heap.size from fun k hk => Nat.lt_trans (HZZ.out k hk).2 hsz7)
        generalize L ++ M = J at E1 QE
        rw [e] at q0
        clear hzs hys hLz hLy hPz hPy hzl hyl hQ EB in0 in1 Q0 e
        have HG7 := Lib.hid hgl7
        rw [rounds_succ]
        go_wp2_with fail
        go_loopw [16, 17, 18] (fun s i _ wr => ∃ (j m cc : Nat) (ao : Option Addr), j ≤ 2 ∧ i = .int .i64 j ∧ s = .slice ao m cc ∧ m = (Q j).length ∧ OwnV wr w7.heap.size 34 ao cc ((Q j).map encE) ∧ Below w7.heap.size w7 wr) (fun _ i _ _ => 2 - (intOf i).toNat)
        case atStart => exact ⟨0, _, _, _, Nat.zero_le _, rfl, rfl, Q0L.out, O8.out, OUT.out⟩
        case round =>
          clear O8 OUTD Q0L
          obtain ⟨j, m, cc, ao, hj, rfl, rfl, hm, ho, hb⟩ := hrel
          have HM := Lib.hid hm; have HO := Lib.hid ho; have HB := Lib.hid hb
          clear hm ho hb
          by_cases hlt : j < 2
          · have hlz : (j : Int) < 2 := by omega
            obtain ⟨X, mx, cp, xs, hin, hmx, hq, hcx⟩ := STEP.out j hlt
            have CX := Lib.hid hcx
            have HIN := Lib.hid hin
            have MX := Lib.hid hmx
            have QS := Lib.hid hq
            have QL1 := Lib.hid (QL.out (j + 1) (by omega))
            have OI := Lib.hid (show OwnV wr w7.heap.size 34 ao cc ((Q j ++ xs.take 0).map encE) by rw [List.take_zero, List.append_nil]; exact HO.out)
            have MI := Lib.hid (show m = (Q j ++ xs.take 0).length by rw [List.take_zero, List.append_nil]; exact HM.out)
            have hm4 : mx ≤ 400 := by
              have h1 := QL1.out
              rw [QS.out, List.length_append] at h1
              have := MX.out
              omega
            clear hcx hin hmx hq
            go_wp2_with fail
            go_loopw [16, 18] (fun s i wm => ∃ (k m cc : Nat) (ao : Option Addr), k ≤ mx ∧ i = .int .i64 k ∧ s = .slice ao m cc ∧ m = (Q j ++ xs.take k).length ∧ OwnV wm w7.heap.size 34 ao cc ((Q j ++ xs.take k).map encE) ∧ Below w7.heap.size w7 wm) (fun _ i _ => mx - (intOf i).toNat)
            case atStart => exact ⟨0, _, _, _, Nat.zero_le _, rfl, rfl, MI.out, OI.out, HB.out⟩
            case round =>
              clear HM HO HB OI MI
              obtain ⟨k, m, cc, ao, hk, rfl, rfl, hm, ho, hb⟩ := hrel
              have HM := Lib.hid hm; have HO := Lib.hid ho; have HB := Lib.hid hb
              have zin := (hb.cell (p := ⟨g7', j, none⟩) HG7.out).trans HIN.out
              clear hm ho
              by_cases hkt : k < mx
              · have hkz : (k : Int) < (mx : Int) := by omega
                obtain ⟨x, hx⟩ : ∃ x, xs[k]? = some x := ⟨_, List.getElem?_eq_getElem (by have := MX.out; omega)⟩
                obtain ⟨bx, ox, rfl, hbx, hcx⟩ := CX.out k x hx
                have zc := (hb.cell (p := ⟨bx, ox + k, none⟩) hbx).trans hcx
                have TK := Lib.hid (show Q j ++ xs.take (k + 1) = (Q j ++ xs.take k) ++ [x] by rw [List.take_add_one, hx, List.append_assoc]; rfl)
                have YL := Lib.hid (show (Q j ++ xs.take k).length ≤ 400 by
                  have := QL1.out; rw [QS.out, List.length_append] at this
                  rw [List.length_append]; have := List.length_take_le' k xs; omega)
                unfold encE at zc
                clear hx hcx hb
                generalize Q j ++ xs.take k = Y at HM HO TK YL
                go_wp2_with (at_builtin; refine wpList_appendV _ rfl (.tmp 101) (.tmp 109) 29 rfl w7.heap.size 34 (.slice none 0 0) 24 Tryz.underlying29 infoRw rfl _ _ _ (Y.map encE) rfl (by rw [HM.out, List.length_map]) (HO.out.alloc _) _ 1 (encE x) rfl (cell_one _ _ _) rfl (by have := YL.out; unfold maxLen; rw [List.length_map]; omega) (by have := YL.out; rw [List.length_map]; omega) (by have := HB.out.size; simp; omega) ?_; intro qa qc qw qo qg qk; have QO := Lib.hid qo; have QB := Lib.hid (below_appV HB.out HB.out.size HO.out qg); clear qo qg qk)
                go_roundw
                case rel =>
                  refine ⟨k + 1, _, _, _, by omega, by go_num, rfl, ?_, ?_, QB.out⟩
                  · rw [TK.out, List.length_append]; first | rfl | (rw [HM.out]; rfl)
                  · rw [TK.out, List.map_append]; exact QO.out
                case measure => simp [intOf]; omega
              · obtain rfl : k = mx := by omega
                have TK : xs.take k = xs := List.take_of_length_le (by have := MX.out; omega)
                have HM2 := Lib.hid (show m = (Q (j + 1)).length by rw [QS.out, ← TK]; exact HM.out)
                have HO2 := Lib.hid (show OwnV wr w7.heap.size 34 ao cc ((Q (j + 1)).map encE) by have := HO.out; rw [TK, ← QS.out] at this; exact this)
                clear TK hb HM HO
                go_wp2_with fail
                go_roundw
                case rel => exact ⟨j + 1, _, _, _, by omega, by go_num, rfl, HM2.out, HO2.out, HB.out⟩
                case measure => simp [intOf]; omega
          · obtain rfl : j = 2 := by omega
            go_wp2_with fail
            go_ret2
            have G := gives_els (w := w7) QE.out HO.out HB.out HB.out HZ8.out QP.out
            obtain ⟨ao', cc', he, rd, bb, hc⟩ := G
            rw [← HM.out] at he
            simp only [Ending.returned.injEq, Value.slice.injEq] at he
            obtain ⟨rfl, hmm, rfl⟩ := he
            rw [hmm]
            exact ev_end E1.out (F8.out _ HB.out) rd hc
    · have E1 := Lib.hid (EM.out L HL.out hM)
      go_wp2_with fail
      go_ret2
      exact ⟨FIN.out _ N6.out, .inr ⟨E1.out, _, rfl⟩⟩
  · have E1 := Lib.hid (EN.out hL)
    go_wp2_with fail
    go_ret2
    exact ⟨FIN.out _ N4.out, .inr ⟨E1.out, _, rfl⟩⟩
theorem l04Eval_any (sa : Option Addr) (cs : Nat) (s : List Tb) (ra : Option Addr) (cr : Nat) (l : List RowsL) (ao : Option Addr) (c : Nat) (p : List Nd) (T0 : Tr) (hst : storeB s l = true) (hsl : s.length ≤ 1048576) (hp : p.length ≤ 1048576) (ht : treeN p = some T0) (w0 : World) (hrr : RdRR w0 ra l) : ∀ T : Tr, EvK sa cs s ra cr l ao c p w0 T := by
  intro T
  induction T with
  | t0 n pl en => exact ev_t0 sa cs s ra cr l ao c p T0 hst hsl hp ht w0 hrr n pl en
  | t1 n pl en ch ih => exact ev_t1 sa cs s ra cr l ao c p T0 hst hsl hp ht w0 n pl en ch ih
  | t2 n pl en ch dh ihc ihd => exact ev_t2 sa cs s ra cr l ao c p T0 hst hsl hp ht w0 n pl en ch dh ihc ihd
theorem sub_typed {f : Fn} {p : List Nd} : ∀ (T : Tr) (k : Nat), growT p p.length k = some T → widT f T ≠ -1 → ∀ j, k ≤ j → j < T.en → ∃ S, growT p p.length j = some S ∧ widT f S ≠ -1 := by
  intro T
  induction T with
  | t0 n pl en =>
    intro k h hw j h1 h2
    have hs := growT_sound p _ _ _ h
    obtain ⟨n', hn, hb, hc⟩ := grow_inv h
    rcases hc with ⟨e, _⟩ | ⟨c, e, _⟩ | ⟨c, d, e, _⟩
    · injection e with e1 e2 e3
      subst e1 e2 e3
      rw [Tr.en0] at h2
      obtain rfl : j = pl := by omega
      exact ⟨_, h, hw⟩
    · cases e
    · cases e
  | t1 n pl en c ih =>
    intro k h hw j h1 h2
    have hs := growT_sound p _ _ _ h
    obtain ⟨n', hn, hb, hc⟩ := grow_inv h
    rcases hc with ⟨e, _⟩ | ⟨c', e, _, g1⟩ | ⟨c', d, e, _⟩
    · cases e
    · injection e with e1 e2 e3 e4
      subst e1 e2 e4 e3
      rw [Tr.en1] at h2
      by_cases hj : j = pl
      · subst hj; exact ⟨_, h, hw⟩
      · exact ih _ g1 (fun h => hw (by unfold widT; rw [h]; rfl)) j (by omega) h2
    · cases e
  | t2 n pl en c d ihc ihd =>
    intro k h hw j h1 h2
    have hs := growT_sound p _ _ _ h
    obtain ⟨n', hn, hb, hc⟩ := grow_inv h
    rcases hc with ⟨e, _⟩ | ⟨c', e, _, g1⟩ | ⟨c', d', e, _, g1, g2⟩
    · cases e
    · cases e
    · injection e with e1 e2 e3 e4 e5
      subst e1 e2 e4 e5 e3
      rw [Tr.en2] at h2
      have hwc : widT f c ≠ -1 := fun h => hw (by unfold widT; rw [h]; rfl)
      have hwd : widT f d ≠ -1 := fun h => hw (by unfold widT; rw [if_neg hwc, h]; rfl)
      by_cases hj : j = pl
      · subst hj; exact ⟨_, h, hw⟩
      · by_cases hi : j < c.en
        · exact ihc _ g1 hwc j (by omega) hi
        · exact ihd _ g2 hwd j (by omega) h2
theorem place_typed {s : List Tb} {l : List RowsL} {p : List Nd} {T : Tr} {x : RowsL} (ht : treeN p = some T) (hw : widT (fnOf s) T ≠ -1) (hx : evT (gOf s l) T = some x) {k : Nat} (hk : k < p.length) :
    ∃ S m, growT p p.length k = some S ∧ S.depth ≤ 10 ∧ widT (fnOf s) S ≠ -1 ∧ evT (gOf s l) S = some m ∧ sizAt (gOf s l) p k = m.length := by
  have h := treeN_some ht
  have hkT : k < T.en := by rw [h.2.2.1]; exact hk
  obtain ⟨S, h1, h2⟩ := sub_typed T 0 h.2.1 hw k (Nat.zero_le _) hkT
  obtain ⟨S', m, h3, h4⟩ := evT_sub T 0 h.2.1 x hx k (Nat.zero_le _) hkT
  rw [h1] at h3; cases h3
  obtain ⟨S', _, h5, h6, _⟩ := find_grow p p.length 0 k T h.2.1 (Nat.zero_le _) hkT
  rw [h1] at h5; cases h5
  exact ⟨S, m, h1, Nat.le_trans h6 h.2.2.2, h2, h4, by rw [sizAt_of h1, sizN_of h4]⟩
end Go.Proofs.YtanfllednlpbaaaGreat
