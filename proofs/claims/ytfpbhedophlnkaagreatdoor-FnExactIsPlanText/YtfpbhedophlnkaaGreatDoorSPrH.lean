/-
  Contract of spec.ParsePlan. For every text that is not too long.
-/
import Derived.Test.YtfpbhedophlnkaaGreatDoorKS2
import Derived.Test.YtfpbhedophlnkaaGreatDoorKW
import Derived.Test.YtfpbhedophlnkaaGreatDoorIPrJ
import Derived.Test.YtfpbhedophlnkaaGreatDoorSPlan
namespace Go.Proofs.YtfpbhedophlnkaaGreatDoor
open Go.RowKit
set_option linter.unusedSimpArgs false
set_option linter.unusedVariables false

/-- The place at which the model's reader in block R stands. -/
def posL (R : Nat) (w : World) : Nat := match w.cell? ⟨R, 1, none⟩ with | some (.int _ z) => z.toNat | _ => 0
theorem lrd_c1 {w : World} {R c p : Nat} {ao : Option Addr} {ws : List ByteArray} {f : Bool} (h : Lrd w R ao c ws p f) : w.cell? ⟨R, 1, none⟩ = some (.int .i64 p) := cell_of_row w R 1 _ _ _ h.1
theorem posL_lrd {w : World} {R c p : Nat} {ao : Option Addr} {ws : List ByteArray} {f : Bool} (h : Lrd w R ao c ws p f) : posL R w = p := by
  unfold posL; rw [lrd_c1 h]; simp
theorem lrd_box {w : World} {ao : Option Addr} {c base : Nat} {ws : List ByteArray} (h : OwnS w base ao c ws) (h2 : ws.length ≤ 2000) : Lrd (w.alloc (.cells #[.slice ao ws.length c, .int .i64 0, .bool false] 153)) w.heap.size ao c ws 0 false := by
  refine ⟨heap_alloc_new w _, h.rd.below ((Below.refl _ w).alloc (Nat.le_refl _) _), Nat.zero_le _, ?_, h2⟩
  intro a ha hne
  rcases h.form with ⟨_, hl, rfl⟩ | ⟨g, rfl, hg⟩
  · exact absurd rfl hne
  · cases ha
    exact Nat.ne_of_lt hg.2
theorem goQ_bd2 {ws : List ByteArray} : ∀ (f : Nat) (acc : List Nd) (need : Int) (p : Nat) (l : List Nd) (q : Nat), goQ ws f acc need p = .inr (l, q) → acc.length ≤ p → p ≤ ws.length → l.length ≤ q ∧ q ≤ ws.length
  | 0, acc, need, p, l, q, h, _, _ => by simp [goQ] at h
  | f + 1, acc, need, p, l, q, h, h1, h2 => by
    unfold goQ at h
    split at h
    · simp at h; obtain ⟨rfl, rfl⟩ := h; exact ⟨h1, h2⟩
    · split at h
      · simp at h
      · rename_i x hx
        obtain ⟨nd, q'⟩ := x
        have hb := nodeQ_bd hx
        exact goQ_bd2 f _ _ _ l q h (by simp; omega) hb.2.1
def PlRel (w : World) (R : Nat) (ao : Option Addr) (c : Nat) (ws : List ByteArray) (RES : Nat ⊕ (List Nd × Nat)) (wr : World) (v i : Value) : Prop :=
  ∃ (f q n cc : Nat) (need : Int) (acc : List Nd) (a : Option Addr), v = .slice a n cc ∧ i = .int .i64 need ∧ n = acc.length ∧ goQ ws f acc need q = RES ∧ GrowN wr w.heap.size wr.heap.size (.slice a acc.length cc) acc ∧ Lrd wr R ao c ws q false ∧ w.grownBy wr (some R) ∧ ws.length + 2 ≤ f + q ∧ acc.length ≤ q ∧ (0 ≤ need ∧ need ≤ acc.length + 1)
theorem plRel_next {w w4 : World} {R c : Nat} {ao : Option Addr} {ws : List ByteArray} {RES : Nat ⊕ (List Nd × Nat)} {f q q' n cc : Nat} {need z : Int} {acc : List Nd} {nd : Nd} {a : Option Addr}
    (hg : goQ ws f acc need q = RES) (h0 : 0 < need) (hq : nodeQ ws q = .inr (nd, q')) (ho : GrowN w4 w.heap.size w4.heap.size (.slice a (acc.length + 1) cc) (acc ++ [nd])) (hp : Lrd w4 R ao c ws q' false) (hgr : w.grownBy w4 (some R)) (hf : ws.length + 2 ≤ f + q) (hal : acc.length ≤ q) (hn : need ≤ acc.length + 1) (hz : z = need + (arI nd.kind - 1)) (hlen : n = acc.length + 1) :
    PlRel w R ao c ws RES w4 (.slice a n cc) (.int .i64 z) := by
  have hb := nodeQ_bd hq
  have ha := arI_bd nd.kind
  cases f with
  | zero => omega
  | succ f =>
    simp only [goQ, if_neg (show ¬ need ≤ 0 by omega), hq] at hg
    refine ⟨f, q', n, cc, need + arI nd.kind - 1, acc ++ [nd], a, rfl, by rw [hz]; congr 1; omega, by simp [hlen], hg, by simpa using ho, hp, hgr, by omega, by simp; omega, by simp; omega⟩

set_option maxRecDepth 100000 in
set_option maxHeartbeats 3200000 in
theorem specParsePlan_any (s : ByteArray) (w : World) (hs : s.size ≤ 9223372036854775807) :
    Calls Tryz.prog 56 #[.string s] w (MadeN2 (parseO s) w) := by
  by_cases h2 : 2000 < s.size
  · have E : parseO s = ([], 0) := by unfold parseO; rw [if_pos h2]
    go_enter Tryz.func56, Tryz.ntmps56
    go_wp2_with fail
    go_ret2
    exact madeN2_no E (Below.refl _ w)
  · have h3 : s.size ≤ 2000 := by omega
    have EW : wordsO s = (wordsL s.data.toList).map mkBs := by unfold wordsO; rw [if_neg h2]
    have E := Lib.hid (show parseO s = parseQ (wordsO s) by unfold parseO; rw [if_neg h2])
    have WI := Lib.hid (fun W => specWordsOf_any s W hs)
    have WN : Hid (Wds (wordsO s)) := by
      show Wds _
      rw [EW]
      intro x hx
      obtain ⟨l, hl, rfl⟩ := List.mem_map.1 hx
      have h := (wordsL_len s.data.toList).2 l hl
      rw [size_listW] at h
      rw [mkBs_size]
      have := List.length_pos_iff.2 h.2
      omega
    have WL : Hid ((wordsO s).length ≤ 2000) := by show _ ≤ _; rw [EW]; exact wordsL_acc h3
    obtain ⟨ws, hws⟩ : ∃ ws, ws = wordsO s := ⟨_, rfl⟩
    rw [← hws] at E WI WN WL
    clear hws EW
    obtain ⟨RES, hres⟩ : ∃ r, r = goQ ws (ws.length + 2) [] 1 0 := ⟨_, rfl⟩
    have E2 := Lib.hid (E.out.trans (parseQ_pick ws))
    rw [← hres] at E2
    have GB := Lib.hid (fun l q (h : RES = .inr (l, q)) => goQ_bd2 _ _ _ _ l q (hres.symm.trans h) (by simp) (by simp))
    have HRES := Lib.hid hres
    clear hres E
    go_enter Tryz.func56, Tryz.ntmps56
    go_wp2_with fail
    refine (WI.out _).mono ?_
    rintro e w1 ⟨ao, c, rfl, o1, b1⟩
    have RB := Lib.hid (lrd_box o1 WL.out)
    have WWD : Hid (∀ a, ao = some a → ws ≠ [] → a.block < w1.heap.size + 1) := fun a ha hl => by
      have h := RB.out.words a ha hl
      simpa using h
    have B1 := Lib.hid (b1.alloc b1.size (.cells #[.slice ao ws.length c, .int .i64 0, .bool false] 153))
    have hz1 := b1.size
    clear o1 b1 WI
    obtain ⟨wR, hwR⟩ : ∃ wR, wR = w1.alloc (.cells #[.slice ao ws.length c, .int .i64 0, .bool false] 153) := ⟨_, rfl⟩
    have hzR : wR.heap.size = w1.heap.size + 1 := by rw [hwR]; simp
    have ALR := Lib.hid ((Below.refl _ wR).alloc (Nat.le_refl _) (.cells #[] 92))
    have O0 := Lib.hid ((GrowN.lit (w := wR) (Nat.le_refl _)).mono (top' := (wR.alloc (.cells #[] 92)).heap.size) (by simp))
    have P0 := Lib.hid (show PlRel wR w1.heap.size ao c ws RES (wR.alloc (.cells #[] 92)) (.slice (some ⟨wR.heap.size, 0, none⟩) 0 0) (.int .i64 1) from
      ⟨ws.length + 2, 0, 0, 0, 1, [], _, rfl, rfl, rfl, HRES.out.symm, O0.out, by rw [hwR]; rw [hwR] at ALR; exact RB.out.below ALR.out, World.grownBy_alloc wR _ _, by omega, by simp, by simp⟩)
    rw [hzR] at P0
    have CKR := Lib.hid hwR
    have CZR := Lib.hid hzR
    have hRR : w1.heap.size < wR.heap.size := by omega
    go_wp2_with fail
    rw [← hwR]
    clear hwR hzR RB ALR O0 HRES
    have ND := Lib.hid (fun W q (h : Lrd W w1.heap.size ao c ws q false) => specNode_any W WN.out h)
    go_loopw [5, 6] (fun v i wr => PlRel wR w1.heap.size ao c ws RES wr v i) (fun _ _ wr => ws.length - posL w1.heap.size wr)
    case atStart => exact P0.out
    case round =>
      clear P0
      obtain ⟨f, q, n, cc, need, acc, a, rfl, rfl, hn, hgo, ho, hp, hgr, hf, hal, hnd⟩ := hrel
      have GO := Lib.hid hgo; have HO := Lib.hid ho; have HP := Lib.hid hp; have GR := Lib.hid hgr; have HNL := Lib.hid hn
      have hql := hp.2.2.1
      have po := Lib.hid (posL_lrd hp)
      have szr := hgr.size
      have BB := Lib.hid (fun (w' : World) (h : wR.grownBy w' (some w1.heap.size)) => (show Below w.heap.size w w' from (CKR.out ▸ B1.out : Below w.heap.size w wR).grown h (by omega) (fun k hk => by cases hk; exact hz1)))
      clear hgo ho hp hgr hn
      by_cases h0 : 0 < need
      · have d0 : decide (0 < need) = true := by simpa using h0
        have NQ := Lib.hid (ND.out wr q HP.out)
        obtain ⟨r2, hr2⟩ : ∃ r2, r2 = nodeQ ws q := ⟨_, rfl⟩
        rw [← hr2] at NQ
        have HQ := Lib.hid hr2.symm
        clear hr2
        cases r2 with
        | inl q2 =>
          have E3 : Hid (parseO s = ([], (q2 : Int))) := by
            show _ = _
            rw [E2.out, ← GO.out]
            cases f with
            | zero => omega
            | succ f => simp only [goQ, if_neg (show ¬ need ≤ 0 by omega), HQ.out]; rfl
          go_wp2_with fail
          refine NQ.out.mono ?_
          rintro e w2 ⟨x, a2, c2, rfl, o2, h2, g2⟩
          have L2 := h2.below ((Below.refl _ w2).alloc (Nat.le_refl _) (.cells #[.int .i64 x.kind, .string x.name, .int .i64 x.col, .int .i64 x.op, .int .i64 x.num, .bool x.slot, .slice a2 x.cols.length c2] 92))
          have cf := lrd_c2 L2
          have cp := lrd_c1 L2
          have BW := Lib.hid (BB.out _ (grownBy_trans (grownBy_trans GR.out g2) (World.grownBy_alloc w2 (.cells #[.int .i64 x.kind, .string x.name, .int .i64 x.col, .int .i64 x.op, .int .i64 x.num, .bool x.slot, .slice a2 x.cols.length c2] 92) (some w1.heap.size))))
          clear L2 o2 h2 g2
          go_wp2_with fail
          go_quiet (fail)
          go_wp2_with fail
          go_ret2
          exact madeN2_no E3.out (below_step BW.out (Nat.le_refl _) (below_drewN (Below.refl _ _) _))
        | inr x =>
          obtain ⟨nd, q'⟩ := x
          have hb := nodeQ_bd HQ.out
          have hab := arI_bd nd.kind
          have AR := Lib.hid (fun W => specArity_any nd.kind W)
          rw [← arI_eq hb.2.2.2.1] at AR
          go_wp2_with fail
          refine NQ.out.mono ?_
          rintro e w2 ⟨a2, c2, rfl, ho2, h2, g2⟩
          simp only at ho2 h2 ⊢
          have hz2 := g2.size
          have OW2 := Lib.hid (HO.out.grown g2 (fun r hr => by cases hr; exact hRR))
          have H2 := Lib.hid h2; have G2 := Lib.hid (grownBy_trans GR.out g2)
          have cf := lrd_c2 (h2.below ((Below.refl _ w2).alloc (Nat.le_refl _) (.cells #[.int .i64 nd.kind, .string nd.name, .int .i64 nd.col, .int .i64 nd.op, .int .i64 nd.num, .bool nd.slot, .slice a2 nd.cols.length c2] 92)))
          have BX := Lib.hid ((Below.refl wR.heap.size w2).alloc (by omega) (.cells #[.int .i64 nd.kind, .string nd.name, .int .i64 nd.col, .int .i64 nd.op, .int .i64 nd.num, .bool nd.slot, .slice a2 nd.cols.length c2] 92))
          have BA := Lib.hid (BX.out.alloc (by have := BX.out.size; simp at this ⊢; omega) (.cells #[.int .i64 nd.kind, .string nd.name, .int .i64 nd.col, .int .i64 nd.op, .int .i64 nd.num, .bool nd.slot, .slice a2 nd.cols.length c2] 92))
          have CA := Lib.hid ((ho2.alloc (.cells #[.int .i64 nd.kind, .string nd.name, .int .i64 nd.col, .int .i64 nd.op, .int .i64 nd.num, .bool nd.slot, .slice a2 nd.cols.length c2] 92)).alloc (.cells #[.int .i64 nd.kind, .string nd.name, .int .i64 nd.col, .int .i64 nd.op, .int .i64 nd.num, .bool nd.slot, .slice a2 nd.cols.length c2] 92))
          have W2 := Lib.hid (((Below.refl _ w2).alloc (Nat.le_refl _) (.cells #[.int .i64 nd.kind, .string nd.name, .int .i64 nd.col, .int .i64 nd.op, .int .i64 nd.num, .bool nd.slot, .slice a2 nd.cols.length c2] 92)).alloc (by simp) (.cells #[.int .i64 nd.kind, .string nd.name, .int .i64 nd.col, .int .i64 nd.op, .int .i64 nd.num, .bool nd.slot, .slice a2 nd.cols.length c2] 92))
          have OL := Lib.hid (fun x hx => (HO.out.lt x hx).1)
          have OU := Lib.hid (fun x hx => (HO.out.lt x hx).2)
          have K0 : Hid (((w2.alloc (.cells #[.int .i64 nd.kind, .string nd.name, .int .i64 nd.col, .int .i64 nd.op, .int .i64 nd.num, .bool nd.slot, .slice a2 nd.cols.length c2] 92)).alloc (.cells #[.int .i64 nd.kind, .string nd.name, .int .i64 nd.col, .int .i64 nd.op, .int .i64 nd.num, .bool nd.slot, .slice a2 nd.cols.length c2] 92)).cell? ⟨w2.heap.size, 0, none⟩ = some (.int .i64 nd.kind)) := by
            show _ = _
            rw [World.cell?_alloc_lt _ _ ⟨w2.heap.size, 0, none⟩ (by simp)]
            exact (cell_of_row _ _ _ _ _ _ (heap_alloc_new w2 _)).trans rfl
          have hs12 : nd.name.size ≤ maxLen := by have := hb.2.2.2.2; unfold maxLen; omega
          have WLL := WL.out
          clear ho2 h2 g2
          go_wp2_with (at_builtin; go_must (refine wpList_appendG _ rfl (.tmp 22) (.tmp 24) 25 rfl wR.heap.size wr.heap.size Tryz.underlying25 Tryz.infoNodeG rfl a cc n acc rfl HNL.out (OW2.out.below W2.out) (by simp; omega) szr (w2.heap.size + 1) 1 nd a2 c2 rfl (ndRow_at (by simp)) CA.out hs12 (by omega) ?_; intro ao' c' w4 o4 g4; have O4 := Lib.hid o4; have B4 := Lib.hid (below_grow BA.out (by omega) g4 (fun x hx => OL.out x hx)); have k0 : w4.cell? ⟨w2.heap.size, 0, none⟩ = some (.int .i64 nd.kind) := g4.cell K0.out (by cases a with | none => simp | some x => simp; have := OU.out x rfl; omega); clear o4 g4))
          refine (AR.out _).mono ?_
          rintro e w5 ⟨rfl, rfl⟩
          have H5 := Lib.hid (H2.out.belowB hRR (fun a ha hl => by have := WWD.out a ha hl; omega) B4.out)
          have G5 := Lib.hid (grown_belowI G2.out B4.out)
          have O5 := Lib.hid (O4.out.top_)
          clear k0
          go_wp2_with fail
          go_roundw
          case rel => exact plRel_next GO.out h0 HQ.out O5.out H5.out G5.out hf hal hnd.2 (by first | rfl | omega | (unfold RowKit.wrap64; omega)) (by first | rfl | simp)
          case measure => rw [posL_lrd H5.out, po.out]; omega
      · have d0 : decide (0 < need) = false := by simpa using h0
        have EE : Hid (RES = .inr (acc, q)) := by
          show _ = _
          rw [← GO.out]
          cases f with
          | zero => omega
          | succ f => simp only [goQ, if_pos (show need ≤ 0 by omega)]
        have c0 : wr.cell? ⟨w1.heap.size, 0, none⟩ = some (.slice ao ws.length c) := cell_of_row wr w1.heap.size 0 _ _ _ HP.out.1
        have c1 := lrd_c1 HP.out
        have gb := GB.out acc q EE.out
        have BW := Lib.hid (BB.out _ GR.out)
        have WLL := WL.out
        by_cases hq : q < ws.length
        · have d1 : decide ((q : Int) < (ws.length : Int)) = true := by simp; omega
          have E3 : Hid (parseO s = ([], (q : Int))) := by show _ = _; rw [E2.out, EE.out]; unfold pickQ; simp only [if_pos hq]
          go_wp2_with fail
          go_quiet (fail)
          go_wp2_with fail
          go_ret2
          exact madeN2_no E3.out (below_step BW.out (Nat.le_refl _) (below_drewN (Below.refl _ _) _))
        · have d1 : decide ((q : Int) < (ws.length : Int)) = false := by simp; omega
          have E3 : Hid (parseO s = if planB acc = true then (acc, -1) else ([], (ws.length : Int))) := by show _ = _; rw [E2.out, EE.out]; unfold pickQ; simp only [if_neg hq]
          have OO := Lib.hid (HO.out.ownN)
          have SK := Lib.hid (specPlanOk_any a cc acc wr OO.out.rd (by omega))
          go_wp2_with fail
          rw [HNL.out]
          refine SK.out.mono ?_
          rintro e w5 ⟨rfl, b5⟩
          have L5 := HP.out.below b5
          have c0 : w5.cell? ⟨w1.heap.size, 0, none⟩ = some (.slice ao ws.length c) := cell_of_row w5 w1.heap.size 0 _ _ _ L5.1
          have B5 := Lib.hid (below_step BW.out (Nat.le_refl _) b5)
          have O5 := Lib.hid ((OO.out.below b5).base_le (base' := w.heap.size) (by omega))
          clear b5 L5
          cases hs : planB acc with
          | true =>
            have E4 : Hid (parseO s = (acc, -1)) := by show _ = _; rw [E3.out, if_pos hs]
            go_wp2_with fail
            go_ret2
            exact madeN2_yes E4.out rfl O5.out B5.out
          | false =>
            have E4 : Hid (parseO s = ([], (ws.length : Int))) := by show _ = _; rw [E3.out, if_neg (by rw [hs]; simp)]
            go_wp2_with fail
            go_quiet (fail)
            go_wp2_with fail
            go_ret2
            exact madeN2_no E4.out (below_step B5.out (Nat.le_refl _) (below_drewN (Below.refl _ _) _))
end Go.Proofs.YtfpbhedophlnkaaGreatDoor
