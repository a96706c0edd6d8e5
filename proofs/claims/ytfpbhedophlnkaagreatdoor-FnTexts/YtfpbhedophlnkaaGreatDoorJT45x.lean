/-
  Contract of spec.l02Break: it bends the plan in one place, in the plan's own memory. For every plan of the draw's own. Contracts of spec.l02DrawLoose and spec.DrawPlanOk: some nodes in memory of the draw's own. For every slice of bytes. Contracts of spec.l05DrawSlotted and spec.DrawEncodePlan, DrawPrintPlan: a drawn plan, some of its numbers slots, that may have been bent. For every slice of bytes. Contract of spec.l01Below where n may be more than a byte has values. For every such n to 1048576.
-/
import Derived.Test.YtfpbhedophlnkaaGreatDoorJT44x
import Derived.Test.YtfpbhedophlnkaaGreatDoorJT38x
namespace Go.Proofs.YtfpbhedophlnkaaGreatDoor
open Go.RowKit
set_option linter.unusedSimpArgs false
set_option linter.unusedVariables false

set_option maxRecDepth 100000 in
set_option maxHeartbeats 4000000 in
theorem break_any (g : Nat) (xo : Option Addr) (d : Nat) (code : List Int) (w0 w : World) (b c : Nat) (l : List Nd) (xs : List Value) (A : Nat → Option Addr) (C : Nat → Nat) (h0 : Cur w0 g xo d code) (hl : code.length ≤ 1048577)
    (hd : Drew w0 g xo d code w) (hp : PartN w w0.heap.size b c l.length l l.length xs A C) (h1 : 1 ≤ l.length) (h81 : l.length ≤ 81) (h3 : ∀ m ∈ l, m.cols.length ≤ 3) :
    Calls Tryz.prog 76 #[.pointer (some ⟨g, 0, none⟩), .slice (some ⟨b, 0, none⟩) l.length c] w (LooseP w0 g xo d code) := by
  have hglt := h0.lt
  have hcap := owns_cap hp.own
  have hbb := (owns_block hp.own).1
  have H0 := Lib.hid h0; have HL := Lib.hid hl; have HD := Lib.hid hd; have HP := Lib.hid hp; have H3 := Lib.hid h3
  have H4 := Lib.hid (show ∀ m ∈ l, m.cols.length ≤ 4 from fun m hm => by have := h3 m hm; omega)
  clear h0 hl hd hp h3
  generalize hm : l.length = m at *
  have HM := Lib.hid hm; clear hm
  go_enter Tryz.func76, Tryz.ntmps76
  go_wp2_with fail
  refine (l01Once_any g xo d code 8 _ HD.out.1 HL.out (by omega) (by omega)).mono ?_
  rintro e w1 ⟨bo, rfl, c1, g1⟩
  have D1 := Lib.hid (drew_once HD.out c1 g1); have P1 := Lib.hid (HP.out.draw g1 hglt)
  clear c1 g1 HD HP
  cases bo with
  | false =>
    go_wp2_with fail
    go_ret
    exact loose_part P1.out HM.out D1.out (by omega) H4.out rfl
  | true =>
    have hm0 : ((m : Int) == 0) = false := by simp; omega
    go_wp2_with fail
    refine (below_d g xo d code m _ D1.out.1 HL.out (by omega) (by omega)).mono ?_
    rintro e w2 ⟨iz, hi0, hi1, rfl, d2⟩
    have D2 := Lib.hid (D1.out.next d2); have P2 := Lib.hid (P1.out.draw d2.2 hglt)
    clear d2 D1 P1
    obtain ⟨i, rfl⟩ : ∃ i : Nat, iz = i := ⟨iz.toNat, by omega⟩
    have him : i < m := by omega
    obtain ⟨n, hn⟩ : ∃ n, l[i]? = some n := ⟨l[i]'(by have := HM.out; omega), List.getElem?_eq_getElem _⟩
    have HN := Lib.hid hn; clear hn
    go_wp2_with fail
    refine (below_d g xo d code 7 _ D2.out.1 HL.out (by omega) (by omega)).mono ?_
    rintro e w3 ⟨k, hk0, hk1, rfl, d3⟩
    have D3 := Lib.hid (D2.out.next d3); have P3 := Lib.hid (P2.out.draw d3.2 hglt)
    clear d3 D2 P2
    have hk : k = 0 ∨ k = 1 ∨ k = 2 ∨ k = 3 ∨ k = 4 ∨ k = 5 ∨ k = 6 := by omega
    rcases hk with rfl | rfl | rfl | rfl | rfl | rfl | rfl
    · go_wp2_with fail
      refine (below_d g xo d code 10 _ D3.out.1 HL.out (by omega) (by omega)).mono ?_
      rintro e w4 ⟨y, hy0, hy1, rfl, d4⟩
      have D4 := Lib.hid (D3.out.next d4); have P4 := Lib.hid (P3.out.draw d4.2 hglt)
      clear d4 D3 P3
      obtain ⟨y0, e0⟩ := P4.out.some_ (o := i * 7) (by omega)
      have hf0 := P4.out.frozen
      have Q := Lib.hid (P4.out.st0 (by omega) HN.out (by omega) (y - 1))
      have DQ := Lib.hid (drew_set (o := i * 7) (v := .int .i64 (y - 1)) H0.out D4.out hbb)
      go_wp2_with fail
      go_ret
      exact loose_part Q.out (by rw [List.length_set]; exact HM.out) DQ.out (by omega) (set_four H3.out HN.out rfl) rfl
    · have PK := Lib.hid (pick_new g xo d code w3 D3.out.1 HL.out [-1, 63, 64, 2] 4 rfl (by omega) (by omega) _ rfl)
      go_wp2_with fail
      refine PK.out.mono ?_
      rintro e w4 ⟨y, rfl, d4⟩
      have D4 := Lib.hid (D3.out.next d4); have P4 := Lib.hid (P3.out.draw d4.2 hglt)
      clear d4 D3 P3 PK
      obtain ⟨y0, e0⟩ := P4.out.some_ (o := i * 7 + 2) (by omega)
      have hf0 := P4.out.frozen
      have Q := Lib.hid (P4.out.st2 (by omega) HN.out (by omega) y)
      have DQ := Lib.hid (drew_set (o := i * 7 + 2) (v := .int .i64 y) H0.out D4.out hbb)
      go_wp2_with fail
      go_ret
      exact loose_part Q.out (by rw [List.length_set]; exact HM.out) DQ.out (by omega) (set_four H3.out HN.out rfl) rfl
    · have PK := Lib.hid (pick_new g xo d code w3 D3.out.1 HL.out [-1, 1000000, 1000001] 3 rfl (by omega) (by omega) _ rfl)
      go_wp2_with fail
      refine PK.out.mono ?_
      rintro e w4 ⟨y, rfl, d4⟩
      have D4 := Lib.hid (D3.out.next d4); have P4 := Lib.hid (P3.out.draw d4.2 hglt)
      clear d4 D3 P3 PK
      obtain ⟨y0, e0⟩ := P4.out.some_ (o := i * 7 + 4) (by omega)
      have hf0 := P4.out.frozen
      have Q := Lib.hid (P4.out.st4 (by omega) HN.out (by omega) y)
      have DQ := Lib.hid (drew_set (o := i * 7 + 4) (v := .int .i64 y) H0.out D4.out hbb)
      go_wp2_with fail
      go_ret
      exact loose_part Q.out (by rw [List.length_set]; exact HM.out) DQ.out (by omega) (set_four H3.out HN.out rfl) rfl
    · obtain ⟨y0, e0⟩ := P3.out.some_ (o := i * 7 + 5) (by omega)
      have hf0 := P3.out.frozen
      have Q := Lib.hid (P3.out.st5 (by omega) HN.out (by omega) true)
      have DQ := Lib.hid (drew_set (o := i * 7 + 5) (v := .bool true) H0.out D3.out hbb)
      go_wp2_with fail
      go_ret
      exact loose_part Q.out (by rw [List.length_set]; exact HM.out) DQ.out (by omega) (set_four H3.out HN.out rfl) rfl
    · have NA := P3.out.at_ (i := i) (by omega) (by omega) HN.out
      obtain ⟨q0, q1, q2, q3, q4, q5, q6, qr, qc, qm, qn⟩ := NA
      rw [Nat.zero_add] at q0 q1 q2 q3 q4 q5 q6
      have NW := Lib.hid (nd_new w3 n (A i) (C i) qr qc qm qn)
      have OWN := Lib.hid (P3.out.below ((Below.refl _ w3).alloc (Nat.le_refl _) (.cells (ndCells n (A i) (C i)).toArray 92))).own
      have LA := Lib.hid (fun (v' : Value) (w' : World) ho hg => loose_app (v' := v') (w' := w') (W := w3.alloc (.cells (ndCells n (A i) (C i)).toArray 92)) H0.out P3.out HM.out D3.out HN.out ((Below.refl _ w3).alloc (Nat.le_refl _) _) ho hg h81 H4.out)
      have hz3 : w0.heap.size ≤ (w3.alloc (.cells (ndCells n (A i) (C i)).toArray 92)).heap.size := by have := D3.out.2.size; simp; omega
      clear qr qc qm qn
      obtain ⟨kd, nmm, co, op, nu, sl, cols⟩ := n
      simp only at q0 q1 q2 q3 q4 q5 q6
      go_wp2_with (at_builtin; go_must (refine wpList_appendNs _ rfl (.tmp 56) (.tmp 61) 25 rfl w0.heap.size Tryz.underlying25 Tryz.infoNode rfl _ m xs rfl OWN.out w3.heap.size 0 1 1 [⟨kd, nmm, co, op, nu, sl, cols⟩] (fun _ => A i) (fun _ => C i) rfl rfl NW.out (by omega) hz3 ?_; intro v' w4 o4 g4 _; obtain ⟨b4, c4, rfl⟩ := row_form o4 (by omega); have LP := Lib.hid (LA.out _ _ o4 g4); clear o4 g4))
      go_ret
      exact LP.out
    · have LT := Lib.hid ((LooseN.of_part P3.out HM.out).take i)
      have TL := Lib.hid (show (l.take i).length = i by rw [List.length_take, HM.out]; omega)
      have hic : (i : Int) ≤ c := by omega
      go_wp2_with fail
      go_ret
      exact ⟨l.take i, b, c, ret_slice TL.out.symm, by rw [TL.out]; omega, fun k hk => H4.out k (List.mem_of_mem_take hk), LT.out, D3.out⟩
    · have e6 : w3.cell? ⟨b, i * 7 + 6, none⟩ = some (.slice (A i) n.cols.length (C i)) := (P3.out.cellAt (by omega)).trans (P3.out.cells i _ (by omega) HN.out).c6
      have OC := Lib.hid (P3.out.cols i n (by omega) HN.out)
      have n3 := H3.out n (List.mem_of_getElem? HN.out)
      have LC := Lib.hid (fun (ao : Option Addr) (co : Nat) (w' : World) ho hg => loose_col (ao := ao) (co := co) (w' := w') (z := 0) (W := w3.alloc (.cells #[.int .i64 0] 3)) H0.out P3.out HM.out D3.out HN.out ((Below.refl _ w3).alloc (Nat.le_refl _) _) ho hg (by omega) H3.out rfl)
      have hz3 : w0.heap.size ≤ (w3.alloc (.cells #[.int .i64 0] 3)).heap.size := by have := D3.out.2.size; simp; omega
      generalize hcl : n.cols.length = cl at *
      have CL := Lib.hid hcl; clear hcl
      go_wp2_with (at_builtin; go_must (refine wpList_appendI _ rfl (.tmp 76) (.tmp 77) 47 rfl w0.heap.size 3 Tryz.underlying47 Tryz.infoInt (A i) (C i) cl n.cols rfl CL.out.symm (OC.out.alloc _) w3.heap.size 1 0 rfl (cell_one _ _ _) (by rw [CL.out]; omega) hz3 ?_; rw [CL.out]; intro ao4 c4 w4 o4 g4; have LP := Lib.hid (LC.out _ _ _ o4 g4); have e7 := LP.out.1; have f7 := LP.out.2.1; clear o4 g4))
      go_ret
      exact LP.out.2.2
end Go.Proofs.YtfpbhedophlnkaaGreatDoor
namespace Go.Proofs.YtfpbhedophlnkaaGreatDoor
open Go.RowKit
set_option linter.unusedSimpArgs false
set_option linter.unusedVariables false

def onceN : Nd := ⟨7, ⟨#[]⟩, 0, 0, 0, false, []⟩
def scanT : Nd := ⟨0, ⟨#[116, 49]⟩, 0, 0, 0, false, []⟩
theorem allC_app (l l2 : List Nd) : allCells (l ++ l2) (fun _ => none) (fun _ => 0) = allCells l (fun _ => none) (fun _ => 0) ++ allCells l2 (fun _ => none) (fun _ => 0) := by
  have h := allCells_app l l2 (fun _ => none) (fun _ => none) (fun _ => 0) (fun _ => 0)
  simpa using h
theorem drew_row {w0 w W w' : World} {g : Nat} {xo : Option Addr} {d : Nat} {code : List Int} {row : Option Nat} (h0 : Cur w0 g xo d code) (hd : Drew w0 g xo d code w) (hW : Below w.heap.size w W) (hg : W.grownBy w' row) (hr : ∀ q, row = some q → w0.heap.size ≤ q) : Drew w0 g xo d code w' := by
  have hz := hd.2.size
  have hk : ∀ q, q < w0.heap.size → w'.heap[q]? = w.heap[q]? := fun q hq => (hg.block q (by have := hW.size; omega) (fun e => by have := hr q e.symm; omega)).trans (hW.block q (by omega))
  exact ⟨hd.1.keepI h0.lt h0.code_lt hk, ⟨hg.os.trans (hW.os.trans hd.2.os), hg.tape.trans (hW.tape.trans hd.2.tape), hg.output.trans (hW.output.trans hd.2.output), Nat.le_trans hz (Nat.le_trans hW.size hg.size), fun q hq hne => (hk q hq).trans (hd.2.block q hq hne)⟩⟩
theorem owns_below {w w' : World} {base : Nat} {e : TypeId} {size n : Nat} {v : Value} {xs : List Value} (h : w.ownsRow base e size v n xs) (hb : Below w.heap.size w w') : w'.ownsRow base e size v n xs := by
  refine ⟨h.1, ?_⟩
  rcases h.2 with h2 | ⟨g', cap, cur, hv, hb', hg, r⟩
  · exact .inl h2
  · refine .inr ⟨g', cap, cur, hv, hb', ?_, r⟩
    have hlt : g' < w.heap.size := by
      rcases Nat.lt_or_ge g' w.heap.size with h1 | h1
      · exact h1
      · rw [Array.getElem?_eq_none h1] at hg; cases hg
    rw [hb.block g' hlt]; exact hg
/-- Onces that are laid one by one. -/
def TowRel (w : World) (g : Nat) (xo : Option Addr) (d : Nat) (code : List Int) (wr : World) (v i : Value) : Prop :=
  ∃ j : Nat, i = .int .i64 j ∧ j ≤ 10 ∧ wr.ownsRow w.heap.size 92 7 v j (allCells (List.replicate j onceN) (fun _ => none) fun _ => 0) ∧ Drew w g xo d code wr
theorem tow_next {w wr W w' : World} {g : Nat} {xo : Option Addr} {d : Nat} {code : List Int} {j : Nat} {v v' : Value} (h0 : Cur w g xo d code) (hd : Drew w g xo d code wr) (hj : j < 10) (hw : wr.ownsRow w.heap.size 92 7 v j (allCells (List.replicate j onceN) (fun _ => none) fun _ => 0)) (hW : Below wr.heap.size wr W)
    (ho : w'.ownsRow w.heap.size 92 7 v' (j + 1) (allCells (List.replicate j onceN) (fun _ => none) (fun _ => 0) ++ allCells [onceN] (fun _ => none) (fun _ => 0))) (hg : W.grownBy w' v.ownBlock) : TowRel w g xo d code w' v' (.int .i64 ((j : Int) + 1)) := by
  refine ⟨j + 1, by simp, by omega, ?_, drew_row h0 hd hW hg (fun q hq => (hw.lt q hq).1)⟩
  rw [List.replicate_succ', allC_app]
  exact ho
theorem loose_plain {w : World} {base b c m : Nat} {l : List Nd} (ho : w.ownsRow base 92 7 (.slice (some ⟨b, 0, none⟩) m c) m (allCells l (fun _ => none) fun _ => 0)) (hm : l.length = m) (hc : ∀ n ∈ l, n.cols = [] ∧ n.name.size ≤ 100) : LooseN w base b c l := by
  have hcap := owns_cap ho
  refine ⟨(owns_block ho).1, by omega, hcap.2, fun i n hi => ⟨none, 0, ?_, fun x hx => by cases hx⟩⟩
  have hl := some_lt hi
  obtain ⟨hcc, hnn⟩ := hc n (List.mem_of_getElem? hi)
  have key : ∀ t, t < 7 → w.cell? ⟨b, 0 + i * 7 + t, none⟩ = (ndCells n none 0)[t]? := fun t ht => by
    rw [Nat.zero_add, World.ownsRow.cellAt ho _ (by omega)]
    exact allCells_get l _ _ i n hi t ht
  exact ⟨key 0 (by omega), key 1 (by omega), key 2 (by omega), key 3 (by omega), key 4 (by omega), key 5 (by omega), key 6 (by omega), by rw [hcc]; exact .inl rfl, by rw [hcc]; simp, by unfold maxLen; omega, by unfold maxLen; omega⟩
theorem tow_end {w wr W w' : World} {g : Nat} {xo : Option Addr} {d : Nat} {code : List Int} {j : Nat} {v : Value} {b c : Nat} {e : Ending} (h0 : Cur w g xo d code) (hd : Drew w g xo d code wr) (hj : j ≤ 10) (hw : wr.ownsRow w.heap.size 92 7 v j (allCells (List.replicate j onceN) (fun _ => none) fun _ => 0)) (hW : Below wr.heap.size wr W)
    (ho : w'.ownsRow w.heap.size 92 7 (.slice (some ⟨b, 0, none⟩) (j + 1) c) (j + 1) (allCells (List.replicate j onceN) (fun _ => none) (fun _ => 0) ++ allCells [scanT] (fun _ => none) (fun _ => 0))) (hg : W.grownBy w' v.ownBlock) (he : e = .returned (.slice (some ⟨b, 0, none⟩) (j + 1) c)) : LooseP w g xo d code e w' := by
  rw [← allC_app] at ho
  have hl : (List.replicate j onceN ++ [scanT]).length = j + 1 := by simp
  have hm : ∀ n ∈ List.replicate j onceN ++ [scanT], n.cols = [] ∧ n.name.size ≤ 100 := by
    intro n hn
    rcases List.mem_append.1 hn with hn | hn
    · rw [List.eq_of_mem_replicate hn]; exact ⟨rfl, by decide⟩
    · simp at hn; subst hn; exact ⟨rfl, by decide⟩
  exact ⟨_, b, c, by rw [he, hl], by rw [hl]; omega, fun n hn => by rw [(hm n hn).1]; simp, loose_plain ho hl hm, drew_row h0 hd hW hg (fun q hq => (hw.lt q hq).1)⟩

set_option maxRecDepth 100000 in
set_option maxHeartbeats 4000000 in
theorem drawLoose_any (g : Nat) (xo : Option Addr) (d : Nat) (code : List Int) (b : Option Addr) (c : Nat) (w : World) (hc : Cur w g xo d code) (hl : code.length ≤ 1048577) :
    Calls Tryz.prog 69 #[.pointer (some ⟨g, 0, none⟩), .slice b code.length c] w (LooseP w g xo d code) := by
  have hglt := hc.lt
  have HC := Lib.hid hc; have HL := Lib.hid hl; clear hc hl
  go_enter Tryz.func69, Tryz.ntmps69
  go_wp2_with fail
  refine (drawDeep_any g xo d code b c _ HC.out HL.out).mono ?_
  rintro e w1 ⟨l, b1, c1, xs, A, C, rfl, h1, h2, h3, p1, d1⟩
  have BR := Lib.hid (break_any g xo d code w w1 b1 c1 l xs A C HC.out HL.out d1 p1 h1 h2 h3)
  clear h3 p1 d1
  go_wp2_with fail
  refine BR.out.mono ?_
  rintro e w2 ⟨l2, b2, c2, rfl, k1, k2, ln2, d2⟩
  have LN2 := Lib.hid ln2; have D2 := Lib.hid d2; have K2 := Lib.hid k2
  clear ln2 d2 k2 BR
  go_wp2_with fail
  refine (l01Once_any g xo d code 30 _ D2.out.1 HL.out (by omega) (by omega)).mono ?_
  rintro e w3 ⟨bo, rfl, c3, g3⟩
  have D3 := Lib.hid (drew_once D2.out c3 g3); have LN3 := Lib.hid (LN2.out.draw g3 hglt)
  clear c3 g3 D2 LN2
  cases bo with
  | false =>
    go_wp2_with fail
    go_ret
    exact ⟨l2, b2, c2, rfl, k1, K2.out, LN3.out, D3.out⟩
  | true =>
    clear LN3
    go_wp2_with fail
    refine (below_d g xo d code 2 _ D3.out.1 HL.out (by omega) (by omega)).mono ?_
    rintro e w4 ⟨y, hy0, hy1, rfl, d4⟩
    have P0 := Lib.hid (show TowRel w g xo d code w4 (.slice none 0 0) (.int .i64 0) from ⟨0, rfl, by omega, World.ownsRow_nil _ _ _ _, D3.out.next d4⟩)
    clear d4 D3
    go_wp2_with fail
    go_loopw [5, 7] (fun v i wr => TowRel w g xo d code wr v i) (fun _ i _ => 10 - (intOf i).toNat)
    case atStart => exact P0.out
    case round =>
      clear P0
      obtain ⟨j, rfl, hj, hw, hd⟩ := hrel
      have HW := Lib.hid hw; have HD := Lib.hid hd
      clear hw hd
      by_cases hlt : (j : Int) < 9 + y
      · have NW := Lib.hid (nd_new wr onceN none 0 (.inl rfl) (by decide) (by decide) (by decide))
        have OA := Lib.hid (owns_below HW.out ((Below.refl _ wr).alloc (Nat.le_refl _) (.cells (ndCells onceN none 0).toArray 92)))
        have hb : w.heap.size ≤ (wr.alloc (.cells (ndCells onceN none 0).toArray 92)).heap.size := by have := HD.out.2.size; simp; omega
        have BA := Lib.hid ((Below.refl _ wr).alloc (Nat.le_refl _) (.cells (ndCells onceN none 0).toArray 92))
        go_wp2_with (at_builtin; go_must (refine wpList_appendNs _ rfl (.tmp 23) (.tmp 25) 25 rfl w.heap.size Tryz.underlying25 Tryz.infoNode rfl _ j _ rfl OA.out wr.heap.size 0 1 1 [onceN] (fun _ => none) (fun _ => 0) rfl rfl NW.out (by omega) hb ?_; intro v' w5 o5 g5 _; have R := Lib.hid (tow_next HC.out HD.out (by omega) HW.out BA.out o5 g5); clear o5 g5))
        go_roundw
        case rel => exact R.out
        case measure => simp [intOf]; omega
      · have NW := Lib.hid (nd_new wr scanT none 0 (.inl rfl) (by decide) (by decide) (by decide))
        have OA := Lib.hid (owns_below HW.out ((Below.refl _ wr).alloc (Nat.le_refl _) (.cells (ndCells scanT none 0).toArray 92)))
        have hb : w.heap.size ≤ (wr.alloc (.cells (ndCells scanT none 0).toArray 92)).heap.size := by have := HD.out.2.size; simp; omega
        have BA := Lib.hid ((Below.refl _ wr).alloc (Nat.le_refl _) (.cells (ndCells scanT none 0).toArray 92))
        go_wp2_with (at_builtin; go_must (refine wpList_appendNs _ rfl (.tmp 27) (.tmp 29) 25 rfl w.heap.size Tryz.underlying25 Tryz.infoNode rfl _ j _ rfl OA.out wr.heap.size 0 1 1 [scanT] (fun _ => none) (fun _ => 0) rfl rfl NW.out (by omega) hb ?_; intro v' w5 o5 g5 _; obtain ⟨b5, c5, rfl⟩ := row_form o5 (by omega); have R := Lib.hid (tow_end HC.out HD.out hj HW.out BA.out o5 g5 rfl); clear o5 g5))
        go_ret
        exact R.out
/-- What DrawPlanOk gives. -/
def DrawnP (w : World) (e : Ending) (w' : World) : Prop :=
  ∃ (l : List Nd) (b c : Nat), e = .returned (.slice (some ⟨b, 0, none⟩) l.length c) ∧ l.length ≤ 82 ∧ Small l ∧ l.length ≤ c ∧ c ≤ maxLen ∧ RdN w' (some ⟨b, 0, none⟩) l ∧ Below w.heap.size w w'
end Go.Proofs.YtfpbhedophlnkaaGreatDoor
namespace Go.Proofs.YtfpbhedophlnkaaGreatDoor
open Go.RowKit
set_option linter.unusedSimpArgs false
set_option linter.unusedVariables false

def SlotRel (w : World) (g : Nat) (xo : Option Addr) (d : Nat) (code : List Int) (bb cc m : Nat) (A : Nat → Option Addr) (C : Nat → Nat) (s i : Value) (wr : World) : Prop :=
  ∃ (j sl : Nat) (lr : List Nd) (xr : List Value), j ≤ m ∧ sl ≤ j ∧ i = .int .i64 j ∧ s = .int .i64 sl ∧ lr.length = m ∧ (∀ n ∈ lr, n.cols.length ≤ 3) ∧ PartN wr w.heap.size bb cc m lr m xr A C ∧ Drew w g xo d code wr
theorem set_three {l : List Nd} {i : Nat} {n n' : Nd} (h : ∀ m ∈ l, m.cols.length ≤ 3) (hn : l[i]? = some n) (hc : n'.cols = n.cols) : ∀ m ∈ l.set i n', m.cols.length ≤ 3 := by
  intro m hm
  rcases List.mem_or_eq_of_mem_set hm with hm | rfl
  · exact h m hm
  · rw [hc]; exact h n (List.mem_of_getElem? hn)
theorem part_at {w : World} {base b c m : Nat} {l : List Nd} {xs : List Value} {A : Nat → Option Addr} {C : Nat → Nat} (hm : l.length = m) (h : PartN w base b c m l m xs A C) : PartN w base b c l.length l l.length xs A C := by rw [hm]; exact h
/-- The two stores of a round. -/
theorem slot_next {w wr : World} {g : Nat} {xo : Option Addr} {d : Nat} {code : List Int} {bb cc m j sl : Nat} {A : Nat → Option Addr} {C : Nat → Nat} {lr : List Nd} {xr : List Value} {n : Nd} (hc : Cur w g xo d code) (hj : j < m) (hsl : sl ≤ j) (hlr : lr.length = m) (h3 : ∀ n ∈ lr, n.cols.length ≤ 3)
    (hp : PartN wr w.heap.size bb cc m lr m xr A C) (hd : Drew w g xo d code wr) (hn : lr[j]? = some n) :
    SlotRel w g xo d code bb cc m A C (.int .i64 ((sl : Int) + 1)) (.int .i64 ((j : Int) + 1)) ((wr.setCell ⟨bb, j * 7 + 5, none⟩ (.bool true)).setCell ⟨bb, j * 7 + 4, none⟩ (.int .i64 sl)) := by
  have hbb := (owns_block hp.own).1
  have P5 := hp.st5 hj hn hj true
  have D5 := drew_set (o := j * 7 + 5) (v := .bool true) hc hd hbb
  have hn5 : (lr.set j { n with slot := true })[j]? = some { n with slot := true } := by rw [List.getElem?_set_self (by omega)]
  have P4 := P5.st4 hj hn5 hj (sl : Int)
  have D4 := drew_set (o := j * 7 + 4) (v := .int .i64 sl) hc D5 hbb
  refine ⟨j + 1, sl + 1, _, _, hj, by omega, by go_num, by go_num, ?_, ?_, P4, D4⟩
  · simp [hlr]
  · exact set_three (set_three h3 hn rfl) hn5 rfl
set_option maxRecDepth 100000 in
set_option maxHeartbeats 2000000 in
theorem drawSlotted_any (g : Nat) (xo : Option Addr) (d : Nat) (code : List Int) (b : Option Addr) (c : Nat) (w : World) (hc : Cur w g xo d code) (hl : code.length ≤ 1048577) :
    Calls Tryz.prog 112 #[.pointer (some ⟨g, 0, none⟩), .slice b code.length c] w (LooseP w g xo d code) := by
  have hglt := hc.lt
  have HC := Lib.hid hc; have HL := Lib.hid hl; clear hc hl
  go_enter Tryz.func112, Tryz.ntmps112
  go_wp2_with fail
  refine (drawDeep_any g xo d code b c _ HC.out HL.out).mono ?_
  rintro e w1 ⟨l, bb, cc, xs, A, C, rfl, h1, h81, h3, p1, d1⟩
  have H3 := Lib.hid h3; have P1 := Lib.hid p1; have D1 := Lib.hid d1
  clear h3 p1 d1
  generalize hm : l.length = m at *
  have HM := Lib.hid hm; clear hm
  go_wp2_with fail
  go_loopw [6, 7] (fun s i wr => SlotRel w g xo d code bb cc m A C s i wr) (fun _ i _ => m - (intOf i).toNat)
  case atStart => exact ⟨0, 0, l, xs, Nat.zero_le _, Nat.le_refl _, rfl, rfl, HM.out, H3.out, P1.out, D1.out⟩
  case round =>
    obtain ⟨j, sl, lr, xr, hj, hsl, rfl, rfl, hlr, h3r, pr, dr⟩ := hrel
    have HLR := Lib.hid hlr; have H3R := Lib.hid h3r; have PR := Lib.hid pr; have DR := Lib.hid dr
    clear hlr h3r pr dr
    by_cases hlt : j < m
    · have i1 : (j : Int) < (m : Int) := by omega
      obtain ⟨n, hn⟩ : ∃ n, lr[j]? = some n := ⟨lr[j]'(by have := HLR.out; omega), List.getElem?_eq_getElem _⟩
      have HN := Lib.hid hn; clear hn
      obtain ⟨q0, q1, q2, q3, q4, q5, q6, qr, qc, qm, qn⟩ := PR.out.at_ (i := j) hlt hlt HN.out
      rw [Nat.zero_add] at q0 q1 q2 q3 q4 q5 q6
      have ON := Lib.hid (l01Once_any g xo d code 3 wr DR.out.1 HL.out (by omega) (by omega))
      have KO : Hid (∀ w2, Drew w g xo d code w2 → PartN w2 w.heap.size bb cc m lr m xr A C →
          (∃ y0, w2.cell? ⟨bb, j * 7 + 5, none⟩ = some y0) ∧ w2.frozen? ⟨bb, j * 7 + 5, none⟩ = false ∧ (∃ y1, (w2.setCell ⟨bb, j * 7 + 5, none⟩ (.bool true)).cell? ⟨bb, j * 7 + 4, none⟩ = some y1) ∧ (w2.setCell ⟨bb, j * 7 + 5, none⟩ (.bool true)).frozen? ⟨bb, j * 7 + 4, none⟩ = false) := fun w2 d2 p2 => by
        have P5 := p2.st5 hlt HN.out hlt true
        exact ⟨p2.some_ (by omega), p2.frozen _, P5.some_ (by omega), P5.frozen _⟩
      clear qr qc qm qn
      by_cases k1 : n.kind = 1
      · by_cases o3 : n.op = 3
        · have e1 : (n.kind == 1) = true := by simp [k1]
          have e2 : (n.op != 3) = false := by simp [o3]
          have e3 : (n.kind == 6) = false := by simp [k1]
          go_wp2_with fail
          go_roundw
          case rel => exact ⟨j + 1, sl, lr, xr, by omega, by omega, by go_num, rfl, HLR.out, H3R.out, PR.out, DR.out⟩
          case measure => simp [intOf]; omega
        · have e1 : (n.kind == 1) = true := by simp [k1]
          have e2 : (n.op != 3) = true := by simp [o3]
          go_wp2_with fail
          refine ON.out.mono ?_
          rintro e w2 ⟨bo, rfl, c2, g2⟩
          have D2 := Lib.hid (drew_once DR.out c2 g2); have P2 := Lib.hid (PR.out.draw g2 hglt)
          clear c2 g2
          cases bo with
          | false =>
            go_wp2_with fail
            go_roundw
            case rel => exact ⟨j + 1, sl, lr, xr, by omega, by omega, by go_num, rfl, HLR.out, H3R.out, P2.out, D2.out⟩
            case measure => simp [intOf]; omega
          | true =>
            obtain ⟨⟨y0, e0⟩, f0, ⟨y1, e1'⟩, f1⟩ := KO.out w2 D2.out P2.out
            go_wp2_with fail
            go_roundw
            case rel => exact slot_next HC.out hlt hsl HLR.out H3R.out P2.out D2.out HN.out
            case measure => simp [intOf]; omega
      · by_cases k6 : n.kind = 6
        · have e1 : (n.kind == 1) = false := by simp [k1]
          have e3 : (n.kind == 6) = true := by simp [k6]
          go_wp2_with fail
          refine ON.out.mono ?_
          rintro e w2 ⟨bo, rfl, c2, g2⟩
          have D2 := Lib.hid (drew_once DR.out c2 g2); have P2 := Lib.hid (PR.out.draw g2 hglt)
          clear c2 g2
          cases bo with
          | false =>
            go_wp2_with fail
            go_roundw
            case rel => exact ⟨j + 1, sl, lr, xr, by omega, by omega, by go_num, rfl, HLR.out, H3R.out, P2.out, D2.out⟩
            case measure => simp [intOf]; omega
          | true =>
            obtain ⟨⟨y0, e0⟩, f0, ⟨y1, e1'⟩, f1⟩ := KO.out w2 D2.out P2.out
            go_wp2_with fail
            go_roundw
            case rel => exact slot_next HC.out hlt hsl HLR.out H3R.out P2.out D2.out HN.out
            case measure => simp [intOf]; omega
        · have e1 : (n.kind == 1) = false := by simp [k1]
          have e3 : (n.kind == 6) = false := by simp [k6]
          go_wp2_with fail
          go_roundw
          case rel => exact ⟨j + 1, sl, lr, xr, by omega, by omega, by go_num, rfl, HLR.out, H3R.out, PR.out, DR.out⟩
          case measure => simp [intOf]; omega
    · obtain rfl : j = m := by omega
      have BR := Lib.hid (break_any g xo d code w wr bb cc lr xr A C HC.out HL.out DR.out (part_at HLR.out PR.out) (by rw [HLR.out]; exact h1) (by rw [HLR.out]; exact h81) H3R.out)
      rw [HLR.out] at BR
      go_wp2_with fail
      refine BR.out.mono ?_
      rintro e w2 hp
      have HP := Lib.hid hp
      obtain ⟨l2, b2, c2, rfl, hh⟩ := hp
      clear hh
      go_wp2_with fail
      go_ret
      exact HP.out
/-- What drawing a plan out of bytes gives. -/
theorem drawEncodePlan_any (xo : Option Addr) (d : Nat) (code : List Int) (w : World) (hr : Rd w .u8 xo code) (hby : By code) (hl : code.length ≤ 1048577) :
    Calls Tryz.prog 36 #[.slice xo code.length d] w (DrawnP w) := by
  have C := Lib.hid (l01New_any xo d code w hr hby hl)
  have HL := Lib.hid hl
  clear hr hby hl
  go_enter Tryz.func36, Tryz.ntmps36
  go_wp2_with fail
  refine C.out.mono ?_
  rintro e w1 ⟨g, rfl, hg, hc, hb⟩
  have HG := Lib.hid hg; have HC := Lib.hid hc; have HB := Lib.hid hb; clear hg hc hb
  go_wp2_with fail
  refine (drawSlotted_any g xo d code xo d w1 HC.out HL.out).mono ?_
  rintro e w2 ⟨l, b, c, rfl, h1, h2, h3, h4⟩
  have H2 := Lib.hid h2; have H3 := Lib.hid h3; have H4 := Lib.hid h4; clear h2 h3 h4
  go_wp2_with fail
  go_ret
  exact ⟨l, b, c, rfl, h1, ⟨by omega, fun n hn => by have := H2.out n hn; omega⟩, H3.out.cap, H3.out.mx, H3.out.rd, HB.out.grown H4.out.2 HB.out.size (by intro r hr; injection hr with hr; have := HG.out; omega)⟩
theorem drawPrintPlan_any (xo : Option Addr) (d : Nat) (code : List Int) (w : World) (hr : Rd w .u8 xo code) (hby : By code) (hl : code.length ≤ 1048577) :
    Calls Tryz.prog 47 #[.slice xo code.length d] w (DrawnP w) := by
  have C := Lib.hid (drawEncodePlan_any xo d code w hr hby hl)
  clear hr hby hl
  go_enter Tryz.func47, Tryz.ntmps47
  go_wp2_with fail
  refine C.out.mono ?_
  rintro e w2 ⟨l, b, c, rfl, hh⟩
  have H := Lib.hid hh; clear hh
  go_wp2_with fail
  go_ret
  exact ⟨l, b, c, rfl, H.out⟩
end Go.Proofs.YtfpbhedophlnkaaGreatDoor
namespace Go.Proofs.YtfpbhedophlnkaaGreatDoor
open Go.RowKit
set_option linter.unusedSimpArgs false
set_option linter.unusedVariables false

set_option maxRecDepth 100000 in
set_option maxHeartbeats 1000000 in
theorem l01BelowB_any (g : Nat) (ao : Option Addr) (d : Nat) (code : List Int) (n : Int) (w : World) (hc : Cur w g ao d code) (hl : code.length ≤ 1048577) (h0 : 1 ≤ n) (h1 : n ≤ 1048576) :
    Calls Tryz.prog 74 #[.pointer (some ⟨g, 0, none⟩), .int .i64 n] w (ByteP w g ao d code 0 (n - 1)) := by
  by_cases h2 : n ≤ 256
  · exact l01Below_any g ao d code n w hc hl h0 h2
  · have h3 : 256 < n := by omega
    have C := Lib.hid (fun w h => l01Byte_any g ao d code w h hl)
    have HC := Lib.hid hc
    clear hc hl h2
    go_enter Tryz.func74, Tryz.ntmps74
    go_wp2_with fail
    refine (C.out _ HC.out).mono ?_
    rintro e w1 ⟨x, rfl, x0, x1, hc1, hg1⟩
    have HC1 := Lib.hid hc1; have HG1 := Lib.hid hg1; clear hc1 hg1
    go_wp2_with fail
    refine (C.out _ HC1.out).mono ?_
    rintro e w2 ⟨y, rfl, y0, y1, hc2, hg2⟩
    have HC2 := Lib.hid hc2; have HG2 := Lib.hid (grownBy_trans HG1.out hg2); clear hc2 hg2
    go_wp2_with fail
    refine (C.out _ HC2.out).mono ?_
    rintro e w3 ⟨z, rfl, z0, z1, hc3, hg3⟩
    have HC3 := Lib.hid hc3; have HG3 := Lib.hid (grownBy_trans HG2.out hg3); clear hc3 hg3
    go_wp2
    go_ret
    have e1 : (x * 65536 + y * 256 + z) % n < n := Int.emod_lt_of_pos _ (by omega)
    have e2 : 0 ≤ (x * 65536 + y * 256 + z) % n := Int.emod_nonneg _ (by omega)
    exact ⟨_, rfl, e2, by omega, HC3.out, HG3.out⟩
end Go.Proofs.YtfpbhedophlnkaaGreatDoor
