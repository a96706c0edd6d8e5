/-
  Contract of spec.l02DrawPlan, kind by kind, at a depth above 1.
-/
import Derived.Test.YtanfllednlpbaaaGreatM13x
import Derived.Deep.AppendLies
import Derived.Deep.RegionLaw
namespace Go.Proofs.YtanfllednlpbaaaGreat
open Go.RowKit
set_option linter.unusedSimpArgs false
set_option linter.unusedVariables false

/-- A keep's node while its columns are drawn. -/
def KRel (w w1 w2 : World) (g : Nat) (xo : Option Addr) (d : Nat) (code : List Int) (tot : Int) (wr : World) (kk : Value) : Prop :=
  ∃ (j : Nat) (ao : Option Addr) (c n : Nat) (cols : List Int), kk = .int .i64 (tot - j) ∧ (j : Int) ≤ tot ∧ cols.length = j ∧ n = j ∧ (wr.cell? ⟨w2.heap.size, 0, none⟩ = some (.int .i64 2) ∧ wr.cell? ⟨w2.heap.size, 1, none⟩ = some (.string ⟨#[]⟩) ∧ wr.cell? ⟨w2.heap.size, 2, none⟩ = some (.int .i64 0) ∧ wr.cell? ⟨w2.heap.size, 3, none⟩ = some (.int .i64 0) ∧ wr.cell? ⟨w2.heap.size, 4, none⟩ = some (.int .i64 0) ∧ wr.cell? ⟨w2.heap.size, 5, none⟩ = some (.bool false) ∧ wr.cell? ⟨w2.heap.size, 6, none⟩ = some (.slice ao n c)) ∧ (∀ o, wr.frozen? ⟨w2.heap.size, o, none⟩ = false) ∧
    Own wr (w2.heap.size + 1) 3 .i64 ao c cols ∧ AG w1.heap.size w2.heap.size w2 wr ∧ Drew w g xo d code wr ∧ w2.heap.size + 1 ≤ wr.heap.size

theorem drew_belowB {w W w5 : World} {g B : Nat} {xo : Option Addr} {d : Nat} {code : List Int} (h0 : Cur w g xo d code) (h : Drew w g xo d code W) (hb : Below B W w5) (hB : w.heap.size ≤ B) : Drew w g xo d code w5 :=
  ⟨h.1.keepI h0.lt h0.code_lt (fun i hi => hb.block i (by omega)), ⟨hb.os.trans h.2.os, hb.tape.trans h.2.tape, hb.output.trans h.2.output, Nat.le_trans h.2.size hb.size, fun i hi hne => (hb.block i (by omega)).trans (h.2.block i hi hne)⟩⟩
theorem k_next {w w1 w2 wr w4 w5 : World} {g : Nat} {xo : Option Addr} {d : Nat} {code : List Int} {tot y4 : Int} {j n c gg cap : Nat} {ao : Option Addr} {cols : List Int} (hj : (j : Int) < tot) (hcj : cols.length = j) (hnj : n = j)
    (q0 : wr.cell? ⟨w2.heap.size, 0, none⟩ = some (.int .i64 2)) (q1 : wr.cell? ⟨w2.heap.size, 1, none⟩ = some (.string ⟨#[]⟩)) (q2 : wr.cell? ⟨w2.heap.size, 2, none⟩ = some (.int .i64 0)) (q3 : wr.cell? ⟨w2.heap.size, 3, none⟩ = some (.int .i64 0)) (q4 : wr.cell? ⟨w2.heap.size, 4, none⟩ = some (.int .i64 0)) (q5 : wr.cell? ⟨w2.heap.size, 5, none⟩ = some (.bool false)) (q6 : wr.cell? ⟨w2.heap.size, 6, none⟩ = some (.slice ao n c)) (hfz : ∀ o, wr.frozen? ⟨w2.heap.size, o, none⟩ = false)
    (hb4 : w4.heap[w2.heap.size]? = wr.heap[w2.heap.size]?) (how : Own w4 (w2.heap.size + 1) 3 .i64 ao c cols) (hag : AG w1.heap.size w2.heap.size w2 w4) (h0 : Cur w g xo d code) (hd : Drew w g xo d code w4) (hz : w2.heap.size + 1 ≤ w4.heap.size) (hww : w.heap.size ≤ w2.heap.size)
    (o5 : w5.ownsRow (w2.heap.size + 1) 3 1 (.slice (some ⟨gg, 0, none⟩) (n + 1) cap) (n + 1) (cols.map (Value.int .i64) ++ [.int .i64 y4])) (g5 : (w4.alloc (.cells #[.int .i64 y4] 3)).grownBy w5 (Value.ownBlock (.slice ao n c))) :
    (w5.cell? ⟨w2.heap.size, 6, none⟩ = some (.slice ao n c) ∧ w5.frozen? ⟨w2.heap.size, 6, none⟩ = false) ∧ KRel w w1 w2 g xo d code tot (w5.setCell ⟨w2.heap.size, 6, none⟩ (.slice (some ⟨gg, 0, none⟩) (n + 1) cap)) (.int .i64 (tot - j - 1)) := by
  have hrow : ∀ q, Value.ownBlock (.slice ao n c) = some q → w2.heap.size + 1 ≤ q := by
    intro q hq
    cases ao with
    | none => simp [Value.ownBlock] at hq
    | some x => simp [Value.ownBlock] at hq; have := (how.lt x rfl).1; omega
  have hbl : Below (w2.heap.size + 1) w4 w5 := (((Below.refl (w2.heap.size + 1) w4).alloc hz _)).grown g5 (by simp; omega) hrow
  have hnb : w5.heap[w2.heap.size]? = wr.heap[w2.heap.size]? := (hbl.block _ (by omega)).trans hb4
  have cc : ∀ o v, wr.cell? ⟨w2.heap.size, o, none⟩ = some v → w5.cell? ⟨w2.heap.size, o, none⟩ = some v := fun o v h => (World.cell?_of_block (a := ⟨w2.heap.size, o, none⟩) hnb).trans h
  have ff : ∀ o, w5.frozen? ⟨w2.heap.size, o, none⟩ = false := fun o => (World.frozen?_of_block (a := ⟨w2.heap.size, o, none⟩) hnb).trans (hfz o)
  refine ⟨⟨cc 6 _ q6, ff 6⟩, j + 1, some ⟨gg, 0, none⟩, cap, n + 1, cols ++ [y4], ?_, by omega, by simp; omega, by omega, ⟨?_, ?_, ?_, ?_, ?_, ?_, ?_⟩, ?_, ?_, ?_, ?_, ?_⟩
  · congr 1; omega
  · exact (World.cell?_setCell_other _ _ _ _ (by simp)).trans (cc 0 _ q0)
  · exact (World.cell?_setCell_other _ _ _ _ (by simp)).trans (cc 1 _ q1)
  · exact (World.cell?_setCell_other _ _ _ _ (by simp)).trans (cc 2 _ q2)
  · exact (World.cell?_setCell_other _ _ _ _ (by simp)).trans (cc 3 _ q3)
  · exact (World.cell?_setCell_other _ _ _ _ (by simp)).trans (cc 4 _ q4)
  · exact (World.cell?_setCell_other _ _ _ _ (by simp)).trans (cc 5 _ q5)
  · exact World.cell?_setCell_same _ _ _ (cc 6 _ q6)
  · intro o; rw [World.frozen?_setCell]; exact ff o
  · have hlen : (cols ++ [y4]).length = n + 1 := by simp; omega
    have : Own w5 (w2.heap.size + 1) 3 .i64 (some ⟨gg, 0, none⟩) cap (cols ++ [y4]) := by
      unfold Own
      rw [hlen, List.map_append]
      exact o5
    exact this.keep (fun a ha _ => Below.heap_setCell w5 _ _ a.block (by have := (this.lt a ha).1; simp; omega))
  · exact AG.set (fun i h1 h2 => (hbl.block i (by omega)).trans (hag i h1 h2)) (Nat.le_refl _)
  · exact drew_set h0 (drew_belowB h0 hd hbl (by omega)) hww
  · have := hbl.size; simp [World.setCell]; omega
theorem news_int (W : World) (y : Int) (H : Nat) (hH : W.heap.size = H) : ∀ j u, [Value.int .i64 y][j]? = some u → (W.alloc (.cells #[.int .i64 y] 3)).cell? ((⟨H, 0, none⟩ : Addr).add j) = some u := by
  subst hH
  intro j u hj
  match j, hj with
  | 0, hj =>
    simp at hj; subst hj
    rw [show (⟨W.heap.size, 0, none⟩ : Addr).add 0 = ⟨W.heap.size, 0, none⟩ from rfl, World.cell?_alloc_new]; rfl

set_option maxRecDepth 100000 in
set_option maxHeartbeats 8000000 in
theorem plan_step (k : Nat) (h7 : k + 2 ≤ 7) (deep : Int) (hdeep : 2 ≤ deep) (hdk : deep ≤ 7) (g : Nat) (xo : Option Addr) (d : Nat) (code : List Int) (hl : code.length ≤ 1048577)
    (IH1 : ∀ W, Cur W g xo d code → Calls Tryz.prog 74 #[.pointer (some ⟨g, 0, none⟩), .int .i64 (deep - 1)] W (PlanP W g xo d code (k + 1)))
    (IH2 : ∀ W, Cur W g xo d code → Calls Tryz.prog 74 #[.pointer (some ⟨g, 0, none⟩), .int .i64 (deep - 2)] W (PlanP W g xo d code k)) (w : World) (hc : Cur w g xo d code) :
    Calls Tryz.prog 74 #[.pointer (some ⟨g, 0, none⟩), .int .i64 deep] w (PlanP w g xo d code (k + 2)) := by
  have PK := Lib.hid (pick_kind g xo d code w hc hl)
  have hglt := hc.lt
  have HL := Lib.hid hl; have H1 := Lib.hid IH1; have H2 := Lib.hid IH2
  have hB1 := BV7 (k + 1) (by omega); have hB0 := BV7 k (by omega)
  have HBB := Lib.hid (show Bn (k + 2) = 3 + Bn (k + 1) + Bn k from rfl); have HVV := Lib.hid (show Vn (k + 2) = Vn (k + 1) + Vn k from rfl)
  have hc0 := hc
  clear hc hl IH1 IH2
  go_enter Tryz.func74, Tryz.ntmps74
  go_wp2_with fail
  refine PK.out.mono ?_
  rintro e w1 ⟨z, hz0, hz7, rfl, d1⟩
  have D1 := Lib.hid d1; clear d1
  have hg1 : g < w1.heap.size := D1.out.1.lt
  have hz1 := D1.out.2.size
  have H0 := Lib.hid hc0
  clear hc0
  have hz : z = 3 ∨ z = 7 ∨ z = 5 ∨ z = 6 ∨ z = 1 ∨ z = 0 ∨ z = 2 ∨ z = 4 := by omega
  rcases hz with rfl | rfl | rfl | rfl | rfl | rfl | rfl | rfl
  · go_wp2_with fail
    refine (H1.out _ D1.out.1).mono ?_
    rintro e w2 ⟨l1, v1, b1, c1, xs1, A1, C1, rfl, a1, a2, a3, a4, a5, p1, d2⟩
    have P1 := Lib.hid p1; have D2 := Lib.hid (D1.out.next d2); have A3 := Lib.hid a3
    have hz2 := d2.2.size
    clear p1 d2 a3
    go_wp2_with fail
    refine (H2.out _ D2.out.1).mono ?_
    rintro e w3 ⟨l2, v2, b2, c2, xs2, A2, C2, rfl, e1, e2, e3, e4, e5, p2, d3⟩
    have P2 := Lib.hid p2; have P1' := Lib.hid (P1.out.draw d3.2 hg1); have D3 := Lib.hid (D2.out.next d3); have E3 := Lib.hid e3
    have hz3 := d3.2.size
    have hg2 : g < w2.heap.size := by omega
    clear p2 d3 e3 P1
    go_wp2_with fail
    refine (below_d g xo d code v1 _ D3.out.1 HL.out a4 (by omega)).mono ?_
    rintro e w4 ⟨y1, y10, y11, rfl, d4⟩
    have P24 := Lib.hid (P2.out.draw d4.2 hg2); have P14 := Lib.hid (P1'.out.draw d4.2 hg1); have D4 := Lib.hid (D3.out.next d4)
    have hz4 := d4.2.size
    clear d4 P2 P1'
    go_wp2_with fail
    refine (below_d g xo d code v2 _ D4.out.1 HL.out e4 (by omega)).mono ?_
    rintro e w5 ⟨y2, y20, y21, rfl, d5⟩
    have P25 := Lib.hid (P24.out.draw d5.2 hg2); have P15 := Lib.hid (P14.out.draw d5.2 hg1); have D5 := Lib.hid (D4.out.next d5)
    have hz5 := d5.2.size
    clear d5 P24 P14
    have BW := Lib.hid (show ∀ o o', Below w5.heap.size w5 ((w5.alloc o).alloc o') from fun o o' => ((Below.refl _ w5).alloc (Nat.le_refl _) o).alloc (by simp) o')
    have NDR := Lib.hid (show ∀ o, RdN ((w5.alloc o).alloc (.cells (ndCells ⟨3, ⟨#[]⟩, y1, 0, y2, false, []⟩ none 0).toArray 39)) (some ⟨w5.heap.size + 1, 0, none⟩) [⟨3, ⟨#[]⟩, y1, 0, y2, false, []⟩] from fun o => rd_one_at _ _ (by simp) _ rfl (show (0 : Nat) ≤ 100 by omega))
    obtain ⟨J, hJ⟩ : ∃ J, [(⟨3, ⟨#[]⟩, y1, 0, y2, false, []⟩ : Nd)] ++ l1 ++ l2 = J := ⟨_, rfl⟩
    have JF := Lib.hid (show 1 ≤ J.length ∧ J.length ≤ Bn (k + 2) ∧ ∀ m ∈ J, m.cols.length ≤ 3 by
      rw [HBB.out, ← hJ]
      refine ⟨by simp, by simp; omega, fun m hm => ?_⟩
      rw [List.mem_append, List.mem_append] at hm
      rcases hm with (hm | hm) | hm
      · simp at hm; subst hm; simp
      · exact A3.out m hm
      · exact E3.out m hm)
    have HJ := Lib.hid hJ; clear hJ
    have VF := Lib.hid (show v1 + v2 ≤ Vn (k + 2) by rw [HVV.out]; omega)
    have S1 := Lib.hid (small_plan (n := k + 1) (by omega) a2 A3.out); have S2 := Lib.hid (small_plan (n := k) (by omega) e2 E3.out)
    go_wp2_with (go_at_call 111; refine (joined3_at _ _ (by simp) _ _ _ _ _ _ _ _ _ _ _ l1 l2 rfl rfl rfl (NDR.out _) (P15.out.rdN.below (BW.out _ _)) (P25.out.rdN.below (BW.out _ _)) (small_one rfl) S1.out S2.out J HJ.out).mono ?_; rintro e w6 ⟨b6, c6, xs6, A6, C6, rfl, p6, bb6⟩; have P6 := Lib.hid p6; have D6 := Lib.hid ((D5.out.below (BW.out _ _)).below bb6); clear p6 bb6)
    go_ret2
    exact ⟨J, v1 + v2, b6, c6, xs6, A6, C6, rfl, JF.out.1, JF.out.2.1, JF.out.2.2, by omega, VF.out, P6.out.base_le (by simp; omega), D6.out⟩
  · go_wp2_with fail
    refine (H1.out _ D1.out.1).mono ?_
    rintro e w2 ⟨l1, v1, b1, c1, xs1, A1, C1, rfl, a1, a2, a3, a4, a5, p1, d2⟩
    have P1 := Lib.hid p1; have D2 := Lib.hid (D1.out.next d2); have A3 := Lib.hid a3
    have hz2 := d2.2.size
    clear p1 d2 a3
    have S1 := Lib.hid (small_plan (n := k + 1) (by omega) a2 A3.out)
    obtain ⟨W2, hW2⟩ : ∃ W2, W2 = w2.alloc (.cells #[.int .i64 7, .string ⟨#[]⟩, .int .i64 0, .int .i64 0, .int .i64 0, .bool false, .slice none 0 0] 39) := ⟨_, rfl⟩
    have HZ2 := Lib.hid (show W2.heap.size = w2.heap.size + 1 by rw [hW2]; simp)
    have BK2 := Lib.hid (show W2.heap[w2.heap.size]? = some (.cells #[.int .i64 7, .string ⟨#[]⟩, .int .i64 0, .int .i64 0, .int .i64 0, .bool false, .slice none 0 0] 39 (0, 0)) by rw [hW2]; exact heap_alloc_new w2 _)
    have DW2 := Lib.hid (show Drew w g xo d code W2 by rw [hW2]; exact D2.out.below ((Below.refl _ w2).alloc (Nat.le_refl _) _))
    have AG2 := Lib.hid (show AG w1.heap.size w2.heap.size w2 W2 by rw [hW2]; exact AG.below (fun _ _ _ => rfl) ((Below.refl _ w2).alloc (Nat.le_refl _) _) (Nat.le_refl _))
    have hzW : w2.heap.size + 1 ≤ W2.heap.size := by rw [HZ2.out]; exact Nat.le_refl _
    obtain ⟨J, hJ⟩ : ∃ J, [(⟨7, ⟨#[]⟩, 0, 0, 0, false, []⟩ : Nd)] ++ l1 = J := ⟨_, rfl⟩
    have JF := Lib.hid (show 1 ≤ J.length ∧ J.length ≤ Bn (k + 2) ∧ ∀ m ∈ J, m.cols.length ≤ 3 by
      rw [HBB.out, ← hJ]
      refine ⟨by simp, by simp; omega, fun m hm => ?_⟩
      rw [List.mem_append] at hm
      rcases hm with hm | hm
      · simp at hm; subst hm; simp
      · exact A3.out m hm)
    have HJ := Lib.hid hJ; clear hJ
    have VF := Lib.hid (show v1 ≤ Vn (k + 2) by rw [HVV.out]; omega)
    have BW := Lib.hid (show ∀ o o', Below w2.heap.size w2 ((w2.alloc o).alloc o') from fun o o' => ((Below.refl _ w2).alloc (Nat.le_refl _) o).alloc (by simp) o')
    have NDR := Lib.hid (show ∀ o, RdN ((w2.alloc o).alloc (.cells (ndCells ⟨7, ⟨#[]⟩, 0, 0, 0, false, []⟩ none 0).toArray 39)) (some ⟨w2.heap.size + 1, 0, none⟩) [⟨7, ⟨#[]⟩, 0, 0, 0, false, []⟩] from fun o => rd_one_at _ _ (by simp) _ rfl (show (0 : Nat) ≤ 100 by omega))
    go_wp2_with (go_at_call 111; refine (joined2_at _ _ (by simp) _ _ _ _ _ _ _ _ l1 rfl rfl (NDR.out _) (P1.out.rdN.below (BW.out _ _)) (small_one rfl) S1.out J HJ.out).mono ?_; rintro e w6 ⟨b6, c6, xs6, A6, C6, rfl, p6, bb6⟩; have P6 := Lib.hid p6; have D6 := Lib.hid ((D2.out.below (BW.out _ _)).below bb6); clear p6 bb6)
    go_ret2
    exact ⟨J, v1, b6, c6, xs6, A6, C6, rfl, JF.out.1, JF.out.2.1, JF.out.2.2, by omega, VF.out, P6.out.base_le (by simp; omega), D6.out⟩
  · go_wp2_with fail
    refine (H1.out _ D1.out.1).mono ?_
    rintro e w2 ⟨l1, v1, b1, c1, xs1, A1, C1, rfl, a1, a2, a3, a4, a5, p1, d2⟩
    have P1 := Lib.hid p1; have D2 := Lib.hid (D1.out.next d2); have A3 := Lib.hid a3
    have hz2 := d2.2.size
    clear p1 d2 a3
    have S1 := Lib.hid (small_plan (n := k + 1) (by omega) a2 A3.out)
    obtain ⟨W2, hW2⟩ : ∃ W2, W2 = w2.alloc (.cells #[.int .i64 5, .string ⟨#[]⟩, .int .i64 0, .int .i64 0, .int .i64 0, .bool false, .slice none 0 0] 39) := ⟨_, rfl⟩
    have HZ2 := Lib.hid (show W2.heap.size = w2.heap.size + 1 by rw [hW2]; simp)
    have BK2 := Lib.hid (show W2.heap[w2.heap.size]? = some (.cells #[.int .i64 5, .string ⟨#[]⟩, .int .i64 0, .int .i64 0, .int .i64 0, .bool false, .slice none 0 0] 39 (0, 0)) by rw [hW2]; exact heap_alloc_new w2 _)
    have DW2 := Lib.hid (show Drew w g xo d code W2 by rw [hW2]; exact D2.out.below ((Below.refl _ w2).alloc (Nat.le_refl _) _))
    have AG2 := Lib.hid (show AG w1.heap.size w2.heap.size w2 W2 by rw [hW2]; exact AG.below (fun _ _ _ => rfl) ((Below.refl _ w2).alloc (Nat.le_refl _) _) (Nat.le_refl _))
    have hzW : w2.heap.size + 1 ≤ W2.heap.size := by rw [HZ2.out]; exact Nat.le_refl _
    go_wp2_with fail
    rw [← hW2]
    refine (below_d g xo d code v1 _ DW2.out.1 HL.out (by omega) (by omega)).mono ?_
    rintro e w3 ⟨y3, y3a, y3b, rfl, d3⟩
    have BK2' := Lib.hid (show w3.heap[w2.heap.size]? = some (.cells #[.int .i64 5, .string ⟨#[]⟩, .int .i64 0, .int .i64 0, .int .i64 0, .bool false, .slice none 0 0] 39 (0, 0)) from (d3.2.block _ (by omega) (by simp; omega)).trans BK2.out)
    have AG2' := Lib.hid (AG2.out.grown d3.2 hg1 (by omega)); have DD2 := Lib.hid (DW2.out.next d3)
    have hzd2 := d3.2.size
    clear d3
    have q20 := cell_of_row w3 w2.heap.size 0 _ _ _ BK2'.out
    have q21 := cell_of_row w3 w2.heap.size 1 _ _ _ BK2'.out
    have q22 := cell_of_row w3 w2.heap.size 2 _ _ _ BK2'.out
    have q23 := cell_of_row w3 w2.heap.size 3 _ _ _ BK2'.out
    have q24 := cell_of_row w3 w2.heap.size 4 _ _ _ BK2'.out
    have q25 := cell_of_row w3 w2.heap.size 5 _ _ _ BK2'.out
    have q26 := cell_of_row w3 w2.heap.size 6 _ _ _ BK2'.out
    have f2 := frozen_of_row w3 w2.heap.size 2 _ _ BK2'.out
    simp only [List.getElem?_toArray, List.getElem?_cons_zero, List.getElem?_cons_succ] at q20 q21 q22 q23 q24 q25 q26
    obtain ⟨J, hJ⟩ : ∃ J, [(⟨5, ⟨#[]⟩, y3, 0, 0, false, []⟩ : Nd)] ++ l1 = J := ⟨_, rfl⟩
    have JF := Lib.hid (show 1 ≤ J.length ∧ J.length ≤ Bn (k + 2) ∧ ∀ m ∈ J, m.cols.length ≤ 3 by
      rw [HBB.out, ← hJ]
      refine ⟨by simp, by simp; omega, fun m hm => ?_⟩
      rw [List.mem_append] at hm
      rcases hm with hm | hm
      · simp at hm; subst hm; simp
      · exact A3.out m hm)
    have HJ := Lib.hid hJ; clear hJ
    have VF := Lib.hid (show v1 ≤ Vn (k + 2) by rw [HVV.out]; omega)
    have SZ := Lib.hid (show (w3.setCell ⟨w2.heap.size, 2, none⟩ (.int .i64 y3)).heap.size = w3.heap.size by simp [World.setCell])
    have BW := Lib.hid (show ∀ o, Below (w3.setCell ⟨w2.heap.size, 2, none⟩ (.int .i64 y3)).heap.size (w3.setCell ⟨w2.heap.size, 2, none⟩ (.int .i64 y3)) ((w3.setCell ⟨w2.heap.size, 2, none⟩ (.int .i64 y3)).alloc o) from fun o => (Below.refl _ _).alloc (Nat.le_refl _) o)
    have PS := Lib.hid (P1.out.keep2 (AG2'.out.set (o := 2) (v := .int .i64 y3) (Nat.le_refl _)))
    have DS := Lib.hid (drew_set (o := 2) (v := .int .i64 y3) (nb := w2.heap.size) H0.out DD2.out (by omega))
    have NDR := Lib.hid (show RdN ((w3.setCell ⟨w2.heap.size, 2, none⟩ (.int .i64 y3)).alloc (.cells (ndCells ⟨5, ⟨#[]⟩, y3, 0, 0, false, []⟩ none 0).toArray 39)) (some ⟨w3.heap.size, 0, none⟩) [⟨5, ⟨#[]⟩, y3, 0, 0, false, []⟩] from rd_one_at _ _ SZ.out.symm _ rfl (show (0 : Nat) ≤ 100 by omega))
    go_wp2_with (go_at_call 111; refine (joined2_at _ _ (by simp [World.setCell]) _ _ _ _ _ _ _ _ l1 rfl rfl NDR.out (PS.out.rdN.below (BW.out _)) (small_one rfl) S1.out J HJ.out).mono ?_; rintro e w6 ⟨b6, c6, xs6, A6, C6, rfl, p6, bb6⟩; have P6 := Lib.hid p6; have D6 := Lib.hid ((DS.out.below (BW.out _)).below bb6); clear p6 bb6)
    go_ret2
    exact ⟨J, v1, b6, c6, xs6, A6, C6, rfl, JF.out.1, JF.out.2.1, JF.out.2.2, by omega, VF.out, P6.out.base_le (by simp [World.setCell]; omega), D6.out⟩
  · go_wp2_with fail
    refine (H1.out _ D1.out.1).mono ?_
    rintro e w2 ⟨l1, v1, b1, c1, xs1, A1, C1, rfl, a1, a2, a3, a4, a5, p1, d2⟩
    have P1 := Lib.hid p1; have D2 := Lib.hid (D1.out.next d2); have A3 := Lib.hid a3
    have hz2 := d2.2.size
    clear p1 d2 a3
    have S1 := Lib.hid (small_plan (n := k + 1) (by omega) a2 A3.out)
    obtain ⟨W2, hW2⟩ : ∃ W2, W2 = w2.alloc (.cells #[.int .i64 6, .string ⟨#[]⟩, .int .i64 0, .int .i64 0, .int .i64 0, .bool false, .slice none 0 0] 39) := ⟨_, rfl⟩
    have HZ2 := Lib.hid (show W2.heap.size = w2.heap.size + 1 by rw [hW2]; simp)
    have BK2 := Lib.hid (show W2.heap[w2.heap.size]? = some (.cells #[.int .i64 6, .string ⟨#[]⟩, .int .i64 0, .int .i64 0, .int .i64 0, .bool false, .slice none 0 0] 39 (0, 0)) by rw [hW2]; exact heap_alloc_new w2 _)
    have DW2 := Lib.hid (show Drew w g xo d code W2 by rw [hW2]; exact D2.out.below ((Below.refl _ w2).alloc (Nat.le_refl _) _))
    have AG2 := Lib.hid (show AG w1.heap.size w2.heap.size w2 W2 by rw [hW2]; exact AG.below (fun _ _ _ => rfl) ((Below.refl _ w2).alloc (Nat.le_refl _) _) (Nat.le_refl _))
    have hzW : w2.heap.size + 1 ≤ W2.heap.size := by rw [HZ2.out]; exact Nat.le_refl _
    go_wp2_with fail
    rw [← hW2]
    refine (below_d g xo d code 6 _ DW2.out.1 HL.out (by omega) (by omega)).mono ?_
    rintro e w3 ⟨y3, y3a, y3b, rfl, d3⟩
    have BK2' := Lib.hid (show w3.heap[w2.heap.size]? = some (.cells #[.int .i64 6, .string ⟨#[]⟩, .int .i64 0, .int .i64 0, .int .i64 0, .bool false, .slice none 0 0] 39 (0, 0)) from (d3.2.block _ (by omega) (by simp; omega)).trans BK2.out)
    have AG2' := Lib.hid (AG2.out.grown d3.2 hg1 (by omega)); have DD2 := Lib.hid (DW2.out.next d3)
    have hzd2 := d3.2.size
    clear d3
    have q20 := cell_of_row w3 w2.heap.size 0 _ _ _ BK2'.out
    have q21 := cell_of_row w3 w2.heap.size 1 _ _ _ BK2'.out
    have q22 := cell_of_row w3 w2.heap.size 2 _ _ _ BK2'.out
    have q23 := cell_of_row w3 w2.heap.size 3 _ _ _ BK2'.out
    have q24 := cell_of_row w3 w2.heap.size 4 _ _ _ BK2'.out
    have q25 := cell_of_row w3 w2.heap.size 5 _ _ _ BK2'.out
    have q26 := cell_of_row w3 w2.heap.size 6 _ _ _ BK2'.out
    have f2 := frozen_of_row w3 w2.heap.size 4 _ _ BK2'.out
    simp only [List.getElem?_toArray, List.getElem?_cons_zero, List.getElem?_cons_succ] at q20 q21 q22 q23 q24 q25 q26
    obtain ⟨J, hJ⟩ : ∃ J, [(⟨6, ⟨#[]⟩, 0, 0, y3, false, []⟩ : Nd)] ++ l1 = J := ⟨_, rfl⟩
    have JF := Lib.hid (show 1 ≤ J.length ∧ J.length ≤ Bn (k + 2) ∧ ∀ m ∈ J, m.cols.length ≤ 3 by
      rw [HBB.out, ← hJ]
      refine ⟨by simp, by simp; omega, fun m hm => ?_⟩
      rw [List.mem_append] at hm
      rcases hm with hm | hm
      · simp at hm; subst hm; simp
      · exact A3.out m hm)
    have HJ := Lib.hid hJ; clear hJ
    have VF := Lib.hid (show v1 ≤ Vn (k + 2) by rw [HVV.out]; omega)
    have SZ := Lib.hid (show (w3.setCell ⟨w2.heap.size, 4, none⟩ (.int .i64 y3)).heap.size = w3.heap.size by simp [World.setCell])
    have BW := Lib.hid (show ∀ o, Below (w3.setCell ⟨w2.heap.size, 4, none⟩ (.int .i64 y3)).heap.size (w3.setCell ⟨w2.heap.size, 4, none⟩ (.int .i64 y3)) ((w3.setCell ⟨w2.heap.size, 4, none⟩ (.int .i64 y3)).alloc o) from fun o => (Below.refl _ _).alloc (Nat.le_refl _) o)
    have PS := Lib.hid (P1.out.keep2 (AG2'.out.set (o := 4) (v := .int .i64 y3) (Nat.le_refl _)))
    have DS := Lib.hid (drew_set (o := 4) (v := .int .i64 y3) (nb := w2.heap.size) H0.out DD2.out (by omega))
    have NDR := Lib.hid (show RdN ((w3.setCell ⟨w2.heap.size, 4, none⟩ (.int .i64 y3)).alloc (.cells (ndCells ⟨6, ⟨#[]⟩, 0, 0, y3, false, []⟩ none 0).toArray 39)) (some ⟨w3.heap.size, 0, none⟩) [⟨6, ⟨#[]⟩, 0, 0, y3, false, []⟩] from rd_one_at _ _ SZ.out.symm _ rfl (show (0 : Nat) ≤ 100 by omega))
    go_wp2_with (go_at_call 111; refine (joined2_at _ _ (by simp [World.setCell]) _ _ _ _ _ _ _ _ l1 rfl rfl NDR.out (PS.out.rdN.below (BW.out _)) (small_one rfl) S1.out J HJ.out).mono ?_; rintro e w6 ⟨b6, c6, xs6, A6, C6, rfl, p6, bb6⟩; have P6 := Lib.hid p6; have D6 := Lib.hid ((DS.out.below (BW.out _)).below bb6); clear p6 bb6)
    go_ret2
    exact ⟨J, v1, b6, c6, xs6, A6, C6, rfl, JF.out.1, JF.out.2.1, JF.out.2.2, by omega, VF.out, P6.out.base_le (by simp [World.setCell]; omega), D6.out⟩
  · go_wp2_with fail
    refine (H1.out _ D1.out.1).mono ?_
    rintro e w2 ⟨l1, v1, b1, c1, xs1, A1, C1, rfl, a1, a2, a3, a4, a5, p1, d2⟩
    have P1 := Lib.hid p1; have D2 := Lib.hid (D1.out.next d2); have A3 := Lib.hid a3
    have hz2 := d2.2.size
    clear p1 d2 a3
    have S1 := Lib.hid (small_plan (n := k + 1) (by omega) a2 A3.out)
    obtain ⟨W2, hW2⟩ : ∃ W2, W2 = w2.alloc (.cells #[.int .i64 1, .string ⟨#[]⟩, .int .i64 0, .int .i64 0, .int .i64 0, .bool false, .slice none 0 0] 39) := ⟨_, rfl⟩
    have HZ2 := Lib.hid (show W2.heap.size = w2.heap.size + 1 by rw [hW2]; simp)
    have BK2 := Lib.hid (show W2.heap[w2.heap.size]? = some (.cells #[.int .i64 1, .string ⟨#[]⟩, .int .i64 0, .int .i64 0, .int .i64 0, .bool false, .slice none 0 0] 39 (0, 0)) by rw [hW2]; exact heap_alloc_new w2 _)
    have DW2 := Lib.hid (show Drew w g xo d code W2 by rw [hW2]; exact D2.out.below ((Below.refl _ w2).alloc (Nat.le_refl _) _))
    have AG2 := Lib.hid (show AG w1.heap.size w2.heap.size w2 W2 by rw [hW2]; exact AG.below (fun _ _ _ => rfl) ((Below.refl _ w2).alloc (Nat.le_refl _) _) (Nat.le_refl _))
    have hzW : w2.heap.size + 1 ≤ W2.heap.size := by rw [HZ2.out]; exact Nat.le_refl _
    go_wp2_with fail
    rw [← hW2]
    refine (below_d g xo d code v1 _ DW2.out.1 HL.out (by omega) (by omega)).mono ?_
    rintro e w3 ⟨y3, y3a, y3b, rfl, d3⟩
    have BK2' := Lib.hid (show w3.heap[w2.heap.size]? = some (.cells #[.int .i64 1, .string ⟨#[]⟩, .int .i64 0, .int .i64 0, .int .i64 0, .bool false, .slice none 0 0] 39 (0, 0)) from (d3.2.block _ (by omega) (by simp; omega)).trans BK2.out)
    have AG2' := Lib.hid (AG2.out.grown d3.2 hg1 (by omega)); have DD2 := Lib.hid (DW2.out.next d3)
    have hzd2 := d3.2.size
    clear d3
    have q20 := cell_of_row w3 w2.heap.size 0 _ _ _ BK2'.out
    have q21 := cell_of_row w3 w2.heap.size 1 _ _ _ BK2'.out
    have q22 := cell_of_row w3 w2.heap.size 2 _ _ _ BK2'.out
    have q23 := cell_of_row w3 w2.heap.size 3 _ _ _ BK2'.out
    have q24 := cell_of_row w3 w2.heap.size 4 _ _ _ BK2'.out
    have q25 := cell_of_row w3 w2.heap.size 5 _ _ _ BK2'.out
    have q26 := cell_of_row w3 w2.heap.size 6 _ _ _ BK2'.out
    have f2 := frozen_of_row w3 w2.heap.size 2 _ _ BK2'.out
    simp only [List.getElem?_toArray, List.getElem?_cons_zero, List.getElem?_cons_succ] at q20 q21 q22 q23 q24 q25 q26
    have FZ2 := Lib.hid (fun o => frozen_of_row w3 w2.heap.size o _ _ BK2'.out)
    have DS3 := Lib.hid (drew_set (o := 2) (v := .int .i64 y3) (nb := w2.heap.size) H0.out DD2.out (by omega))
    have AS3 := Lib.hid (AG2'.out.set (o := 2) (v := .int .i64 y3) (Nat.le_refl _))
    have r30 := (World.cell?_setCell_other w3 ⟨w2.heap.size, 2, none⟩ ⟨w2.heap.size, 0, none⟩ (.int .i64 y3) (by simp)).trans q20
    have r31 := (World.cell?_setCell_other w3 ⟨w2.heap.size, 2, none⟩ ⟨w2.heap.size, 1, none⟩ (.int .i64 y3) (by simp)).trans q21
    have r32 : (w3.setCell ⟨w2.heap.size, 2, none⟩ (.int .i64 y3)).cell? ⟨w2.heap.size, 2, none⟩ = some (.int .i64 y3) := World.cell?_setCell_same _ _ _ q22
    have r33 := (World.cell?_setCell_other w3 ⟨w2.heap.size, 2, none⟩ ⟨w2.heap.size, 3, none⟩ (.int .i64 y3) (by simp)).trans q23
    have r34 := (World.cell?_setCell_other w3 ⟨w2.heap.size, 2, none⟩ ⟨w2.heap.size, 4, none⟩ (.int .i64 y3) (by simp)).trans q24
    have r35 := (World.cell?_setCell_other w3 ⟨w2.heap.size, 2, none⟩ ⟨w2.heap.size, 5, none⟩ (.int .i64 y3) (by simp)).trans q25
    have r36 := (World.cell?_setCell_other w3 ⟨w2.heap.size, 2, none⟩ ⟨w2.heap.size, 6, none⟩ (.int .i64 y3) (by simp)).trans q26
    have FZ3 := Lib.hid (show w3.frozen? ⟨w2.heap.size, 3, none⟩ = false from FZ2.out 3)
    go_wp2_with fail
    refine (below_d g xo d code 4 _ DS3.out.1 HL.out (by omega) (by omega)).mono ?_
    rintro e w4 ⟨y4, y4a, y4b, rfl, d3⟩
    have HB3 := Lib.hid (show w4.heap[w2.heap.size]? = (w3.setCell ⟨w2.heap.size, 2, none⟩ (.int .i64 y3)).heap[w2.heap.size]? from d3.2.block _ (by simp [World.setCell]; omega) (by simp; omega))
    have hzd3 : w3.heap.size ≤ w4.heap.size := by have := d3.2.size; simpa [World.setCell] using this
    have AG3' := Lib.hid (AS3.out.grown d3.2 hg1 (by simp [World.setCell]; omega)); have DD3 := Lib.hid (DS3.out.next d3)
    clear d3
    have q30 := (World.cell?_of_block (a := ⟨w2.heap.size, 0, none⟩) HB3.out).trans r30
    have q31 := (World.cell?_of_block (a := ⟨w2.heap.size, 1, none⟩) HB3.out).trans r31
    have q32 := (World.cell?_of_block (a := ⟨w2.heap.size, 2, none⟩) HB3.out).trans r32
    have q33 := (World.cell?_of_block (a := ⟨w2.heap.size, 3, none⟩) HB3.out).trans r33
    have q34 := (World.cell?_of_block (a := ⟨w2.heap.size, 4, none⟩) HB3.out).trans r34
    have q35 := (World.cell?_of_block (a := ⟨w2.heap.size, 5, none⟩) HB3.out).trans r35
    have q36 := (World.cell?_of_block (a := ⟨w2.heap.size, 6, none⟩) HB3.out).trans r36
    have FN3 := Lib.hid (fun o => (World.frozen?_of_block (a := ⟨w2.heap.size, o, none⟩) HB3.out).trans ((World.frozen?_setCell _ _ _ _).trans (FZ2.out o)))
    clear FZ3
    have FZ3 := FN3
    clear q20 q21 q22 q23 q24 q25 q26 r30 r31 r32 r33 r34 r35 r36
    have f43 := FZ3.out 3
    by_cases h3 : y4 = 3
    · subst h3
      obtain ⟨J, hJ⟩ : ∃ J, [(⟨1, ⟨#[]⟩, y3, 3, 0, false, []⟩ : Nd)] ++ l1 = J := ⟨_, rfl⟩
      have JF := Lib.hid (show 1 ≤ J.length ∧ J.length ≤ Bn (k + 2) ∧ ∀ m ∈ J, m.cols.length ≤ 3 by
        rw [HBB.out, ← hJ]
        refine ⟨by simp, by simp; omega, fun m hm => ?_⟩
        rw [List.mem_append] at hm
        rcases hm with hm | hm
        · simp at hm; subst hm; simp
        · exact A3.out m hm)
      have HJ := Lib.hid hJ; clear hJ
      have VF := Lib.hid (show v1 ≤ Vn (k + 2) by rw [HVV.out]; omega)
      have SZ := Lib.hid (show (w4.setCell ⟨w2.heap.size, 3, none⟩ (.int .i64 3)).heap.size = w4.heap.size by simp [World.setCell])
      have BW := Lib.hid (show ∀ o, Below (w4.setCell ⟨w2.heap.size, 3, none⟩ (.int .i64 3)).heap.size (w4.setCell ⟨w2.heap.size, 3, none⟩ (.int .i64 3)) ((w4.setCell ⟨w2.heap.size, 3, none⟩ (.int .i64 3)).alloc o) from fun o => (Below.refl _ _).alloc (Nat.le_refl _) o)
      have PS := Lib.hid (P1.out.keep2 (AG3'.out.set (o := 3) (v := .int .i64 3) (Nat.le_refl _)))
      have DS := Lib.hid (drew_set (o := 3) (v := .int .i64 3) (nb := w2.heap.size) H0.out DD3.out (by omega))
      have NDR := Lib.hid (show RdN ((w4.setCell ⟨w2.heap.size, 3, none⟩ (.int .i64 3)).alloc (.cells (ndCells ⟨1, ⟨#[]⟩, y3, 3, 0, false, []⟩ none 0).toArray 39)) (some ⟨w4.heap.size, 0, none⟩) [⟨1, ⟨#[]⟩, y3, 3, 0, false, []⟩] from rd_one_at _ _ SZ.out.symm _ rfl (show (0 : Nat) ≤ 100 by omega))
      go_wp2_with (go_at_call 111; refine (joined2_at _ _ (by simp [World.setCell]) _ _ _ _ _ _ _ _ l1 rfl rfl NDR.out (PS.out.rdN.below (BW.out _)) (small_one rfl) S1.out J HJ.out).mono ?_; rintro e w6 ⟨b6, c6, xs6, A6, C6, rfl, p6, bb6⟩; have P6 := Lib.hid p6; have D6 := Lib.hid ((DS.out.below (BW.out _)).below bb6); clear p6 bb6)
      go_ret2
      exact ⟨J, v1, b6, c6, xs6, A6, C6, rfl, JF.out.1, JF.out.2.1, JF.out.2.2, by omega, VF.out, P6.out.base_le (by simp [World.setCell]; omega), D6.out⟩
    · have h3' : (y4 != 3) = true := by simp [h3]
      clear h3
      have DS4 := Lib.hid (drew_set (o := 3) (v := .int .i64 y4) (nb := w2.heap.size) H0.out DD3.out (by omega))
      have AS4 := Lib.hid (AG3'.out.set (o := 3) (v := .int .i64 y4) (Nat.le_refl _))
      have r40 := (World.cell?_setCell_other w4 ⟨w2.heap.size, 3, none⟩ ⟨w2.heap.size, 0, none⟩ (.int .i64 y4) (by simp)).trans q30
      have r41 := (World.cell?_setCell_other w4 ⟨w2.heap.size, 3, none⟩ ⟨w2.heap.size, 1, none⟩ (.int .i64 y4) (by simp)).trans q31
      have r42 := (World.cell?_setCell_other w4 ⟨w2.heap.size, 3, none⟩ ⟨w2.heap.size, 2, none⟩ (.int .i64 y4) (by simp)).trans q32
      have r43 : (w4.setCell ⟨w2.heap.size, 3, none⟩ (.int .i64 y4)).cell? ⟨w2.heap.size, 3, none⟩ = some (.int .i64 y4) := World.cell?_setCell_same _ _ _ q33
      have r44 := (World.cell?_setCell_other w4 ⟨w2.heap.size, 3, none⟩ ⟨w2.heap.size, 4, none⟩ (.int .i64 y4) (by simp)).trans q34
      have r45 := (World.cell?_setCell_other w4 ⟨w2.heap.size, 3, none⟩ ⟨w2.heap.size, 5, none⟩ (.int .i64 y4) (by simp)).trans q35
      have r46 := (World.cell?_setCell_other w4 ⟨w2.heap.size, 3, none⟩ ⟨w2.heap.size, 6, none⟩ (.int .i64 y4) (by simp)).trans q36
      have FZ4 := Lib.hid (show w4.frozen? ⟨w2.heap.size, 4, none⟩ = false from FZ3.out 4)
      go_wp2_with fail
      refine (below_d g xo d code 6 _ DS4.out.1 HL.out (by omega) (by omega)).mono ?_
      rintro e w5 ⟨y5, y5a, y5b, rfl, d4⟩
      have HB4 := Lib.hid (show w5.heap[w2.heap.size]? = (w4.setCell ⟨w2.heap.size, 3, none⟩ (.int .i64 y4)).heap[w2.heap.size]? from d4.2.block _ (by simp [World.setCell]; omega) (by simp; omega))
      have hzd4 : w4.heap.size ≤ w5.heap.size := by have := d4.2.size; simpa [World.setCell] using this
      have AG4' := Lib.hid (AS4.out.grown d4.2 hg1 (by simp [World.setCell]; omega)); have DD4 := Lib.hid (DS4.out.next d4)
      clear d4
      have q40 := (World.cell?_of_block (a := ⟨w2.heap.size, 0, none⟩) HB4.out).trans r40
      have q41 := (World.cell?_of_block (a := ⟨w2.heap.size, 1, none⟩) HB4.out).trans r41
      have q42 := (World.cell?_of_block (a := ⟨w2.heap.size, 2, none⟩) HB4.out).trans r42
      have q43 := (World.cell?_of_block (a := ⟨w2.heap.size, 3, none⟩) HB4.out).trans r43
      have q44 := (World.cell?_of_block (a := ⟨w2.heap.size, 4, none⟩) HB4.out).trans r44
      have q45 := (World.cell?_of_block (a := ⟨w2.heap.size, 5, none⟩) HB4.out).trans r45
      have q46 := (World.cell?_of_block (a := ⟨w2.heap.size, 6, none⟩) HB4.out).trans r46
      have FN4 := Lib.hid (fun o => (World.frozen?_of_block (a := ⟨w2.heap.size, o, none⟩) HB4.out).trans ((World.frozen?_setCell _ _ _ _).trans (FZ3.out o)))
      clear FZ4
      have FZ4 := FN4
      clear q30 q31 q32 q33 q34 q35 q36 r40 r41 r42 r43 r44 r45 r46
      have f54 := FZ4.out 4
      obtain ⟨J, hJ⟩ : ∃ J, [(⟨1, ⟨#[]⟩, y3, y4, y5 - 1, false, []⟩ : Nd)] ++ l1 = J := ⟨_, rfl⟩
      have JF := Lib.hid (show 1 ≤ J.length ∧ J.length ≤ Bn (k + 2) ∧ ∀ m ∈ J, m.cols.length ≤ 3 by
        rw [HBB.out, ← hJ]
        refine ⟨by simp, by simp; omega, fun m hm => ?_⟩
        rw [List.mem_append] at hm
        rcases hm with hm | hm
        · simp at hm; subst hm; simp
        · exact A3.out m hm)
      have HJ := Lib.hid hJ; clear hJ
      have VF := Lib.hid (show v1 ≤ Vn (k + 2) by rw [HVV.out]; omega)
      have SZ := Lib.hid (show (w5.setCell ⟨w2.heap.size, 4, none⟩ (.int .i64 (y5 - 1))).heap.size = w5.heap.size by simp [World.setCell])
      have BW := Lib.hid (show ∀ o, Below (w5.setCell ⟨w2.heap.size, 4, none⟩ (.int .i64 (y5 - 1))).heap.size (w5.setCell ⟨w2.heap.size, 4, none⟩ (.int .i64 (y5 - 1))) ((w5.setCell ⟨w2.heap.size, 4, none⟩ (.int .i64 (y5 - 1))).alloc o) from fun o => (Below.refl _ _).alloc (Nat.le_refl _) o)
      have PS := Lib.hid (P1.out.keep2 (AG4'.out.set (o := 4) (v := .int .i64 (y5 - 1)) (Nat.le_refl _)))
      have DS := Lib.hid (drew_set (o := 4) (v := .int .i64 (y5 - 1)) (nb := w2.heap.size) H0.out DD4.out (by omega))
      have NDR := Lib.hid (show RdN ((w5.setCell ⟨w2.heap.size, 4, none⟩ (.int .i64 (y5 - 1))).alloc (.cells (ndCells ⟨1, ⟨#[]⟩, y3, y4, y5 - 1, false, []⟩ none 0).toArray 39)) (some ⟨w5.heap.size, 0, none⟩) [⟨1, ⟨#[]⟩, y3, y4, y5 - 1, false, []⟩] from rd_one_at _ _ SZ.out.symm _ rfl (show (0 : Nat) ≤ 100 by omega))
      go_wp2_with (go_at_call 111; refine (joined2_at _ _ (by simp [World.setCell]) _ _ _ _ _ _ _ _ l1 rfl rfl NDR.out (PS.out.rdN.below (BW.out _)) (small_one rfl) S1.out J HJ.out).mono ?_; rintro e w6 ⟨b6, c6, xs6, A6, C6, rfl, p6, bb6⟩; have P6 := Lib.hid p6; have D6 := Lib.hid ((DS.out.below (BW.out _)).below bb6); clear p6 bb6)
      go_ret2
      exact ⟨J, v1, b6, c6, xs6, A6, C6, rfl, JF.out.1, JF.out.2.1, JF.out.2.2, by omega, VF.out, P6.out.base_le (by simp [World.setCell]; omega), D6.out⟩
  · go_wp2_with fail
    refine (below_d g xo d code 3 _ D1.out.1 HL.out (by omega) (by omega)).mono ?_
    rintro e w2 ⟨y, hy0, hy2, rfl, d2⟩
    have D2 := Lib.hid (D1.out.next d2); clear d2
    have hy : y = 0 ∨ y = 1 ∨ y = 2 := by omega
    rcases hy with rfl | rfl | rfl
    · go_wp2_with fail
      go_region
      go_wp2_with fail
      go_ret2
      exact scan_end (W := ((w2.alloc (.cells #[.string ⟨#[116, 49]⟩, .string ⟨#[116, 50]⟩, .string ⟨#[116, 51]⟩] 9)).alloc (.cells #[.int .i64 2, .int .i64 3, .int .i64 1] 3)).drew) D2.out ((((Below.refl _ w2).alloc (Nat.le_refl _) _).alloc (by simp) _).drew) ⟨0, ⟨#[116, 49]⟩, 0, 0, 0, false, []⟩ rfl (show (2 : Nat) ≤ 100 by omega) 2 (by omega) (by omega) _ (w2.heap.size + 1 + 1) (by simp) rfl
    · go_wp2_with fail
      go_region
      go_wp2_with fail
      go_ret2
      exact scan_end (W := ((w2.alloc (.cells #[.string ⟨#[116, 49]⟩, .string ⟨#[116, 50]⟩, .string ⟨#[116, 51]⟩] 9)).alloc (.cells #[.int .i64 2, .int .i64 3, .int .i64 1] 3)).drew) D2.out ((((Below.refl _ w2).alloc (Nat.le_refl _) _).alloc (by simp) _).drew) ⟨0, ⟨#[116, 50]⟩, 0, 0, 0, false, []⟩ rfl (show (2 : Nat) ≤ 100 by omega) 3 (by omega) (by omega) _ (w2.heap.size + 1 + 1) (by simp) rfl
    · go_wp2_with fail
      go_region
      go_wp2_with fail
      go_ret2
      exact scan_end (W := ((w2.alloc (.cells #[.string ⟨#[116, 49]⟩, .string ⟨#[116, 50]⟩, .string ⟨#[116, 51]⟩] 9)).alloc (.cells #[.int .i64 2, .int .i64 3, .int .i64 1] 3)).drew) D2.out ((((Below.refl _ w2).alloc (Nat.le_refl _) _).alloc (by simp) _).drew) ⟨0, ⟨#[116, 51]⟩, 0, 0, 0, false, []⟩ rfl (show (2 : Nat) ≤ 100 by omega) 1 (by omega) (by omega) _ (w2.heap.size + 1 + 1) (by simp) rfl
  · go_wp2_with fail
    refine (H1.out _ D1.out.1).mono ?_
    rintro e w2 ⟨l1, v1, b1, c1, xs1, A1, C1, rfl, a1, a2, a3, a4, a5, p1, d2⟩
    have P1 := Lib.hid p1; have D2 := Lib.hid (D1.out.next d2); have A3 := Lib.hid a3
    have hz2 := d2.2.size
    clear p1 d2 a3
    have S1 := Lib.hid (small_plan (n := k + 1) (by omega) a2 A3.out)
    obtain ⟨W2, hW2⟩ : ∃ W2, W2 = w2.alloc (.cells #[.int .i64 2, .string ⟨#[]⟩, .int .i64 0, .int .i64 0, .int .i64 0, .bool false, .slice none 0 0] 39) := ⟨_, rfl⟩
    have HZ2 := Lib.hid (show W2.heap.size = w2.heap.size + 1 by rw [hW2]; simp)
    have BK2 := Lib.hid (show W2.heap[w2.heap.size]? = some (.cells #[.int .i64 2, .string ⟨#[]⟩, .int .i64 0, .int .i64 0, .int .i64 0, .bool false, .slice none 0 0] 39 (0, 0)) by rw [hW2]; exact heap_alloc_new w2 _)
    have DW2 := Lib.hid (show Drew w g xo d code W2 by rw [hW2]; exact D2.out.below ((Below.refl _ w2).alloc (Nat.le_refl _) _))
    have AG2 := Lib.hid (show AG w1.heap.size w2.heap.size w2 W2 by rw [hW2]; exact AG.below (fun _ _ _ => rfl) ((Below.refl _ w2).alloc (Nat.le_refl _) _) (Nat.le_refl _))
    have hzW : w2.heap.size + 1 ≤ W2.heap.size := by rw [HZ2.out]; exact Nat.le_refl _
    go_wp2_with fail
    rw [← hW2]
    refine (below_d g xo d code 3 _ DW2.out.1 HL.out (by omega) (by omega)).mono ?_
    rintro e w3 ⟨y3, y3a, y3b, rfl, d3⟩
    have BK2' := Lib.hid (show w3.heap[w2.heap.size]? = some (.cells #[.int .i64 2, .string ⟨#[]⟩, .int .i64 0, .int .i64 0, .int .i64 0, .bool false, .slice none 0 0] 39 (0, 0)) from (d3.2.block _ (by omega) (by simp; omega)).trans BK2.out)
    have AG2' := Lib.hid (AG2.out.grown d3.2 hg1 (by omega)); have DD2 := Lib.hid (DW2.out.next d3)
    have hzd2 := d3.2.size
    clear d3
    have hzd := hzd2
    have K0 := Lib.hid (show KRel w w1 w2 g xo d code (1 + y3) w3 (.int .i64 (1 + y3)) from ⟨0, none, 0, 0, [], by simp, by omega, rfl, rfl, ⟨cell_of_row w3 w2.heap.size 0 _ _ _ BK2'.out, cell_of_row w3 w2.heap.size 1 _ _ _ BK2'.out, cell_of_row w3 w2.heap.size 2 _ _ _ BK2'.out, cell_of_row w3 w2.heap.size 3 _ _ _ BK2'.out, cell_of_row w3 w2.heap.size 4 _ _ _ BK2'.out, cell_of_row w3 w2.heap.size 5 _ _ _ BK2'.out, cell_of_row w3 w2.heap.size 6 _ _ _ BK2'.out⟩, fun o => frozen_of_row w3 w2.heap.size o _ _ BK2'.out, Own.none_, AG2'.out, DD2.out, by omega⟩)
    go_wp2_with fail
    go_loopw [22] (fun kk wr => KRel w w1 w2 g xo d code (1 + y3) wr kk) (fun kk _ => (intOf kk).toNat)
    case atStart => exact K0.out
    case round =>
      clear K0
      obtain ⟨j, ao, c, n, cols, rfl, hj, hcj, hnj, ⟨q0, q1, q2, q3, q4, q5, q6⟩, hfz, hown, hag, hdr, hzr⟩ := hrel
      have HCJ := Lib.hid hcj; have HNJ := Lib.hid hnj; have HFZ := Lib.hid hfz; have HOW := Lib.hid hown; have HAG := Lib.hid hag; have HDR := Lib.hid hdr
      clear hcj hnj hfz hown hag hdr
      have hgr : g < wr.heap.size := HDR.out.1.lt
      by_cases hpos : (j : Int) < 1 + y3
      · have hpos' : (0 : Int) < 1 + y3 - (j : Int) := by omega
        obtain ⟨i0, hi0, hz0, hz1', hz2'⟩ := info_parts Tryz.infoInt
        have I0 := Lib.hid hi0; have Z0 := Lib.hid hz0; have Z1 := Lib.hid hz1'; have Z2 := Lib.hid hz2'
        clear hi0 hz0 hz1' hz2'
        have CD := Lib.hid (show Drew w g xo d code wr.drew from HDR.out.below (Below.refl _ wr).drew)
        have f6 := HFZ.out 6
        have KN := Lib.hid (fun (w4 w5 : World) (y4 : Int) (gg cap : Nat) hb4 how hag hd hz o5 g5 => k_next (w := w) (w1 := w1) (w2 := w2) (w4 := w4) (w5 := w5) (y4 := y4) (gg := gg) (cap := cap) hpos HCJ.out HNJ.out q0 q1 q2 q3 q4 q5 q6 HFZ.out hb4 how hag H0.out hd hz (by omega) o5 g5)
        clear q0 q1 q2 q3 q4 q5
        have hn3 : n ≤ 3 := by have := HNJ.out; omega
        go_wp2_with fail
        go_region_law (first | (refine step_append_lies _ rfl (.tmp 151) (.tmp 155) 34 rfl (w2.heap.size + 1) 3 i0 _ 1 8 Tryz.underlying34 I0.out Z0.out Z1.out Z2.out rfl (by omega) (.slice ao n c) n (cols.map (Value.int .i64)) (by simp [Act.eval, Act.put]) OR4.out ⟨w4.heap.size, 0, none⟩ 1 1 [.int .i64 y4] (by simp [Act.eval, Act.put]) rfl (news_int _ _ _ rfl) (by intro u hu; simp at hu; subst hu; rfl) (by omega) (by unfold maxLen; omega) (by omega) (by simp; omega) _ rfl ?_; intro gg cap w5 o5 g5 _ _; have KK := KN.out w4 w5 y4 gg cap HB4.out OW4.out AG4.out DD4.out hz4 o5 g5; have R := Lib.hid KK.2; have s6 := KK.1.1; have sf := KK.1.2; clear o5 g5 KK) | (go_simp; go_at_call 68; refine (below_d g xo d code v1 _ CD.out.1 HL.out (by omega) (by omega)).mono ?_; rintro e w4 ⟨y4, y4a, y4b, rfl, d4⟩; have hb4 : w4.heap[w2.heap.size]? = wr.heap[w2.heap.size]? := d4.2.block _ (show w2.heap.size < wr.heap.size by omega) (by simp; omega); have p6 := (World.cell?_of_block (a := ⟨w2.heap.size, 6, none⟩) hb4).trans q6; have HB4 := Lib.hid hb4; have OW4 := Lib.hid ((HOW.out.below (Below.refl _ wr).drew).grown d4.2 (fun x hx => by have := (HOW.out.lt x hx).1; simp; omega)); have OR4 := Lib.hid (show (w4.alloc (.cells #[.int .i64 y4] 3)).ownsRow (w2.heap.size + 1) 3 1 (.slice ao n c) n (cols.map (Value.int .i64)) by have h := OW4.out.below ((Below.refl _ w4).alloc (Nat.le_refl _) (.cells #[.int .i64 y4] 3)); unfold Own at h; rw [HCJ.out, ← HNJ.out] at h; exact h); have AG4 := Lib.hid (AG.grown (w1 := wr.drew) HAG.out d4.2 hg1 (show w2.heap.size ≤ wr.heap.size by omega)); have DD4 := Lib.hid (CD.out.next d4); have hz4 : w2.heap.size + 1 ≤ w4.heap.size := Nat.le_trans hzr d4.2.size; have p6' := (((Below.refl w4.heap.size w4).alloc (Nat.le_refl _) (.cells #[.int .i64 y4] 3)).cell (p := ⟨w2.heap.size, 6, none⟩) (show w2.heap.size < w4.heap.size by omega)).trans p6; clear d4 hb4))
        all_goals
          go_wp2_with fail
          go_roundw
          case rel => exact R.out
          case measure => simp [intOf]; omega
      · obtain hje : (j : Int) = 1 + y3 := by omega
        have hle : 1 + y3 - (j : Int) ≤ 0 := by omega
        obtain rfl : n = cols.length := by have := HNJ.out; have := HCJ.out; omega
        have hcl : (cols.length : Int) ≤ 3 := by have := HCJ.out; omega
        have hcl1 : (1 : Int) ≤ cols.length := by have := HCJ.out; omega
        obtain ⟨J, hJ⟩ : ∃ J, [(⟨2, ⟨#[]⟩, 0, 0, 0, false, cols⟩ : Nd)] ++ l1 = J := ⟨_, rfl⟩
        have JF := Lib.hid (show 1 ≤ J.length ∧ J.length ≤ Bn (k + 2) ∧ ∀ m ∈ J, m.cols.length ≤ 3 by
          rw [HBB.out, ← hJ]
          refine ⟨by simp, by simp; omega, fun m hm => ?_⟩
          rw [List.mem_append] at hm
          rcases hm with hm | hm
          · simp at hm; subst hm; simp only; omega
          · exact A3.out m hm)
        have HJ := Lib.hid hJ; clear hJ
        have VF := Lib.hid (show (cols.length : Int) ≤ Vn (k + 2) by rw [HVV.out]; have := Vn_ge k; omega)
        have SN := Lib.hid (show Small [(⟨2, ⟨#[]⟩, 0, 0, 0, false, cols⟩ : Nd)] from ⟨by simp, fun m hm => by simp at hm; subst hm; simp only; omega⟩)
        have BW := Lib.hid (show ∀ o, Below wr.heap.size wr (wr.alloc o) from fun o => (Below.refl _ _).alloc (Nat.le_refl _) o)
        have PS := Lib.hid (P1.out.keep2 HAG.out)
        have NDR := Lib.hid (rd_one wr ⟨2, ⟨#[]⟩, 0, 0, 0, false, cols⟩ ao c HOW.out.rd HOW.out.cap_ge HOW.out.cap_le (by unfold maxLen; exact Nat.zero_le _))
        go_wp2_with (go_at_call 111; refine (joined2_at _ _ (by simp) _ _ _ _ _ _ _ _ l1 rfl rfl NDR.out (PS.out.rdN.below (BW.out _)) SN.out S1.out J HJ.out).mono ?_; rintro e w6 ⟨b6, c6, xs6, A6, C6, rfl, p6, bb6⟩; have P6 := Lib.hid p6; have D6 := Lib.hid ((HDR.out.below (BW.out _)).below bb6); clear p6 bb6)
        go_ret2
        exact ⟨J, (cols.length : Int), b6, c6, xs6, A6, C6, rfl, JF.out.1, JF.out.2.1, JF.out.2.2, hcl1, VF.out, P6.out.base_le (by simp; omega), D6.out⟩
  · go_wp2_with fail
    refine (H1.out _ D1.out.1).mono ?_
    rintro e w2 ⟨l1, v1, b1, c1, xs1, A1, C1, rfl, a1, a2, a3, a4, a5, p1, d2⟩
    have P1 := Lib.hid p1; have D2 := Lib.hid (D1.out.next d2); have A3 := Lib.hid a3
    have hz2 := d2.2.size
    clear p1 d2 a3
    go_wp2_with fail
    refine (H2.out _ D2.out.1).mono ?_
    rintro e w3 ⟨l2, v2, b2, c2, xs2, A2, C2, rfl, e1, e2, e3, e4, e5, p2, d3⟩
    have P2 := Lib.hid p2; have P1' := Lib.hid (P1.out.draw d3.2 hg1); have D3 := Lib.hid (D2.out.next d3); have E3 := Lib.hid e3
    have hz3 := d3.2.size
    have hg2 : g < w2.heap.size := by omega
    clear p2 d3 e3 P1
    have S1 := Lib.hid (small_plan (n := k + 1) (by omega) a2 A3.out); have S2 := Lib.hid (small_plan (n := k) (by omega) e2 E3.out)
    by_cases hv : v2 = v1
    · subst hv
      have hvv : (v2 != v2) = false := by simp
      have BW := Lib.hid (show ∀ o, Below w3.heap.size w3 (w3.alloc o) from fun o => (Below.refl _ w3).alloc (Nat.le_refl _) o)
      have NDR := Lib.hid (show RdN (w3.alloc (.cells (ndCells ⟨4, ⟨#[]⟩, 0, 0, 0, false, []⟩ none 0).toArray 39)) (some ⟨w3.heap.size, 0, none⟩) [⟨4, ⟨#[]⟩, 0, 0, 0, false, []⟩] from rd_one_at _ _ rfl _ rfl (show (0 : Nat) ≤ 100 by omega))
      obtain ⟨J, hJ⟩ : ∃ J, [(⟨4, ⟨#[]⟩, 0, 0, 0, false, []⟩ : Nd)] ++ l1 ++ l2 = J := ⟨_, rfl⟩
      have JF := Lib.hid (show 1 ≤ J.length ∧ J.length ≤ Bn (k + 2) ∧ ∀ m ∈ J, m.cols.length ≤ 3 by
        rw [HBB.out, ← hJ]
        refine ⟨by simp, by simp; omega, fun m hm => ?_⟩
        rw [List.mem_append, List.mem_append] at hm
        rcases hm with (hm | hm) | hm
        · simp at hm; subst hm; simp
        · exact A3.out m hm
        · exact E3.out m hm)
      have HJ := Lib.hid hJ; clear hJ
      have VF := Lib.hid (show v2 ≤ Vn (k + 2) by rw [HVV.out]; omega)
      go_wp2_with (go_at_call 111; refine (joined3_at _ _ (by simp) _ _ _ _ _ _ _ _ _ _ _ l1 l2 rfl rfl rfl NDR.out (P1'.out.rdN.below (BW.out _)) (P2.out.rdN.below (BW.out _)) (small_one rfl) S1.out S2.out J HJ.out).mono ?_; rintro e w6 ⟨b6, c6, xs6, A6, C6, rfl, p6, bb6⟩; have P6 := Lib.hid p6; have D6 := Lib.hid ((D3.out.below (BW.out _)).below bb6); clear p6 bb6)
      go_ret2
      exact ⟨J, v2, b6, c6, xs6, A6, C6, rfl, JF.out.1, JF.out.2.1, JF.out.2.2, by omega, VF.out, P6.out.base_le (by simp; omega), D6.out⟩
    · have hvv : (v2 != v1) = true := by simp [hv]
      clear hv
      have BW3 := Lib.hid (show ∀ o o', Below w3.heap.size w3 ((w3.alloc o).alloc o') from fun o o' => ((Below.refl _ w3).alloc (Nat.le_refl _) o).alloc (by simp) o')
      have NK3 := Lib.hid (rd_keep (w3.heap.size + 1) w3.heap.size w3 rfl rfl)
      obtain ⟨J1, hJ1⟩ : ∃ J, [(⟨2, ⟨#[]⟩, 0, 0, 0, false, [0]⟩ : Nd)] ++ l1 = J := ⟨_, rfl⟩
      obtain ⟨J2, hJ2⟩ : ∃ J, [(⟨2, ⟨#[]⟩, 0, 0, 0, false, [0]⟩ : Nd)] ++ l2 = J := ⟨_, rfl⟩
      have SJ1 := Lib.hid (show Small J1 by rw [← hJ1]; exact small_cons (by simp) S1.out (by omega))
      have SJ2 := Lib.hid (show Small J2 by rw [← hJ2]; exact small_cons (by simp) S2.out (by omega))
      obtain ⟨J, hJ⟩ : ∃ J, [(⟨4, ⟨#[]⟩, 0, 0, 0, false, []⟩ : Nd)] ++ J1 ++ J2 = J := ⟨_, rfl⟩
      have JF := Lib.hid (show 1 ≤ J.length ∧ J.length ≤ Bn (k + 2) ∧ ∀ m ∈ J, m.cols.length ≤ 3 by
        rw [HBB.out, ← hJ, ← hJ1, ← hJ2]
        refine ⟨by simp, by simp; omega, fun m hm => ?_⟩
        simp only [List.mem_append, List.mem_singleton] at hm
        rcases hm with (hm | hm | hm) | hm | hm
        · subst hm; simp
        · subst hm; simp
        · exact A3.out m hm
        · subst hm; simp
        · exact E3.out m hm)
      have HJ1 := Lib.hid hJ1; have HJ2 := Lib.hid hJ2; have HJ := Lib.hid hJ; clear hJ1 hJ2 hJ
      have VF := Lib.hid (show (1 : Int) ≤ Vn (k + 2) by rw [HVV.out]; have := Vn_ge k; omega)
      go_wp2_with fail
      refine (joined2_at _ _ (by simp) _ _ _ _ _ _ _ _ l1 rfl rfl NK3.out (P1'.out.rdN.below (BW3.out _ _)) small_keep S1.out J1 HJ1.out).mono ?_
      rintro e w4 ⟨b4, c4, xs4, A4, C4, rfl, p4, bb4⟩
      have P4 := Lib.hid p4; have B34 := Lib.hid ((BW3.out _ _).trans (bb4.mono (by simp; omega)) : Below w3.heap.size w3 w4)
      have P24 := Lib.hid (P2.out.below B34.out); have D4 := Lib.hid (D3.out.below B34.out)
      have hz4 := B34.out.size
      clear p4 bb4
      have BW4 := Lib.hid (show ∀ o o', Below w4.heap.size w4 ((w4.alloc o).alloc o') from fun o o' => ((Below.refl _ w4).alloc (Nat.le_refl _) o).alloc (by simp) o')
      have NK4 := Lib.hid (rd_keep (w4.heap.size + 1) w4.heap.size w4 rfl rfl)
      go_wp2_with fail
      refine (joined2_at _ _ (by simp) _ _ _ _ _ _ _ _ l2 rfl rfl NK4.out (P24.out.rdN.below (BW4.out _ _)) small_keep S2.out J2 HJ2.out).mono ?_
      rintro e w5 ⟨b5, c5, xs5, A5, C5, rfl, p5, bb5⟩
      have P5 := Lib.hid p5; have B45 := Lib.hid ((BW4.out _ _).trans (bb5.mono (by simp; omega)) : Below w4.heap.size w4 w5)
      have P45 := Lib.hid (P4.out.below B45.out); have D5 := Lib.hid (D4.out.below B45.out)
      have hz5 := B45.out.size
      clear p5 bb5
      have BW5 := Lib.hid (show ∀ o, Below w5.heap.size w5 (w5.alloc o) from fun o => (Below.refl _ w5).alloc (Nat.le_refl _) o)
      have NDR := Lib.hid (show RdN (w5.alloc (.cells (ndCells ⟨4, ⟨#[]⟩, 0, 0, 0, false, []⟩ none 0).toArray 39)) (some ⟨w5.heap.size, 0, none⟩) [⟨4, ⟨#[]⟩, 0, 0, 0, false, []⟩] from rd_one_at _ _ rfl _ rfl (show (0 : Nat) ≤ 100 by omega))
      go_wp2_with (go_at_call 111; refine (joined3_at _ _ (by simp) _ _ _ _ _ _ _ _ _ _ _ J1 J2 rfl rfl rfl NDR.out (P45.out.rdN.below (BW5.out _)) (P5.out.rdN.below (BW5.out _)) (small_one rfl) SJ1.out SJ2.out J HJ.out).mono ?_; rintro e w6 ⟨b6, c6, xs6, A6, C6, rfl, p6, bb6⟩; have P6 := Lib.hid p6; have D6 := Lib.hid ((D5.out.below (BW5.out _)).below bb6); clear p6 bb6)
      go_ret2
      exact ⟨J, 1, b6, c6, xs6, A6, C6, rfl, JF.out.1, JF.out.2.1, JF.out.2.2, by omega, VF.out, P6.out.base_le (by simp; omega), D6.out⟩

/-- Drawing a plan, at every depth up to seven. -/
theorem drawPlan_any (g : Nat) (xo : Option Addr) (d : Nat) (code : List Int) (hl : code.length ≤ 1048577) : ∀ (n : Nat), n ≤ 7 → ∀ (deep : Int), 0 ≤ deep → deep ≤ n → ∀ w, Cur w g xo d code →
    Calls Tryz.prog 74 #[.pointer (some ⟨g, 0, none⟩), .int .i64 deep] w (PlanP w g xo d code n) := by
  intro n
  induction n using Nat.strongRecOn with
  | _ n ih =>
    intro h7 deep h0 h1 w hc
    by_cases hd : deep ≤ 1
    · exact plan0 n deep g xo d code hl w hc hd
    · obtain ⟨k, rfl⟩ : ∃ k, n = k + 2 := ⟨n - 2, by omega⟩
      exact plan_step k h7 deep (by omega) (by omega) g xo d code hl (fun W hW => ih (k + 1) (by omega) (by omega) (deep - 1) (by omega) (by omega) W hW) (fun W hW => ih k (by omega) (by omega) (deep - 2) (by omega) (by omega) W hW) w hc
end Go.Proofs.YtanfllednlpbaaaGreat

