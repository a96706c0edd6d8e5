/-
  Contracts of impl.kindWords, kindText and NodeText. For every node.
-/
import Derived.Test.YtfpbhedophlnkaaDoorKW2
import Derived.Test.YtfpbhedophlnkaaDoorJoinI
namespace Go.Proofs.YtfpbhedophlnkaaDoor
open Go.RowKit
set_option linter.unusedSimpArgs false
set_option linter.unusedVariables false

theorem kindWords_any (n : Nd) (hb : nodeB n = true) (a : Option Addr) (c : Nat) (w : World) (h : Rd w .i64 a n.cols) (hg : GTab w) :
    Calls Tryd.prog 40 #[kindV n a c] w (MadeS w (ndB n)) := by
  have hk := kind_of_nodeB hb
  obtain ⟨k, name, col, op, num, slot, cols⟩ := n
  have hc : k = 0 ∨ k = 1 ∨ k = 2 ∨ k = 3 ∨ k = 4 ∨ k = 5 ∨ k = 6 ∨ k = 7 := by simp only at hk; omega
  rcases hc with rfl | rfl | rfl | rfl | rfl | rfl | rfl | rfl
  · exact kindWords0 name col op num slot cols a c w hb h hg
  · by_cases ho : op = 3
    · exact kindWords1n name col op num slot cols a c w hb ho h hg
    · exact kindWords1 name col op num slot cols a c w hb ho h hg
  · exact kindWords2 name col op num slot cols a c w hb h hg
  · exact kindWords3 name col op num slot cols a c w hb h hg
  · exact kindWords4 name col op num slot cols a c w hb h hg
  · exact kindWords5 name col op num slot cols a c w hb h hg
  · exact kindWords6 name col op num slot cols a c w hb h hg
  · exact kindWords7 name col op num slot cols a c w hb h hg
theorem kindText_any (n : Nd) (hb : nodeB n = true) (a : Option Addr) (c : Nat) (w : World) (h : Rd w .i64 a n.cols) (hg : GTab w) :
    Calls Tryd.prog 26 #[kindV n a c] w fun e w' => e = .returned (.string (ndO n)) ∧ Below w.heap.size w w' := by
  have KW := Lib.hid (kindWords_any n hb a c w h hg)
  have E := Lib.hid (ndO_yes hb)
  have hct := ndB_count hb
  have hln := ndT_len hb
  have EM : Hid (joinB 32 ((ndB n).map (·.data.toList)) = ndT n) := rfl
  clear h hg
  generalize ndO n = R at E ⊢
  generalize ndB n = xs at KW EM hct
  generalize ndT n = X at E EM hln
  generalize kindV n a c = kv at KW ⊢
  have J := Lib.hid (fun W B ao cc (h : OwnS W B ao cc xs) => joinI_any 32 B ao cc xs.length xs rfl W h (by rw [EM.out]; omega) (by omega))
  rw [EM.out] at J
  go_enter Tryd.func26, Tryd.ntmps26
  go_wp2_with fail
  refine KW.out.mono ?_
  rintro e w1 ⟨ao, cc, rfl, o1, b1⟩
  have B1 := Lib.hid b1; have O1 := Lib.hid o1
  clear o1 b1
  go_wp2_with fail
  refine (J.out _ _ ao cc O1.out).mono ?_
  rintro e w2 ⟨rfl, b2⟩
  have B2 := Lib.hid (below_step B1.out (Nat.le_refl _) b2)
  clear b2
  go_wp2_with fail
  go_ret
  exact ⟨ret_strW E.out.symm, B2.out⟩
theorem implNodeText_any (n : Nd) (a : Option Addr) (c : Nat) (w : World) (h : Rd w .i64 a n.cols) (hm : n.cols.length ≤ 17592186044416) (hs : n.name.size ≤ maxLen) (hg : GTab w) :
    Calls Tryd.prog 9 #[.agg #[.int .i64 n.kind, .string n.name, .int .i64 n.col, .int .i64 n.op, .int .i64 n.num, .bool n.slot, .slice a n.cols.length c]] w fun e w' => e = .returned (.string (ndO n)) ∧ Below w.heap.size w w' := by
  have NK := Lib.hid (fun w h => implNodeOk_any n a c w h hm hs)
  have H := Lib.hid h; have G := Lib.hid hg
  have BA := Lib.hid ((Below.refl _ w).alloc (Nat.le_refl _) (.cells #[.int .i64 n.kind, .string n.name, .int .i64 n.col, .int .i64 n.op, .int .i64 n.num, .bool n.slot, .slice a n.cols.length c] 27))
  cases hb : nodeB n with
  | false =>
    rw [ndO_no hb]
    have HB := Lib.hid hb; clear hb h hg
    go_enter Tryd.func9, Tryd.ntmps9
    go_wp2_with fail
    refine (NK.out _ (H.out.below BA.out)).mono ?_
    rintro e w1 ⟨rfl, b1⟩
    rw [HB.out]
    have B1 := Lib.hid (BA.out.trans (b1.mono (by simp)))
    clear b1
    go_wp2_with fail
    go_ret
    exact ⟨rfl, B1.out⟩
  | true =>
    have HB := Lib.hid hb
    have KT := Lib.hid (fun w h g => kindText_any n hb a c w h g)
    have KO := Lib.hid (fun w => kindOf_any n a c w)
    generalize ndO n = R at KT ⊢
    have KP : Hid (∀ w4, Below (w.alloc (.cells #[.int .i64 n.kind, .string n.name, .int .i64 n.col, .int .i64 n.op, .int .i64 n.num, .bool n.slot, .slice a n.cols.length c] 27)).heap.size (w.alloc (.cells #[.int .i64 n.kind, .string n.name, .int .i64 n.col, .int .i64 n.op, .int .i64 n.num, .bool n.slot, .slice a n.cols.length c] 27)) w4 →
      w4.cell? ⟨w.heap.size, 0, none⟩ = some (.int .i64 n.kind) ∧ w4.cell? ⟨w.heap.size, 1, none⟩ = some (.string n.name) ∧ w4.cell? ⟨w.heap.size, 2, none⟩ = some (.int .i64 n.col) ∧ w4.cell? ⟨w.heap.size, 3, none⟩ = some (.int .i64 n.op) ∧ w4.cell? ⟨w.heap.size, 4, none⟩ = some (.int .i64 n.num) ∧ w4.cell? ⟨w.heap.size, 5, none⟩ = some (.bool n.slot) ∧ w4.cell? ⟨w.heap.size, 6, none⟩ = some (.slice a n.cols.length c)) := fun w4 b4 => by
      have hq := fun o => b4.cell (p := ⟨w.heap.size, o, none⟩) (by simp)
      exact ⟨(hq 0).trans ((cell_of_row _ _ _ _ _ _ (heap_alloc_new w _)).trans rfl), (hq 1).trans ((cell_of_row _ _ _ _ _ _ (heap_alloc_new w _)).trans rfl), (hq 2).trans ((cell_of_row _ _ _ _ _ _ (heap_alloc_new w _)).trans rfl), (hq 3).trans ((cell_of_row _ _ _ _ _ _ (heap_alloc_new w _)).trans rfl), (hq 4).trans ((cell_of_row _ _ _ _ _ _ (heap_alloc_new w _)).trans rfl), (hq 5).trans ((cell_of_row _ _ _ _ _ _ (heap_alloc_new w _)).trans rfl), (hq 6).trans ((cell_of_row _ _ _ _ _ _ (heap_alloc_new w _)).trans rfl)⟩
    clear hb h hg
    go_enter Tryd.func9, Tryd.ntmps9
    go_wp2_with fail
    refine (NK.out _ (H.out.below BA.out)).mono ?_
    rintro e w1 ⟨rfl, b1⟩
    rw [HB.out]
    have B1 := Lib.hid (BA.out.trans (b1.mono (by simp)))
    obtain ⟨u0, u1, u2, u3, u4, u5, u6⟩ := KP.out _ b1
    clear b1
    go_wp2_with fail
    refine (KO.out _).mono ?_
    rintro e w2 ⟨rfl, b2⟩
    have B2 := Lib.hid (below_step B1.out (Nat.le_refl _) b2)
    clear b2
    go_wp2_with fail
    refine (KT.out _ (H.out.below B2.out) (gtab_below G.out B2.out)).mono ?_
    rintro e w3 ⟨rfl, b3⟩
    have B3 := Lib.hid (below_step B2.out (Nat.le_refl _) b3)
    clear b3
    go_wp2_with fail
    go_ret
    exact ⟨rfl, B3.out⟩
end Go.Proofs.YtfpbhedophlnkaaDoor
