/-
  Contract of impl.TakeNode. For every slice of bytes and every place.
-/
import Derived.Test.YtcegekkhlfpgfaaDoorRNod
import Derived.BigRegion
namespace Go.Proofs.YtcegekkhlfpgfaaDoor
open Go.RowKit
set_option linter.unusedSimpArgs false
set_option linter.unusedVariables false

def WI (w : World) (b : Option Addr) (n d : Nat) (at_ : Int) : World := (w.alloc (.cells #[.int .i64 0, .string ⟨#[]⟩, .int .i64 0, .int .i64 0, .int .i64 0, .bool false, .slice none 0 0] 25)).alloc (.cells #[.slice b n d, .int .i64 at_, .nilIface] 63)
theorem WI_below (w : World) (b : Option Addr) (n d : Nat) (at_ : Int) : Below w.heap.size w (WI w b n d at_) := ((Below.refl _ w).alloc (Nat.le_refl _) _).alloc (by simp) _
theorem rdr_new {w : World} {b : Option Addr} {d : Nat} {l : List Int} {at_ : Int} (h : Rd w .u8 b l) (hby : By l) (hd : l.length ≤ d ∧ d ≤ maxLen) (ha : -9223372036854775808 ≤ at_ ∧ at_ ≤ 9223372036854775807) : Rdr (WI w b l.length d at_) (w.heap.size + 1) b d l (some at_) := by
  refine ⟨at_, .nilIface, ?_, ha, .inl ⟨rfl, rfl⟩, h.below (WI_below w b l.length d at_), hby, hd, fun a hb hl' => by have := rd_lt h a hb hl'; omega⟩
  have := heap_alloc_new (w.alloc (.cells #[.int .i64 0, .string ⟨#[]⟩, .int .i64 0, .int .i64 0, .int .i64 0, .bool false, .slice none 0 0] 25)) (.cells #[.slice b l.length d, .int .i64 at_, .nilIface] 63)
  simpa [WI] using this
theorem wi_zero (w : World) (b : Option Addr) (n d : Nat) (at_ : Int) (o : Nat) (v : Value) (h : (#[.int .i64 0, .string ⟨#[]⟩, .int .i64 0, .int .i64 0, .int .i64 0, .bool false, .slice none 0 0] : Array Value)[o]? = some v) : (WI w b n d at_).cell? ⟨w.heap.size, o, none⟩ = some v := by
  have h1 := cell_of_row (w.alloc (.cells #[.int .i64 0, .string ⟨#[]⟩, .int .i64 0, .int .i64 0, .int .i64 0, .bool false, .slice none 0 0] 25)) w.heap.size o _ _ _ (heap_alloc_new w _)
  exact ((Below.alloc (Below.refl _ _) (Nat.le_refl _) _).cell (p := ⟨w.heap.size, o, none⟩) (by simp)).trans (h1.trans h)

set_option maxRecDepth 100000 in
set_option maxHeartbeats 3200000 in
theorem implTakeNode_any (b : Option Addr) (d : Nat) (l : List Int) (at_ : Int) (w : World) (hg : ErrT w) (h : Rd w .u8 b l) (hby : By l) (hd : l.length ≤ d) (hd2 : d ≤ maxLen) (ha : at_ ≤ 9223372036854775807) (ha' : -9223372036854775808 ≤ at_) :
    Calls Tryd.prog 9 #[.slice b l.length d, .int .i64 at_] w (TookNm (takeNd l at_) w) := by
  have TN : Hid (takeNd l at_ = match (nodeR l (some at_)).2 with | none => (zeroNd, -1) | some q => ((nodeR l (some at_)).1, q)) := rfl
  have T0 := Lib.hid (fun W (h : Rdr W (w.heap.size + 1) b d l (some at_)) => rNode_any (w.heap.size + 1) b d l (some at_) W h)
  obtain ⟨⟨n, s1⟩, hx⟩ : ∃ r, r = nodeR l (some at_) := ⟨_, rfl⟩
  rw [← hx] at T0 TN
  obtain ⟨rr, hrr⟩ : ∃ rr, rr = takeNd l at_ := ⟨_, rfl⟩
  rw [← hrr] at TN ⊢
  have hbb := rd_lt h
  have H0 := Lib.hid (rdr_new (d := d) h hby ⟨hd, hd2⟩ ⟨ha', ha⟩)
  have G := Lib.hid hg
  have hpos := hg.pos
  clear hx hrr h hby hg
  unfold WI at H0
  obtain ⟨k, name, col, op, num, slot, cols⟩ := n
  simp only at *
  go_enter Tryd.func9, Tryd.ntmps9
  go_wp2_with fail
  refine (T0.out _ H0.out).mono ?_
  rintro e w1 ⟨a, c, rfl, ho, h1, g1⟩
  have hz1 := g1.size
  simp at hz1
  obtain ⟨hz0, hy0⟩ := gcell g1 (X := w.heap.size) (by simp; omega) (by omega)
  have B1 := Lib.hid ((WI_below w b l.length d at_).grown (show (WI w b l.length d at_).grownBy w1 (some (w.heap.size + 1)) from g1) (WI_below w b l.length d at_).size (by intro g hg; cases hg; omega))
  have O1 := Lib.hid (ho.base_le (base' := w.heap.size + 1) (by simp))
  have H1 := Lib.hid h1
  obtain ⟨p1, er, hh, hp1, he1, hr1, hby1, hd1, hne1⟩ := id h1
  have d1 : w1.cell? ⟨w.heap.size + 1, 1, none⟩ = some (.int .i64 p1) := cell_of_row w1 _ 1 _ _ _ hh
  have d2 : w1.cell? ⟨w.heap.size + 1, 2, none⟩ = some er := cell_of_row w1 _ 2 _ _ _ hh
  have zk : w.heap.size < w1.heap.size := by omega
  have zl : w.heap.size + 1 < w1.heap.size := by omega
  have z0 : ¬ (w1.heap.size = w.heap.size) := by omega
  have z0' : ¬ (w.heap.size = w1.heap.size) := by omega
  have zz : ¬ (w1.heap.size = w.heap.size + 1) := by omega
  have zz' : ¬ (w.heap.size + 1 = w1.heap.size) := by omega
  have A1 := Lib.hid ((Below.refl _ w1).alloc (Nat.le_refl _) (.cells #[.int .i64 k, .string name, .int .i64 col, .int .i64 op, .int .i64 num, .bool slot, .slice a cols.length c] 25))
  have HE := Lib.hid he1
  have GE := Lib.hid ((G.out.below B1.out).below A1.out)
  clear hh he1 hr1 hby1 hd1 hne1 g1 h1 ho
  have y0 : w1.cell? ⟨w.heap.size, 0, none⟩ = some (.int .i64 0) := (hz0 0).trans (wi_zero w b l.length d at_ 0 _ rfl)
  have y1 : w1.cell? ⟨w.heap.size, 1, none⟩ = some (.string ⟨#[]⟩) := (hz0 1).trans (wi_zero w b l.length d at_ 1 _ rfl)
  have y2 : w1.cell? ⟨w.heap.size, 2, none⟩ = some (.int .i64 0) := (hz0 2).trans (wi_zero w b l.length d at_ 2 _ rfl)
  have y3 : w1.cell? ⟨w.heap.size, 3, none⟩ = some (.int .i64 0) := (hz0 3).trans (wi_zero w b l.length d at_ 3 _ rfl)
  have y4 : w1.cell? ⟨w.heap.size, 4, none⟩ = some (.int .i64 0) := (hz0 4).trans (wi_zero w b l.length d at_ 4 _ rfl)
  have y5 : w1.cell? ⟨w.heap.size, 5, none⟩ = some (.bool false) := (hz0 5).trans (wi_zero w b l.length d at_ 5 _ rfl)
  have y6 : w1.cell? ⟨w.heap.size, 6, none⟩ = some (.slice none 0 0) := (hz0 6).trans (wi_zero w b l.length d at_ 6 _ rfl)
  have m0 : ∀ o, w1.frozen? ⟨w.heap.size, o, none⟩ = false := fun o => (hy0 o).trans (by
    have hh := (Below.alloc (Below.refl _ (w.alloc (.cells #[.int .i64 0, .string ⟨#[]⟩, .int .i64 0, .int .i64 0, .int .i64 0, .bool false, .slice none 0 0] 25))) (Nat.le_refl _) (.cells #[.slice b l.length d, .int .i64 at_, .nilIface] 63)).frozen (p := ⟨w.heap.size, o, none⟩) (by simp)
    refine hh.trans ?_
    have h2 := heap_alloc_new w (.cells #[.int .i64 0, .string ⟨#[]⟩, .int .i64 0, .int .i64 0, .int .i64 0, .bool false, .slice none 0 0] 25)
    simp only [World.frozen?, h2]; simp)
  rcases HE.out with ⟨hs, rfl⟩ | ⟨hs, k1, k2, rfl⟩
  · have E : Hid (rr = (⟨k, name, col, op, num, slot, cols⟩, p1)) := by show _ = _; rw [TN.out, hs]
    go_wp2_with fail
    refine (isMissing_nil _).mono ?_
    rintro e w4 ⟨rfl, b4⟩
    have F4 : Below w1.heap.size w1 w4 := A1.out.trans (b4.mono (by simp))
    have q0 : w4.cell? ⟨w.heap.size, 0, none⟩ = some (.int .i64 0) := (F4.cell (p := ⟨w.heap.size, 0, none⟩) zk).trans y0
    have q1 : w4.cell? ⟨w.heap.size, 1, none⟩ = some (.string ⟨#[]⟩) := (F4.cell (p := ⟨w.heap.size, 1, none⟩) zk).trans y1
    have q2 : w4.cell? ⟨w.heap.size, 2, none⟩ = some (.int .i64 0) := (F4.cell (p := ⟨w.heap.size, 2, none⟩) zk).trans y2
    have q3 : w4.cell? ⟨w.heap.size, 3, none⟩ = some (.int .i64 0) := (F4.cell (p := ⟨w.heap.size, 3, none⟩) zk).trans y3
    have q4 : w4.cell? ⟨w.heap.size, 4, none⟩ = some (.int .i64 0) := (F4.cell (p := ⟨w.heap.size, 4, none⟩) zk).trans y4
    have q5 : w4.cell? ⟨w.heap.size, 5, none⟩ = some (.bool false) := (F4.cell (p := ⟨w.heap.size, 5, none⟩) zk).trans y5
    have q6 : w4.cell? ⟨w.heap.size, 6, none⟩ = some (.slice none 0 0) := (F4.cell (p := ⟨w.heap.size, 6, none⟩) zk).trans y6
    have x0c : w4.cell? ⟨w1.heap.size, 0, none⟩ = some (.int .i64 k) := (b4.cell (p := ⟨w1.heap.size, 0, none⟩) (by simp)).trans ((cell_of_row _ _ _ _ _ _ (heap_alloc_new w1 _)).trans rfl)
    have x1c : w4.cell? ⟨w1.heap.size, 1, none⟩ = some (.string name) := (b4.cell (p := ⟨w1.heap.size, 1, none⟩) (by simp)).trans ((cell_of_row _ _ _ _ _ _ (heap_alloc_new w1 _)).trans rfl)
    have x2c : w4.cell? ⟨w1.heap.size, 2, none⟩ = some (.int .i64 col) := (b4.cell (p := ⟨w1.heap.size, 2, none⟩) (by simp)).trans ((cell_of_row _ _ _ _ _ _ (heap_alloc_new w1 _)).trans rfl)
    have x3c : w4.cell? ⟨w1.heap.size, 3, none⟩ = some (.int .i64 op) := (b4.cell (p := ⟨w1.heap.size, 3, none⟩) (by simp)).trans ((cell_of_row _ _ _ _ _ _ (heap_alloc_new w1 _)).trans rfl)
    have x4c : w4.cell? ⟨w1.heap.size, 4, none⟩ = some (.int .i64 num) := (b4.cell (p := ⟨w1.heap.size, 4, none⟩) (by simp)).trans ((cell_of_row _ _ _ _ _ _ (heap_alloc_new w1 _)).trans rfl)
    have x5c : w4.cell? ⟨w1.heap.size, 5, none⟩ = some (.bool slot) := (b4.cell (p := ⟨w1.heap.size, 5, none⟩) (by simp)).trans ((cell_of_row _ _ _ _ _ _ (heap_alloc_new w1 _)).trans rfl)
    have x6c : w4.cell? ⟨w1.heap.size, 6, none⟩ = some (.slice a cols.length c) := (b4.cell (p := ⟨w1.heap.size, 6, none⟩) (by simp)).trans ((cell_of_row _ _ _ _ _ _ (heap_alloc_new w1 _)).trans rfl)
    have m4 : ∀ o, w4.frozen? ⟨w.heap.size, o, none⟩ = false := fun o => (F4.frozen (p := ⟨w.heap.size, o, none⟩) zk).trans (m0 o)
    have e1 : w4.cell? ⟨w.heap.size + 1, 1, none⟩ = some (.int .i64 p1) := (F4.cell (p := ⟨w.heap.size + 1, 1, none⟩) zl).trans d1
    have O4 := Lib.hid (O1.out.below F4)
    have BV := Lib.hid (B1.out.trans (F4.mono (by omega)))
    have OL := Lib.hid (fun x hx => (O1.out.lt x hx).1)
    clear b4 F4 hz0 hy0 m0 d1 d2 y0 y1 y2 y3 y4 y5 y6 HE T0
    go_wp2_with fail
    go_region
    all_goals
      go_wp2_with fail
      rw [E.out]
      refine bodyPost_ret (v := .tuple #[.agg #[.int .i64 k, .string name, .int .i64 col, .int .i64 op, .int .i64 num, .bool slot, .slice a cols.length c], .int .i64 p1]) (by simp [results, Tryd.results9, go_sem, q0, q1, q2, q3, q4, q5, q6]) rfl ⟨a, c, rfl, ?_, ?_⟩
      · refine Own.base_le (base := w.heap.size + 1) ?_ (by omega)
        refine Own.keep (w := w4) O4.out (fun x hx _ => ?_)
        have := OL.out x hx
        simp [World.drew]
        repeat (rw [Below.heap_setCell _ _ _ _ (by simp; omega)])
      · refine Below.drew ?_
        repeat (refine Below.setCell ?_ (by simp; try omega) _)
        exact BV.out
  · have E : Hid (rr = (zeroNd, -1)) := by show _ = _; rw [TN.out, hs]
    go_wp2_with fail
    refine (isMissing_hit _ _ _ GE.out).mono ?_
    rintro e w4 ⟨rfl, b4⟩
    have F4 : Below w1.heap.size w1 w4 := A1.out.trans (b4.mono (by simp))
    have q0 : w4.cell? ⟨w.heap.size, 0, none⟩ = some (.int .i64 0) := (F4.cell (p := ⟨w.heap.size, 0, none⟩) zk).trans y0
    have q1 : w4.cell? ⟨w.heap.size, 1, none⟩ = some (.string ⟨#[]⟩) := (F4.cell (p := ⟨w.heap.size, 1, none⟩) zk).trans y1
    have q2 : w4.cell? ⟨w.heap.size, 2, none⟩ = some (.int .i64 0) := (F4.cell (p := ⟨w.heap.size, 2, none⟩) zk).trans y2
    have q3 : w4.cell? ⟨w.heap.size, 3, none⟩ = some (.int .i64 0) := (F4.cell (p := ⟨w.heap.size, 3, none⟩) zk).trans y3
    have q4 : w4.cell? ⟨w.heap.size, 4, none⟩ = some (.int .i64 0) := (F4.cell (p := ⟨w.heap.size, 4, none⟩) zk).trans y4
    have q5 : w4.cell? ⟨w.heap.size, 5, none⟩ = some (.bool false) := (F4.cell (p := ⟨w.heap.size, 5, none⟩) zk).trans y5
    have q6 : w4.cell? ⟨w.heap.size, 6, none⟩ = some (.slice none 0 0) := (F4.cell (p := ⟨w.heap.size, 6, none⟩) zk).trans y6
    have m4 : ∀ o, w4.frozen? ⟨w.heap.size, o, none⟩ = false := fun o => (F4.frozen (p := ⟨w.heap.size, o, none⟩) zk).trans (m0 o)
    have BV := Lib.hid (B1.out.trans (F4.mono (by omega)))
    clear b4 F4 hz0 hy0 m0 d1 d2 y0 y1 y2 y3 y4 y5 y6 HE T0
    go_wp2_with fail
    rw [E.out]
    refine bodyPost_ret (v := .tuple #[.agg #[.int .i64 0, .string ⟨#[]⟩, .int .i64 0, .int .i64 0, .int .i64 0, .bool false, .slice none 0 0], .int .i64 (-1)]) (by simp [results, Tryd.results9, go_sem, q0, q1, q2, q3, q4, q5, q6]) rfl ⟨none, 0, rfl, Own.none_, ?_⟩
    repeat (refine Below.setCell ?_ (by simp; try omega) _)
    exact BV.out
end Go.Proofs.YtcegekkhlfpgfaaDoor
