/-
  The program's reader of words: contract of filter. For every list of words that are none of them empty.
-/
import Derived.Test.YtfpbhedophlnkaaGreatDoorJT17x
namespace Go.Proofs.YtfpbhedophlnkaaGreatDoor
open Go.RowKit
set_option linter.unusedSimpArgs false
set_option linter.unusedVariables false

def NodeI (r : Nat ⊕ (Nd × Nat)) (R : Nat) (ao : Option Addr) (c : Nat) (ws : List ByteArray) (w : World) (e : Ending) (w' : World) : Prop :=
  match r with
  | .inl q => Pnk q R w e w'
  | .inr x => ∃ a cc, e = .returned (.agg #[.int .i64 x.1.kind, .string x.1.name, .int .i64 x.1.col, .int .i64 x.1.op, .int .i64 x.1.num, .bool x.1.slot, .slice a x.1.cols.length cc]) ∧ Own w' w.heap.size 3 .i64 a cc x.1.cols ∧ Prd w' R ao c ws x.2 ∧ w.grownBy w' (some R)
theorem rest1 (ws : List ByteArray) (p : Nat) : restQ ws 1 p = (match intQ false ws p with
    | none => .inl p
    | some c => match ws[p + 1]? with
      | none => .inl (p + 1)
      | some o => if findB opsB o = -1 then .inl (p + 1)
        else if findB opsB o = 3 then .inr (⟨1, emptyB, c.1, 3, 0, false, []⟩, p + 2)
        else match intQ true ws (p + 2) with
          | none => .inl (p + 2)
          | some x => .inr (⟨1, emptyB, c.1, findB opsB o, x.1, x.2, []⟩, p + 3)) := by
  unfold restQ; simp only [Int.reduceEq, if_false, if_true]
  rfl
theorem opsB_ways (o : ByteArray) : (o = ⟨#[61]⟩ ∧ findB opsB o = 0) ∨ (o = ⟨#[60]⟩ ∧ findB opsB o = 1) ∨ (o = ⟨#[62]⟩ ∧ findB opsB o = 2) ∨ (o = ⟨#[110, 111, 110, 101]⟩ ∧ findB opsB o = 3) ∨ (findB opsB o = -1 ∧ (o.toList == [61]) = false ∧ (o.toList == [60]) = false ∧ (o.toList == [62]) = false ∧ (o.toList == [110, 111, 110, 101]) = false) := by
  have key : ∀ (l : List UInt8), (o.toList == l) = decide (o = ⟨l.toArray⟩) := fun l => by
    have h := str_same o ⟨l.toArray⟩
    rw [show (⟨l.toArray⟩ : ByteArray).toList = l by rw [ByteArray.toList_eq]] at h
    exact h
  by_cases h0 : o = ⟨#[61]⟩
  · left; subst h0; exact ⟨rfl, by decide⟩
  by_cases h1 : o = ⟨#[60]⟩
  · right; left; subst h1; exact ⟨rfl, by decide⟩
  by_cases h2 : o = ⟨#[62]⟩
  · right; right; left; subst h2; exact ⟨rfl, by decide⟩
  by_cases h3 : o = ⟨#[110, 111, 110, 101]⟩
  · right; right; right; left; subst h3; exact ⟨rfl, by decide⟩
  · right; right; right; right
    refine ⟨?_, by rw [key]; simpa using h0, by rw [key]; simpa using h1, by rw [key]; simpa using h2, by rw [key]; simpa using h3⟩
    simp [opsB, findB, Ne.symm h0, Ne.symm h1, Ne.symm h2, Ne.symm h3]
/-- The seven cells of a block. -/
theorem nd7 {w : World} {X : Nat} {T : TypeId} {v0 v1 v2 v3 v4 v5 v6 : Value} (h : w.heap[X]? = some (.cells #[v0, v1, v2, v3, v4, v5, v6] T (0, 0))) :
    (w.cell? ⟨X, 0, none⟩ = some v0 ∧ w.cell? ⟨X, 1, none⟩ = some v1 ∧ w.cell? ⟨X, 2, none⟩ = some v2 ∧ w.cell? ⟨X, 3, none⟩ = some v3 ∧ w.cell? ⟨X, 4, none⟩ = some v4 ∧ w.cell? ⟨X, 5, none⟩ = some v5 ∧ w.cell? ⟨X, 6, none⟩ = some v6) ∧ ∀ o, w.frozen? ⟨X, o, none⟩ = false :=
  ⟨⟨cell_of_row w X 0 _ _ _ h, cell_of_row w X 1 _ _ _ h, cell_of_row w X 2 _ _ _ h, cell_of_row w X 3 _ _ _ h, cell_of_row w X 4 _ _ _ h, cell_of_row w X 5 _ _ _ h, cell_of_row w X 6 _ _ _ h⟩, fun o => by simp [World.frozen?, h]⟩
theorem blk_keep {w w' : World} {R X : Nat} {o : Obj} (h : w.heap[X]? = some o) (hg : w.grownBy w' (some R)) (hne : X ≠ R) : w'.heap[X]? = some o := by
  rw [hg.block X (Array.getElem?_eq_some_iff.1 h).1 (by simp; exact hne)]; exact h

set_option maxRecDepth 100000 in
set_option maxHeartbeats 3200000 in
theorem filter_any {R c p : Nat} {ao : Option Addr} {ws : List ByteArray} (w : World) (hw : WdsI ws) (hg : GKeep R w) (h : Prd w R ao c ws p) :
    Calls Tryz.prog 253 #[.pointer (some ⟨R, 0, none⟩)] w (NodeI (restQ ws 1 p) R ao c ws w) := by
  have G := Lib.hid hg
  have HR := h.lt
  have HWD := Lib.hid h.words
  have BA := (Below.refl w.heap.size w).alloc (Nat.le_refl _) (.cells #[.int .i64 0, .string ⟨#[]⟩, .int .i64 0, .int .i64 0, .int .i64 0, .bool false, .slice none 0 0] 92)
  have GA : w.grownBy (w.alloc (.cells #[.int .i64 0, .string ⟨#[]⟩, .int .i64 0, .int .i64 0, .int .i64 0, .bool false, .slice none 0 0] 92)) (some R) := World.grownBy_alloc w _ _
  have HGA := Lib.hid GA
  have HZ := Lib.hid (heap_alloc_new w (.cells #[.int .i64 0, .string ⟨#[]⟩, .int .i64 0, .int .i64 0, .int .i64 0, .bool false, .slice none 0 0] 92))
  have N1 := Lib.hid (number_any _ hw (hg.step GA) (h.below BA))
  have NX := Lib.hid (fun W q x (h : Prd W R ao c ws q) (hx : ws[q]? = some x) => next_yes W h hx)
  have NE := Lib.hid (fun W q (h : Prd W R ao c ws q) (hx : ws[q]? = none) => next_end W h hx)
  have LI := Lib.hid (fun W q (g : GKeep R W) (h : Prd W R ao c ws q) => literal_any W hw g h)
  have K := Lib.hid (rest1 ws p)
  obtain ⟨rr, hrr⟩ : ∃ rr, rr = restQ ws 1 p := ⟨_, rfl⟩
  rw [← hrr] at K ⊢
  obtain ⟨r1, hr1⟩ : ∃ r1, r1 = intQ false ws p := ⟨_, rfl⟩
  rw [← hr1] at K N1
  clear h hw hg hrr hr1 GA BA
  cases r1 with
  | none =>
    have E : Hid (rr = .inl p) := K.out
    go_enter Tryz.func253, Tryz.ntmps253
    go_wp2_with fail
    refine N1.out.mono ?_
    rintro e w1 ⟨rfl, g1⟩
    have G1 := Lib.hid (grownBy_trans HGA.out g1)
    clear g1
    go_wp2_with fail
    rw [E.out]
    exact ⟨rfl, rfl, G1.out⟩
  | some m =>
    obtain ⟨m, mm⟩ := m
    simp only at K
    have PB : Hid (∀ (w1 : World), Prd w1 R ao c ws (p + 1) → (w.alloc (.cells #[.int .i64 0, .string ⟨#[]⟩, .int .i64 0, .int .i64 0, .int .i64 0, .bool false, .slice none 0 0] 92)).grownBy w1 (some R) →
        Prd (w1.alloc (.cells #[.int .i64 1, .string ⟨#[]⟩, .int .i64 m, .int .i64 0, .int .i64 0, .bool false, .slice none 0 0] 92)) R ao c ws (p + 1) ∧ w.grownBy (w1.alloc (.cells #[.int .i64 1, .string ⟨#[]⟩, .int .i64 m, .int .i64 0, .int .i64 0, .bool false, .slice none 0 0] 92)) (some R) ∧
        (w1.alloc (.cells #[.int .i64 1, .string ⟨#[]⟩, .int .i64 m, .int .i64 0, .int .i64 0, .bool false, .slice none 0 0] 92)).heap[w.heap.size]? = some (.cells #[.int .i64 0, .string ⟨#[]⟩, .int .i64 0, .int .i64 0, .int .i64 0, .bool false, .slice none 0 0] 92 (0, 0)) ∧
        (w1.alloc (.cells #[.int .i64 1, .string ⟨#[]⟩, .int .i64 m, .int .i64 0, .int .i64 0, .bool false, .slice none 0 0] 92)).heap[w1.heap.size]? = some (.cells #[.int .i64 1, .string ⟨#[]⟩, .int .i64 m, .int .i64 0, .int .i64 0, .bool false, .slice none 0 0] 92 (0, 0)) ∧ w.heap.size < w1.heap.size) := fun w1 h1 g1 => by
      have hz := g1.size
      simp at hz
      have bw := blk_keep HZ.out g1 (by omega)
      refine ⟨h1.below ((Below.refl _ w1).alloc (Nat.le_refl _) _), grownBy_trans (grownBy_trans HGA.out g1) (World.grownBy_alloc w1 _ _), ?_, heap_alloc_new w1 _, hz⟩
      exact ((World.grownBy_alloc w1 _ none).block _ (Array.getElem?_eq_some_iff.1 bw).1 (by simp)).trans bw
    cases hx : ws[p + 1]? with
    | none =>
      rw [hx] at K
      have E : Hid (rr = .inl (p + 1)) := K.out
      have HX := Lib.hid hx
      clear hx K
      go_enter Tryz.func253, Tryz.ntmps253
      go_wp2_with fail
      refine N1.out.mono ?_
      rintro e w1 ⟨rfl, h1, g1⟩
      obtain ⟨p1, p2, p3, p4, p5⟩ := PB.out w1 h1 g1
      have T := Lib.hid (NE.out _ _ p1 HX.out); have GB := Lib.hid p2
      clear h1 g1 p1 p2 p3 p4
      go_wp2_with fail
      refine T.out.mono ?_
      rintro e w2 ⟨rfl, g2⟩
      have G2 := Lib.hid (grownBy_trans GB.out g2)
      clear g2
      go_wp2_with fail
      rw [E.out]
      exact ⟨rfl, rfl, G2.out⟩
    | some o =>
      rw [hx] at K
      simp only at K
      have HX := Lib.hid hx
      clear hx
      rcases opsB_ways o with ⟨rfl, hf⟩ | ⟨rfl, hf⟩ | ⟨rfl, hf⟩ | ⟨rfl, hf⟩ | ⟨hf, q0, q1, q2, q3⟩
      rotate_left 3
      · rw [hf] at K
        have E : Hid (rr = .inr (⟨1, emptyB, m, 3, 0, false, []⟩, p + 2)) := K.out
        clear K hf
        go_enter Tryz.func253, Tryz.ntmps253
        go_wp2_with fail
        refine N1.out.mono ?_
        rintro e w1 ⟨rfl, h1, g1⟩
        obtain ⟨p1, p2, p3, p4, p5⟩ := PB.out w1 h1 g1
        have T := Lib.hid (NX.out _ _ _ p1 HX.out); have GB := Lib.hid p2; have C3 := Lib.hid p3; have C4 := Lib.hid p4
        clear h1 g1 p1 p2 p3 p4
        go_wp2_with fail
        refine T.out.mono ?_
        rintro e w2 ⟨rfl, h2, g2⟩
        have H2 := Lib.hid h2; have G2 := Lib.hid (grownBy_trans GB.out g2)
        obtain ⟨⟨b0, b1, b2, b3, b4, b5, b6⟩, bf⟩ := nd7 (blk_keep C3.out g2 (by omega))
        obtain ⟨⟨x0, x1, x2, x3, x4, x5, x6⟩, xf⟩ := nd7 (blk_keep C4.out g2 (by omega))
        have r0 : ¬ (w1.heap.size = w.heap.size) := by omega
        have r0' : ¬ (w.heap.size = w1.heap.size) := by omega
        clear h2 g2 T GB C3 C4
        go_wp2_with fail
        rw [E.out]
        refine bodyPost_ret (v := .agg #[.int .i64 1, .string ⟨#[]⟩, .int .i64 m, .int .i64 3, .int .i64 0, .bool false, .slice none 0 0]) (by simp [results, Tryz.results253, go_sem, b0, b1, b2, b3, b4, b5, b6]) rfl ⟨none, 0, rfl, Own.none_, H2.out.belowB HR HWD.out ?_, grown_belowI G2.out ?_⟩
        all_goals
          repeat (refine Below.setCell ?_ (by simp; try omega) _)
          exact Below.refl _ _
      · rw [hf] at K
        have E : Hid (rr = .inl (p + 1)) := K.out
        clear K hf
        go_enter Tryz.func253, Tryz.ntmps253
        go_wp2_with fail
        refine N1.out.mono ?_
        rintro e w1 ⟨rfl, h1, g1⟩
        obtain ⟨p1, p2, p3, p4, p5⟩ := PB.out w1 h1 g1
        have T := Lib.hid (NX.out _ _ _ p1 HX.out); have GB := Lib.hid p2
        clear h1 g1 p1 p2 p3 p4
        go_wp2_with fail
        refine T.out.mono ?_
        rintro e w2 ⟨rfl, h2, g2⟩
        have LA := Lib.hid (last_any w2 h2); have G2 := Lib.hid (grownBy_trans GB.out g2)
        clear h2 g2 T GB
        go_wp2_with fail
        refine LA.out.mono ?_
        rintro e w' ⟨rfl, rfl⟩
        go_wp2_with fail
        rw [E.out]
        exact ⟨rfl, rfl, G2.out⟩
      all_goals
        rw [hf] at K
        have K2 := K.out
        simp only [Int.reduceEq, Int.reduceNeg, if_false] at K2
        have K3 := Lib.hid K2
        clear K hf K2
        obtain ⟨r3, hr3⟩ : ∃ r3, r3 = intQ true ws (p + 2) := ⟨_, rfl⟩
        have LI2 := Lib.hid (fun W (g : GKeep R W) (h : Prd W R ao c ws (p + 1 + 1)) => LI.out W (p + 1 + 1) g h)
        have hp2 : intQ true ws (p + 1 + 1) = r3 := hr3.symm
        rw [hp2] at LI2
        rw [← hr3] at K3
        clear hr3 hp2 LI
        go_enter Tryz.func253, Tryz.ntmps253
        go_wp2_with fail
        refine N1.out.mono ?_
        rintro e w1 ⟨rfl, h1, g1⟩
        obtain ⟨p1, p2, p3, p4, p5⟩ := PB.out w1 h1 g1
        have T := Lib.hid (NX.out _ _ _ p1 HX.out); have GB := Lib.hid p2; have C3 := Lib.hid p3; have C4 := Lib.hid p4
        clear h1 g1 p1 p2 p3 p4
        go_wp2_with fail
        refine T.out.mono ?_
        rintro e w2 ⟨rfl, h2, g2⟩
        have H2 := Lib.hid h2; have G2 := Lib.hid (grownBy_trans GB.out g2)
        have B3 := Lib.hid (blk_keep C3.out g2 (by omega)); have X3 := Lib.hid (blk_keep C4.out g2 (by omega))
        have z2 := g2.size
        simp at z2
        obtain ⟨⟨x0, x1, x2, x3, x4, x5, x6⟩, xf⟩ := nd7 X3.out
        have r0 : ¬ (w1.heap.size = w.heap.size) := by omega
        have r0' : ¬ (w.heap.size = w1.heap.size) := by omega
        clear h2 g2 T GB C3 C4
        go_wp2_with fail
        refine Calls.mono (LI2.out _ ?_ ?_) ?_
        · exact G.out.step (grown_belowI G2.out ((Below.refl w.heap.size w2).setCell (p := ⟨w1.heap.size, 3, none⟩) (by simp; omega) _))
        · exact H2.out.belowB HR HWD.out ((Below.refl w.heap.size w2).setCell (p := ⟨w1.heap.size, 3, none⟩) (by simp; omega) _)
        intro e w4 hp4
        cases r3 with
        | none =>
          obtain ⟨rfl, g4⟩ := hp4
          have G4 := Lib.hid (grownBy_trans (grown_belowI G2.out ((Below.refl w.heap.size w2).setCell (p := ⟨w1.heap.size, 3, none⟩) (by simp; omega) _)) g4)
          have E := K3.out
          simp only at E
          have E2 := Lib.hid E
          clear E g4
          go_wp2_with fail
          rw [E2.out]
          exact ⟨rfl, rfl, G4.out⟩
        | some x =>
          obtain ⟨x, xm⟩ := x
          obtain ⟨rfl, h4, g4⟩ := hp4
          have H4 := Lib.hid h4
          have G4 := Lib.hid (grownBy_trans (grown_belowI G2.out ((Below.refl w.heap.size w2).setCell (p := ⟨w1.heap.size, 3, none⟩) (by simp; omega) _)) g4)
          have X4 := blk_keep (heap_setCell_same w2 w1.heap.size 3 _ _ _ X3.out) g4 (by omega)
          have B4 := blk_keep ((heap_setCell_other w2 ⟨w1.heap.size, 3, none⟩ w.heap.size _ (by simp; omega)).trans B3.out) g4 (by omega)
          obtain ⟨⟨b0, b1, b2, b3, b4, b5, b6⟩, bf⟩ := nd7 B4
          obtain ⟨⟨y0, y1, y2, y3, y4, y5, y6⟩, yf⟩ := nd7 X4
          have z4 := g4.size
          simp [World.setCell] at z4
          have E := K3.out
          simp only at E
          have E2 := Lib.hid E
          clear E h4 g4 X4 B4 x0 x1 x2 x3 x4 x5 x6 xf
          go_wp2_with fail
          rw [E2.out]
          refine bodyPost_ret (v := .agg #[.int .i64 1, .string ⟨#[]⟩, .int .i64 m, _, .int .i64 x, .bool xm, .slice none 0 0]) (by simp [results, Tryz.results253, go_sem, b0, b1, b2, b3, b4, b5, b6]) rfl ⟨none, 0, rfl, Own.none_, H4.out.belowB HR HWD.out ?_, grown_belowI G4.out ?_⟩
          all_goals
            repeat (refine Below.setCell ?_ (by simp; try omega) _)
            exact Below.refl _ _
end Go.Proofs.YtfpbhedophlnkaaGreatDoor
