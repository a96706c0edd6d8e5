/-
  The model's reader of words: contract of l06Node at keep. For every list of words that are none of them empty. The program's reader of words in a block of its own: contracts of next, last, name; where a word cannot stand there it panics with its place. For every list of words.
-/
import Derived.Test.YtfpbhedophlnkaaGreatDoorSPrD
import Derived.Test.YtfpbhedophlnkaaGreatDoorJT14x
import Derived.Test.YtfpbhedophlnkaaGreatDoorJT5x
import Derived.Test.YtfpbhedophlnkaaGreatDoorJT6x
import Derived.Test.YtfpbhedophlnkaaGreatDoorJT7x
import Derived.Test.YtfpbhedophlnkaaGreatDoorJT8x
import Derived.OneCell
import Derived.BigQuiet
import Derived.Deep.QuietTactic
import Derived.WalkLawsBesides
namespace Go.Proofs.YtfpbhedophlnkaaGreatDoor
open Go.RowKit
set_option linter.unusedSimpArgs false
set_option linter.unusedVariables false

theorem NI.belowB {w W W' : World} {R c B : Nat} {ao : Option Addr} {ws : List ByteArray} {v0 v1 v2 v3 v4 v5 v6 : Value} {s : Nat × Bool} (h : NI w R ao c ws B v0 v1 v2 v3 v4 v5 v6 s W) (hb : Below (B + 1) W W') : NI w R ao c ws B v0 v1 v2 v3 v4 v5 v6 s W' :=
  ⟨h.lrd.belowB (by have := h.hR; have := h.hB; omega) (fun a ha hl => by have := h.hw a ha hl; have := h.hB; omega) hb, (hb.block _ (by have := h.hB; omega)).trans h.ra, (hb.block _ (by omega)).trans h.rb,
    ⟨hb.os.trans h.gr.os, hb.tape.trans h.gr.tape, hb.output.trans h.gr.output, Nat.le_trans h.gr.size hb.size, fun i hi hne => (hb.block i (by have := h.hB; omega)).trans (h.gr.block i hi hne)⟩, h.hR, h.hw, h.hB⟩
theorem restW2 (ws : List ByteArray) (q : Nat) (m : (Int × Bool) × (Nat × Bool)) (hm : m = intS false ws (q, false)) :
    (¬ (1 ≤ m.1.1 ∧ m.1.1 ≤ 6) → restQ ws 2 q = .inl (badS m.2).1) ∧ ((1 ≤ m.1.1 ∧ m.1.1 ≤ 6) → m.2 = (q + 1, false) ∧ restQ ws 2 q = match colsQ ws (q + 1) m.1.1.toNat with | .inl x => .inl x | .inr l => .inr (⟨2, emptyB, 0, 0, 0, false, l⟩, q + 1 + m.1.1.toNat)) := by
  subst hm
  unfold restQ
  cases hx : intQ false ws q with
  | none => simp [intS, hx, badS]
  | some x =>
    by_cases h : 1 ≤ x.1 ∧ x.1 ≤ 6
    · refine ⟨fun hn => ?_, fun _ => ?_⟩
      · simp [intS, hx] at hn; omega
      · simp [intS, hx, h]; cases colsQ ws (q + 1) x.1.toNat <;> rfl
    · refine ⟨fun _ => ?_, fun hn => ?_⟩
      · simp [intS, hx, badS, h]
      · simp [intS, hx] at hn; exact absurd hn h
/-- How far the columns have been read. -/
def KpQ (ws : List ByteArray) (p j : Nat) (l : List Int) (st : Nat × Bool) : Prop :=
  (st.2 = false ∧ colsQ ws p j = .inr l ∧ st.1 = p + j) ∨ (st.2 = true ∧ colsQ ws p j = .inl st.1)
theorem kpQ_step {ws : List ByteArray} {p j : Nat} {l : List Int} {st : Nat × Bool} {y : (Int × Bool) × (Nat × Bool)} (h : KpQ ws p j l st) (hs : st.2 = false) (hy : y = intS false ws st) : KpQ ws p (j + 1) (l ++ [y.1.1]) y.2 := by
  subst hy
  rcases h with ⟨_, h2, h3⟩ | ⟨h1, _⟩
  · unfold intS
    rw [if_neg (by rw [hs]; simp)]
    cases hi : intQ false ws st.1 with
    | none =>
      rw [h3] at hi
      exact .inr ⟨rfl, by rw [colsQ_no h2 hi, h3]⟩
    | some x =>
      rw [h3] at hi
      exact .inl ⟨rfl, colsQ_yes h2 hi, by show st.1 + 1 = _; omega⟩
  · rw [hs] at h1; cases h1
theorem kpQ_end {ws : List ByteArray} {p j cnt : Nat} {l : List Int} {st : Nat × Bool} {r : Nat ⊕ (Nd × Nat)} (h : KpQ ws p j l st) (hj : j ≤ cnt) (he : j = cnt ∨ st.2 = true) (hr : r = match colsQ ws p cnt with | .inl x => .inl x | .inr l => .inr (⟨2, emptyB, 0, 0, 0, false, l⟩, p + cnt)) :
    r = if st.2 = true then .inl st.1 else .inr (⟨2, emptyB, 0, 0, 0, false, l⟩, st.1) := by
  rcases h with ⟨h1, h2, h3⟩ | ⟨h1, h2⟩
  · rcases he with rfl | he
    · rw [hr, h2, if_neg (by rw [h1]; simp), h3]
    · rw [h1] at he; cases he
  · rw [hr, colsQ_stays h2 cnt hj, if_pos h1]
def KpRel (w : World) (R : Nat) (ao : Option Addr) (c : Nat) (ws : List ByteArray) (B p cnt : Nat) (wr : World) (i : Value) : Prop :=
  ∃ (j n cc : Nat) (l : List Int) (a : Option Addr) (st : Nat × Bool), i = .int .i64 j ∧ n = l.length ∧ n = j ∧ j ≤ cnt ∧ NI w R ao c ws B (.int .i64 2) (.string ⟨#[]⟩) (.int .i64 0) (.int .i64 0) (.int .i64 0) (.bool false) (.slice a n cc) st wr ∧ Own wr (B + 1) 3 .i64 a cc l ∧ KpQ ws p j l st ∧ (st.2 = false → 1 ≤ st.1)

set_option maxRecDepth 100000 in
set_option maxHeartbeats 3200000 in
theorem specNode2 {R c p : Nat} {ao : Option Addr} {ws : List ByteArray} (w : World) (hw : Wds ws) (h : Lrd w R ao c ws p false) (hx : ws[p]? = some ⟨#[107, 101, 101, 112]⟩) :
    Calls Tryz.prog 139 #[.pointer (some ⟨R, 0, none⟩)] w (NodeR (restQ ws 2 (p + 1)) R ao c ws w) := by
  have HR := h.lt
  have HWD := Lib.hid h.words
  have HN := Lib.hid hw
  have Y1 := Lib.hid (fun W (hb : Below w.heap.size w W) => l06Word_yes W (h.belowB HR HWD.out hb) hx)
  have FB := Lib.hid (show findB verbsB ⟨#[107, 101, 101, 112]⟩ = 2 by decide)
  have BA := Lib.hid ((Below.refl w.heap.size w).alloc (Nat.le_refl _) (.cells #[.int .i64 0, .string ⟨#[]⟩, .int .i64 0, .int .i64 0, .int .i64 0, .bool false, .slice none 0 0] 92))
  clear h hw hx
  obtain ⟨⟨⟨yx, ym⟩, ys⟩, yh⟩ : ∃ y, y = intS false ws (p + 1, false) := ⟨_, rfl⟩
  have Iy := Lib.hid (fun W (h : Lrd W R ao c ws (p + 1) false) => intS_any false (p + 1, false) W HN.out h)
  rw [← yh] at Iy
  have K := Lib.hid (restW2 ws (p + 1) ((yx, ym), ys) yh)
  have YP := Lib.hid (intS_pos false ws (p + 1, false))
  rw [← yh] at YP
  have IB := Lib.hid (fun W (h : Lrd W R ao c ws ys.1 ys.2) => badS_any ys W h YP.out)
  have II := Lib.hid (fun st W (h : Lrd W R ao c ws st.1 st.2) => intS_any false st W HN.out h)
  obtain ⟨rr, hrr⟩ : ∃ rr, rr = restQ ws 2 (p + 1) := ⟨_, rfl⟩
  rw [← hrr] at K ⊢
  simp only at K
  clear yh YP hrr
  go_enter Tryz.func139, Tryz.ntmps139
  go_wp2_with fail
  refine (verbs_any _).mono ?_
  rintro e w1 ⟨rfl, rfl⟩
  have RV := Lib.hid (rdS_verbs (w := w.alloc (.cells #[.int .i64 0, .string ⟨#[]⟩, .int .i64 0, .int .i64 0, .int .i64 0, .bool false, .slice none 0 0] 92)) (g := w.heap.size + 1) (by simp))
  have BV := Lib.hid (BA.out.alloc (by simp) (.cells #[.string ⟨#[115, 99, 97, 110]⟩, .string ⟨#[102, 105, 108, 116, 101, 114]⟩, .string ⟨#[107, 101, 101, 112]⟩, .string ⟨#[106, 111, 105, 110]⟩, .string ⟨#[98, 111, 116, 104]⟩, .string ⟨#[115, 111, 114, 116]⟩, .string ⟨#[108, 105, 109, 105, 116]⟩, .string ⟨#[111, 110, 99, 101]⟩] 9))
  go_wp2_with fail
  refine (Y1.out _ BV.out).mono ?_
  rintro e w2 ⟨rfl, h2, g2⟩
  have RV2 := Lib.hid (findVerb_any _ w2 (rdS_grown RV.out g2 (by omega)) ⟨#[107, 101, 101, 112]⟩)
  rw [FB.out] at RV2
  have N0 := Lib.hid (ni_new (w := w) (s := (p + 1, false)) (v := .int .i64 2) h2 (grownBy_trans (World.grownBy_alloc _ _ _) g2) HR HWD.out)
  clear h2 g2
  go_wp2_with fail
  refine RV2.out.mono ?_
  rintro e w3 ⟨rfl, rfl⟩
  have r0 : ¬ (w2.heap.size = w.heap.size) := by have := N0.out.hB; omega
  have r0' : ¬ (w.heap.size = w2.heap.size) := fun e => r0 e.symm
  have r1 : w.heap.size ≤ w2.heap.size := Nat.le_of_lt N0.out.hB
  obtain ⟨⟨a0, a1, a2, a3, a4, a5, a6⟩, af⟩ := sd7 N0.out.ra
  obtain ⟨⟨b0, b1, b2, b3, b4, b5, b6⟩, bf⟩ := sd7 N0.out.rb
  clear Y1 FB BA RV BV RV2
  go_wp2_with fail
  refine (Iy.out _ N0.out.lrd).mono ?_
  rintro e w4 ⟨rfl, h4, g4⟩
  have M1 := Lib.hid (N0.out.call h4 g4)
  clear a0 a1 a2 a3 a4 a5 a6 b0 b1 b2 b3 b4 b5 b6 af bf h4 g4
  obtain ⟨⟨a0, a1, a2, a3, a4, a5, a6⟩, af⟩ := sd7 M1.out.ra
  obtain ⟨⟨b0, b1, b2, b3, b4, b5, b6⟩, bf⟩ := sd7 M1.out.rb
  have N1 := M1
  go_wp2_with fail
  refine (l01In_any _ _ _ _).mono ?_
  rintro e w5 ⟨rfl, rfl⟩
  by_cases hm : 1 ≤ yx ∧ yx ≤ 6
  · obtain ⟨cnt, rfl⟩ : ∃ cnt : Nat, yx = cnt := ⟨yx.toNat, by omega⟩
    obtain ⟨rfl, E0⟩ := K.out.2 hm
    rw [Int.toNat_natCast] at E0
    have E := Lib.hid E0
    have d1 : (decide (1 ≤ (cnt : Int)) && decide ((cnt : Int) ≤ 6)) = true := by simpa using hm
    have hc6 : cnt ≤ 6 := by omega
    rw [d1]
    have P0 := Lib.hid (show KpRel w R ao c ws w2.heap.size (p + 1 + 1) cnt w4 (.int .i64 0) from ⟨0, 0, 0, [], none, (p + 1 + 1, false), rfl, rfl, rfl, Nat.zero_le _, N1.out, Own.none_, .inl ⟨rfl, rfl, rfl⟩, fun _ => by simp⟩)
    clear K E0 hm IB Iy d1 a0 a1 a2 a3 a4 a5 a6 b0 b1 b2 b3 b4 b5 b6 af bf N0 M1 N1
    go_wp2_with fail
    go_loopw [6] (fun i wr => KpRel w R ao c ws w2.heap.size (p + 1 + 1) cnt wr i) (fun i _ => cnt - (intOf i).toNat)
    case atStart => exact P0.out
    case round =>
      clear P0
      obtain ⟨j, n, cc, l, a, st, rfl, hn, hnj, hj, N, O, Q, SP⟩ := hrel
      have NN := Lib.hid N; have OO := Lib.hid O; have QQ := Lib.hid Q; have HNL := Lib.hid hn; have HNJ := Lib.hid hnj
      have c2 := lrd_c2 N.lrd
      obtain ⟨⟨a0, a1, a2, a3, a4, a5, a6⟩, af⟩ := sd7 N.ra
      obtain ⟨⟨b0, b1, b2, b3, b4, b5, b6⟩, bf⟩ := sd7 N.rb
      clear N O Q hn hnj
      by_cases hlt : j < cnt
      · have i1 : (j : Int) < (cnt : Int) := by omega
        cases hst : st.2 with
        | true =>
          rw [hst] at c2
          have E2 := Lib.hid (kpQ_end QQ.out hj (.inr hst) E.out)
          go_wp2_with fail
          refine bodyPost_ret (v := .agg #[.int .i64 2, .string ⟨#[]⟩, .int .i64 0, .int .i64 0, .int .i64 0, .bool false, .slice a n cc]) (by simp [results, Tryz.results139, go_sem, a0, a1, a2, a3, a4, a5, a6]) rfl (nodeR_if (x := ⟨2, emptyB, 0, 0, 0, false, l⟩) (s := st) E2.out ⟨a, cc, by rw [HNL.out]; rfl, ?_, (ni_fin NN.out ?_).1, (ni_fin NN.out ?_).2⟩)
          · refine Own.base_le (base := w2.heap.size + 1) ?_ (by omega)
            repeat (refine Own.far ?_ (fun x hx => by have := (OO.out.lt x hx).1; simp; omega) _)
            exact OO.out
          all_goals
            repeat (refine Below.setCell ?_ (by first | exact Nat.le_refl _ | exact r1) _)
            exact Below.refl _ _
        | false =>
          rw [hst] at c2
          obtain ⟨⟨⟨yx, ym⟩, ys⟩, yh⟩ : ∃ y, y = intS false ws st := ⟨_, rfl⟩
          have QN := Lib.hid (kpQ_step QQ.out hst yh)
          have IY := Lib.hid (II.out st)
          have SN := Lib.hid (intS_pos false ws st)
          rw [← yh] at IY SN
          clear yh QQ
          go_wp2_with fail
          refine (IY.out _ NN.out.lrd).mono ?_
          rintro e w6 ⟨rfl, h6, g6⟩
          have M := Lib.hid (NN.out.call h6 g6)
          have O6 := Lib.hid (OO.out.grown g6 (fun x hx => by have := (OO.out.lt x hx).1; simp; omega))
          have OL := Lib.hid (fun x hx => (O6.out.lt x hx).1)
          have z6 := M.out.lt
          clear h6 g6 a0 a1 a2 a3 a4 a5 a6 b0 b1 b2 b3 b4 b5 b6 af bf c2
          obtain ⟨⟨b0, b1, b2, b3, b4, b5, b6⟩, bf⟩ := sd7 M.out.rb
          clear b0 b1 b2 b3 b4 b5
          simp only
          go_wp2_with (at_builtin; go_must (refine wpList_appendI _ rfl (.tmp 98) (.tmp 100) 47 rfl (w2.heap.size + 1) 3 Tryz.underlying47 Tryz.infoInt a cc n l rfl HNL.out (O6.out.alloc _) w6.heap.size 1 yx rfl (cell_one _ _ _) (by have := HNL.out; have := HNJ.out; omega) (by first | omega | (simp; omega)) ?_; intro a7 c7 w7 o7 g7; have B7 := Lib.hid (below_grow ((Below.refl (w2.heap.size + 1) w6).alloc (by omega) _) (by first | omega | (simp; omega)) g7 (fun x hx => OL.out x hx)); have M7 := Lib.hid (M.out.belowB B7.out); have O7 := Lib.hid o7; have x6 := (sd7 M7.out.rb).1.2.2.2.2.2.2; have xf := (sd7 M7.out.rb).2; clear o7 g7))
          go_roundw
          case rel => exact ⟨j + 1, l.length + 1, c7, l ++ [yx], a7, ys, by go_num, by simp, by have := HNL.out; have := HNJ.out; omega, hlt, M7.out.set 6 _ rfl, O7.out.far (fun x hx => by have := (O7.out.lt x hx).1; first | omega | (simp; omega)) _, QN.out, SN.out⟩
          case measure => simp [intOf]; omega
      · have i1 : ¬ (j : Int) < (cnt : Int) := by omega
        have E2 := Lib.hid (kpQ_end QQ.out hj (.inl (by omega)) E.out)
        go_wp2_with fail
        refine bodyPost_ret (v := .agg #[.int .i64 2, .string ⟨#[]⟩, .int .i64 0, .int .i64 0, .int .i64 0, .bool false, .slice a n cc]) (by simp [results, Tryz.results139, go_sem, a0, a1, a2, a3, a4, a5, a6]) rfl (nodeR_if (x := ⟨2, emptyB, 0, 0, 0, false, l⟩) (s := st) E2.out ⟨a, cc, by rw [HNL.out]; rfl, ?_, (ni_fin NN.out ?_).1, (ni_fin NN.out ?_).2⟩)
        · refine Own.base_le (base := w2.heap.size + 1) ?_ (by omega)
          repeat (refine Own.far ?_ (fun x hx => by have := (OO.out.lt x hx).1; simp; omega) _)
          exact OO.out
        all_goals
          repeat (refine Below.setCell ?_ (by first | exact Nat.le_refl _ | exact r1) _)
          exact Below.refl _ _
  · have E := Lib.hid (K.out.1 hm)
    have d1 : (decide (1 ≤ yx) && decide (yx ≤ 6)) = false := by
      rw [← Bool.not_eq_true]; simpa using hm
    rw [d1]
    clear K d1 hm II
    go_wp2_with fail
    refine (IB.out _ N1.out.lrd).mono ?_
    rintro e w6 ⟨rfl, h6, g6⟩
    have N2 := Lib.hid (N1.out.call h6 g6)
    clear h6 g6 a0 a1 a2 a3 a4 a5 a6 b0 b1 b2 b3 b4 b5 b6 af bf
    go_wp2_with fail
    go_loopw [6] (fun i wr => i = .int .i64 0 ∧ wr = w6) (fun _ _ => 0)
    case atStart => exact ⟨rfl, rfl⟩
    case round =>
      obtain ⟨rfl, rfl⟩ := hrel
      have c2 := lrd_c2 N2.out.lrd
      rw [badS_two] at c2
      obtain ⟨⟨a0, a1, a2, a3, a4, a5, a6⟩, af⟩ := sd7 N2.out.ra
      obtain ⟨⟨b0, b1, b2, b3, b4, b5, b6⟩, bf⟩ := sd7 N2.out.rb
      by_cases h0 : 0 < yx
      · have d0 : decide (0 < yx) = true := by simpa using h0
        go_wp2_with fail
        refine bodyPost_ret (v := .agg #[.int .i64 2, .string ⟨#[]⟩, .int .i64 0, .int .i64 0, .int .i64 0, .bool false, .slice none 0 0]) (by simp [results, Tryz.results139, go_sem, a0, a1, a2, a3, a4, a5, a6]) rfl (nodeR_no (x := ⟨2, emptyB, 0, 0, 0, false, []⟩) (s := badS ys) E.out (badS_two _) ⟨none, 0, rfl, Own.none_, (ni_fin N2.out ?_).1, (ni_fin N2.out ?_).2⟩)
        all_goals
          repeat (refine Below.setCell ?_ (by first | exact Nat.le_refl _ | exact r1) _)
          exact Below.refl _ _
      · have d0 : decide (0 < yx) = false := by simpa using h0
        go_wp2_with fail
        refine bodyPost_ret (v := .agg #[.int .i64 2, .string ⟨#[]⟩, .int .i64 0, .int .i64 0, .int .i64 0, .bool false, .slice none 0 0]) (by simp [results, Tryz.results139, go_sem, a0, a1, a2, a3, a4, a5, a6]) rfl (nodeR_no (x := ⟨2, emptyB, 0, 0, 0, false, []⟩) (s := badS ys) E.out (badS_two _) ⟨none, 0, rfl, Own.none_, (ni_fin N2.out ?_).1, (ni_fin N2.out ?_).2⟩)
        all_goals
          repeat (refine Below.setCell ?_ (by first | exact Nat.le_refl _ | exact r1) _)
          exact Below.refl _ _
end Go.Proofs.YtfpbhedophlnkaaGreatDoor
namespace Go.Proofs.YtfpbhedophlnkaaGreatDoor
open Go.RowKit
set_option linter.unusedSimpArgs false
set_option linter.unusedVariables false

/-- The reader in block R over the words ws, at place p. -/
def Prd (w : World) (R : Nat) (ao : Option Addr) (c : Nat) (ws : List ByteArray) (p : Nat) : Prop :=
  w.heap[R]? = some (.cells #[.slice ao ws.length c, .int .i64 p] 149 (0, 0)) ∧ RdS w ao ws ∧ p ≤ ws.length ∧ (∀ a, ao = some a → ws ≠ [] → a.block ≠ R) ∧ ws.length ≤ 2000
/-- The call returned, and the reader stands at p; nothing else that was there has turned. -/
def TookI6 (v : Value) (R : Nat) (ao : Option Addr) (c : Nat) (ws : List ByteArray) (p : Nat) (w : World) (e : Ending) (w' : World) : Prop :=
  e = .returned v ∧ Prd w' R ao c ws p ∧ w.grownBy w' (some R)
/-- The call panicked with a place; nothing but the reader has turned. -/
def Pnk (q : Nat) (R : Nat) (w : World) (e : Ending) (w' : World) : Prop :=
  e = .panicked [{ v := .iface 146 (.int .i64 q), recovered := false }] ∧ w.grownBy w' (some R)
section
variable {w w1 w' : World} {R c p q : Nat} {ao : Option Addr} {ws : List ByteArray}
theorem rdS_farI (h : RdS w ao ws) (hne : ∀ a, ao = some a → ws ≠ [] → a.block ≠ R) (o : Nat) (v : Value) : RdS (w.setCell ⟨R, o, none⟩ v) ao ws := by
  rcases h with h | ⟨b, off, rfl, hc⟩
  · exact .inl h
  · by_cases hl : ws = []
    · exact .inl hl
    · have hb := hne _ rfl hl
      exact .inr ⟨b, off, rfl, fun i hi => by rw [World.cell?_setCell_other _ _ _ _ (by intro e; simp at e; exact hb e.1.symm)]; exact hc i hi⟩
theorem Prd.lt (h : Prd w R ao c ws p) : R < w.heap.size := (Array.getElem?_eq_some_iff.1 h.1).1
theorem Prd.below (h : Prd w R ao c ws p) (hb : Below w.heap.size w w') : Prd w' R ao c ws p :=
  ⟨(hb.block R h.lt).trans h.1, h.2.1.below hb, h.2.2.1, h.2.2.2.1, h.2.2.2.2⟩
theorem prd_set1 {z : Int} (h : Prd w R ao c ws p) (hz : z = q) (hq : q ≤ ws.length) : Prd (w.setCell ⟨R, 1, none⟩ (.int .i64 z)) R ao c ws q :=
  ⟨by rw [hz]; rw [heap_setCell_same w R 1 _ _ _ h.1]; rfl, rdS_farI h.2.1 h.2.2.2.1 1 _, hq, h.2.2.2.1, h.2.2.2.2⟩
theorem prd_grown (h : w.grownBy w1 (some R)) (o : Nat) (v : Value) : w.grownBy (w1.setCell ⟨R, o, none⟩ v) (some R) :=
  grownBy_trans h ⟨rfl, rfl, rfl, by simp [World.setCell], fun i _ hi => heap_setCell_other w1 ⟨R, o, none⟩ i _ (fun e => hi (by simp [e]))⟩
theorem prd_c1 (h : Prd w R ao c ws p) : w.cell? ⟨R, 1, none⟩ = some (.int .i64 p) := cell_of_row w R 1 _ _ _ h.1
end
theorem w64i {p : Nat} (h : p ≤ 2000) : RowKit.wrap64 ((p : Int) + 1) = ((p + 1 : Nat) : Int) := by
  unfold RowKit.wrap64; push_cast; omega

set_option maxRecDepth 100000 in
theorem next_yes {R c p : Nat} {ao : Option Addr} {ws : List ByteArray} {x : ByteArray} (w : World) (h : Prd w R ao c ws p) (hx : ws[p]? = some x) :
    Calls Tryz.prog 251 #[.pointer (some ⟨R, 0, none⟩)] w (TookI6 (.string x) R ao c ws (p + 1) w) := by
  have HL := Lib.hid h
  have hlt : p < ws.length := (List.getElem?_eq_some_iff.1 hx).1
  obtain ⟨hh, hr, hp, hne, h2⟩ := h
  have h2k : p ≤ 2000 := by omega
  have c0 : w.cell? ⟨R, 0, none⟩ = some (.slice ao ws.length c) := cell_of_row w R 0 _ _ _ hh
  have c1 : w.cell? ⟨R, 1, none⟩ = some (.int .i64 p) := cell_of_row w R 1 _ _ _ hh
  have f1 : w.frozen? ⟨R, 1, none⟩ = false := by simp [World.frozen?, hh]
  obtain ⟨b, off, rfl, hc⟩ : ∃ b off, ao = some ⟨b, off, none⟩ ∧ ∀ i, i < ws.length → w.cell? ⟨b, off + i, none⟩ = some (.string (ws.getD i ByteArray.empty)) := by
    rcases hr with rfl | h
    · simp at hlt
    · exact h
  have hwne : ws ≠ [] := by intro e; rw [e] at hlt; simp at hlt
  have hbR := hne _ rfl hwne
  simp only at hbR
  have hbR' : ¬ R = b := fun e => hbR e.symm
  have hcj := hc p hlt
  rw [List.getD_eq_getElem?_getD, hx, Option.getD_some] at hcj
  have d1 : ((p : Int) == (ws.length : Int)) = false := by simp; omega
  have i1 : (p : Int) < (ws.length : Int) := by omega
  have i0 : (0 : Int) ≤ (p : Int) := by omega
  clear hh hc hp hne h2 hx hwne
  go_enter Tryz.func251, Tryz.ntmps251
  go_wp2_with fail
  go_quiet (fail)
  go_wp2_with fail
  go_quiet (fail)
  go_wp2_with fail
  go_ret
  exact ⟨rfl, (prd_set1 (HL.out.below (below_drewN (Below.refl _ _) _)) (by first | exact w64i h2k | (push_cast; rfl)) hlt).below (below_drewN (Below.refl _ _) _), grownBy_below (prd_grown (grownBy_below (World.grownBy.refl w (some R)) (below_drewN (Below.refl _ _) _)) 1 _) (below_drewN (Below.refl _ _) _)⟩
set_option maxRecDepth 100000 in
theorem next_end {R c p : Nat} {ao : Option Addr} {ws : List ByteArray} (w : World) (h : Prd w R ao c ws p) (hx : ws[p]? = none) :
    Calls Tryz.prog 251 #[.pointer (some ⟨R, 0, none⟩)] w (Pnk p R w) := by
  have HL := Lib.hid h
  have hge : ws.length ≤ p := by
    rcases Nat.lt_or_ge p ws.length with h1 | h1
    · rw [List.getElem?_eq_getElem h1] at hx; cases hx
    · exact h1
  obtain ⟨hh, hr, hp, hne, h2⟩ := h
  have c0 : w.cell? ⟨R, 0, none⟩ = some (.slice ao ws.length c) := cell_of_row w R 0 _ _ _ hh
  have c1 : w.cell? ⟨R, 1, none⟩ = some (.int .i64 p) := cell_of_row w R 1 _ _ _ hh
  have d1 : ((p : Int) == (ws.length : Int)) = true := by simp; omega
  clear hh hr hp hne h2 hx
  go_enter Tryz.func251, Tryz.ntmps251
  go_wp2_with fail
  go_quiet (fail)
  go_wp2_with fail
  exact ⟨rfl, rfl, grownBy_below (World.grownBy.refl w (some R)) (below_drewN (Below.refl _ _) _)⟩
theorem last_any {R c p : Nat} {ao : Option Addr} {ws : List ByteArray} (w : World) (h : Prd w R ao c ws (p + 1)) :
    Calls Tryz.prog 257 #[.pointer (some ⟨R, 0, none⟩)] w fun e w' => e = .returned (.int .i64 p) ∧ w = w' := by
  have c1 := prd_c1 h
  have h2k : p ≤ 2000 := by have := h.2.2.1; have := h.2.2.2.2; omega
  clear h
  go_enter Tryz.func257, Tryz.ntmps257
  go_wp2_with fail
  go_ret
  exact ⟨by first | rfl | (congr 2; omega) | simp, rfl⟩
def nameW (ws : List ByteArray) (p : Nat) : Option ByteArray := match ws[p]? with | none => none | some s => if wordB s.data.toList = true then some s else none
/-- A word that is a name. -/
def NameQ (r : Option ByteArray) (R : Nat) (ao : Option Addr) (c : Nat) (ws : List ByteArray) (p : Nat) (w : World) (e : Ending) (w' : World) : Prop :=
  match r with
  | none => Pnk p R w e w'
  | some x => TookI6 (.string x) R ao c ws (p + 1) w e w'
set_option maxRecDepth 100000 in
theorem name_any {R c p : Nat} {ao : Option Addr} {ws : List ByteArray} (w : World) (hw : ∀ s ∈ ws, s.size ≤ 2000) (h : Prd w R ao c ws p) :
    Calls Tryz.prog 252 #[.pointer (some ⟨R, 0, none⟩)] w (NameQ (nameW ws p) R ao c ws p w) := by
  cases hx : ws[p]? with
  | none =>
    have T := Lib.hid (next_end w h hx)
    rw [show nameW ws p = none by unfold nameW; rw [hx]]
    clear h hx hw
    go_enter Tryz.func252, Tryz.ntmps252
    go_wp2_with fail
    refine T.out.mono ?_
    rintro e w1 ⟨rfl, g1⟩
    go_wp2_with fail
    exact ⟨rfl, rfl, g1⟩
  | some s =>
    have T := Lib.hid (next_yes w h hx)
    have WK := Lib.hid (fun W => implWordOk_any s W (by have := hw s (List.mem_of_getElem? hx); unfold maxLen; omega))
    cases hb : wordB s.data.toList with
    | true =>
      rw [hb] at WK
      rw [show nameW ws p = some s by unfold nameW; rw [hx]; simp [hb]]
      clear h hx hw hb
      go_enter Tryz.func252, Tryz.ntmps252
      go_wp2_with fail
      refine T.out.mono ?_
      rintro e w1 ⟨rfl, h1, g1⟩
      have H1 := Lib.hid h1; have G1 := Lib.hid g1
      clear h1 g1
      go_wp2_with fail
      refine (WK.out _).mono ?_
      rintro e w' ⟨rfl, rfl⟩
      go_wp2_with fail
      go_ret
      exact ⟨rfl, H1.out, G1.out⟩
    | false =>
      rw [hb] at WK
      rw [show nameW ws p = none by unfold nameW; rw [hx]; simp [hb]]
      clear h hx hw hb
      go_enter Tryz.func252, Tryz.ntmps252
      go_wp2_with fail
      refine T.out.mono ?_
      rintro e w1 ⟨rfl, h1, g1⟩
      have LA := Lib.hid (last_any w1 h1)
      have G1 := Lib.hid g1
      clear h1 g1
      go_wp2_with fail
      refine (WK.out _).mono ?_
      rintro e w' ⟨rfl, rfl⟩
      go_wp2_with fail
      refine LA.out.mono ?_
      rintro e w' ⟨rfl, rfl⟩
      go_wp2_with fail
      exact ⟨rfl, rfl, G1.out⟩
end Go.Proofs.YtfpbhedophlnkaaGreatDoor
