/-
  The model's reader of words: contract of l06Node at filter. For every list of words that are none of them empty. append of one value of one cell to a row that the call itself made, or to nil. No walk. append of one number to a row of numbers of the call's own. No walk.
-/
import Derived.Test.YtfpbhedophlnkaaGreatDoorSPrD
import Derived.Test.YtfpbhedophlnkaaGreatDoorJT3x
import Derived.Maps.AppendAt
import Derived.OwnWalk
import Derived.Test.YtfpbhedophlnkaaGreatDoorJT4x
namespace Go.Proofs.YtfpbhedophlnkaaGreatDoor
open Go.RowKit
set_option linter.unusedSimpArgs false
set_option linter.unusedVariables false

theorem rdS_ops {w : World} {g : Nat} (hg : g = w.heap.size) : RdS (w.alloc (.cells #[.string ⟨#[61]⟩, .string ⟨#[60]⟩, .string ⟨#[62]⟩, .string ⟨#[110, 111, 110, 101]⟩] 9)) (some ⟨g, 0, none⟩) opsB := by
  subst hg
  refine .inr ⟨w.heap.size, 0, rfl, fun i hi => ?_⟩
  have hc := fun o => cell_of_row (w.alloc (.cells #[.string ⟨#[61]⟩, .string ⟨#[60]⟩, .string ⟨#[62]⟩, .string ⟨#[110, 111, 110, 101]⟩] 9)) w.heap.size o _ _ _ (heap_alloc_new w _)
  rw [Nat.zero_add, hc]
  have hi' : i < 4 := hi
  have hk : i = 0 ∨ i = 1 ∨ i = 2 ∨ i = 3 := by omega
  rcases hk with rfl | rfl | rfl | rfl <;> rfl
theorem findOp_any (g : Nat) (w : World) (h : RdS w (some ⟨g, 0, none⟩) opsB) (s : ByteArray) :
    Calls Tryz.prog 210 #[.slice (some ⟨g, 0, none⟩) 4 4, .string s] w fun e w' => e = .returned (.int .i64 (findB opsB s)) ∧ w = w' := findL_any _ 4 opsB s w h (by decide)
theorem find_none : findB opsB ⟨#[]⟩ = -1 := by decide
theorem restW1 (ws : List ByteArray) (q : Nat) (y : (Int × Bool) × (Nat × Bool)) (o : ByteArray × (Nat × Bool)) (z : (Int × Bool) × (Nat × Bool)) (f : Int) (hy : y = intS false ws (q, false)) (ho : o = wordS ws y.2) (hz : z = intS true ws o.2) (hf : f = findB opsB o.1) :
    (f = -1 → restQ ws 1 q = .inl (badS o.2).1) ∧ (f ≠ -1 → o.2.2 = false) ∧ (f = 3 → restQ ws 1 q = .inr (⟨1, emptyB, y.1.1, 3, 0, false, []⟩, o.2.1)) ∧
    (f ≠ -1 → f ≠ 3 → restQ ws 1 q = if z.2.2 = true then .inl z.2.1 else .inr (⟨1, emptyB, y.1.1, f, z.1.1, z.1.2, []⟩, z.2.1)) := by
  subst hz hf ho hy
  unfold restQ
  cases hx : intQ false ws q with
  | none => simp [intS, hx, wordS, badS, find_none]
  | some x =>
    cases hw : ws[q + 1]? with
    | none => simp [intS, hx, wordS, hw, badS, find_none]
    | some u =>
      by_cases h1 : findB opsB u = -1
      · simp [intS, hx, wordS, hw, badS, h1]
      · by_cases h3 : findB opsB u = 3
        · simp [intS, hx, wordS, hw, badS, h3]
        · cases hv : intQ true ws (q + 2) <;> simp [intS, hx, wordS, hw, badS, h1, h3, hv]

set_option maxRecDepth 100000 in
set_option maxHeartbeats 3200000 in
theorem specNode1 {R c p : Nat} {ao : Option Addr} {ws : List ByteArray} (w : World) (hw : Wds ws) (h : Lrd w R ao c ws p false) (hx : ws[p]? = some ⟨#[102, 105, 108, 116, 101, 114]⟩) :
    Calls Tryz.prog 139 #[.pointer (some ⟨R, 0, none⟩)] w (NodeR (restQ ws 1 (p + 1)) R ao c ws w) := by
  have HR := h.lt
  have HWD := Lib.hid h.words
  have HN := Lib.hid hw
  have Y1 := Lib.hid (fun W (hb : Below w.heap.size w W) => l06Word_yes W (h.belowB HR HWD.out hb) hx)
  have FB := Lib.hid (show findB verbsB ⟨#[102, 105, 108, 116, 101, 114]⟩ = 1 by decide)
  have BA := Lib.hid ((Below.refl w.heap.size w).alloc (Nat.le_refl _) (.cells #[.int .i64 0, .string ⟨#[]⟩, .int .i64 0, .int .i64 0, .int .i64 0, .bool false, .slice none 0 0] 92))
  clear h hw hx
  obtain ⟨⟨⟨yx, ym⟩, ys⟩, yh⟩ : ∃ y, y = intS false ws (p + 1, false) := ⟨_, rfl⟩
  have Iy := Lib.hid (fun W (h : Lrd W R ao c ws (p + 1) false) => intS_any false (p + 1, false) W HN.out h)
  rw [← yh] at Iy
  obtain ⟨⟨ox, os⟩, oh⟩ : ∃ y, y = wordS ws ys := ⟨_, rfl⟩
  have Io := Lib.hid (fun W (h : Lrd W R ao c ws ys.1 ys.2) => wordS_any ys W h)
  have OP := Lib.hid (wordS_pos ws ys)
  rw [← oh] at Io OP
  obtain ⟨⟨⟨zx, zm⟩, zs⟩, zh⟩ : ∃ y, y = intS true ws os := ⟨_, rfl⟩
  have Iz := Lib.hid (fun W (h : Lrd W R ao c ws os.1 os.2) => intS_any true os W HN.out h)
  rw [← zh] at Iz
  obtain ⟨f, hf⟩ : ∃ f, f = findB opsB ox := ⟨_, rfl⟩
  have K := Lib.hid (restW1 ws (p + 1) ((yx, ym), ys) (ox, os) ((zx, zm), zs) f yh oh zh hf)
  have FO := Lib.hid (fun W g (h : RdS W (some ⟨g, 0, none⟩) opsB) => findOp_any g W h ox)
  have FD := findB_bd opsB ox
  rw [← hf] at FO FD
  simp only at K OP
  have FK : f = -1 ∨ f = 3 ∨ f = 0 ∨ f = 1 ∨ f = 2 := by
    have h4 : opsB.length = 4 := rfl
    rw [h4] at FD
    omega
  have IB := Lib.hid (fun W (h : Lrd W R ao c ws os.1 os.2) => badS_any os W h OP.out)
  clear yh oh zh hf FD OP
  go_enter Tryz.func139, Tryz.ntmps139
  go_wp2_with fail
  refine (verbs_any _).mono ?_
  rintro e w1 ⟨rfl, rfl⟩
  have RV := Lib.hid (rdS_verbs (w := w.alloc (.cells #[.int .i64 0, .string ⟨#[]⟩, .int .i64 0, .int .i64 0, .int .i64 0, .bool false, .slice none 0 0] 92)) (g := w.heap.size + 1) (by simp))
  have BV := Lib.hid (BA.out.alloc (by simp) (.cells #[.string ⟨#[115, 99, 97, 110]⟩, .string ⟨#[102, 105, 108, 116, 101, 114]⟩, .string ⟨#[107, 101, 101, 112]⟩, .string ⟨#[106, 111, 105, 110]⟩, .string ⟨#[98, 111, 116, 104]⟩, .string ⟨#[115, 111, 114, 116]⟩, .string ⟨#[108, 105, 109, 105, 116]⟩, .string ⟨#[111, 110, 99, 101]⟩] 9))
  go_wp2_with fail
  refine (Y1.out _ BV.out).mono ?_
  rintro e w2 ⟨rfl, h2, g2⟩
  have RV2 := Lib.hid (findVerb_any _ w2 (rdS_grown RV.out g2 (by omega)) ⟨#[102, 105, 108, 116, 101, 114]⟩)
  rw [FB.out] at RV2
  have N0 := Lib.hid (ni_new (w := w) (s := (p + 1, false)) (v := .int .i64 1) h2 (grownBy_trans (World.grownBy_alloc _ _ _) g2) HR HWD.out)
  clear h2 g2
  go_wp2_with fail
  refine RV2.out.mono ?_
  rintro e w3 ⟨rfl, rfl⟩
  have r0 : ¬ (w2.heap.size = w.heap.size) := by have := N0.out.hB; omega
  have r0' : ¬ (w.heap.size = w2.heap.size) := fun e => r0 e.symm
  have r1 : w.heap.size ≤ w2.heap.size := Nat.le_of_lt N0.out.hB
  obtain ⟨⟨a0, a1, a2, a3, a4, a5, a6⟩, af⟩ := sd7 N0.out.ra
  obtain ⟨⟨b0, b1, b2, b3, b4, b5, b6⟩, bf⟩ := sd7 N0.out.rb
  clear Y1 FB BA RV BV RV2
  go_wp2_with fail
  refine (Iy.out _ N0.out.lrd).mono ?_
  rintro e w4 ⟨rfl, h4, g4⟩
  have M1 := Lib.hid (N0.out.call h4 g4)
  clear a0 a1 a2 a3 a4 a5 a6 b0 b1 b2 b3 b4 b5 b6 af bf h4 g4
  obtain ⟨⟨a0, a1, a2, a3, a4, a5, a6⟩, af⟩ := sd7 M1.out.ra
  obtain ⟨⟨b0, b1, b2, b3, b4, b5, b6⟩, bf⟩ := sd7 M1.out.rb
  have N1 := Lib.hid (M1.out.set 2 (.int .i64 yx) rfl)
  go_wp2_with fail
  refine (ops_any _).mono ?_
  rintro e w5 ⟨rfl, rfl⟩
  have g5 : w4.heap.size ≠ R := by have h1 := M1.out.gr.size; omega
  have RV := Lib.hid (rdS_ops (w := w4.setCell ⟨w2.heap.size, 2, none⟩ (.int .i64 yx)) (g := w4.heap.size) (by simp))
  have M2 := Lib.hid (N1.out.below ((Below.refl _ _).alloc (Nat.le_refl _) (.cells #[.string ⟨#[61]⟩, .string ⟨#[60]⟩, .string ⟨#[62]⟩, .string ⟨#[110, 111, 110, 101]⟩] 9)))
  clear a0 a1 a2 a3 a4 a5 a6 b0 b1 b2 b3 b4 b5 b6 af bf
  go_wp2_with fail
  refine (Io.out _ M2.out.lrd).mono ?_
  rintro e w6 ⟨rfl, h6, g6⟩
  have FV := Lib.hid (FO.out _ _ (rdS_grown RV.out g6 g5))
  have M3 := Lib.hid (M2.out.call h6 g6)
  clear h6 g6 RV M2 FO
  go_wp2_with fail
  refine FV.out.mono ?_
  rintro e w7 ⟨rfl, rfl⟩
  obtain ⟨⟨a0, a1, a2, a3, a4, a5, a6⟩, af⟩ := sd7 M3.out.ra
  obtain ⟨⟨b0, b1, b2, b3, b4, b5, b6⟩, bf⟩ := sd7 M3.out.rb
  have N3 := Lib.hid (M3.out.set 3 (.int .i64 f) rfl)
  clear FV g5
  rcases FK with rfl | rfl | hk
  · have E := Lib.hid (K.out.1 rfl)
    clear K
    go_wp2_with fail
    refine (IB.out _ N3.out.lrd).mono ?_
    rintro e w8 ⟨rfl, h8, g8⟩
    have N4 := Lib.hid (N3.out.call h8 g8)
    clear a0 a1 a2 a3 a4 a5 a6 b0 b1 b2 b3 b4 b5 b6 af bf h8 g8
    obtain ⟨⟨a0, a1, a2, a3, a4, a5, a6⟩, af⟩ := sd7 N4.out.ra
    obtain ⟨⟨b0, b1, b2, b3, b4, b5, b6⟩, bf⟩ := sd7 N4.out.rb
    have c2 := lrd_c2 N4.out.lrd
    rw [badS_two] at c2
    go_wp2_with fail
    refine bodyPost_ret (v := .agg #[.int .i64 1, .string ⟨#[]⟩, .int .i64 yx, .int .i64 (-1), .int .i64 0, .bool false, .slice none 0 0]) (by simp [results, Tryz.results139, go_sem, a0, a1, a2, a3, a4, a5, a6]) rfl (nodeR_no (x := ⟨1, emptyB, yx, -1, 0, false, []⟩) (s := badS os) E.out (badS_two _) ⟨none, 0, rfl, Own.none_, (ni_fin N4.out ?_).1, (ni_fin N4.out ?_).2⟩)
    all_goals
      repeat (refine Below.setCell ?_ (by first | exact Nat.le_refl _ | exact r1) _)
      exact Below.refl _ _
  · have E := Lib.hid (K.out.2.2.1 rfl)
    have FF := K.out.2.1 (by decide)
    have c2 := lrd_c2 N3.out.lrd
    rw [FF] at c2
    clear K
    go_wp2_with fail
    refine bodyPost_ret (v := .agg #[.int .i64 1, .string ⟨#[]⟩, .int .i64 yx, .int .i64 3, .int .i64 0, .bool false, .slice none 0 0]) (by simp [results, Tryz.results139, go_sem, a0, a1, a2, a3, a4, a5, a6]) rfl (nodeR_yes (x := ⟨1, emptyB, yx, 3, 0, false, []⟩) (s := os) E.out FF ⟨none, 0, rfl, Own.none_, (ni_fin M3.out ?_).1, (ni_fin M3.out ?_).2⟩)
    all_goals
      repeat (refine Below.setCell ?_ (by first | exact Nat.le_refl _ | exact r1) _)
      exact Below.refl _ _
  · have E := Lib.hid (K.out.2.2.2 (by omega) (by omega))
    have FF := K.out.2.1 (by omega)
    have c2 := lrd_c2 N3.out.lrd
    rw [FF] at c2
    have HL := N3.out.lrd
    clear K
    rcases hk with rfl | rfl | rfl
    · go_wp2_with fail
      refine (Iz.out _ HL).mono ?_
      rintro e w8 ⟨rfl, h8, g8⟩
      have M4 := Lib.hid (N3.out.call h8 g8)
      clear a0 a1 a2 a3 a4 a5 a6 b0 b1 b2 b3 b4 b5 b6 af bf h8 g8 c2 HL
      obtain ⟨⟨a0, a1, a2, a3, a4, a5, a6⟩, af⟩ := sd7 M4.out.ra
      obtain ⟨⟨b0, b1, b2, b3, b4, b5, b6⟩, bf⟩ := sd7 M4.out.rb
      go_wp2_with fail
      refine bodyPost_ret (v := .agg #[.int .i64 1, .string ⟨#[]⟩, .int .i64 yx, .int .i64 0, .int .i64 zx, .bool zm, .slice none 0 0]) (by simp [results, Tryz.results139, go_sem, a0, a1, a2, a3, a4, a5, a6]) rfl (nodeR_if (x := ⟨1, emptyB, yx, 0, zx, zm, []⟩) (s := zs) E.out ⟨none, 0, rfl, Own.none_, (ni_fin M4.out ?_).1, (ni_fin M4.out ?_).2⟩)
      all_goals
        repeat (refine Below.setCell ?_ (by first | exact Nat.le_refl _ | exact r1) _)
        exact Below.refl _ _
    · go_wp2_with fail
      refine (Iz.out _ HL).mono ?_
      rintro e w8 ⟨rfl, h8, g8⟩
      have M4 := Lib.hid (N3.out.call h8 g8)
      clear a0 a1 a2 a3 a4 a5 a6 b0 b1 b2 b3 b4 b5 b6 af bf h8 g8 c2 HL
      obtain ⟨⟨a0, a1, a2, a3, a4, a5, a6⟩, af⟩ := sd7 M4.out.ra
      obtain ⟨⟨b0, b1, b2, b3, b4, b5, b6⟩, bf⟩ := sd7 M4.out.rb
      go_wp2_with fail
      refine bodyPost_ret (v := .agg #[.int .i64 1, .string ⟨#[]⟩, .int .i64 yx, .int .i64 1, .int .i64 zx, .bool zm, .slice none 0 0]) (by simp [results, Tryz.results139, go_sem, a0, a1, a2, a3, a4, a5, a6]) rfl (nodeR_if (x := ⟨1, emptyB, yx, 1, zx, zm, []⟩) (s := zs) E.out ⟨none, 0, rfl, Own.none_, (ni_fin M4.out ?_).1, (ni_fin M4.out ?_).2⟩)
      all_goals
        repeat (refine Below.setCell ?_ (by first | exact Nat.le_refl _ | exact r1) _)
        exact Below.refl _ _
    · go_wp2_with fail
      refine (Iz.out _ HL).mono ?_
      rintro e w8 ⟨rfl, h8, g8⟩
      have M4 := Lib.hid (N3.out.call h8 g8)
      clear a0 a1 a2 a3 a4 a5 a6 b0 b1 b2 b3 b4 b5 b6 af bf h8 g8 c2 HL
      obtain ⟨⟨a0, a1, a2, a3, a4, a5, a6⟩, af⟩ := sd7 M4.out.ra
      obtain ⟨⟨b0, b1, b2, b3, b4, b5, b6⟩, bf⟩ := sd7 M4.out.rb
      go_wp2_with fail
      refine bodyPost_ret (v := .agg #[.int .i64 1, .string ⟨#[]⟩, .int .i64 yx, .int .i64 2, .int .i64 zx, .bool zm, .slice none 0 0]) (by simp [results, Tryz.results139, go_sem, a0, a1, a2, a3, a4, a5, a6]) rfl (nodeR_if (x := ⟨1, emptyB, yx, 2, zx, zm, []⟩) (s := zs) E.out ⟨none, 0, rfl, Own.none_, (ni_fin M4.out ?_).1, (ni_fin M4.out ?_).2⟩)
      all_goals
        repeat (refine Below.setCell ?_ (by first | exact Nat.le_refl _ | exact r1) _)
        exact Below.refl _ _
end Go.Proofs.YtfpbhedophlnkaaGreatDoor
namespace Go.Proofs.YtfpbhedophlnkaaGreatDoor
open Go.RowKit
set_option linter.unusedSimpArgs false
set_option linter.unusedVariables false

/-- A row of the call's own: a slice value of it, with the cells xs. -/
def OwnV (w : World) (base : Nat) (e : TypeId) (ao : Option Addr) (c : Nat) (xs : List Value) : Prop :=
  w.ownsRow base e 1 (.slice ao xs.length c) xs.length xs

section
variable {w w' : World} {base : Nat} {e : TypeId} {ao : Option Addr} {c : Nat} {xs : List Value}
theorem OwnV.none_ : OwnV w base e none 0 [] := World.ownsRow_nil _ _ _ _
theorem OwnV.form (h : OwnV w base e ao c xs) : (ao = none ∧ c = 0 ∧ xs = []) ∨ ∃ g, ao = some ⟨g, 0, none⟩ ∧ base ≤ g ∧ g < w.heap.size := by
  rcases h.2 with ⟨hv, hn⟩ | ⟨g, cap, cur, hv, hb, hg, _⟩
  · simp only [Value.slice.injEq] at hv
    exact .inl ⟨hv.1, hv.2.2, List.eq_nil_of_length_eq_zero hn⟩
  · simp only [Value.slice.injEq] at hv
    refine .inr ⟨g, hv.1, hb, ?_⟩
    rcases Nat.lt_or_ge g w.heap.size with hlt | hge
    · exact hlt
    · rw [Array.getElem?_eq_none hge] at hg; cases hg
theorem OwnV.lt (h : OwnV w base e ao c xs) : ∀ a, ao = some a → base ≤ a.block ∧ a.block < w.heap.size := by
  rcases h.form with ⟨rfl, _⟩ | ⟨g, rfl, h1, h2⟩
  · intro a ha; cases ha
  · intro a ha; cases ha; exact ⟨h1, h2⟩
theorem OwnV.cell {g : Nat} (h : OwnV w base e (some ⟨g, 0, none⟩) c xs) (i : Nat) (hi : i < xs.length) : w.cell? ⟨g, i, none⟩ = xs[i]? := World.ownsRow.cellAt h i (by omega)
theorem OwnV.keep (h : OwnV w base e ao c xs) (hk : ∀ a : Addr, ao = some a → a.block < w.heap.size → w'.heap[a.block]? = w.heap[a.block]?) : OwnV w' base e ao c xs := by
  refine ⟨h.1, ?_⟩
  have hl := h.lt
  rcases h.2 with h2 | ⟨g, cap, cur, hv, hb, hg, r⟩
  · exact .inl h2
  · refine .inr ⟨g, cap, cur, hv, hb, ?_, r⟩
    simp only [Value.slice.injEq] at hv
    rw [hk _ hv.1 (hl _ hv.1).2]; exact hg
theorem OwnV.below (h : OwnV w base e ao c xs) (hb : Below w.heap.size w w') : OwnV w' base e ao c xs := h.keep fun _ _ hlt => hb.block _ hlt
theorem OwnV.alloc (h : OwnV w base e ao c xs) (o : Obj) : OwnV (w.alloc o) base e ao c xs := h.below ((Below.refl _ _).alloc (Nat.le_refl _) o)
theorem OwnV.far (h : OwnV w base e ao c xs) {p : Addr} (hp : ∀ x, ao = some x → x.block ≠ p.block) (u : Value) : OwnV (w.setCell p u) base e ao c xs :=
  h.keep fun a ha _ => Below.heap_setCell w p u a.block (hp a ha)
theorem OwnV.base_le {base' : Nat} (h : OwnV w base e ao c xs) (hb : base' ≤ base) : OwnV w base' e ao c xs := by
  refine ⟨h.1, ?_⟩
  rcases h.2 with h2 | ⟨g, cap, cur, hv, hg, r⟩
  · exact .inl h2
  · exact .inr ⟨g, cap, cur, hv, Nat.le_trans hb hg, r⟩
end

/-- 'append(xs, v)': v lies in a block of its own. -/
theorem wpList_appendV {P : Program} (w : World) {ops : Array Oper} {rest : List Oper} {o : Oper} {a : Act} {Q : Exit → Act → World → Prop} (hgd : o.guard = none) (s x : Operand) (t : TypeId)
    (ho : o.op = .call { callee := .builtin .append, args := #[s, x], argTypes := #[t, t] }) (base : Nat) (e : TypeId) (z : Value) (bytes : Nat) (ht : P.underlying t = some (.slice e))
    (hi : (P.info? e).map (fun i => (i.zero, i.size, i.bytes)) = some (some z, 1, bytes)) (hzs : z.cells.size = 1)
    (ao : Option Addr) (c n : Nat) (xs : List Value) (hs : a.eval s = .slice ao n c) (hn : n = xs.length) (hown : OwnV w base e ao c xs)
    (bl cx : Nat) (v : Value) (hx : a.eval x = .slice (some ⟨bl, 0, none⟩) 1 cx) (hv : w.cell? ⟨bl, 0, none⟩ = some v) (hv1 : v.oneCell' = true)
    (h63 : xs.length + 1 ≤ maxLen) (hby : (xs.length + 1) * bytes ≤ 140737488355328) (hbase : base ≤ w.heap.size)
    (h : ∀ ao' c' w', OwnV w' base e ao' c' (xs ++ [v]) → w.grownBy w' (ao.map (·.block)) → (ao' = ao ∨ ao' = some ⟨w.heap.size, 0, none⟩) → wpList P ops Q rest (a.put o.dst (.slice ao' (xs.length + 1) c')) w') :
    wpList P ops Q (o :: rest) a w := by
  obtain ⟨i, hi0, hz0, hz1, hz2⟩ := info_parts hi
  subst hn
  refine wpList_append_own_at w hgd s x t ho base e i z 1 bytes ht hi0 hz0 hz1 hz2 hzs (by omega) _ xs.length xs hs hown ⟨bl, 0, none⟩ 1 cx [v] hx rfl ?_ ?_ h63 hby hbase ?_
  · intro j u hj
    match j, hj with
    | 0, hj => simp at hj; subst hj; simpa [Addr.add] using hv
  · intro u hu; simp at hu; subst hu; exact hv1
  · intro v' w' ho' hg' _ hblk
    have hg2 : w.grownBy w' (ao.map (·.block)) := by
      cases ao with
      | none => exact hg'
      | some x => exact hg'
    have hlen : (xs ++ [v]).length = xs.length + 1 := by simp
    rcases ho'.2 with ⟨rfl, hz⟩ | ⟨g, cap, cur, rfl, r⟩
    · omega
    · refine h _ _ _ (by unfold OwnV; rw [hlen]; exact ho') hg2 ?_
      rcases hblk with hb | hb
      · cases ao with
        | none => simp [Value.ownBlock] at hb
        | some x =>
          left
          rcases hown.form with ⟨hh, _⟩ | ⟨g', hh, _⟩
          · cases hh
          · cases hh
            simp [Value.ownBlock] at hb
            rw [hb]
      · right; simp [Value.ownBlock] at hb; rw [hb]
end Go.Proofs.YtfpbhedophlnkaaGreatDoor
namespace Go.Proofs.YtfpbhedophlnkaaGreatDoor
open Go.RowKit
set_option linter.unusedSimpArgs false
set_option linter.unusedVariables false

theorem own_of_V {w : World} {base : Nat} {e : TypeId} {k : IntKind} {ao : Option Addr} {c : Nat} {l : List Int} (h : OwnV w base e ao c (l.map (Value.int k))) : Own w base e k ao c l := by
  unfold OwnV at h; unfold Own; rw [List.length_map] at h; exact h
theorem V_of_own {w : World} {base : Nat} {e : TypeId} {k : IntKind} {ao : Option Addr} {c : Nat} {l : List Int} (h : Own w base e k ao c l) : OwnV w base e ao c (l.map (Value.int k)) := by
  unfold Own at h; unfold OwnV; rw [List.length_map]; exact h
/-- 'append(xs, z)' at a slice of int of the call's own. -/
theorem wpList_appendI {P : Program} (w : World) {ops : Array Oper} {rest : List Oper} {o : Oper} {a : Act} {Q : Exit → Act → World → Prop} (hgd : o.guard = none) (s x : Operand) (t : TypeId)
    (ho : o.op = .call { callee := .builtin .append, args := #[s, x], argTypes := #[t, t] }) (base : Nat) (e : TypeId) (ht : P.underlying t = some (.slice e))
    (hi : (P.info? e).map (fun i => (i.zero, i.size, i.bytes)) = some (some (.int .i64 0), 1, 8))
    (ao : Option Addr) (c n : Nat) (l : List Int) (hs : a.eval s = .slice ao n c) (hn : n = l.length) (hown : Own w base e .i64 ao c l)
    (bl cx : Nat) (z : Int) (hx : a.eval x = .slice (some ⟨bl, 0, none⟩) 1 cx) (hv : w.cell? ⟨bl, 0, none⟩ = some (.int .i64 z))
    (hby : l.length ≤ 1048576) (hbase : base ≤ w.heap.size)
    (h : ∀ ao' c' w', Own w' base e .i64 ao' c' (l ++ [z]) → w.grownBy w' (ao.map (·.block)) → wpList P ops Q rest (a.put o.dst (.slice ao' (l.length + 1) c')) w') :
    wpList P ops Q (o :: rest) a w := by
  refine wpList_appendV w hgd s x t ho base e (.int .i64 0) 8 ht hi rfl ao c n (l.map (Value.int .i64)) hs (by simpa using hn) (V_of_own hown) bl cx (.int .i64 z) hx hv rfl (by simp [maxLen]; omega) (by simp; omega) hbase ?_
  intro ao' c' w' ho' hg' _
  have := h ao' c' w' (own_of_V (by rw [List.map_append]; exact ho')) hg'
  simpa using this
theorem below_app {w wr w1 : World} {e : TypeId} {ao : Option Addr} {c : Nat} {l : List Int} {o : Obj} (hb : Below w.heap.size w wr) (ho : Own wr w.heap.size e .i64 ao c l) (hg : (wr.alloc o).grownBy w1 (ao.map (·.block))) : Below w.heap.size w w1 := by
  refine (hb.alloc hb.size o).grown hg (by have := hb.size; simp; omega) ?_
  intro g hg'
  rcases ao with _ | a
  · cases hg'
  · simp at hg'; subst hg'; exact (ho.lt a rfl).1

theorem own_empty {w : World} {base : Nat} {e : TypeId} {k : IntKind} (h : base ≤ w.heap.size) : Own (w.alloc (.cells #[] e)) base e k (some ⟨w.heap.size, 0, none⟩) 0 [] :=
  ⟨rfl, .inr ⟨w.heap.size, 0, #[], rfl, h, heap_alloc_new w _, Nat.le_refl _, Nat.zero_le _, rfl, rfl⟩⟩

theorem Tryz.infoInt : (Tryz.prog.info? 3).map (fun i => (i.zero, i.size, i.bytes)) = some (some (.int .i64 0), 1, 8) := by kernel_rfl
end Go.Proofs.YtfpbhedophlnkaaGreatDoor
