/-
  Contract of spec.l02Break: it bends the plan in one place, in the plan's own memory. For every plan of the draw's own. Contracts of spec.l02DrawLoose and spec.DrawPlanOk: some nodes in memory of the draw's own. For every slice of bytes. Contract of spec.l01Below where n may be more than a byte has values. For every such n to 1048576. Contracts of spec.l03DrawSchema, DrawWidthOf and DrawPutPart: a schema, a plan, a part, drawn. For every slice of bytes. Contract of spec.l03DrawSchema, with the widths bounded. For every slice of bytes.
-/
import Derived.Test.YtanfllednlpbaaaGreatM15x
import Derived.Test.YtanfllednlpbaaaGreatM3x
import Derived.Test.YtanfllednlpbaaaGreatM2x
import Derived.Laws.OwnMore
namespace Go.Proofs.YtanfllednlpbaaaGreat
open Go.RowKit
set_option linter.unusedSimpArgs false
set_option linter.unusedVariables false
set_option maxRecDepth 100000 in
set_option maxHeartbeats 4000000 in
theorem break_any (g : Nat) (xo : Option Addr) (d : Nat) (code : List Int) (w0 w : World) (b c : Nat) (l : List Nd) (xs : List Value) (A : Nat → Option Addr) (C : Nat → Nat) (h0 : Cur w0 g xo d code) (hl : code.length ≤ 1048577)
    (hd : Drew w0 g xo d code w) (hp : PartN w w0.heap.size b c l.length l l.length xs A C) (h1 : 1 ≤ l.length) (h81 : l.length ≤ 81) (h3 : ∀ m ∈ l, m.cols.length ≤ 3) :
    Calls Tryz.prog 42 #[.pointer (some ⟨g, 0, none⟩), .slice (some ⟨b, 0, none⟩) l.length c] w (LooseP w0 g xo d code) := by
  have hglt := h0.lt
  have hcap := owns_cap hp.own
  have hbb := (owns_block hp.own).1
  have H0 := Lib.hid h0; have HL := Lib.hid hl; have HD := Lib.hid hd; have HP := Lib.hid hp; have H3 := Lib.hid h3
  have H4 := Lib.hid (show ∀ m ∈ l, m.cols.length ≤ 4 from fun m hm => by have := h3 m hm; omega)
  clear h0 hl hd hp h3
  generalize hm : l.length = m at *
  have HM := Lib.hid hm; clear hm
  go_enter Tryz.func42, Tryz.ntmps42
  go_wp2_with fail
  refine (l01Once_any g xo d code 8 _ HD.out.1 HL.out (by omega) (by omega)).mono ?_
  rintro e w1 ⟨bo, rfl, c1, g1⟩
  have D1 := Lib.hid (drew_once HD.out c1 g1); have P1 := Lib.hid (HP.out.draw g1 hglt)
  clear c1 g1 HD HP
  cases bo with
  | false =>
    go_wp2_with fail
    go_ret
    exact loose_part P1.out HM.out D1.out (by omega) H4.out rfl
  | true =>
    have hm0 : ((m : Int) == 0) = false := by simp; omega
    go_wp2_with fail
    refine (below_d g xo d code m _ D1.out.1 HL.out (by omega) (by omega)).mono ?_
    rintro e w2 ⟨iz, hi0, hi1, rfl, d2⟩
    have D2 := Lib.hid (D1.out.next d2); have P2 := Lib.hid (P1.out.draw d2.2 hglt)
    clear d2 D1 P1
    obtain ⟨i, rfl⟩ : ∃ i : Nat, iz = i := ⟨iz.toNat, by omega⟩
    have him : i < m := by omega
    obtain ⟨n, hn⟩ : ∃ n, l[i]? = some n := ⟨l[i]'(by have := HM.out; omega), List.getElem?_eq_getElem _⟩
    have HN := Lib.hid hn; clear hn
    go_wp2_with fail
    refine (below_d g xo d code 7 _ D2.out.1 HL.out (by omega) (by omega)).mono ?_
    rintro e w3 ⟨k, hk0, hk1, rfl, d3⟩
    have D3 := Lib.hid (D2.out.next d3); have P3 := Lib.hid (P2.out.draw d3.2 hglt)
    clear d3 D2 P2
    have hk : k = 0 ∨ k = 1 ∨ k = 2 ∨ k = 3 ∨ k = 4 ∨ k = 5 ∨ k = 6 := by omega
    rcases hk with rfl | rfl | rfl | rfl | rfl | rfl | rfl
    · go_wp2_with fail
      refine (below_d g xo d code 10 _ D3.out.1 HL.out (by omega) (by omega)).mono ?_
      rintro e w4 ⟨y, hy0, hy1, rfl, d4⟩
      have D4 := Lib.hid (D3.out.next d4); have P4 := Lib.hid (P3.out.draw d4.2 hglt)
      clear d4 D3 P3
      obtain ⟨y0, e0⟩ := P4.out.some_ (o := i * 7) (by omega)
      have hf0 := P4.out.frozen
      have Q := Lib.hid (P4.out.st0 (by omega) HN.out (by omega) (y - 1))
      have DQ := Lib.hid (drew_set (o := i * 7) (v := .int .i64 (y - 1)) H0.out D4.out hbb)
      go_wp2_with fail
      go_ret
      exact loose_part Q.out (by rw [List.length_set]; exact HM.out) DQ.out (by omega) (set_four H3.out HN.out rfl) rfl
    · have PK := Lib.hid (pick_new g xo d code w3 D3.out.1 HL.out [-1, 63, 64, 2] 4 rfl (by omega) (by omega) _ rfl)
      go_wp2_with fail
      refine PK.out.mono ?_
      rintro e w4 ⟨y, rfl, d4⟩
      have D4 := Lib.hid (D3.out.next d4); have P4 := Lib.hid (P3.out.draw d4.2 hglt)
      clear d4 D3 P3 PK
      obtain ⟨y0, e0⟩ := P4.out.some_ (o := i * 7 + 2) (by omega)
      have hf0 := P4.out.frozen
      have Q := Lib.hid (P4.out.st2 (by omega) HN.out (by omega) y)
      have DQ := Lib.hid (drew_set (o := i * 7 + 2) (v := .int .i64 y) H0.out D4.out hbb)
      go_wp2_with fail
      go_ret
      exact loose_part Q.out (by rw [List.length_set]; exact HM.out) DQ.out (by omega) (set_four H3.out HN.out rfl) rfl
    · have PK := Lib.hid (pick_new g xo d code w3 D3.out.1 HL.out [-1, 1000000, 1000001] 3 rfl (by omega) (by omega) _ rfl)
      go_wp2_with fail
      refine PK.out.mono ?_
      rintro e w4 ⟨y, rfl, d4⟩
      have D4 := Lib.hid (D3.out.next d4); have P4 := Lib.hid (P3.out.draw d4.2 hglt)
      clear d4 D3 P3 PK
      obtain ⟨y0, e0⟩ := P4.out.some_ (o := i * 7 + 4) (by omega)
      have hf0 := P4.out.frozen
      have Q := Lib.hid (P4.out.st4 (by omega) HN.out (by omega) y)
      have DQ := Lib.hid (drew_set (o := i * 7 + 4) (v := .int .i64 y) H0.out D4.out hbb)
      go_wp2_with fail
      go_ret
      exact loose_part Q.out (by rw [List.length_set]; exact HM.out) DQ.out (by omega) (set_four H3.out HN.out rfl) rfl
    · obtain ⟨y0, e0⟩ := P3.out.some_ (o := i * 7 + 5) (by omega)
      have hf0 := P3.out.frozen
      have Q := Lib.hid (P3.out.st5 (by omega) HN.out (by omega) true)
      have DQ := Lib.hid (drew_set (o := i * 7 + 5) (v := .bool true) H0.out D3.out hbb)
      go_wp2_with fail
      go_ret
      exact loose_part Q.out (by rw [List.length_set]; exact HM.out) DQ.out (by omega) (set_four H3.out HN.out rfl) rfl
    · have NA := P3.out.at_ (i := i) (by omega) (by omega) HN.out
      obtain ⟨q0, q1, q2, q3, q4, q5, q6, qr, qc, qm, qn⟩ := NA
      rw [Nat.zero_add] at q0 q1 q2 q3 q4 q5 q6
      have NW := Lib.hid (nd_new w3 n (A i) (C i) qr qc qm qn)
      have OWN := Lib.hid (P3.out.below ((Below.refl _ w3).alloc (Nat.le_refl _) (.cells (ndCells n (A i) (C i)).toArray 39))).own
      have LA := Lib.hid (fun (v' : Value) (w' : World) ho hg => loose_app (v' := v') (w' := w') (W := w3.alloc (.cells (ndCells n (A i) (C i)).toArray 39)) H0.out P3.out HM.out D3.out HN.out ((Below.refl _ w3).alloc (Nat.le_refl _) _) ho hg h81 H4.out)
      have hz3 : w0.heap.size ≤ (w3.alloc (.cells (ndCells n (A i) (C i)).toArray 39)).heap.size := by have := D3.out.2.size; simp; omega
      clear qr qc qm qn
      obtain ⟨kd, nmm, co, op, nu, sl, cols⟩ := n
      simp only at q0 q1 q2 q3 q4 q5 q6
      go_wp2_with (at_builtin; go_must (refine wpList_appendNs _ rfl (.tmp 56) (.tmp 61) 26 rfl w0.heap.size Tryz.underlying26 Tryz.infoNode rfl _ m xs rfl OWN.out w3.heap.size 0 1 1 [⟨kd, nmm, co, op, nu, sl, cols⟩] (fun _ => A i) (fun _ => C i) rfl rfl NW.out (by omega) hz3 ?_; intro v' w4 o4 g4 _; obtain ⟨b4, c4, rfl⟩ := row_form o4 (by omega); have LP := Lib.hid (LA.out _ _ o4 g4); clear o4 g4))
      go_ret
      exact LP.out
    · have LT := Lib.hid ((LooseN.of_part P3.out HM.out).take i)
      have TL := Lib.hid (show (l.take i).length = i by rw [List.length_take, HM.out]; omega)
      have hic : (i : Int) ≤ c := by omega
      go_wp2_with fail
      go_ret
      exact ⟨l.take i, b, c, ret_slice TL.out.symm, by rw [TL.out]; omega, fun k hk => H4.out k (List.mem_of_mem_take hk), LT.out, D3.out⟩
    · have e6 : w3.cell? ⟨b, i * 7 + 6, none⟩ = some (.slice (A i) n.cols.length (C i)) := (P3.out.cellAt (by omega)).trans (P3.out.cells i _ (by omega) HN.out).c6
      have OC := Lib.hid (P3.out.cols i n (by omega) HN.out)
      have n3 := H3.out n (List.mem_of_getElem? HN.out)
      have LC := Lib.hid (fun (ao : Option Addr) (co : Nat) (w' : World) ho hg => loose_col (ao := ao) (co := co) (w' := w') (z := 0) (W := w3.alloc (.cells #[.int .i64 0] 3)) H0.out P3.out HM.out D3.out HN.out ((Below.refl _ w3).alloc (Nat.le_refl _) _) ho hg (by omega) H3.out rfl)
      have hz3 : w0.heap.size ≤ (w3.alloc (.cells #[.int .i64 0] 3)).heap.size := by have := D3.out.2.size; simp; omega
      generalize hcl : n.cols.length = cl at *
      have CL := Lib.hid hcl; clear hcl
      go_wp2_with (at_builtin; go_must (refine wpList_appendI _ rfl (.tmp 76) (.tmp 77) 34 rfl w0.heap.size 3 Tryz.underlying34 Tryz.infoInt (A i) (C i) cl n.cols rfl CL.out.symm (OC.out.alloc _) w3.heap.size 1 0 rfl (cell_one _ _ _) (by rw [CL.out]; omega) hz3 ?_; rw [CL.out]; intro ao4 c4 w4 o4 g4; have LP := Lib.hid (LC.out _ _ _ o4 g4); have e7 := LP.out.1; have f7 := LP.out.2.1; clear o4 g4))
      go_ret
      exact LP.out.2.2
theorem drew_row {w0 w W w' : World} {g : Nat} {xo : Option Addr} {d : Nat} {code : List Int} {row : Option Nat} (h0 : Cur w0 g xo d code) (hd : Drew w0 g xo d code w) (hW : Below w.heap.size w W) (hg : W.grownBy w' row) (hr : ∀ q, row = some q → w0.heap.size ≤ q) : Drew w0 g xo d code w' := by
  have hz := hd.2.size
  have hk : ∀ q, q < w0.heap.size → w'.heap[q]? = w.heap[q]? := fun q hq => (hg.block q (by have := hW.size; omega) (fun e => by have := hr q e.symm; omega)).trans (hW.block q (by omega))
  exact ⟨hd.1.keepI h0.lt h0.code_lt hk, ⟨hg.os.trans (hW.os.trans hd.2.os), hg.tape.trans (hW.tape.trans hd.2.tape), hg.output.trans (hW.output.trans hd.2.output), Nat.le_trans hz (Nat.le_trans hW.size hg.size), fun q hq hne => (hk q hq).trans (hd.2.block q hq hne)⟩⟩
theorem tbC_set1 : ∀ (l : List Tb) (i : Nat) (t : Tb) (x : Int), l[i]? = some t → tbC (l.set i ⟨t.name, x⟩) = (tbC l).set (i * 2 + 1) (.int .i64 x)
  | [], i, t, x, h => by simp at h
  | s :: l, 0, t, x, h => by simp at h; subst h; rfl
  | s :: l, i + 1, t, x, h => by
    simp only [List.getElem?_cons_succ] at h
    rw [show (i + 1) * 2 + 1 = i * 2 + 1 + 1 + 1 by omega]
    simp only [List.set_cons_succ, tbC]
    rw [tbC_set1 l i t x h]
theorem tbC_set0 : ∀ (l : List Tb) (i : Nat) (t : Tb) (x : ByteArray), l[i]? = some t → tbC (l.set i ⟨x, t.width⟩) = (tbC l).set (i * 2) (.string x)
  | [], i, t, x, h => by simp at h
  | s :: l, 0, t, x, h => by simp at h; subst h; rfl
  | s :: l, i + 1, t, x, h => by
    simp only [List.getElem?_cons_succ] at h
    rw [show (i + 1) * 2 = i * 2 + 1 + 1 by omega]
    simp only [List.set_cons_succ, tbC]
    rw [tbC_set0 l i t x h]
theorem tbC_take : ∀ (l : List Tb) (n : Nat), tbC (l.take n) = (tbC l).take (n * 2)
  | [], n => by simp [tbC]
  | s :: l, 0 => by simp [tbC]
  | s :: l, n + 1 => by
    rw [show (n + 1) * 2 = n * 2 + 1 + 1 by omega]
    simp only [List.take_succ_cons, tbC]
    rw [tbC_take l n]
theorem OwnT.put1 {w : World} {base g c : Nat} {l : List Tb} (h : OwnT w base (some ⟨g, 0, none⟩) c l) {i : Nat} {t : Tb} (hi : l[i]? = some t) (x : Int) : OwnT (w.setCell ⟨g, i * 2 + 1, none⟩ (.int .i64 x)) base (some ⟨g, 0, none⟩) c (l.set i ⟨t.name, x⟩) := by
  have := (World.ownsRow.stored h.1 (i * 2 + 1) (.int .i64 x)).1
  refine ⟨?_, fun s hs => ?_⟩
  · rw [List.length_set, tbC_set1 l i t x hi]; exact this
  · rcases List.mem_or_eq_of_mem_set hs with hs | rfl
    · exact h.2 s hs
    · exact h.2 t (List.mem_of_getElem? hi)
theorem OwnT.put0 {w : World} {base g c : Nat} {l : List Tb} (h : OwnT w base (some ⟨g, 0, none⟩) c l) {i : Nat} {t : Tb} (hi : l[i]? = some t) (x : ByteArray) (hx : x.size ≤ maxLen) : OwnT (w.setCell ⟨g, i * 2, none⟩ (.string x)) base (some ⟨g, 0, none⟩) c (l.set i ⟨x, t.width⟩) := by
  have := (World.ownsRow.stored h.1 (i * 2) (.string x)).1
  refine ⟨?_, fun s hs => ?_⟩
  · rw [List.length_set, tbC_set0 l i t x hi]; exact this
  · rcases List.mem_or_eq_of_mem_set hs with hs | rfl
    · exact h.2 s hs
    · exact hx
theorem OwnT.take_ {w : World} {base : Nat} {ao : Option Addr} {c : Nat} {l : List Tb} (h : OwnT w base ao c l) (n : Nat) (hn : n ≤ l.length) : OwnT w base ao c (l.take n) := by
  have hl : (l.take n).length = n := by rw [List.length_take]; omega
  refine ⟨⟨by rw [tbC_len, hl], ?_⟩, fun s hs => h.2 s (List.mem_of_mem_take hs)⟩
  rw [hl]
  rcases h.1.2 with ⟨hv, h0⟩ | ⟨g, cap, cur, hv, hb, hg, h1, h2, h3, h4⟩
  · simp only [Value.slice.injEq] at hv
    refine .inl ⟨?_, by omega⟩
    simp only [Value.slice.injEq]
    exact ⟨hv.1, by omega, hv.2.2⟩
  · simp only [Value.slice.injEq] at hv
    refine .inr ⟨g, cap, cur, ?_, hb, hg, by omega, h2, h3, ?_⟩
    · simp only [Value.slice.injEq]
      exact ⟨hv.1, trivial, hv.2.2⟩
    · rw [tbC_take, ← h4, List.take_take]
      congr 1; omega
def threeT : List Tb := [⟨⟨#[116, 49]⟩, 2⟩, ⟨⟨#[116, 50]⟩, 3⟩, ⟨⟨#[116, 51]⟩, 1⟩]
set_option maxRecDepth 100000 in
theorem tables3_any (w : World) : Calls Tryz.prog 37 #[] w fun e w' => e = .returned (.slice (some ⟨w.heap.size, 0, none⟩) 3 3) ∧ w' = w.alloc (.cells #[.string ⟨#[116, 49]⟩, .int .i64 2, .string ⟨#[116, 50]⟩, .int .i64 3, .string ⟨#[116, 51]⟩, .int .i64 1] 89) := by
  go_enter Tryz.func37, Tryz.ntmps37
  go_wp2_with fail
  go_ret
  exact ⟨rfl, rfl⟩
theorem own_three (w : World) : OwnT (w.alloc (.cells #[.string ⟨#[116, 49]⟩, .int .i64 2, .string ⟨#[116, 50]⟩, .int .i64 3, .string ⟨#[116, 51]⟩, .int .i64 1] 89)) w.heap.size (some ⟨w.heap.size, 0, none⟩) 3 threeT :=
  ⟨World.ownsRow_lit w #[.string ⟨#[116, 49]⟩, .int .i64 2, .string ⟨#[116, 50]⟩, .int .i64 3, .string ⟨#[116, 51]⟩, .int .i64 1] 3 (Nat.le_refl _) (by unfold maxLen; omega) rfl, by
    intro t ht
    simp [threeT] at ht
    rcases ht with rfl | rfl | rfl <;> decide⟩
theorem pickS_new (g : Nat) (xo : Option Addr) (d : Nat) (code : List Int) (w : World) (hc : Cur w g xo d code) (hl : code.length ≤ 1048577) (l : List ByteArray) (n : Nat) (hn : l.length = n) (h0 : 1 ≤ n) (h1 : n ≤ 256) (hs : ∀ s ∈ l, s.size ≤ 100) (cs : Array Value) (hcs : cs = (l.map Value.string).toArray) :
    Calls Tryz.prog 70 #[.pointer (some ⟨g, 0, none⟩), .slice (some ⟨w.heap.size, 0, none⟩) n n] (w.alloc (.cells cs 9)) fun e w' => ∃ s : ByteArray, s.size ≤ 100 ∧ e = .returned (.string s) ∧ Drew w g xo d code w' := by
  subst hcs
  refine (l01PickText_any g xo d code w.heap.size n n _ (hc.keepB ((Below.refl _ _).alloc (Nat.le_refl _) _)) hl ?_ (by have := hc.lt; omega) h0 h1).mono ?_
  · intro i hi
    have hx : l[i]? = some (l[i]'(by omega)) := List.getElem?_eq_getElem (by omega)
    refine ⟨l[i]'(by omega), hs _ (List.getElem_mem _), ?_⟩
    rw [cell_of_row _ _ _ _ _ _ (heap_alloc_new w _)]
    simp [hx]
  · rintro e w' ⟨s, h1, rfl, hc2, hg2⟩
    exact ⟨s, h1, rfl, hc2, grownBy_trans (below_grown ((Below.refl w.heap.size w).alloc (Nat.le_refl _) _)) hg2⟩
theorem tbAt_new (w : World) (x : ByteArray) (n : Int) (hx : x.size ≤ maxLen) (t : TypeId) : TbAt (w.alloc (.cells #[.string x, .int .i64 n] t)) w.heap.size 0 ⟨x, n⟩ :=
  ⟨(cell_of_row _ _ _ _ _ _ (heap_alloc_new w _)).trans rfl, (cell_of_row _ _ _ _ _ _ (heap_alloc_new w _)).trans rfl, hx⟩
def lenVT : Value → Nat
  | .slice _ n _ => n
  | _ => 0
theorem OwnT.draw {w w' : World} {base g : Nat} {ao : Option Addr} {c : Nat} {l : List Tb} (h : OwnT w base ao c l) (hg : w.grownBy w' (some g)) (hlt : g < base) : OwnT w' base ao c l :=
  h.grown hg (fun a ha => by have := (h.lt a ha).1; simp; omega)
def Thin (l : List Tb) : Prop := ∀ t ∈ l, 0 ≤ t.width ∧ t.width ≤ 7
theorem thin3 : Thin threeT := by
  intro t ht
  simp [threeT] at ht
  rcases ht with rfl | rfl | rfl <;> decide
theorem Thin.set1 {l : List Tb} (h : Thin l) {i : Nat} {t : Tb} {x : Int} (hx : 0 ≤ x ∧ x ≤ 7) : Thin (l.set i ⟨t.name, x⟩) := by
  intro s hs
  rcases List.mem_or_eq_of_mem_set hs with hs | rfl
  · exact h s hs
  · exact hx
theorem Thin.set0 {l : List Tb} (h : Thin l) {i : Nat} {t : Tb} {x : ByteArray} (hi : l[i]? = some t) : Thin (l.set i ⟨x, t.width⟩) := by
  intro s hs
  rcases List.mem_or_eq_of_mem_set hs with hs | rfl
  · exact h s hs
  · exact h t (List.mem_of_getElem? hi)
theorem Thin.take {l : List Tb} (h : Thin l) (n : Nat) : Thin (l.take n) := fun t ht => h t (List.mem_of_mem_take ht)
theorem Thin.snoc {l : List Tb} (h : Thin l) {t : Tb} (ht : 0 ≤ t.width ∧ t.width ≤ 7) : Thin (l ++ [t]) := by
  intro s hs
  rcases List.mem_append.1 hs with hs | hs
  · exact h s hs
  · simp at hs; subst hs; exact ht
theorem pick_newM (g : Nat) (xo : Option Addr) (d : Nat) (code : List Int) (w : World) (hc : Cur w g xo d code) (hl : code.length ≤ 1048577) (l : List Int) (n : Nat) (hn : l.length = n) (h0 : 1 ≤ n) (h1 : n ≤ 256) (cs : Array Value) (hcs : cs = (l.map (Value.int .i64)).toArray) :
    Calls Tryz.prog 69 #[.pointer (some ⟨g, 0, none⟩), .slice (some ⟨w.heap.size, 0, none⟩) n n] (w.alloc (.cells cs 3)) fun e w' => ∃ z : Int, z ∈ l ∧ e = .returned (.int .i64 z) ∧ Drew w g xo d code w' := by
  subst hcs
  refine (l01PickInt_n g xo d code w.heap.size n n l _ (hc.keepB ((Below.refl _ _).alloc (Nat.le_refl _) _)) hl (row_cells w 3 l) (by have := hc.lt; omega) (by omega) (by omega) hn).mono ?_
  rintro e w' ⟨z, hz, rfl, hc2, hg2⟩
  exact ⟨z, hz, rfl, hc2, grownBy_trans (below_grown ((Below.refl w.heap.size w).alloc (Nat.le_refl _) _)) hg2⟩
def SchPW (w : World) (g : Nat) (xo : Option Addr) (d : Nat) (code : List Int) (e : Ending) (w' : World) : Prop :=
  ∃ (l : List Tb) (ao : Option Addr) (c : Nat), e = .returned (.slice ao l.length c) ∧ l.length ≤ 10 ∧ OwnT w' w.heap.size ao c l ∧ Drew w g xo d code w' ∧ Thin l
def SchRelW (w : World) (g : Nat) (xo : Option Addr) (d : Nat) (code : List Int) (v : Value) (wr : World) : Prop :=
  ∃ (l : List Tb) (ao : Option Addr) (c n : Nat), v = .slice ao n c ∧ n = l.length ∧ n ≤ 9 ∧ OwnT wr w.heap.size ao c l ∧ Drew w g xo d code wr ∧ Thin l
set_option maxRecDepth 100000 in
set_option maxHeartbeats 2000000 in
theorem drawSchemaW_any (g : Nat) (xo : Option Addr) (d : Nat) (code : List Int) (w : World) (hc : Cur w g xo d code) (hl : code.length ≤ 1048577) :
    Calls Tryz.prog 39 #[.pointer (some ⟨g, 0, none⟩)] w (SchPW w g xo d code) := by
  have hglt := hc.lt
  have HC := Lib.hid hc; have HL := Lib.hid hl
  have O0 := Lib.hid (own_three w)
  have D0 : Hid (Drew w g xo d code (w.alloc (.cells #[.string ⟨#[116, 49]⟩, .int .i64 2, .string ⟨#[116, 50]⟩, .int .i64 3, .string ⟨#[116, 51]⟩, .int .i64 1] 89))) := ⟨hc.keepB ((Below.refl _ _).alloc (Nat.le_refl _) _), grownBy_below (World.grownBy.refl _ _) ((Below.refl _ _).alloc (Nat.le_refl _) _)⟩
  clear hc hl
  go_enter Tryz.func39, Tryz.ntmps39
  go_wp2_with fail
  refine (tables3_any _).mono ?_
  rintro e w' ⟨rfl, rfl⟩
  generalize (w.alloc (.cells #[.string ⟨#[116, 49]⟩, .int .i64 2, .string ⟨#[116, 50]⟩, .int .i64 3, .string ⟨#[116, 51]⟩, .int .i64 1] 89)) = w1 at O0 D0 ⊢
  go_wp2_with fail
  refine (l01Once_any g xo d code 6 _ D0.out.1 HL.out (by omega) (by omega)).mono ?_
  rintro e w2 ⟨bo, rfl, c2, g2⟩
  have D2 := Lib.hid (drew_once D0.out c2 g2); have O2 := Lib.hid (O0.out.draw g2 hglt)
  clear c2 g2 O0 D0
  cases bo with
  | false =>
    go_wp2_with fail
    go_ret
    exact ⟨threeT, _, 3, rfl, by decide, O2.out, D2.out, thin3⟩
  | true =>
    go_wp2_with fail
    refine (l01Below_any g xo d code 3 _ D2.out.1 HL.out (by omega) (by omega)).mono ?_
    rintro e w3 ⟨iz, rfl, hi0, hi1, c3, g3⟩
    have D3 := Lib.hid (drew_once D2.out c3 g3); have O3 := Lib.hid (O2.out.draw g3 hglt)
    clear c3 g3
    obtain ⟨i, rfl⟩ : ∃ i : Nat, iz = i := ⟨iz.toNat, by omega⟩
    have hi3 : i < 3 := by omega
    have hi3' : (i : Int) < 3 := by omega
    have hti : threeT[i]? = some (threeT[i]'hi3) := List.getElem?_eq_getElem hi3
    go_wp2_with fail
    refine (l01Below_any g xo d code 4 _ D3.out.1 HL.out (by omega) (by omega)).mono ?_
    rintro e w4 ⟨k, rfl, hk0, hk1, c4, g4⟩
    have D4 := Lib.hid (drew_once D3.out c4 g4); have O4 := Lib.hid (O3.out.draw g4 hglt)
    clear c4 g4 D2 O2 D3 O3
    have hk : k = 0 ∨ k = 1 ∨ k = 2 ∨ k = 3 := by omega
    rcases hk with rfl | rfl | rfl | rfl
    · have PK := Lib.hid (pick_newM g xo d code w4 D4.out.1 HL.out [0, 1, 6, 7] 4 rfl (by omega) (by omega) _ rfl)
      go_wp2_with fail
      refine PK.out.mono ?_
      rintro e w5 ⟨x, hxm, rfl, d5⟩
      have D5 := Lib.hid (D4.out.next d5); have O5 := Lib.hid (O4.out.draw d5.2 hglt)
      clear d5 PK
      have ce := World.ownsRow.cellAt O5.out.1 (i * 2 + 1) (by show i * 2 + 1 < 3 * 2; omega)
      rw [tbC_get1 threeT i _ hti] at ce
      have fr := World.ownsRow.frozenAt O5.out.1 (i * 2 + 1)
      have hgw := (O5.out.lt _ rfl).1
      have DQ := Lib.hid (drew_set (o := i * 2 + 1) (v := .int .i64 x) HC.out D5.out hgw)
      have OQ := Lib.hid (O5.out.put1 hti x)
      have TH := Lib.hid (thin3.set1 (t := threeT[i]) (i := i) (x := x) (by simp at hxm; omega))
      go_wp2_with fail
      go_ret
      exact ⟨_, _, 3, ret_slice (by rw [List.length_set]; rfl), by rw [List.length_set]; decide, OQ.out, DQ.out, TH.out⟩
    · have PK := Lib.hid (pickS_new g xo d code w4 D4.out.1 HL.out [⟨#[]⟩, ⟨#[116, 49]⟩, ⟨#[116, 57]⟩, ⟨#[65]⟩] 4 rfl (by omega) (by omega) (by decide) _ rfl)
      go_wp2_with fail
      refine PK.out.mono ?_
      rintro e w5 ⟨x, hx, rfl, d5⟩
      have D5 := Lib.hid (D4.out.next d5); have O5 := Lib.hid (O4.out.draw d5.2 hglt)
      clear d5 PK
      have ce := World.ownsRow.cellAt O5.out.1 (i * 2) (by show i * 2 < 3 * 2; omega)
      rw [tbC_get0 threeT i _ hti] at ce
      have fr := World.ownsRow.frozenAt O5.out.1 (i * 2)
      have hgw := (O5.out.lt _ rfl).1
      have DQ := Lib.hid (drew_set (o := i * 2) (v := .string x) HC.out D5.out hgw)
      have OQ := Lib.hid (O5.out.put0 hti x (by unfold maxLen; omega))
      have TH := Lib.hid (thin3.set0 (i := i) (x := x) hti)
      go_wp2_with fail
      go_ret
      exact ⟨_, _, 3, ret_slice (by rw [List.length_set]; rfl), by rw [List.length_set]; decide, OQ.out, DQ.out, TH.out⟩
    · have OT := Lib.hid (O4.out.take_ i (by show i ≤ 3; omega))
      go_wp2_with fail
      go_ret
      exact ⟨threeT.take i, _, 3, ret_slice (by rw [List.length_take]; show i = min i 3; omega), by rw [List.length_take]; show min i 3 ≤ 10; omega, OT.out, D4.out, thin3.take i⟩
    · go_wp2_with fail
      go_loopw [3] (fun v wr => SchRelW w g xo d code v wr) (fun v _ => 10 - lenVT v)
      case atStart => exact ⟨threeT, _, _, _, rfl, rfl, by omega, O4.out, D4.out, thin3⟩
      case round =>
        clear D4 O4
        obtain ⟨l, ao, c, n, rfl, hn, hn9, ho, hd, hth⟩ := hrel
        have TH := Lib.hid hth
        have HN := Lib.hid hn; have HO := Lib.hid ho; have HD := Lib.hid hd
        clear hn ho hd hth
        go_wp2_with fail
        refine (l01Below_any g xo d code 2 _ HD.out.1 HL.out (by omega) (by omega)).mono ?_
        rintro e w5 ⟨x, rfl, hx0, hx1, c5, g5⟩
        have D5 := Lib.hid (drew_once HD.out c5 g5); have O5 := Lib.hid (HO.out.draw g5 hglt)
        clear c5 g5
        by_cases hlt : (n : Int) < 8 + x
        · have NM := Lib.hid (fun W => num_all (n : Int) (by omega) (by omega) W)
          have hns := numT_size (x := (n : Int)) (by omega) (by omega)
          generalize numT (n : Int) = X at NM hns
          have e1 : ¬ (9223372036854775807 < 1 + X.size) := by omega
          go_wp2_with fail
          refine (NM.out _).mono ?_
          rintro e w6 ⟨rfl, b6⟩
          have D6 := Lib.hid (D5.out.below b6); have O6 := Lib.hid (O5.out.below b6)
          clear b6
          have hz6 := D6.out.2.size
          have hl9 : l.length ≤ 9 := by rw [← HN.out]; exact hn9
          have TN := Lib.hid (tbAt_new w6 (⟨#[122]⟩ ++ X) 1 (by rw [ByteArray.size_append]; have : (⟨#[122]⟩ : ByteArray).size = 1 := rfl; unfold maxLen; omega) 89)
          go_wp2_with (at_builtin; go_must (refine wpList_appendT _ rfl (.tmp 43) (.tmp 49) 24 rfl w.heap.size Tryz.underlying24 Tryz.infoTable ao c n l rfl HN.out (O6.out.alloc _) w6.heap.size 1 ⟨⟨#[122]⟩ ++ X, 1⟩ rfl TN.out (by omega) (by simp; omega) ?_; intro ao' c' w7 o7 g7; have D7 := Lib.hid (drew_row HC.out D6.out ((Below.refl _ w6).alloc (Nat.le_refl _) _) g7 (fun q hq => by cases ao with | none => simp at hq | some a => simp at hq; have := (O6.out.lt a rfl).1; omega)); have O7 := Lib.hid o7; clear o7 g7))
          go_roundw
          case rel => exact ⟨l ++ [⟨⟨#[122]⟩ ++ X, 1⟩], ao', c', _, rfl, by simp, by have := HN.out; omega, O7.out, D7.out, TH.out.snoc (show (0 : Int) ≤ 1 ∧ (1 : Int) ≤ 7 by decide)⟩
          case measure => have := HN.out; simp [lenVT]; omega
        · go_wp2_with fail
          go_ret
          exact ⟨l, ao, c, ret_slice HN.out, by rw [← HN.out]; omega, O5.out, D5.out, TH.out⟩
end Go.Proofs.YtanfllednlpbaaaGreat
