/-
  Contracts of spec.l01Copy and spec.l02Copy: the same numbers, the same nodes, in memory of the call's own. For every slice. Contract of impl.copyNodes: the same nodes in memory of the call's own. For every slice of nodes. Contracts of PartOf, of the model and of the program. For every slice of nodes and every number. Rows of nodes of the call's own, one put behind the other. No program, no walk. Contract of spec.l02Joined: some lists of nodes, one behind the other, in memory of the call's own. For every slice of slices of nodes. Contract of spec.PutPart. For all slices of nodes and every number.
-/
import Derived.Test.YtanfllednlpbaaaGreatM4x
import Derived.Test.YtanfllednlpbaaaGreatM11x
import Derived.Test.YtanfllednlpbaaaGreatM9x
import Derived.Deep.RegionWith
namespace Go.Proofs.YtanfllednlpbaaaGreat
open Go.RowKit
set_option linter.unusedSimpArgs false
set_option linter.unusedVariables false
set_option maxHeartbeats 1600000 in
theorem l01Copy_any (a : Option Addr) (c : Nat) (l : List Int) (w : World) (h : Rd w .i64 a l) (hl : l.length ≤ 1048576) :
    Calls Tryz.prog 85 #[.slice a l.length c] w (Made w 3 .i64 l) := by
  have H := Lib.hid h; clear h
  have O0 := Lib.hid (own_empty (w := w) (base := w.heap.size) (e := 3) (k := .i64) (Nat.le_refl _))
  have B0 := Lib.hid ((Below.refl w.heap.size w).alloc (Nat.le_refl _) (.cells #[] 3))
  go_enter Tryz.func85, Tryz.ntmps85
  go_wp2_with fail
  go_loopw [3, 4] (fun s i wr => ∃ (j : Nat) (ao : Option Addr) (cc : Nat), j ≤ l.length ∧ i = .int .i64 j ∧ s = .slice ao j cc ∧ Own wr w.heap.size 3 .i64 ao cc (l.take j) ∧ Below w.heap.size w wr) (fun _ i _ => l.length - (intOf i).toNat)
  case atStart => exact ⟨0, _, _, Nat.zero_le _, rfl, rfl, O0.out, B0.out⟩
  case round =>
    clear O0 B0
    obtain ⟨j, ao, cc, hj, rfl, rfl, ho, hb⟩ := hrel
    have HO := Lib.hid ho; have HB := Lib.hid hb
    by_cases hlt : j < l.length
    · obtain ⟨b, off, rfl, hc⟩ : ∃ b off, a = some ⟨b, off, none⟩ ∧ ∀ i, i < l.length → wr.cell? ⟨b, off + i, none⟩ = some (.int .i64 (l.getD i 0)) := by
        rcases H.out.below hb with rfl | h'
        · simp at hlt
        · exact h'
      obtain ⟨z, _, _, hcz, ht⟩ := Rd.at_ hc hlt
      have HT := Lib.hid ht
      have hlen : (l.take j).length = j := by simp; omega
      have HL := Lib.hid hlen
      clear ho hb hc ht hlen
      go_wp2_with (at_builtin; refine wpList_appendI _ rfl (.tmp 12) (.tmp 17) 34 rfl w.heap.size 3 Tryz.underlying34 Tryz.infoInt ao cc j (l.take j) rfl HL.out.symm (HO.out.alloc _) wr.heap.size 1 z rfl (cell_one _ _ _) (by have := HL.out; omega) (by have := HB.out.size; simp; omega) ?_; intro ao2 c2 w2 o2 g2; have b2 := below_app HB.out HO.out g2; have O2 := Lib.hid o2; have B2 := Lib.hid b2; clear o2 g2 b2)
      go_roundw
      case rel => exact ⟨j + 1, ao2, c2, by omega, by go_num, by first | rfl | rw [HL.out], by rw [HT.out]; exact O2.out, B2.out⟩
      case measure => simp [intOf]; omega
    · obtain rfl : j = l.length := by omega
      clear ho hb
      go_wp2_with fail
      go_ret
      refine ⟨ao, cc, rfl, ?_, HB.out⟩
      have := HO.out
      rwa [List.take_length] at this
theorem wpList_appendN {P : Program} (w : World) {ops : Array Oper} {rest : List Oper} {o : Oper} {a : Act} {Q : Exit → Act → World → Prop} (hgd : o.guard = none) (s x : Operand) (t : TypeId)
    (ho : o.op = .call { callee := .builtin .append, args := #[s, x], argTypes := #[t, t] }) (base : Nat) {e : TypeId} {z : Value} (ht : P.underlying t = some (.slice e))
    (hi : (P.info? e).map (fun i => (i.zero, i.size, i.bytes)) = some (some z, 7, 80)) (g cc j : Nat) (xs : List Value) (hs : a.eval s = .slice (some ⟨g, 0, none⟩) j cc)
    (hown : w.ownsRow base e 7 (.slice (some ⟨g, 0, none⟩) j cc) j xs) (bl : Nat) (n : Nd) (a2 : Option Addr) (c2 : Nat) (hx : a.eval x = .slice (some ⟨bl, 0, none⟩) 1 1)
    (hc : ∀ t u, (ndCells n a2 c2)[t]? = some u → w.cell? ⟨bl, t, none⟩ = some u) (hj : j ≤ 1048576) (hbase : base ≤ w.heap.size) (hz : z.cells.size = 7)
    (h : ∀ v' w', w'.ownsRow base e 7 v' (j + 1) (xs ++ ndCells n a2 c2) → w.grownBy w' (some g) → (v'.ownBlock = some g ∨ v'.ownBlock = some w.heap.size) → wpList P ops Q rest (a.put o.dst v') w') :
    wpList P ops Q (o :: rest) a w := by
  obtain ⟨i, hi0, hz0, hz1, hz2⟩ := info_parts hi
  refine wpList_append_own_at w hgd s x t ho base e i z 7 80 ht hi0 hz0 hz1 hz2 hz (by omega) _ j xs hs hown ⟨bl, 0, none⟩ 1 1 (ndCells n a2 c2) hx (by simp [ndCells]) ?_ ?_ (by unfold maxLen; omega) (by omega) hbase ?_
  · intro t u hu
    have := hc t u hu
    unfold Addr.add
    split
    · rename_i h0; subst h0; exact this
    · simpa using this
  · intro u hu
    simp [ndCells] at hu
    rcases hu with rfl | rfl | rfl | rfl | rfl | rfl | rfl <;> rfl
  · intro v' w' h1 h2 _ h4
    exact h v' w' h1 h2 h4
theorem cells_new (w : World) (n : Nd) (a2 : Option Addr) (c2 : Nat) : ∀ t u, (ndCells n a2 c2)[t]? = some u → (w.alloc (.cells (ndCells n a2 c2).toArray 39)).cell? ⟨w.heap.size, t, none⟩ = some u := by
  intro t u hu
  rw [World.cell?_alloc_new]
  simpa using hu
theorem grown_row {w wr W3 w4 : World} {g : Nat} (hb : Below w.heap.size w wr) (hw : Below wr.heap.size wr W3) (hg : w.heap.size ≤ g) (h : W3.grownBy w4 (some g)) : Below w.heap.size w w4 :=
  (below_step hb (Nat.le_refl _) hw).grown h (Nat.le_trans hb.size hw.size) (by intro g' hg'; cases hg'; exact hg)
theorem copy_step {wr W3 w4 : World} {base g cc j : Nat} {l : List Nd} {xs : List Value} {A : Nat → Option Addr} {C : Nat → Nat} {n : Nd} {a2 : Option Addr} {c2 : Nat} {v' : Value}
    (hp : PartN wr base g cc j l j xs A C) (hn : l[j]? = some n) (hs : n.name.size ≤ maxLen) (hb : Below wr.heap.size wr W3) (ho2 : Own W3 wr.heap.size 3 .i64 a2 c2 n.cols) (hbase : base ≤ wr.heap.size)
    (ho : w4.ownsRow base 39 7 v' (j + 1) (xs ++ ndCells n a2 c2)) (hg : W3.grownBy w4 (some g)) (hblk : v'.ownBlock = some g ∨ v'.ownBlock = some W3.heap.size) :
    ∃ g' c4 xs' A' C', v' = .slice (some ⟨g', 0, none⟩) (j + 1) c4 ∧ PartN w4 base g' c4 (j + 1) l (j + 1) xs' A' C' := by
  have hjl : j < l.length := by
    rcases Nat.lt_or_ge j l.length with h1 | h1
    · exact h1
    · rw [List.getElem?_eq_none h1] at hn; cases hn
  have hgb := owns_block hp.own
  have h3 := hp.below hb
  have z3 := hb.size
  rcases ho.2 with ⟨rfl, hz⟩ | ⟨g', c4, cur, rfl, r⟩
  · omega
  · have hg' : g' = g ∨ g' = W3.heap.size := by simpa [Value.ownBlock] using hblk
    have hAlt : ∀ (i : Nat) (x : Addr), i < j → i < l.length → A i = some x → x.block < wr.heap.size := fun i x hi hil hx => ((hp.cols i _ hi (List.getElem?_eq_getElem hil)).lt x hx).2
    refine ⟨g', c4, _, _, _, rfl, PartN.app (A := A) (C := C) hp.own.1 hp.cells ?_ hp.name hp.apart hn ho ?_ hs ?_ ?_ ?_⟩
    · intro i m hi hm
      have hil : i < l.length := by
        rcases Nat.lt_or_ge i l.length with h1 | h1
        · exact h1
        · rw [List.getElem?_eq_none h1] at hm; cases hm
      exact (h3.cols i m hi hm).grown hg (fun x hx => by simp; exact hp.row i x hi hil hx)
    · exact (ho2.grown hg (fun x hx => by have := (ho2.lt x hx).1; simp; omega)).base_le hbase
    · intro i x hi hil hx
      rcases hg' with rfl | rfl
      · exact hp.row i x hi hil hx
      · have := hAlt i x hi hil hx; omega
    · intro x hx
      have h5 := ho2.lt x hx
      rcases hg' with rfl | rfl <;> omega
    · intro i x y hi hil hx hy
      have := hAlt i x hi hil hx
      have := (ho2.lt y hy).1
      omega
set_option maxRecDepth 100000 in
set_option maxHeartbeats 4000000 in
theorem l02CopyP_any (ao : Option Addr) (c : Nat) (l : List Nd) (w : World) (h : RdN w ao l) (hl : l.length ≤ 1048576) (hcol : ∀ n ∈ l, n.cols.length ≤ 1048576) :
    Calls Tryz.prog 135 #[.slice ao l.length c] w (MadeP w l) := by
  obtain ⟨i0, hi0, hz0, hz1, hz2⟩ := info_parts Tryz.infoNode
  have I0 := Lib.hid hi0; have Z0 := Lib.hid hz0; have Z1 := Lib.hid hz1; have Z2 := Lib.hid hz2
  clear hi0 hz0 hz1 hz2
  have H := Lib.hid h; clear h
  have HCOL := Lib.hid hcol; clear hcol
  have P0 : Hid (∃ xs A C, PartN (w.alloc (.cells #[] 39)) w.heap.size w.heap.size 0 0 l 0 xs A C) :=
    ⟨[], fun _ => none, fun _ => 0, ⟨⟨rfl, .inr ⟨w.heap.size, 0, #[], rfl, Nat.le_refl _, heap_alloc_new w _, Nat.le_refl _, Nat.zero_le _, rfl, rfl⟩⟩, fun i n hi => absurd hi (Nat.not_lt_zero _), fun i n hi => absurd hi (Nat.not_lt_zero _), fun i n hi => absurd hi (Nat.not_lt_zero _), fun i x hi => absurd hi (Nat.not_lt_zero _), fun i k x y hi => absurd hi (Nat.not_lt_zero _)⟩⟩
  have B0 := Lib.hid ((Below.refl w.heap.size w).alloc (Nat.le_refl _) (.cells #[] 39))
  go_enter Tryz.func135, Tryz.ntmps135
  go_wp2_with fail
  go_loopw [3, 4] (fun s i wr => ∃ (j g cc : Nat), j ≤ l.length ∧ i = .int .i64 j ∧ s = .slice (some ⟨g, 0, none⟩) j cc ∧ (∃ xs A C, PartN wr w.heap.size g cc j l j xs A C) ∧ Below w.heap.size w wr) (fun _ i _ => l.length - (intOf i).toNat)
  case atStart => exact ⟨0, _, _, Nat.zero_le _, rfl, rfl, P0.out, B0.out⟩
  case round =>
    clear P0 B0
    obtain ⟨j, g, cc, hj, rfl, rfl, ⟨xs, A, C, hp⟩, hb⟩ := hrel
    have HP := Lib.hid hp; have HB := Lib.hid hb
    by_cases hlt : j < l.length
    · obtain ⟨b, off, n, a, c', rfl, hn, hat⟩ := (H.out.below hb).at_ hlt
      have hcl := HCOL.out n (List.mem_of_getElem? hn)
      have hbl := hat.lt
      have HN := Lib.hid hn; have NM := Lib.hid hat.nm; have RD := Lib.hid hat.rd
      obtain ⟨c0, c1, c2, c3, c4, c5, c6, _⟩ := hat
      have hxl := Lib.hid hp.own.1
      clear hn hp hb
      have hl' : j ≤ 1048576 := by omega
      by_cases hz : n.cols = []
      · obtain ⟨kd, nmm, co, op, nu, sl, cs⟩ := n
        simp only at hz; subst hz
        simp only [List.length_nil] at c6
        have BW := Lib.hid (show Below wr.heap.size wr ((wr.alloc (.cells #[.int .i64 kd, .string nmm, .int .i64 co, .int .i64 op, .int .i64 nu, .bool sl, .slice none 0 0] 39)).alloc (.cells #[.int .i64 kd, .string nmm, .int .i64 co, .int .i64 op, .int .i64 nu, .bool sl, .slice none 0 0] 39)) from ((Below.refl _ _).alloc (Nat.le_refl _) _).alloc (by simp) _)
        have OW := Lib.hid (show Own ((wr.alloc (.cells #[.int .i64 kd, .string nmm, .int .i64 co, .int .i64 op, .int .i64 nu, .bool sl, .slice none 0 0] 39)).alloc (.cells #[.int .i64 kd, .string nmm, .int .i64 co, .int .i64 op, .int .i64 nu, .bool sl, .slice none 0 0] 39)) wr.heap.size 3 .i64 none 0 [] from Own.none_)
        have P3 := Lib.hid (HP.out.below BW.out)
        go_wp2_with (at_builtin; go_must (refine wpList_appendN _ rfl (.tmp 32) (.tmp 34) 26 rfl w.heap.size Tryz.underlying26 Tryz.infoNode g cc j xs rfl P3.out.own (wr.heap.size + 1) ⟨kd, nmm, co, op, nu, sl, []⟩ none 0 rfl (by simp [ndCells]) hl' (by have := HB.out.size; simp; omega) rfl ?_; intro v' w4 o4 g4 k4; obtain ⟨g', c4', xs', A', C', rfl, hp'⟩ := copy_step HP.out HN.out NM.out BW.out OW.out HB.out.size o4 g4 k4; have P4 := Lib.hid hp'; have B4 := Lib.hid (grown_row HB.out BW.out (owns_block HP.out.own).1 g4); clear o4 g4 k4 hp'))
        go_roundw
        case rel => exact ⟨j + 1, g', c4', by omega, by go_num, rfl, ⟨xs', A', C', P4.out⟩, B4.out⟩
        case measure => simp [intOf]; omega
      · have hpos : 0 < n.cols.length := List.length_pos_iff.2 hz
        have hpos' : (0 : Int) < (n.cols.length : Int) := by omega
        clear hz
        go_wp2_with fail
        refine (l01Copy_any a c' n.cols _ (RD.out.below ((Below.refl _ wr).alloc (Nat.le_refl _) _)) hcl).mono ?_
        rintro e w2 ⟨a2, c2', rfl, o2, b2⟩
        have hq := fun o => b2.cell (p := ⟨wr.heap.size, o, none⟩) (by simp)
        have hqf := fun o => b2.frozen (p := ⟨wr.heap.size, o, none⟩) (by simp)
        have hz2 : wr.heap.size < w2.heap.size := by have := b2.size; simp at this; omega
        have B2 := Lib.hid (((Below.refl _ wr).alloc (Nat.le_refl _) _).trans (b2.mono (by simp)))
        have O2 := Lib.hid o2
        have BW := Lib.hid (show Below wr.heap.size wr ((w2.setCell ⟨wr.heap.size, 6, none⟩ (.slice a2 n.cols.length c2')).alloc (.cells #[.int .i64 n.kind, .string n.name, .int .i64 n.col, .int .i64 n.op, .int .i64 n.num, .bool n.slot, .slice a2 n.cols.length c2'] 39)) from (B2.out.setCell (p := ⟨wr.heap.size, 6, none⟩) (Nat.le_refl _) _).alloc (by have := B2.out.size; simpa [World.setCell] using this) _)
        have OW := Lib.hid (show Own ((w2.setCell ⟨wr.heap.size, 6, none⟩ (.slice a2 n.cols.length c2')).alloc (.cells #[.int .i64 n.kind, .string n.name, .int .i64 n.col, .int .i64 n.op, .int .i64 n.num, .bool n.slot, .slice a2 n.cols.length c2'] 39)) wr.heap.size 3 .i64 a2 c2' n.cols from ((o2.far (p := ⟨wr.heap.size, 6, none⟩) (fun x hx => by have := (o2.lt x hx).1; simp at this; simp only; omega) _).alloc _).base_le (by simp))
        have P3 := Lib.hid (HP.out.below BW.out)
        clear o2 b2
        go_wp2_with (at_builtin; go_must (refine wpList_appendN _ rfl (.tmp 32) (.tmp 34) 26 rfl w.heap.size Tryz.underlying26 Tryz.infoNode g cc j xs rfl P3.out.own w2.heap.size n a2 c2' rfl (by have := cells_new (w2.setCell ⟨wr.heap.size, 6, none⟩ (.slice a2 n.cols.length c2')) n a2 c2'; simpa [ndCells, World.setCell] using this) hl' (by have := HB.out.size; have := B2.out.size; simp [World.setCell]; omega) rfl ?_; intro v' w4 o4 g4 k4; obtain ⟨g', c4', xs', A', C', rfl, hp'⟩ := copy_step HP.out HN.out NM.out BW.out OW.out HB.out.size o4 g4 k4; have P4 := Lib.hid hp'; have B4 := Lib.hid (grown_row HB.out BW.out (owns_block HP.out.own).1 g4); clear o4 g4 k4 hp'))
        go_roundw
        case rel => exact ⟨j + 1, g', c4', by omega, by go_num, rfl, ⟨xs', A', C', P4.out⟩, B4.out⟩
        case measure => simp [intOf]; omega
    · obtain rfl : j = l.length := by omega
      clear hp hb
      go_wp2_with fail
      go_ret
      exact ⟨_, _, _, _, _, rfl, HP.out, HB.out⟩
end Go.Proofs.YtanfllednlpbaaaGreat
namespace Go.Proofs.YtanfllednlpbaaaGreat
open Go.RowKit Go.Shelf Go.Lib
set_option linter.unusedSimpArgs false
set_option linter.unusedVariables false
end Go.Proofs.YtanfllednlpbaaaGreat
namespace Go.Proofs.YtanfllednlpbaaaGreat
open Go.RowKit
set_option linter.unusedSimpArgs false
set_option linter.unusedVariables false
theorem OwnN.cap {w : World} {base : Nat} {ao : Option Addr} {c : Nat} {l : List Nd} (h : OwnN w base ao c l) : l = [] ∨ (l.length ≤ c ∧ c ≤ maxLen) := by
  rcases h with h | ⟨g, xs, A, C, _, hp⟩
  · exact .inl h
  · right
    rcases hp.own.2 with ⟨hv, _⟩ | ⟨g', cap, cur, hv, _, _, h1, h2, _⟩
    · simp at hv
    · simp only [Value.slice.injEq] at hv
      rw [hv.2.2]; exact ⟨h1, h2⟩
theorem PartN.rdN {w : World} {base g c : Nat} {l : List Nd} {xs : List Value} {A : Nat → Option Addr} {C : Nat → Nat} (h : PartN w base g c l.length l l.length xs A C) : RdN w (some ⟨g, 0, none⟩) l := by
  refine .inr ⟨g, 0, rfl, fun i n hi => ⟨A i, C i, ?_⟩⟩
  have hl : i < l.length := by
    rcases Nat.lt_or_ge i l.length with h1 | h1
    · exact h1
    · rw [List.getElem?_eq_none h1] at hi; cases hi
  exact h.at_ hl hl hi
theorem PartN.xs_eq {w : World} {base g c : Nat} {l : List Nd} {xs : List Value} {A : Nat → Option Addr} {C : Nat → Nat} (h : PartN w base g c l.length l l.length xs A C) : xs = allCells l A C := by
  have hx : xs.length = l.length * 7 := h.own.1
  refine List.ext_getElem? fun j => ?_
  rcases Nat.lt_or_ge j (l.length * 7) with hj | hj
  · obtain ⟨q, r, rfl, hr⟩ : ∃ q r, j = q * 7 + r ∧ r < 7 := ⟨j / 7, j % 7, by omega, by omega⟩
    have hq : q < l.length := by omega
    have hc := h.cells q _ hq (List.getElem?_eq_getElem hq)
    rw [allCells_get l A C q _ (List.getElem?_eq_getElem hq) r hr]
    have hm : r = 0 ∨ r = 1 ∨ r = 2 ∨ r = 3 ∨ r = 4 ∨ r = 5 ∨ r = 6 := by omega
    rcases hm with rfl | rfl | rfl | rfl | rfl | rfl | rfl
    · exact hc.c0
    · exact hc.c1
    · exact hc.c2
    · exact hc.c3
    · exact hc.c4
    · exact hc.c5
    · exact hc.c6
  · rw [List.getElem?_eq_none (by omega), List.getElem?_eq_none (by rw [allCells_len]; omega)]
theorem some_lt {α : Type} {xs : List α} {i : Nat} {v : α} (h : xs[i]? = some v) : i < xs.length := (List.getElem?_eq_some_iff.1 h).1
theorem NdC.left {xs ys : List Value} {o : Nat} {n : Nd} {a : Option Addr} {c : Nat} (h : NdC xs o n a c) : NdC (xs ++ ys) o n a c := by
  have hl := some_lt h.c6
  exact ⟨by rw [List.getElem?_append_left (by omega)]; exact h.c0, by rw [List.getElem?_append_left (by omega)]; exact h.c1, by rw [List.getElem?_append_left (by omega)]; exact h.c2, by rw [List.getElem?_append_left (by omega)]; exact h.c3, by rw [List.getElem?_append_left (by omega)]; exact h.c4, by rw [List.getElem?_append_left (by omega)]; exact h.c5, by rw [List.getElem?_append_left (by omega)]; exact h.c6⟩
theorem NdC.right {xs ys : List Value} {o k : Nat} {n : Nd} {a : Option Addr} {c : Nat} (h : NdC ys o n a c) (hk : k = xs.length + o) : NdC (xs ++ ys) k n a c := by
  subst hk
  have key : ∀ t v, ys[o + t]? = some v → (xs ++ ys)[xs.length + o + t]? = some v := fun t v hv => by
    rw [List.getElem?_append_right (by omega), show xs.length + o + t - xs.length = o + t by omega]; exact hv
  exact ⟨key 0 _ h.c0, key 1 _ h.c1, key 2 _ h.c2, key 3 _ h.c3, key 4 _ h.c4, key 5 _ h.c5, key 6 _ h.c6⟩
theorem join_step {wb W3 w4 : World} {base g cc : Nat} {l : List Nd} {xs : List Value} {A : Nat → Option Addr} {C : Nat → Nat} {g2 c2 : Nat} {l2 : List Nd} {xs2 : List Value} {A2 : Nat → Option Addr} {C2 : Nat → Nat} {v' : Value}
    (hp : PartN wb base g cc l.length l l.length xs A C) (hb : Below wb.heap.size wb W3) (hp2 : PartN W3 wb.heap.size g2 c2 l2.length l2 l2.length xs2 A2 C2) (hbase : base ≤ wb.heap.size)
    (ho : w4.ownsRow base 39 7 v' (l.length + l2.length) (xs ++ xs2)) (hg : W3.grownBy w4 (some g)) (hblk : v'.ownBlock = some g ∨ v'.ownBlock = some W3.heap.size) :
    ∃ g' c4 A' C', v' = .slice (some ⟨g', 0, none⟩) (l.length + l2.length) c4 ∧ PartN w4 base g' c4 (l ++ l2).length (l ++ l2) (l ++ l2).length (xs ++ xs2) A' C' := by
  have hgb := owns_block hp.own
  have h3 := hp.below hb
  have z3 := hb.size
  have hx : xs.length = l.length * 7 := hp.own.1
  rcases ho.2 with ⟨rfl, hz⟩ | ⟨g', c4, cur, rfl, r⟩
  · simp [Value.ownBlock] at hblk
  · have hg' : g' = g ∨ g' = W3.heap.size := by simpa [Value.ownBlock] using hblk
    have hAlt : ∀ (i : Nat) (x : Addr), i < l.length → A i = some x → x.block < wb.heap.size := fun i x hi hx => ((hp.cols i _ hi (List.getElem?_eq_getElem hi)).lt x hx).2
    have hAlt2 : ∀ (i : Nat) (x : Addr), i < l2.length → A2 i = some x → wb.heap.size ≤ x.block ∧ x.block < W3.heap.size := fun i x hi hx => (hp2.cols i _ hi (List.getElem?_eq_getElem hi)).lt x hx
    refine ⟨g', c4, fun i => if i < l.length then A i else A2 (i - l.length), fun i => if i < l.length then C i else C2 (i - l.length), rfl, ?_⟩
    refine ⟨by rw [List.length_append]; exact ho, ?_, ?_, ?_, ?_, ?_⟩
    · intro i n hi hn
      by_cases hil : i < l.length
      · simp only [if_pos hil]
        rw [List.getElem?_append_left hil] at hn
        exact (hp.cells i n hil hn).left
      · simp only [if_neg hil]
        rw [List.getElem?_append_right (by omega)] at hn
        exact (hp2.cells _ n (some_lt hn) hn).right (by rw [hx]; omega)
    · intro i n hi hn
      by_cases hil : i < l.length
      · simp only [if_pos hil]
        rw [List.getElem?_append_left hil] at hn
        exact (h3.cols i n hil hn).grown hg (fun x hx => by simp; exact hp.row i x hil hil hx)
      · simp only [if_neg hil]
        rw [List.getElem?_append_right (by omega)] at hn
        exact ((hp2.cols _ n (some_lt hn) hn).grown hg (fun x hx => by have := hAlt2 _ x (some_lt hn) hx; simp; omega)).base_le hbase
    · intro i n hi hn
      by_cases hil : i < l.length
      · rw [List.getElem?_append_left hil] at hn
        exact hp.name i n hil hn
      · rw [List.getElem?_append_right (by omega)] at hn
        exact hp2.name _ n (some_lt hn) hn
    · intro i x _ hi hx'
      rw [List.length_append] at hi
      by_cases hil : i < l.length
      · simp only [if_pos hil] at hx'
        rcases hg' with rfl | rfl
        · exact hp.row i x hil hil hx'
        · have := hAlt i x hil hx'; omega
      · simp only [if_neg hil] at hx'
        have := hAlt2 _ x (by omega) hx'
        rcases hg' with rfl | rfl <;> omega
    · intro i k x y _ _ hi hk hik hx' hy'
      rw [List.length_append] at hi hk
      by_cases hil : i < l.length
      · simp only [if_pos hil] at hx'
        by_cases hkl : k < l.length
        · simp only [if_pos hkl] at hy'
          exact hp.apart i k x y hil hkl hil hkl hik hx' hy'
        · simp only [if_neg hkl] at hy'
          have := hAlt i x hil hx'
          have := hAlt2 _ y (by omega) hy'
          omega
      · simp only [if_neg hil] at hx'
        by_cases hkl : k < l.length
        · simp only [if_pos hkl] at hy'
          have := hAlt k y hkl hy'
          have := hAlt2 _ x (by omega) hx'
          omega
        · simp only [if_neg hkl] at hy'
          exact hp2.apart _ _ x y (by omega) (by omega) (by omega) (by omega) (by omega) hx' hy'
theorem wpList_appendNs {P : Program} (w : World) {ops : Array Oper} {rest : List Oper} {o : Oper} {a : Act} {Q : Exit → Act → World → Prop} (hgd : o.guard = none) (s x : Operand) (t : TypeId)
    (ho : o.op = .call { callee := .builtin .append, args := #[s, x], argTypes := #[t, t] }) (base : Nat) {z : Value} (ht : P.underlying t = some (.slice 39))
    (hi : (P.info? 39).map (fun i => (i.zero, i.size, i.bytes)) = some (some z, 7, 80)) (hz : z.cells.size = 7) (v : Value) (n : Nat) (xs : List Value) (hs : a.eval s = v)
    (hown : w.ownsRow base 39 7 v n xs) (b off m c2 : Nat) (l2 : List Nd) (A2 : Nat → Option Addr) (C2 : Nat → Nat) (hx : a.eval x = .slice (some ⟨b, off, none⟩) m c2) (hm : m = l2.length)
    (hc : ∀ i n, l2[i]? = some n → NdAt w b (off + i * 7) n (A2 i) (C2 i)) (hj : n + m ≤ 16777216) (hbase : base ≤ w.heap.size)
    (h : ∀ v' w', w'.ownsRow base 39 7 v' (n + m) (xs ++ allCells l2 A2 C2) → w.grownBy w' v.ownBlock → (v'.ownBlock = v.ownBlock ∨ v'.ownBlock = some w.heap.size) → wpList P ops Q rest (a.put o.dst v') w') :
    wpList P ops Q (o :: rest) a w := by
  obtain ⟨i, hi0, hz0, hz1, hz2⟩ := info_parts hi
  subst hm
  refine wpList_append_own_at w hgd s x t ho base 39 i z 7 80 ht hi0 hz0 hz1 hz2 hz (by omega) _ n xs hs hown ⟨b, off, none⟩ l2.length c2 (allCells l2 A2 C2) hx (allCells_len _ _ _) ?_ (allCells_one _ _ _) (by unfold maxLen; omega) (by omega) hbase ?_
  · intro j u hu
    have := allCells_cell hc j u hu
    unfold Addr.add
    split
    · rename_i h0; subst h0; exact this
    · exact this
  · intro v' w' h1 h2 _ h4
    exact h v' w' h1 h2 h4
def srcs (L : List (Option Addr × Nat × List Nd)) : List Nd := L.flatMap (·.2.2)
theorem srcs_take {L : List (Option Addr × Nat × List Nd)} {j : Nat} {q : Option Addr × Nat × List Nd} (h : L[j]? = some q) : srcs (L.take (j + 1)) = srcs (L.take j) ++ q.2.2 := by
  have hj := some_lt h
  rw [List.take_succ_eq_append_getElem hj]
  have : L[j] = q := by rw [List.getElem?_eq_getElem hj] at h; injection h
  rw [this]
  simp [srcs]
theorem srcs_le (L : List (Option Addr × Nat × List Nd)) (j : Nat) : (srcs (L.take j)).length ≤ (srcs L).length := by
  have : srcs L = srcs (L.take j) ++ srcs (L.drop j) := by
    have h := congrArg srcs (List.take_append_drop j L)
    unfold srcs at h ⊢
    rw [List.flatMap_append] at h
    exact h.symm
  rw [this, List.length_append]; omega
def JnRel (w : World) (L : List (Option Addr × Nat × List Nd)) (wr : World) (s i : Value) : Prop :=
  ∃ (j g cc : Nat), j ≤ L.length ∧ i = .int .i64 j ∧ s = .slice (some ⟨g, 0, none⟩) (srcs (L.take j)).length cc ∧ (∃ xs A C, PartN wr w.heap.size g cc (srcs (L.take j)).length (srcs (L.take j)) (srcs (L.take j)).length xs A C) ∧ Below w.heap.size w wr
theorem join_next {w wr W3 w4 : World} {L : List (Option Addr × Nat × List Nd)} {j g cc : Nat} {q : Option Addr × Nat × List Nd} {xs : List Value} {A : Nat → Option Addr} {C : Nat → Nat} {g2 c2 : Nat} {xs2 : List Value} {A2 : Nat → Option Addr} {C2 : Nat → Nat} {v' : Value}
    (hq : L[j]? = some q) (hp : PartN wr w.heap.size g cc (srcs (L.take j)).length (srcs (L.take j)) (srcs (L.take j)).length xs A C) (hw : Below w.heap.size w wr) (hb : Below wr.heap.size wr W3) (hp2 : PartN W3 wr.heap.size g2 c2 q.2.2.length q.2.2 q.2.2.length xs2 A2 C2)
    (ho : w4.ownsRow w.heap.size 39 7 v' ((srcs (L.take j)).length + q.2.2.length) (xs ++ allCells q.2.2 A2 C2)) (hg : W3.grownBy w4 (some g)) (hblk : v'.ownBlock = some g ∨ v'.ownBlock = some W3.heap.size) :
    JnRel w L w4 v' (.int .i64 ((j : Int) + 1)) := by
  rw [← hp2.xs_eq] at ho
  obtain ⟨g', c4, A', C', rfl, hP⟩ := join_step hp hb hp2 hw.size ho hg hblk
  have hj := some_lt hq
  refine ⟨j + 1, g', c4, hj, by simp, ?_, ⟨xs ++ xs2, A', C', ?_⟩, ?_⟩
  · rw [srcs_take hq, List.length_append]
  · rw [srcs_take hq]; exact hP
  · exact (below_step hw (Nat.le_refl _) hb).grown hg (Nat.le_trans hw.size hb.size) (by intro g' hg'; cases hg'; exact (owns_block hp.own).1)
set_option maxRecDepth 100000 in
set_option maxHeartbeats 1600000 in
theorem joined_any (bl cL : Nat) (L : List (Option Addr × Nat × List Nd)) (w : World) (hL : L.length ≤ 1000)
    (hcell : ∀ i q, L[i]? = some q → w.cell? ⟨bl, i, none⟩ = some (.slice q.1 q.2.2.length q.2.1) ∧ RdN w q.1 q.2.2)
    (hsm : ∀ q ∈ L, q.2.2.length ≤ 1048576 ∧ ∀ n ∈ q.2.2, n.cols.length ≤ 1048576) (htot : (srcs L).length ≤ 8388608) :
    Calls Tryz.prog 111 #[.slice (some ⟨bl, 0, none⟩) L.length cL] w (MadeP w (srcs L)) := by
  have HC := Lib.hid hcell; have HS := Lib.hid hsm; clear hcell hsm
  have P0 := Lib.hid (show JnRel w L (w.alloc (.cells #[] 39)) (.slice (some ⟨w.heap.size, 0, none⟩) 0 0) (.int .i64 0) from
    ⟨0, w.heap.size, 0, Nat.zero_le _, rfl, rfl, ⟨[], fun _ => none, fun _ => 0, ⟨⟨rfl, .inr ⟨w.heap.size, 0, #[], rfl, Nat.le_refl _, heap_alloc_new w _, Nat.le_refl _, Nat.zero_le _, rfl, rfl⟩⟩, fun i n hi => absurd hi (Nat.not_lt_zero _), fun i n hi => absurd hi (Nat.not_lt_zero _), fun i n hi => absurd hi (Nat.not_lt_zero _), fun i x hi => absurd hi (Nat.not_lt_zero _), fun i k x y hi => absurd hi (Nat.not_lt_zero _)⟩⟩, (Below.refl w.heap.size w).alloc (Nat.le_refl _) (.cells #[] 39)⟩)
  go_enter Tryz.func111, Tryz.ntmps111
  go_wp2_with fail
  go_loopw [3, 4] (fun s i wr => JnRel w L wr s i) (fun _ i _ => L.length - (intOf i).toNat)
  case atStart => exact P0.out
  case round =>
    clear P0
    obtain ⟨j, g, cc, hj, rfl, rfl, ⟨xs, A, C, hp⟩, hb⟩ := hrel
    have HP := Lib.hid hp; have HB := Lib.hid hb
    have hle := srcs_le L j
    clear hp hb
    by_cases hlt : j < L.length
    · have hq0 : L[j]? = some L[j] := List.getElem?_eq_getElem hlt
      generalize L[j] = q at hq0
      have HQ := Lib.hid hq0
      obtain ⟨hc, hrd⟩ := HC.out j q hq0
      obtain ⟨hq1, hq2⟩ := HS.out q (List.mem_of_getElem? hq0)
      have hcw := (HB.out.cell (p := ⟨bl, j, none⟩) (World.block_lt_of_cell? w ⟨bl, j, none⟩ hc)).trans hc
      have RD := Lib.hid (hrd.below HB.out); have Q2 := Lib.hid hq2
      obtain ⟨qa, qc, ql⟩ := q
      simp only at hcw hq1 RD Q2
      clear hq0 hc hrd hq2
      generalize hl0 : (srcs (L.take j)).length = n0 at hle
      have HL0 := Lib.hid hl0; clear hl0
      go_wp2_with fail
      refine (l02CopyP_any qa qc ql _ RD.out hq1 Q2.out).mono ?_
      rintro e w2 ⟨g2, c2, xs2, A2, C2, rfl, p2, b2⟩
      have P2 := Lib.hid p2; have B2 := Lib.hid b2
      have OW := Lib.hid (show w2.ownsRow w.heap.size 39 7 (.slice (some ⟨g, 0, none⟩) n0 cc) n0 xs by have := (HP.out.below b2).own; rw [HL0.out] at this; exact this)
      have SZ : w.heap.size ≤ w2.heap.size := Nat.le_trans HB.out.size b2.size
      clear p2 b2
      go_wp2_with (at_builtin; go_must (refine wpList_appendNs _ rfl (.tmp 12) (.tmp 17) 26 rfl w.heap.size Tryz.underlying26 Tryz.infoNode rfl _ n0 xs rfl OW.out g2 0 _ c2 ql A2 C2 rfl rfl (fun i n hi => P2.out.at_ (some_lt hi) (some_lt hi) hi) (by omega) SZ ?_; intro v' w4 o4 g4 k4; have J := Lib.hid (join_next HQ.out HP.out HB.out B2.out P2.out (by rw [HL0.out]; exact o4) g4 k4); clear o4 g4 k4))
      go_roundw
      case rel => exact J.out
      case measure => simp [intOf]; omega
    · obtain rfl : j = L.length := by omega
      have E := Lib.hid (show srcs (L.take L.length) = srcs L by rw [List.take_length])
      go_wp2_with fail
      go_ret
      have hp := HP.out
      rw [E.out] at hp
      exact ⟨_, _, _, _, _, by rw [E.out]; rfl, hp, HB.out⟩
def joinN (p : List Nd) (k : Int) (q : List Nd) : List Nd := p.take k.toNat ++ q ++ p.drop (endOfN p k).toNat
theorem RdN.take {w : World} {ao : Option Addr} {l : List Nd} (h : RdN w ao l) (m : Nat) : RdN w ao (l.take m) := by
  rcases h with rfl | ⟨b, off, rfl, hc⟩
  · left; simp
  · refine .inr ⟨b, off, rfl, fun i n hi => hc i n ?_⟩
    rw [List.getElem?_take] at hi
    split at hi
    · exact hi
    · cases hi
theorem RdN.drop {w : World} {b off : Nat} {l : List Nd} (h : RdN w (some ⟨b, off, none⟩) l) (k : Nat) : RdN w (some ⟨b, off + k * 7, none⟩) (l.drop k) := by
  have := h.part k (l.drop k).length
  rwa [List.take_length] at this
theorem Small.take {l : List Nd} (h : Small l) (m : Nat) : Small (l.take m) := ⟨by have := h.1; simp; omega, fun n hn => h.2 n (List.mem_of_mem_take hn)⟩
theorem Small.drop {l : List Nd} (h : Small l) (m : Nat) : Small (l.drop m) := ⟨by have := h.1; simp; omega, fun n hn => h.2 n (List.mem_of_mem_drop hn)⟩
theorem Small.put {p q : List Nd} (h : Small p) (hq : Small q) (k : Int) (hp40 : p.length ≤ 40) (hq40 : q.length ≤ 40) : Small (joinN p k q) := by
  refine ⟨by unfold joinN; simp; omega, fun n hn => ?_⟩
  unfold joinN at hn
  rw [List.mem_append, List.mem_append] at hn
  rcases hn with (hn | hn) | hn
  · exact h.2 n (List.mem_of_mem_take hn)
  · exact hq.2 n hn
  · exact h.2 n (List.mem_of_mem_drop hn)
theorem joined3_any (W : World) (t : TypeId) (a0 a1 a2 : Option Addr) (n0 c0 n1 c1 n2 c2 : Nat) (l0 l1 l2 : List Nd) (e0 : n0 = l0.length) (e1 : n1 = l1.length) (e2 : n2 = l2.length) (h0 : RdN W a0 l0) (h1 : RdN W a1 l1) (h2 : RdN W a2 l2) (s0 : Small l0) (s1 : Small l1) (s2 : Small l2) (J : List Nd) (hJ : l0 ++ l1 ++ l2 = J) :
    Calls Tryz.prog 111 #[.slice (some ⟨W.heap.size, 0, none⟩) 3 3] (W.alloc (.cells #[.slice a0 n0 c0, .slice a1 n1 c1, .slice a2 n2 c2] t))
      (MadeP (W.alloc (.cells #[.slice a0 n0 c0, .slice a1 n1 c1, .slice a2 n2 c2] t)) J) := by
  subst e0 e1 e2 hJ
  have hb : Below W.heap.size W (W.alloc (.cells #[.slice a0 l0.length c0, .slice a1 l1.length c1, .slice a2 l2.length c2] t)) := (Below.refl _ _).alloc (Nat.le_refl _) _
  have e : srcs [(a0, c0, l0), (a1, c1, l1), (a2, c2, l2)] = l0 ++ l1 ++ l2 := by simp [srcs]
  have := joined_any W.heap.size 3 [(a0, c0, l0), (a1, c1, l1), (a2, c2, l2)] (W.alloc (.cells #[.slice a0 l0.length c0, .slice a1 l1.length c1, .slice a2 l2.length c2] t)) (by simp) ?_ ?_ ?_
  · rw [e] at this; exact this
  · intro i q hq
    match i, hq with
    | 0, hq => cases hq; exact ⟨by rw [World.cell?_alloc_new]; rfl, h0.below hb⟩
    | 1, hq => cases hq; exact ⟨by rw [World.cell?_alloc_new]; rfl, h1.below hb⟩
    | 2, hq => cases hq; exact ⟨by rw [World.cell?_alloc_new]; rfl, h2.below hb⟩
  · intro q hq
    simp at hq
    rcases hq with rfl | rfl | rfl
    · exact s0
    · exact s1
    · exact s2
  · rw [e]; have := s0.1; have := s1.1; have := s2.1; simp; omega
end Go.Proofs.YtanfllednlpbaaaGreat
