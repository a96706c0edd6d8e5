/-
  Contracts of spec.l01Copy and spec.l02Copy: the same numbers, the same nodes, in memory of the call's own. For every slice. Contract of impl.copyNodes: the same nodes in memory of the call's own. For every slice of nodes. Contracts of PartOf, of the model and of the program. For every slice of nodes and every number. The part of a plan is a plan: its tree is the tree at that place, moved. Plain facts; no walk. Contracts of the helpers over slices of nodes: szNodeS, eqNodeS. For every slice of nodes. What szNodeS tells of a list of nodes: it is small. No walk.
-/
import Derived.Test.YtfpbhedophlnkaaGreatDoorJW22x
import Derived.Test.YtfpbhedophlnkaaGreatDoorJW17x
import Derived.Test.YtfpbhedophlnkaaGreatDoorJW13x
import Derived.Deep.RegionWith
import Derived.Test.YtfpbhedophlnkaaGreatDoorJW3x
import Derived.Test.YtfpbhedophlnkaaGreatDoorJW16x
namespace Go.Proofs.YtfpbhedophlnkaaGreatDoor
open Go.RowKit
set_option linter.unusedSimpArgs false
set_option linter.unusedVariables false

set_option maxHeartbeats 1600000 in
theorem l01Copy_any (a : Option Addr) (c : Nat) (l : List Int) (w : World) (h : Rd w .i64 a l) (hl : l.length ≤ 1048576) :
    Calls Tryz.prog 186 #[.slice a l.length c] w (Made w 3 .i64 l) := by
  have H := Lib.hid h; clear h
  have O0 := Lib.hid (own_empty (w := w) (base := w.heap.size) (e := 3) (k := .i64) (Nat.le_refl _))
  have B0 := Lib.hid ((Below.refl w.heap.size w).alloc (Nat.le_refl _) (.cells #[] 3))
  go_enter Tryz.func186, Tryz.ntmps186
  go_wp2_with fail
  go_loopw [3, 4] (fun s i wr => ∃ (j : Nat) (ao : Option Addr) (cc : Nat), j ≤ l.length ∧ i = .int .i64 j ∧ s = .slice ao j cc ∧ Own wr w.heap.size 3 .i64 ao cc (l.take j) ∧ Below w.heap.size w wr) (fun _ i _ => l.length - (intOf i).toNat)
  case atStart => exact ⟨0, _, _, Nat.zero_le _, rfl, rfl, O0.out, B0.out⟩
  case round =>
    clear O0 B0
    obtain ⟨j, ao, cc, hj, rfl, rfl, ho, hb⟩ := hrel
    have HO := Lib.hid ho; have HB := Lib.hid hb
    by_cases hlt : j < l.length
    · obtain ⟨b, off, rfl, hc⟩ : ∃ b off, a = some ⟨b, off, none⟩ ∧ ∀ i, i < l.length → wr.cell? ⟨b, off + i, none⟩ = some (.int .i64 (l.getD i 0)) := by
        rcases H.out.below hb with rfl | h'
        · simp at hlt
        · exact h'
      obtain ⟨z, _, _, hcz, ht⟩ := Rd.at_ hc hlt
      have HT := Lib.hid ht
      have hlen : (l.take j).length = j := by simp; omega
      have HL := Lib.hid hlen
      clear ho hb hc ht hlen
      go_wp2_with (at_builtin; refine wpList_appendI _ rfl (.tmp 12) (.tmp 17) 47 rfl w.heap.size 3 Tryz.underlying47 Tryz.infoInt ao cc j (l.take j) rfl HL.out.symm (HO.out.alloc _) wr.heap.size 1 z rfl (cell_one _ _ _) (by have := HL.out; omega) (by have := HB.out.size; simp; omega) ?_; intro ao2 c2 w2 o2 g2; have b2 := below_app HB.out HO.out g2; have O2 := Lib.hid o2; have B2 := Lib.hid b2; clear o2 g2 b2)
      go_roundw
      case rel => exact ⟨j + 1, ao2, c2, by omega, by go_num, by first | rfl | rw [HL.out], by rw [HT.out]; exact O2.out, B2.out⟩
      case measure => simp [intOf]; omega
    · obtain rfl : j = l.length := by omega
      clear ho hb
      go_wp2_with fail
      go_ret
      refine ⟨ao, cc, rfl, ?_, HB.out⟩
      have := HO.out
      rwa [List.take_length] at this

/-- 'append(xs, n)' at a row of nodes of the call's own. -/
theorem wpList_appendN {P : Program} (w : World) {ops : Array Oper} {rest : List Oper} {o : Oper} {a : Act} {Q : Exit → Act → World → Prop} (hgd : o.guard = none) (s x : Operand) (t : TypeId)
    (ho : o.op = .call { callee := .builtin .append, args := #[s, x], argTypes := #[t, t] }) (base : Nat) {e : TypeId} {z : Value} (ht : P.underlying t = some (.slice e))
    (hi : (P.info? e).map (fun i => (i.zero, i.size, i.bytes)) = some (some z, 7, 80)) (g cc j : Nat) (xs : List Value) (hs : a.eval s = .slice (some ⟨g, 0, none⟩) j cc)
    (hown : w.ownsRow base e 7 (.slice (some ⟨g, 0, none⟩) j cc) j xs) (bl : Nat) (n : Nd) (a2 : Option Addr) (c2 : Nat) (hx : a.eval x = .slice (some ⟨bl, 0, none⟩) 1 1)
    (hc : ∀ t u, (ndCells n a2 c2)[t]? = some u → w.cell? ⟨bl, t, none⟩ = some u) (hj : j ≤ 1048576) (hbase : base ≤ w.heap.size) (hz : z.cells.size = 7)
    (h : ∀ v' w', w'.ownsRow base e 7 v' (j + 1) (xs ++ ndCells n a2 c2) → w.grownBy w' (some g) → (v'.ownBlock = some g ∨ v'.ownBlock = some w.heap.size) → wpList P ops Q rest (a.put o.dst v') w') :
    wpList P ops Q (o :: rest) a w := by
  obtain ⟨i, hi0, hz0, hz1, hz2⟩ := info_parts hi
  refine wpList_append_own_at w hgd s x t ho base e i z 7 80 ht hi0 hz0 hz1 hz2 hz (by omega) _ j xs hs hown ⟨bl, 0, none⟩ 1 1 (ndCells n a2 c2) hx (by simp [ndCells]) ?_ ?_ (by unfold maxLen; omega) (by omega) hbase ?_
  · intro t u hu
    have := hc t u hu
    unfold Addr.add
    split
    · rename_i h0; subst h0; exact this
    · simpa using this
  · intro u hu
    simp [ndCells] at hu
    rcases hu with rfl | rfl | rfl | rfl | rfl | rfl | rfl <;> rfl
  · intro v' w' h1 h2 _ h4
    exact h v' w' h1 h2 h4
theorem cells_new (w : World) (n : Nd) (a2 : Option Addr) (c2 : Nat) : ∀ t u, (ndCells n a2 c2)[t]? = some u → (w.alloc (.cells (ndCells n a2 c2).toArray 92)).cell? ⟨w.heap.size, t, none⟩ = some u := by
  intro t u hu
  rw [World.cell?_alloc_new]
  simpa using hu
theorem grown_row {w wr W3 w4 : World} {g : Nat} (hb : Below w.heap.size w wr) (hw : Below wr.heap.size wr W3) (hg : w.heap.size ≤ g) (h : W3.grownBy w4 (some g)) : Below w.heap.size w w4 :=
  (below_step hb (Nat.le_refl _) hw).grown h (Nat.le_trans hb.size hw.size) (by intro g' hg'; cases hg'; exact hg)

/-- One node more of a copy. -/
theorem copy_step {wr W3 w4 : World} {base g cc j : Nat} {l : List Nd} {xs : List Value} {A : Nat → Option Addr} {C : Nat → Nat} {n : Nd} {a2 : Option Addr} {c2 : Nat} {v' : Value}
    (hp : PartN wr base g cc j l j xs A C) (hn : l[j]? = some n) (hs : n.name.size ≤ maxLen) (hb : Below wr.heap.size wr W3) (ho2 : Own W3 wr.heap.size 3 .i64 a2 c2 n.cols) (hbase : base ≤ wr.heap.size)
    (ho : w4.ownsRow base 92 7 v' (j + 1) (xs ++ ndCells n a2 c2)) (hg : W3.grownBy w4 (some g)) (hblk : v'.ownBlock = some g ∨ v'.ownBlock = some W3.heap.size) :
    ∃ g' c4 xs' A' C', v' = .slice (some ⟨g', 0, none⟩) (j + 1) c4 ∧ PartN w4 base g' c4 (j + 1) l (j + 1) xs' A' C' := by
  have hjl : j < l.length := by
    rcases Nat.lt_or_ge j l.length with h1 | h1
    · exact h1
    · rw [List.getElem?_eq_none h1] at hn; cases hn
  have hgb := owns_block hp.own
  have h3 := hp.below hb
  have z3 := hb.size
  rcases ho.2 with ⟨rfl, hz⟩ | ⟨g', c4, cur, rfl, r⟩
  · omega
  · have hg' : g' = g ∨ g' = W3.heap.size := by simpa [Value.ownBlock] using hblk
    have hAlt : ∀ (i : Nat) (x : Addr), i < j → i < l.length → A i = some x → x.block < wr.heap.size := fun i x hi hil hx => ((hp.cols i _ hi (List.getElem?_eq_getElem hil)).lt x hx).2
    refine ⟨g', c4, _, _, _, rfl, PartN.app (A := A) (C := C) hp.own.1 hp.cells ?_ hp.name hp.apart hn ho ?_ hs ?_ ?_ ?_⟩
    · intro i m hi hm
      have hil : i < l.length := by
        rcases Nat.lt_or_ge i l.length with h1 | h1
        · exact h1
        · rw [List.getElem?_eq_none h1] at hm; cases hm
      exact (h3.cols i m hi hm).grown hg (fun x hx => by simp; exact hp.row i x hi hil hx)
    · exact (ho2.grown hg (fun x hx => by have := (ho2.lt x hx).1; simp; omega)).base_le hbase
    · intro i x hi hil hx
      rcases hg' with rfl | rfl
      · exact hp.row i x hi hil hx
      · have := hAlt i x hi hil hx; omega
    · intro x hx
      have h5 := ho2.lt x hx
      rcases hg' with rfl | rfl <;> omega
    · intro i x y hi hil hx hy
      have := hAlt i x hi hil hx
      have := (ho2.lt y hy).1
      omega

set_option maxRecDepth 100000 in
set_option maxHeartbeats 4000000 in
theorem l02CopyP_any (ao : Option Addr) (c : Nat) (l : List Nd) (w : World) (h : RdN w ao l) (hl : l.length ≤ 1048576) (hcol : ∀ n ∈ l, n.cols.length ≤ 1048576) :
    Calls Tryz.prog 220 #[.slice ao l.length c] w (MadeP w l) := by
  obtain ⟨i0, hi0, hz0, hz1, hz2⟩ := info_parts Tryz.infoNode
  have I0 := Lib.hid hi0; have Z0 := Lib.hid hz0; have Z1 := Lib.hid hz1; have Z2 := Lib.hid hz2
  clear hi0 hz0 hz1 hz2
  have H := Lib.hid h; clear h
  have HCOL := Lib.hid hcol; clear hcol
  have P0 : Hid (∃ xs A C, PartN (w.alloc (.cells #[] 92)) w.heap.size w.heap.size 0 0 l 0 xs A C) :=
    ⟨[], fun _ => none, fun _ => 0, ⟨⟨rfl, .inr ⟨w.heap.size, 0, #[], rfl, Nat.le_refl _, heap_alloc_new w _, Nat.le_refl _, Nat.zero_le _, rfl, rfl⟩⟩, fun i n hi => absurd hi (Nat.not_lt_zero _), fun i n hi => absurd hi (Nat.not_lt_zero _), fun i n hi => absurd hi (Nat.not_lt_zero _), fun i x hi => absurd hi (Nat.not_lt_zero _), fun i k x y hi => absurd hi (Nat.not_lt_zero _)⟩⟩
  have B0 := Lib.hid ((Below.refl w.heap.size w).alloc (Nat.le_refl _) (.cells #[] 92))
  go_enter Tryz.func220, Tryz.ntmps220
  go_wp2_with fail
  go_loopw [3, 4] (fun s i wr => ∃ (j g cc : Nat), j ≤ l.length ∧ i = .int .i64 j ∧ s = .slice (some ⟨g, 0, none⟩) j cc ∧ (∃ xs A C, PartN wr w.heap.size g cc j l j xs A C) ∧ Below w.heap.size w wr) (fun _ i _ => l.length - (intOf i).toNat)
  case atStart => exact ⟨0, _, _, Nat.zero_le _, rfl, rfl, P0.out, B0.out⟩
  case round =>
    clear P0 B0
    obtain ⟨j, g, cc, hj, rfl, rfl, ⟨xs, A, C, hp⟩, hb⟩ := hrel
    have HP := Lib.hid hp; have HB := Lib.hid hb
    by_cases hlt : j < l.length
    · obtain ⟨b, off, n, a, c', rfl, hn, hat⟩ := (H.out.below hb).at_ hlt
      have hcl := HCOL.out n (List.mem_of_getElem? hn)
      have hbl := hat.lt
      have HN := Lib.hid hn; have NM := Lib.hid hat.nm; have RD := Lib.hid hat.rd
      obtain ⟨c0, c1, c2, c3, c4, c5, c6, _⟩ := hat
      have hxl := Lib.hid hp.own.1
      clear hn hp hb
      have hl' : j ≤ 1048576 := by omega
      by_cases hz : n.cols = []
      · obtain ⟨kd, nmm, co, op, nu, sl, cs⟩ := n
        simp only at hz; subst hz
        simp only [List.length_nil] at c6
        have BW := Lib.hid (show Below wr.heap.size wr ((wr.alloc (.cells #[.int .i64 kd, .string nmm, .int .i64 co, .int .i64 op, .int .i64 nu, .bool sl, .slice none 0 0] 92)).alloc (.cells #[.int .i64 kd, .string nmm, .int .i64 co, .int .i64 op, .int .i64 nu, .bool sl, .slice none 0 0] 92)) from ((Below.refl _ _).alloc (Nat.le_refl _) _).alloc (by simp) _)
        have OW := Lib.hid (show Own ((wr.alloc (.cells #[.int .i64 kd, .string nmm, .int .i64 co, .int .i64 op, .int .i64 nu, .bool sl, .slice none 0 0] 92)).alloc (.cells #[.int .i64 kd, .string nmm, .int .i64 co, .int .i64 op, .int .i64 nu, .bool sl, .slice none 0 0] 92)) wr.heap.size 3 .i64 none 0 [] from Own.none_)
        have P3 := Lib.hid (HP.out.below BW.out)
        go_wp2_with (at_builtin; go_must (refine wpList_appendN _ rfl (.tmp 32) (.tmp 34) 25 rfl w.heap.size Tryz.underlying25 Tryz.infoNode g cc j xs rfl P3.out.own (wr.heap.size + 1) ⟨kd, nmm, co, op, nu, sl, []⟩ none 0 rfl (by simp [ndCells]) hl' (by have := HB.out.size; simp; omega) rfl ?_; intro v' w4 o4 g4 k4; obtain ⟨g', c4', xs', A', C', rfl, hp'⟩ := copy_step HP.out HN.out NM.out BW.out OW.out HB.out.size o4 g4 k4; have P4 := Lib.hid hp'; have B4 := Lib.hid (grown_row HB.out BW.out (owns_block HP.out.own).1 g4); clear o4 g4 k4 hp'))
        go_roundw
        case rel => exact ⟨j + 1, g', c4', by omega, by go_num, rfl, ⟨xs', A', C', P4.out⟩, B4.out⟩
        case measure => simp [intOf]; omega
      · have hpos : 0 < n.cols.length := List.length_pos_iff.2 hz
        have hpos' : (0 : Int) < (n.cols.length : Int) := by omega
        clear hz
        go_wp2_with fail
        refine (l01Copy_any a c' n.cols _ (RD.out.below ((Below.refl _ wr).alloc (Nat.le_refl _) _)) hcl).mono ?_
        rintro e w2 ⟨a2, c2', rfl, o2, b2⟩
        have hq := fun o => b2.cell (p := ⟨wr.heap.size, o, none⟩) (by simp)
        have hqf := fun o => b2.frozen (p := ⟨wr.heap.size, o, none⟩) (by simp)
        have hz2 : wr.heap.size < w2.heap.size := by have := b2.size; simp at this; omega
        have B2 := Lib.hid (((Below.refl _ wr).alloc (Nat.le_refl _) _).trans (b2.mono (by simp)))
        have O2 := Lib.hid o2
        have BW := Lib.hid (show Below wr.heap.size wr ((w2.setCell ⟨wr.heap.size, 6, none⟩ (.slice a2 n.cols.length c2')).alloc (.cells #[.int .i64 n.kind, .string n.name, .int .i64 n.col, .int .i64 n.op, .int .i64 n.num, .bool n.slot, .slice a2 n.cols.length c2'] 92)) from (B2.out.setCell (p := ⟨wr.heap.size, 6, none⟩) (Nat.le_refl _) _).alloc (by have := B2.out.size; simpa [World.setCell] using this) _)
        have OW := Lib.hid (show Own ((w2.setCell ⟨wr.heap.size, 6, none⟩ (.slice a2 n.cols.length c2')).alloc (.cells #[.int .i64 n.kind, .string n.name, .int .i64 n.col, .int .i64 n.op, .int .i64 n.num, .bool n.slot, .slice a2 n.cols.length c2'] 92)) wr.heap.size 3 .i64 a2 c2' n.cols from ((o2.far (p := ⟨wr.heap.size, 6, none⟩) (fun x hx => by have := (o2.lt x hx).1; simp at this; simp only; omega) _).alloc _).base_le (by simp))
        have P3 := Lib.hid (HP.out.below BW.out)
        clear o2 b2
        go_wp2_with (at_builtin; go_must (refine wpList_appendN _ rfl (.tmp 32) (.tmp 34) 25 rfl w.heap.size Tryz.underlying25 Tryz.infoNode g cc j xs rfl P3.out.own w2.heap.size n a2 c2' rfl (by have := cells_new (w2.setCell ⟨wr.heap.size, 6, none⟩ (.slice a2 n.cols.length c2')) n a2 c2'; simpa [ndCells, World.setCell] using this) hl' (by have := HB.out.size; have := B2.out.size; simp [World.setCell]; omega) rfl ?_; intro v' w4 o4 g4 k4; obtain ⟨g', c4', xs', A', C', rfl, hp'⟩ := copy_step HP.out HN.out NM.out BW.out OW.out HB.out.size o4 g4 k4; have P4 := Lib.hid hp'; have B4 := Lib.hid (grown_row HB.out BW.out (owns_block HP.out.own).1 g4); clear o4 g4 k4 hp'))
        go_roundw
        case rel => exact ⟨j + 1, g', c4', by omega, by go_num, rfl, ⟨xs', A', C', P4.out⟩, B4.out⟩
        case measure => simp [intOf]; omega
    · obtain rfl : j = l.length := by omega
      clear hp hb
      go_wp2_with fail
      go_ret
      exact ⟨_, _, _, _, _, rfl, HP.out, HB.out⟩
theorem l02Copy_any (ao : Option Addr) (c : Nat) (l : List Nd) (w : World) (h : RdN w ao l) (hl : l.length ≤ 1048576) (hcol : ∀ n ∈ l, n.cols.length ≤ 1048576) :
    Calls Tryz.prog 220 #[.slice ao l.length c] w (MadeN w l) := (l02CopyP_any ao c l w h hl hcol).mono fun _ _ h => h.made
end Go.Proofs.YtfpbhedophlnkaaGreatDoor
namespace Go.Proofs.YtfpbhedophlnkaaGreatDoor
open Go.RowKit Go.Shelf Go.Lib
set_option linter.unusedSimpArgs false
set_option linter.unusedVariables false

theorem Tryz.sizeNode : ∀ w, (Go.sizeOf 92).run Tryz.prog w = .ok 7 w := fun w => Tryz.sizeOf92 w

/-- What the clone of a slice of nodes gives: the same cells in a row of its own. -/
def Cloned (w : World) (l : List Nd) (A : Nat → Option Addr) (C : Nat → Nat) (e : Ending) (w' : World) : Prop :=
  ∃ ao c, e = .returned (.slice ao l.length c) ∧ (l = [] ∨ ∃ g, ao = some ⟨g, 0, none⟩ ∧ w'.ownsRow w.heap.size 92 7 (.slice ao l.length c) l.length (allCells l A C)) ∧ Below w.heap.size w w'

theorem cloneNode_any (b off c : Nat) (l : List Nd) (A : Nat → Option Addr) (C : Nat → Nat) (w : World) (h : ∀ i n, l[i]? = some n → NdAt w b (off + i * 7) n (A i) (C i)) (hl : l.length ≤ 1048576) :
    Calls Tryz.prog 161 #[.slice (some ⟨b, off, none⟩) l.length c] w (Cloned w l A C) := by
  obtain ⟨i0, hi, hz0, hz1, hz2⟩ := info_parts Tryz.infoNode
  refine (AnyE.slices_Clone Tryz.laysCloneNode i0 _ 7 80 hi hz0 hz1 hz2 rfl (by omega) Tryz.sizeNode b off l.length c (allCells l A C) w (allCells_len l A C) (by unfold maxLen; omega) (by omega) (allCells_cell h) (allCells_one l A C)).mono ?_
  rintro e w' ⟨v', rfl, ho, _, hb⟩
  rcases ho.2 with ⟨rfl, hn⟩ | ⟨g, cap, cur, rfl, r⟩
  · exact ⟨none, 0, by rw [hn], .inl (List.eq_nil_of_length_eq_zero hn), hb⟩
  · exact ⟨_, cap, rfl, .inr ⟨g, rfl, ho⟩, hb⟩

set_option maxRecDepth 100000 in
set_option maxHeartbeats 1600000 in
theorem copyNodes_any (ao : Option Addr) (c : Nat) (l : List Nd) (w : World) (h : RdN w ao l) (hne : l ≠ []) (hl : l.length ≤ 1048576) (hcol : ∀ n ∈ l, n.cols.length ≤ 1048576) :
    Calls Tryz.prog 80 #[.slice ao l.length c] w (MadeN w l) := by
  have HCOL := Lib.hid hcol; clear hcol
  obtain ⟨b, off, rfl, hat⟩ : ∃ b off, ao = some ⟨b, off, none⟩ ∧ ∀ i n, l[i]? = some n → ∃ a c, NdAt w b (off + i * 7) n a c := by
    rcases h with h | h
    · exact absurd h hne
    · exact h
  clear h
  obtain ⟨A0, C0, hA0⟩ := nodes_ind hat
  clear hat
  have HA := Lib.hid hA0; clear hA0
  have HNE := Lib.hid hne; clear hne
  go_enter Tryz.func80, Tryz.ntmps80
  go_wp2_with fail
  refine (cloneNode_any b off c l A0 C0 _ HA.out hl).mono ?_
  rintro e w1 ⟨ao1, c1, rfl, ho, b1⟩
  obtain ⟨g, rfl, ho⟩ : ∃ g, ao1 = some ⟨g, 0, none⟩ ∧ w1.ownsRow w.heap.size 92 7 (.slice ao1 l.length c1) l.length (allCells l A0 C0) := by
    rcases ho with h | h
    · exact absurd h HNE.out
    · exact h
  have P0 : Hid (∃ xs A C, PartN w1 w.heap.size g c1 l.length l 0 xs A C ∧ ∀ i n, 0 ≤ i → l[i]? = some n → NdC xs (i * 7) n (A0 i) (C0 i)) :=
    ⟨_, fun _ => none, fun _ => 0, ⟨ho, fun i n hi => absurd hi (Nat.not_lt_zero _), fun i n hi => absurd hi (Nat.not_lt_zero _), fun i n hi => absurd hi (Nat.not_lt_zero _), fun i x hi => absurd hi (Nat.not_lt_zero _), fun i k x y hi => absurd hi (Nat.not_lt_zero _)⟩, fun i n _ hn => by
      have k := allCells_get l A0 C0 i n hn
      exact ⟨k 0 (by omega), k 1 (by omega), k 2 (by omega), k 3 (by omega), k 4 (by omega), k 5 (by omega), k 6 (by omega)⟩⟩
  have B1 := Lib.hid b1
  clear ho b1
  go_wp2_with fail
  go_loopw [9] (fun i wr => ∃ j : Nat, j ≤ l.length ∧ i = .int .i64 j ∧ (∃ xs A C, PartN wr w.heap.size g c1 l.length l j xs A C ∧ ∀ i n, j ≤ i → l[i]? = some n → NdC xs (i * 7) n (A0 i) (C0 i)) ∧ Below w.heap.size w wr) (fun i _ => l.length - (intOf i).toNat)
  case atStart => exact ⟨0, Nat.zero_le _, rfl, P0.out, B1.out⟩
  case round =>
    clear P0 B1
    obtain ⟨j, hj, rfl, ⟨xs, A, C, hp, hr⟩, hb⟩ := hrel
    by_cases hlt : j < l.length
    · have hn0 : l[j]? = some l[j] := List.getElem?_eq_getElem hlt
      generalize l[j] = n at hn0
      have hcl := HCOL.out n (List.mem_of_getElem? hn0)
      have hat := (HA.out j n hn0).below hb
      have nc := hr j n (Nat.le_refl _) hn0
      have c6 := (hp.cellAt (o := j * 7 + 6) (by omega)).trans nc.c6
      have HN := Lib.hid hn0; have HB := Lib.hid hb; have HP := Lib.hid hp; have HR := Lib.hid hr; have NC := Lib.hid nc; have HAT := Lib.hid hat
      clear hn0 hb hp hr nc hat
      go_wp2_with fail
      refine (libClone_any (A0 j) (C0 j) n.cols _ HAT.out.rd (by omega)).mono ?_
      rintro e w2 ⟨a2, c2, rfl, o2, b2⟩
      obtain ⟨y6, e6⟩ := (HP.out.below b2).some_ (o := j * 7 + 6) (by omega)
      have hf := (HP.out.below b2).frozen
      have R := Lib.hid (HP.out.own1 hlt HN.out b2 NC.out o2 HB.out.size HAT.out.nm)
      have T2 := Lib.hid ((below_step HB.out (Nat.le_refl _) b2).setCell (p := ⟨g, j * 7 + 6, none⟩) (owns_block HP.out.own).1 (.slice a2 n.cols.length c2))
      clear o2 b2 c6
      go_wp2_with fail
      go_roundw
      case rel => exact ⟨j + 1, by omega, by go_num, ⟨_, _, _, R.out, fun i m hi hm => by
        have k := HR.out i m (by omega) hm
        have key : ∀ s, s < 7 → (xs.set (j * 7 + 6) (.slice a2 n.cols.length c2))[i * 7 + s]? = xs[i * 7 + s]? := fun s _ => List.getElem?_set_ne (by omega)
        exact ⟨(key 0 (by omega)).trans k.c0, (key 1 (by omega)).trans k.c1, (key 2 (by omega)).trans k.c2, (key 3 (by omega)).trans k.c3, (key 4 (by omega)).trans k.c4, (key 5 (by omega)).trans k.c5, (key 6 (by omega)).trans k.c6⟩⟩, T2.out⟩
      case measure => simp [intOf]; omega
    · obtain rfl : j = l.length := by omega
      have HB := Lib.hid hb; have HP := Lib.hid hp
      clear hb hp hr
      go_wp2_with fail
      go_ret
      exact ⟨_, _, rfl, .inr ⟨g, xs, A, C, rfl, HP.out⟩, HB.out⟩
set_option maxRecDepth 100000 in
set_option maxHeartbeats 1600000 in
theorem copyNodesNil_any (b off c : Nat) (w : World) :
    Calls Tryz.prog 80 #[.slice (some ⟨b, off, none⟩) 0 c] w (MadeN w []) := by
  go_enter Tryz.func80, Tryz.ntmps80
  go_wp2_with fail
  refine (cloneNode_any b off c [] (fun _ => none) (fun _ => 0) _ (fun i n h => by simp at h) (by simp)).mono ?_
  rintro e w1 ⟨ao1, c1, rfl, _, b1⟩
  have B1 := Lib.hid b1
  clear b1
  go_wp2_with fail
  refine wp_loop_rounds 1 ?_; rw [rounds_succ]
  go_wp2_with fail
  go_ret
  exact ⟨_, _, rfl, .inl rfl, B1.out⟩
theorem copyNodesAt_any (b off c : Nat) (l : List Nd) (w : World) (h : RdN w (some ⟨b, off, none⟩) l) (hl : l.length ≤ 1048576) (hcol : ∀ n ∈ l, n.cols.length ≤ 1048576) :
    Calls Tryz.prog 80 #[.slice (some ⟨b, off, none⟩) l.length c] w (MadeN w l) := by
  cases l with
  | nil => exact copyNodesNil_any b off c w
  | cons n l => exact copyNodes_any _ c (n :: l) w h (by simp) hl hcol
end Go.Proofs.YtfpbhedophlnkaaGreatDoor
namespace Go.Proofs.YtfpbhedophlnkaaGreatDoor
open Go.RowKit
set_option linter.unusedSimpArgs false
set_option linter.unusedVariables false

theorem OwnN.cap {w : World} {base : Nat} {ao : Option Addr} {c : Nat} {l : List Nd} (h : OwnN w base ao c l) : l = [] ∨ (l.length ≤ c ∧ c ≤ maxLen) := by
  rcases h with h | ⟨g, xs, A, C, _, hp⟩
  · exact .inl h
  · right
    rcases hp.own.2 with ⟨hv, _⟩ | ⟨g', cap, cur, hv, _, _, h1, h2, _⟩
    · simp at hv
    · simp only [Value.slice.injEq] at hv
      rw [hv.2.2]; exact ⟨h1, h2⟩

/-- The part that begins at a place. -/
def partN (p : List Nd) (k : Int) : List Nd := if goodB p k = true then (p.drop k.toNat).take ((endOfN p k).toNat - k.toNat) else []

/-- What is known of a good place. -/
theorem part_good {p : List Nd} {k : Int} (h : goodB p k = true) : ∃ T S, treeN p = some T ∧ fnd k T = some S ∧ S.pl = k.toNat ∧ endOfN p k = S.en ∧ k.toNat < S.en ∧ S.en ≤ p.length ∧ 0 ≤ k ∧ partN p k = (p.drop k.toNat).take (S.en - k.toNat) ∧ (partN p k).length = S.en - k.toNat := by
  obtain ⟨T, S, ht, hf, hpl, hen, hlt, _, _, h0, h1, _⟩ := good_some h
  have he : endOfN p k = S.en := by unfold endOfN; rw [ht]; simp only; rw [hf]
  have hp : partN p k = (p.drop k.toNat).take (S.en - k.toNat) := by unfold partN; rw [if_pos h, he]; simp
  refine ⟨T, S, ht, hf, hpl, he, hlt, hen, h0, hp, ?_⟩
  rw [hp]; simp; omega
theorem part_mem {p : List Nd} {k : Int} {n : Nd} (h : n ∈ partN p k) : n ∈ p := by
  unfold partN at h
  split at h
  · exact List.mem_of_mem_drop (List.mem_of_mem_take h)
  · cases h
theorem partN_no {p : List Nd} {k : Int} (h : goodB p k = false) : partN p k = [] := by unfold partN; rw [if_neg (by simp [h])]

set_option maxRecDepth 100000 in
set_option maxHeartbeats 1600000 in
theorem implPartOf_any (ao : Option Addr) (c : Nat) (p : List Nd) (hp : Small p) (k : Int) (w : World) (h : RdN w ao p) (hcm : p = [] ∨ (p.length ≤ c ∧ c ≤ maxLen)) :
    Calls Tryz.prog 77 #[.slice ao p.length c, .int .i64 k] w (MadeN w (partN p k)) := by
  have H := Lib.hid h; clear h
  have hpl := hp.1
  have SM := Lib.hid hp; clear hp
  have HCM := Lib.hid hcm; clear hcm
  cases hg : goodB p k with
  | false =>
    have GN := Lib.hid (good_none hg)
    rw [partN_no hg]; clear hg
    go_enter Tryz.func77, Tryz.ntmps77
    go_wp2_with fail
    refine (treeOf_any ao c p SM.out _ H.out).mono ?_
    intro e w1 hpost
    rcases GN.out with ht | ⟨T, ht, hf⟩
    · rw [ht] at hpost
      obtain ⟨rfl, b1⟩ := hpost
      clear ht
      go_wp2_with fail
      refine (findNil_any _ _).mono ?_
      rintro e w' ⟨rfl, rfl⟩
      go_wp2_with fail
      go_ret
      exact ⟨none, 0, rfl, .inl rfl, b1⟩
    · rw [ht] at hpost
      obtain ⟨b, rfl, tr, b1⟩ := hpost
      have TR := Lib.hid tr; have B1 := Lib.hid b1; have HF := Lib.hid hf
      clear ht tr b1 hf
      go_wp2_with fail
      refine (find_any k T _ _ _ b TR.out).mono ?_
      rw [HF.out]
      rintro e w' ⟨rfl, rfl⟩
      go_wp2_with fail
      go_ret
      exact ⟨none, 0, rfl, .inl rfl, B1.out⟩
  | true =>
    obtain ⟨T, S, ht, hf, hSp, _, hlt, hen, h0, hpart, hplen⟩ := part_good hg
    obtain ⟨hc, hm⟩ : p.length ≤ c ∧ c ≤ maxLen := by
      rcases HCM.out with hh | hh
      · subst hh; simp at hen; omega
      · exact hh
    unfold maxLen at hm
    have HPA := Lib.hid hpart; have HPL := Lib.hid hplen; have HT := Lib.hid ht; have HF := Lib.hid hf; have HSP := Lib.hid hSp
    clear hg hpart hplen ht hf hSp
    obtain ⟨b, off, rfl⟩ : ∃ b off, ao = some ⟨b, off, none⟩ := by
      obtain ⟨b, off, _, _, _, rfl, _⟩ := H.out.at_ (i := k.toNat) (by omega); exact ⟨b, off, rfl⟩
    have k1 : S.pl < S.en := by have := HSP.out; omega
    have k2 : (S.en : Int) ≤ (c : Int) := by omega
    have k3 : (S.pl : Int) ≤ (c : Int) := by omega
    have k4 : (S.pl : Int) ≤ (S.en : Int) := by omega
    have hcne : ¬ (c = S.pl) := by omega
    go_enter Tryz.func77, Tryz.ntmps77
    go_wp2_with fail
    refine (treeOf_any _ c p SM.out _ H.out).mono ?_
    rw [HT.out]
    rintro e w1 ⟨bt, rfl, tr, b1⟩
    have TR := Lib.hid tr; have B1 := Lib.hid b1
    clear tr b1
    go_wp2_with fail
    refine (find_any k T _ _ _ bt TR.out).mono ?_
    rw [HF.out]
    rintro e w' ⟨bs, rfl, ts, rfl⟩
    obtain ⟨v, _, _, a, c', c0, c1, c2, c3⟩ := ts.head
    clear ts
    have LC := copyNodes_any (some ⟨b, off + S.pl * 7, none⟩) (c - S.pl) (partN p k) w1.drew (by rw [HPA.out, ← HSP.out]; exact (show RdN w1.drew _ p from H.out.below B1.out.drew).part _ _) (by intro hh; have := HPL.out; rw [hh] at this; simp at this; omega) (by rw [HPL.out]; omega) (fun n hn => SM.out.2 n (part_mem hn))
    rw [HPL.out, ← HSP.out] at LC
    have LC' := Lib.hid LC; clear LC
    go_wp2_with fail
    first | go_region_with (go_at_call 80; (try rw [if_neg hcne]); refine LC'.out.mono ?_; rintro e w3 ⟨a3, c3', rfl, o3, b3⟩; have O3 := Lib.hid (o3.base_le B1.out.drew.size); have B3 := Lib.hid (below_step B1.out.drew (Nat.le_refl _) b3); clear o3 b3) | fail
    all_goals
      go_wp2_with fail
      go_ret
      exact ⟨a3, c3', rfl, O3.out, B3.out⟩
end Go.Proofs.YtfpbhedophlnkaaGreatDoor
namespace Go.Proofs.YtfpbhedophlnkaaGreatDoor
set_option linter.unusedSimpArgs false
set_option linter.unusedVariables false

/-- A tree, moved to the front by k. -/
def Tr.shift (k : Nat) : Tr → Tr
  | t0 n p e => t0 n (p - k) (e - k)
  | t1 n p e c => t1 n (p - k) (e - k) (c.shift k)
  | t2 n p e c d => t2 n (p - k) (e - k) (c.shift k) (d.shift k)
theorem Tr.shift_en (k : Nat) (T : Tr) : (T.shift k).en = T.en - k := by cases T <;> rfl
theorem Tr.shift_pl (k : Nat) (T : Tr) : (T.shift k).pl = T.pl - k := by cases T <;> rfl
theorem Tr.shift_nd (k : Nat) (T : Tr) : (T.shift k).nd = T.nd := by cases T <;> rfl
theorem Tr.shift_depth (k : Nat) (T : Tr) : (T.shift k).depth = T.depth := by
  induction T with
  | t0 n p e => rfl
  | t1 n p e c ih => simp only [Tr.shift, Tr.depth, ih]
  | t2 n p e c d ih1 ih2 => simp only [Tr.shift, Tr.depth, ih1, ih2]

theorem part_get {p : List Nd} {k m j : Nat} (h : j < m) : ((p.drop k).take m)[j]? = p[k + j]? := by
  rw [List.getElem?_take_of_lt h, List.getElem?_drop]

theorem growT_part (p : List Nd) (k m : Nat) : ∀ (f j : Nat) (T : Tr), growT p f (k + j) = some T → T.en ≤ k + m → growT ((p.drop k).take m) f j = some (T.shift k) := by
  intro f
  induction f with
  | zero => intro j T h; cases h
  | succ f ih =>
    intro j T h hm
    have hs := growT_sound p _ _ _ h
    have hj : j < m := by omega
    simp only [growT] at h ⊢
    rw [part_get hj]
    cases hp : p[k + j]? with
    | none => rw [hp] at h; cases h
    | some n =>
      rw [hp] at h
      simp only at h ⊢
      cases hn : nodeB n with
      | false => rw [hn, if_pos rfl] at h; cases h
      | true =>
        rw [hn] at h
        simp only [Bool.true_eq_false, if_false] at h ⊢
        split at h
        · rename_i h1
          rw [if_pos h1]
          cases hc : growT p f (k + j + 1) with
          | none => rw [hc] at h; cases h
          | some c =>
            rw [hc] at h; simp only [Option.some.injEq] at h; subst h
            have hcs := growT_sound p _ _ _ hc
            simp only [Tr.en1] at hm
            rw [ih (j + 1) c (by rw [← Nat.add_assoc]; exact hc) hm]
            simp only [Tr.shift_en, Tr.shift]
            congr 2; omega
        · rename_i h1
          rw [if_neg h1]
          split at h
          · rename_i h2
            rw [if_pos h2]
            cases hc : growT p f (k + j + 1) with
            | none => rw [hc] at h; cases h
            | some c =>
              rw [hc] at h; simp only at h
              cases hd : growT p f c.en with
              | none => rw [hd] at h; cases h
              | some d =>
                rw [hd] at h; simp only [Option.some.injEq] at h; subst h
                have hcs := growT_sound p _ _ _ hc
                have hds := growT_sound p _ _ _ hd
                simp only [Tr.en2] at hm
                rw [ih (j + 1) c (by rw [← Nat.add_assoc]; exact hc) (by omega)]
                simp only [Tr.shift_en]
                rw [ih (c.en - k) d (by rw [show k + (c.en - k) = c.en by omega]; exact hd) hm]
                simp only [Tr.shift_en, Tr.shift]
                congr 2; omega
          · rename_i h2
            rw [if_neg h2]
            simp only [Option.some.injEq] at h; subst h
            simp only [Tr.shift]
            congr 2 <;> omega

/-- The part at a place is a plan, its tree is the one that is found there. -/
theorem treeN_part {p : List Nd} {k : Nat} {T S : Tr} (ht : treeN p = some T) (hS : growT p p.length k = some S) (hd : S.depth ≤ 10) : treeN ((p.drop k).take (S.en - k)) = some (S.shift k) := by
  have h40 := (treeN_some ht).1
  have hs := growT_sound p _ _ _ hS
  have hl : ((p.drop k).take (S.en - k)).length = S.en - k := by simp; omega
  have hg := growT_part p k (S.en - k) p.length 0 S (by rw [Nat.add_zero]; exact hS) (by omega)
  rw [growT_fuel _ p.length ((p.drop k).take (S.en - k)).length 0 (by rw [hl]; omega) (by omega)] at hg
  unfold treeN
  rw [if_pos (by rw [hl]; omega), hg]
  simp only
  rw [if_pos ⟨by rw [Tr.shift_en, hl], by rw [Tr.shift_depth]; exact hd⟩]
end Go.Proofs.YtfpbhedophlnkaaGreatDoor
namespace Go.Proofs.YtfpbhedophlnkaaGreatDoor
open Go.RowKit
set_option linter.unusedSimpArgs false
set_option linter.unusedVariables false

/-- How many letters and columns there are. -/
def tot (l : List Nd) : Nat := (l.map fun n => n.name.size + n.cols.length).sum
theorem tot_take {l : List Nd} {k : Nat} {n : Nd} (h : l[k]? = some n) : tot (l.take (k + 1)) = tot (l.take k) + (n.name.size + n.cols.length) := by
  have hk : k < l.length := by
    rcases Nat.lt_or_ge k l.length with h1 | h1
    · exact h1
    · rw [List.getElem?_eq_none h1] at h; cases h
  rw [List.take_succ_eq_append_getElem hk]
  have : l[k] = n := by rw [List.getElem?_eq_getElem hk] at h; injection h
  rw [this]; simp [tot]

/-- What szNodeS answers. -/
def SzPost (w : World) (l : List Nd) (left : Int) (e : Ending) (w' : World) : Prop :=
  ∃ r : Int, e = .returned (.int .i64 r) ∧ Below w.heap.size w w' ∧ (r = -1 ∨ (0 ≤ r ∧ r + l.length + tot l = left))

theorem szN_neg {n : Nd} {left : Int} (h : szN n left < 0) (h0 : 0 ≤ left) : szN n left = -1 := by
  unfold szN at h ⊢; split
  · rfl
  · rw [if_neg (by assumption)] at h
    split
    · rfl
    · rw [if_neg (by assumption)] at h; omega
theorem szN_pos {n : Nd} {left : Int} (h : 0 ≤ szN n left) : szN n left + (n.name.size + n.cols.length : Nat) = left := by
  unfold szN at h ⊢; split
  · rw [if_pos (by assumption)] at h; omega
  · rw [if_neg (by assumption)] at h
    split
    · rw [if_pos (by assumption)] at h; omega
    · omega

end Go.Proofs.YtfpbhedophlnkaaGreatDoor
namespace Go.Proofs.YtfpbhedophlnkaaGreatDoor
open Go.RowKit
set_option linter.unusedSimpArgs false
set_option linter.unusedVariables false

theorem tot_mem {l : List Nd} {n : Nd} (h : n ∈ l) : n.name.size + n.cols.length ≤ tot l := by
  unfold tot
  induction l with
  | nil => cases h
  | cons m l ih =>
    rcases List.mem_cons.1 h with rfl | h
    · simp only [List.map_cons, List.sum_cons]; omega
    · have := ih h; simp only [List.map_cons, List.sum_cons]; omega
theorem small_of {l : List Nd} {r left : Int} (h0 : 0 ≤ r) (h : r + l.length + tot l = left) (hl : left ≤ 1048576) : Small l := by
  refine ⟨by omega, fun n hn => ?_⟩
  have := tot_mem hn
  omega
end Go.Proofs.YtfpbhedophlnkaaGreatDoor
