/-
  The program's wire behind a pointer: a block with one slice value, and the row that it owns; the contracts of isNum, foldNum and addNum. Appends of whole slices and texts onto a row of the call's own; the contracts of spec.l01Bytes, spec.l01Join, and of addText and addBytes. The contracts of spec.l01Bytes and spec.l01Join (the bytes of one slice, of two slices one behind the other, in a row of the call's own), and of the program's addText and addBytes.
-/
import Derived.Test.YtfpbhedophlnkaaGreatDoorJ4x
import Derived.OneCell
import Derived.Lib.AppendStr
namespace Go.Proofs.YtfpbhedophlnkaaGreatDoor
open Go.RowKit
set_option linter.unusedSimpArgs false
set_option linter.unusedVariables false

/-- Block h holds a wire with the bytes l; block and row lie from B on. -/
def Wr (w : World) (B h : Nat) (T E : TypeId) (l : List Int) : Prop :=
  ∃ ao c, w.heap[h]? = some (.cells #[.slice ao l.length c] T (0, 0)) ∧ B ≤ h ∧ Own w B E .u8 ao c l

section
variable {w wr w1 w' : World} {B h : Nat} {T E : TypeId} {l : List Int} {ao ao' : Option Addr} {c c' : Nat} {o : Obj} {z : Int}
theorem own_ne (hT : E ≠ T) {v : Value} (hb : wr.heap[h]? = some (.cells #[v] T (0, 0))) (ho : Own wr B E .u8 ao c l) : ∀ a, ao = some a → a.block ≠ h := by
  intro a ha e
  rcases ho.2 with ⟨hv, _⟩ | ⟨g, cap, cur, hv, _, hg, _⟩
  · simp only [Value.slice.injEq] at hv; rw [ha] at hv; cases hv.1
  · simp only [Value.slice.injEq] at hv
    rw [ha] at hv
    have e2 : a = ⟨g, 0, none⟩ := by injection hv.1
    subst e2
    simp only at e; subst e
    rw [hg] at hb
    injection hb with hb
    injection hb with _ hb
    exact hT hb
theorem grown_block {v : Value} {row : Option Nat} (hb : wr.heap[h]? = some (.cells #[v] T (0, 0))) (hg : (wr.alloc o).grownBy w1 row) (hne : some h ≠ row) : w1.heap[h]? = some (.cells #[v] T (0, 0)) := by
  have hlt := lt_of_block hb
  rw [hg.block h (by simp; omega) hne, Below.heap_alloc _ _ _ hlt]; exact hb
theorem row_ne (hne : ∀ a, ao = some a → a.block ≠ h) : some h ≠ ao.map (·.block) := by
  cases ao with
  | none => simp
  | some a => simp; exact fun e => hne a rfl e.symm
theorem below_row (hb : Below B w wr) (hB : B ≤ wr.heap.size) (hg : (wr.alloc o).grownBy w1 (ao.map (·.block))) (ho : Own wr B E .u8 ao c l) : Below B w w1 := by
  refine (hb.alloc hB o).grown hg (by simp; omega) ?_
  intro g hg'
  cases ao with
  | none => cases hg'
  | some a => simp at hg'; subst hg'; exact (ho.lt a rfl).1
/-- The new slice value stored back behind the pointer. -/
theorem Wr.put {v : Value} {l' : List Int} {n : Nat} (hT : E ≠ T) (hb : w1.heap[h]? = some (.cells #[v] T (0, 0))) (hB : B ≤ h) (ho : Own w1 B E .u8 ao' c' l') (hn : n = l'.length) :
    Wr (w1.setCell ⟨h, 0, none⟩ (.slice ao' n c')) B h T E l' := by
  subst hn
  refine ⟨ao', c', one_setCell hb, hB, ?_⟩
  have hne := own_ne hT hb ho
  exact ho.keep fun a ha _ => Below.heap_setCell _ _ _ _ (hne a ha)
end

theorem isNum_t (x : Int) (w : World) (h : -1000000 ≤ x ∧ x ≤ 1000000) : Calls Tryz.prog 171 #[.int .i64 x] w fun e w' => e = .returned (.bool true) ∧ w = w' := by
  go_enter Tryz.func171, Tryz.ntmps171
  go_wp2
  go_ret
  exact ⟨rfl, rfl⟩
theorem isNum_f (x : Int) (w : World) (h : ¬ (-1000000 ≤ x ∧ x ≤ 1000000)) : Calls Tryz.prog 171 #[.int .i64 x] w fun e w' => e = .returned (.bool false) ∧ w = w' := by
  by_cases h1 : -1000000 ≤ x
  · have h2 : ¬ x ≤ 1000000 := by omega
    go_enter Tryz.func171, Tryz.ntmps171
    go_wp2
    go_ret
    exact ⟨rfl, rfl⟩
  · have h3 : decide (-1000000 ≤ x) = false := by simp; omega
    go_enter Tryz.func171, Tryz.ntmps171
    go_wp2
    go_ret
    exact ⟨rfl, rfl⟩
theorem foldNum_any (x : Int) (w : World) (h : -1000000 ≤ x ∧ x ≤ 1000000) : Calls Tryz.prog 230 #[.int .i64 x] w fun e w' => e = .returned (.int .i64 (fold x)) ∧ w = w' := by
  rcases Int.lt_or_le x 0 with h0 | h0
  · have hu : (fold x : Int) = -2 * x - 1 := by unfold fold; rw [if_neg (by omega)]; omega
    have HU := Lib.hid hu; clear hu
    go_enter Tryz.func230, Tryz.ntmps230
    go_wp2
    go_ret
    exact ⟨ret_int HU.out.symm, rfl⟩
  · have hu : (fold x : Int) = 2 * x := by unfold fold; rw [if_pos (by omega)]; omega
    have HU := Lib.hid hu; clear hu
    go_enter Tryz.func230, Tryz.ntmps230
    go_wp2
    go_ret
    exact ⟨ret_int HU.out.symm, rfl⟩

def AddRel (w wr : World) (B h : Nat) (T E : TypeId) (l : List Int) (u0 : Nat) (q : Value) : Prop :=
  ∃ (acc : List Int) (u : Nat), q = .int .i64 u ∧ u ≤ 2000000 ∧ Wr wr B h T E (l ++ acc) ∧ acc ++ enc u = enc u0 ∧ Below B w wr ∧ B ≤ wr.heap.size
def Added (w : World) (B h : Nat) (T E : TypeId) (l : List Int) (e : Ending) (w' : World) : Prop := e = .returned (.tuple #[]) ∧ Wr w' B h T E l ∧ Below B w w'

set_option maxRecDepth 100000 in
set_option maxHeartbeats 1600000 in
theorem addNum_any (B h : Nat) (l : List Int) (x : Int) (w : World) (hx : -1000000 ≤ x ∧ x ≤ 1000000) (hw : Wr w B h 112 5 l) (hB : B ≤ w.heap.size) (hl : l.length ≤ 1000000000) :
    Calls Tryz.prog 172 #[.pointer (some ⟨h, 0, none⟩), .int .i64 x] w (Added w B h 112 5 (l ++ enc (fold x))) := by
  have hfold := fold_le hx
  obtain ⟨u0, hu0⟩ : ∃ u0 : Nat, u0 = fold x := ⟨_, rfl⟩
  have c1 := foldNum_any x w hx
  rw [← hu0] at hfold c1 ⊢
  have C1 := Lib.hid c1; have HX := Lib.hid hx; have HF := Lib.hid hfold; have HW := Lib.hid hw; clear c1 hx hu0 hfold hw
  go_enter Tryz.func172, Tryz.ntmps172
  go_wp2_with (go_at_call 230; refine C1.out.mono ?_; rintro e w' ⟨rfl, rfl⟩)
  clear C1
  go_loopw [4] (fun q wr => AddRel w wr B h 112 5 l u0 q) (fun q _ => (intOf q).toNat)
  case atStart => exact ⟨[], u0, rfl, HF.out, by rw [List.append_nil]; exact HW.out, rfl, Below.refl _ _, hB⟩
  case round =>
    obtain ⟨acc, u, rfl, hu, hw, he, hb, hBr⟩ := hrel
    have hal := acc_len he HF.out
    obtain ⟨l2, hl2⟩ : ∃ l2, l2 = l ++ acc := ⟨_, rfl⟩
    have hll : l2.length ≤ 1000000003 := by rw [hl2]; simp; omega
    rw [← hl2] at hw
    obtain ⟨ao, c, hblk, hBh, ho⟩ := hw
    have hcell := cell_of_one hblk
    have hne := own_ne (by decide) hblk ho
    have HBLK := Lib.hid hblk; have HE := Lib.hid he; have HO := Lib.hid ho; have HB := Lib.hid hb; have HL2 := Lib.hid hl2; have HNE := Lib.hid hne
    have hu' : (u : Int) ≤ 2000000 := by omega
    have HU := Lib.hid hu; clear hu he ho hb hl2 hblk hne
    by_cases h128 : 128 ≤ u
    · have h128' : (128 : Int) ≤ u := by omega
      go_wp2_with (at_builtin; refine wpList_append1 _ rfl (.tmp 12) (.tmp 17) 112 rfl B 5 .u8 1 Tryz.underlying112 Tryz.infoU8 ao c l2.length l2 rfl rfl (HO.out.alloc _) wr.heap.size 1 ((u : Int) % 128 + 128) rfl (cell_one _ _ _) (by unfold maxLen; omega) (by omega) (by simp; omega) ?_; intro ao' c' w1 ho' hg'; have hb1 := grown_block HBLK.out hg' (row_ne HNE.out); have hc1 := cell_of_one hb1; have hf1 := free_of_one hb1; have HB1 := Lib.hid hb1; have HO' := Lib.hid ho'; have HG' := Lib.hid hg'; clear hb1 ho' hg')
      go_roundw
      case rel =>
        have hb2 := below_row HB.out hBr HG'.out HO.out
        refine ⟨acc ++ [(u : Int) % 128 + 128], u / 128, by go_num, by omega, ?_, ?_, hb2.setCell hBh _, ?_⟩
        · rw [← List.append_assoc, ← HL2.out]; exact Wr.put (by decide) HB1.out hBh HO'.out (by simp)
        · rw [List.append_assoc, ← HE.out, enc_ge h128, Int.add_comm]; rfl
        · have := HG'.out.size; simp at this ⊢; omega
      case measure => simp [intOf]; omega
    · have h128' : (u : Int) < 128 := by omega
      go_wp2_with (at_builtin; refine wpList_append1 _ rfl (.tmp 25) (.tmp 28) 112 rfl B 5 .u8 1 Tryz.underlying112 Tryz.infoU8 ao c l2.length l2 rfl rfl (HO.out.alloc _) wr.heap.size 1 (u : Int) rfl (cell_one _ _ _) (by unfold maxLen; omega) (by omega) (by simp; omega) ?_; intro ao' c' w1 ho' hg'; have hb1 := grown_block HBLK.out hg' (row_ne HNE.out); have hc1 := cell_of_one hb1; have hf1 := free_of_one hb1; have HB1 := Lib.hid hb1; have HO' := Lib.hid ho'; have HG' := Lib.hid hg'; clear hb1 ho' hg')
      go_end0
      refine ⟨rfl, ?_, (below_row HB.out hBr HG'.out HO.out).setCell hBh _⟩
      rw [← HE.out, enc_lt (by omega), ← List.append_assoc, ← HL2.out]
      exact Wr.put (by decide) HB1.out hBh HO'.out (by simp)

theorem Wr.new (w : World) (T E : TypeId) : Wr (w.alloc (Obj.cells #[.slice none 0 0] T)) w.heap.size w.heap.size T E [] :=
  ⟨none, 0, heap_alloc_new w _, Nat.le_refl _, Own.none_⟩
theorem below_after {w w' : World} {o : Obj} (h : Below w.heap.size (w.alloc o) w') : Below w.heap.size w w' := ((Below.refl _ _).alloc (Nat.le_refl _) o).trans h
end Go.Proofs.YtfpbhedophlnkaaGreatDoor
namespace Go.Proofs.YtfpbhedophlnkaaGreatDoor
open Go.RowKit
set_option linter.unusedSimpArgs false
set_option linter.unusedVariables false

def strL (s : ByteArray) : List Int := s.data.toList.map fun b => (b.toNat : Int)
theorem strL_len (s : ByteArray) : (strL s).length = s.size := by simp [strL]
theorem strL_by (s : ByteArray) : By (strL s) := by
  intro z hz
  obtain ⟨b, _, rfl⟩ := List.mem_map.1 hz
  have := b.toNat_lt
  omega
theorem strCells_strL (s : ByteArray) : Lib.strCells s = (strL s).map (Value.int .u8) := by simp [Lib.strCells, strL]

theorem append_types {P : Program} (w : World) (t tx e ex ty : TypeId) (i : TypeInfo) (b : Option Addr) (n c : Nat) (x : Value) (ht : P.underlying t = some (.slice e)) (hx : P.underlying tx = some (.slice ex)) (hi : P.info? e = some i) :
    (Builtin.append_ #[t, tx] ty #[.slice b n c, x]).run P w = (Builtin.append_ #[t, t] ty #[.slice b n c, x]).run P w := by
  simp [Builtin.append_, run_underlying ht, run_underlying hx, sizeOf, typeInfo, hi]

/-- 'append(out, xs...)': out a row of the call's own, xs a slice that reads as m. -/
theorem wpList_appendR {P : Program} (w : World) {ops : Array Oper} {rest : List Oper} {o : Oper} {a : Act} {Q : Exit → Act → World → Prop} (hgd : o.guard = none) (s x : Operand) (t tx : TypeId)
    (ho : o.op = .call { callee := .builtin .append, args := #[s, x], argTypes := #[t, tx] })
    (base : Nat) (e ex : TypeId) (k : IntKind) (bytes : Nat) (ht : P.underlying t = some (.slice e)) (htx : P.underlying tx = some (.slice ex)) (hinfo : (P.info? e).map (fun i => (i.zero, i.size, i.bytes)) = some (some (.int k 0), 1, bytes))
    (ao : Option Addr) (c n : Nat) (l : List Int) (hs : a.eval s = .slice ao n c) (hn : n = l.length) (hown : Own w base e k ao c l)
    (xo : Option Addr) (cx nx : Nat) (m : List Int) (hx : a.eval x = .slice xo nx cx) (hnx : nx = m.length) (hr : Rd w k xo m) (hnil : xo = none → cx = 0)
    (h63 : l.length + m.length ≤ maxLen) (hbytes : (l.length + m.length) * bytes ≤ 140737488355328) (hbase : base ≤ w.heap.size)
    (h : ∀ ao' c' w', Own w' base e k ao' c' (l ++ m) → w.grownBy w' (ao.map (·.block)) → wpList P ops Q rest (a.put o.dst (.slice ao' (l.length + m.length) c')) w') : wpList P ops Q (o :: rest) a w := by
  subst hn; subst hnx
  obtain ⟨i, hi, hz, hsize, hby⟩ := info_parts hinfo
  have key : ∃ ao' c' w', (Builtin.append_ #[t, tx] o.type #[.slice ao l.length c, .slice xo m.length cx]).run P w = .ok (.slice ao' (l.length + m.length) c') w' ∧ Own w' base e k ao' c' (l ++ m) ∧ w.grownBy w' (ao.map (·.block)) := by
    rw [append_types w t tx e ex o.type i _ _ _ _ ht htx hi]
    cases xo with
    | none =>
      have hm : m = [] := by
        rcases hr with rfl | ⟨_, _, hh, _⟩
        · rfl
        · cases hh
      subst hm
      rw [hnil rfl]
      exact ⟨ao, c, w, run_append_owned_none (P := P) (w := w) base t o.type e i 1 ht hi _ _ _ hown, by rw [List.append_nil]; exact hown, World.grownBy.refl _ _⟩
    | some ad =>
      have hc : ∀ j u, (m.map (Value.int k))[j]? = some u → w.cell? (ad.add j) = some u := by
        intro j u hu
        rcases hr with rfl | ⟨b, off, hh, hcell⟩
        · simp at hu
        · injection hh with hh
          subst hh
          rw [List.getElem?_map] at hu
          rcases hmj : m[j]? with _ | z
          · rw [hmj] at hu; cases hu
          · rw [hmj] at hu
            have hj : j < m.length := (List.getElem?_eq_some_iff.1 hmj).1
            have := hcell j hj
            rw [List.getD_eq_getElem?_getD, hmj] at this
            simp at hu; subst hu
            unfold Addr.add
            split
            · rename_i h0; subst h0; exact this
            · exact this
      obtain ⟨v', w', hrun, h2, h3, _⟩ := run_append_own (P := P) w base t o.type e i (.int k 0) 1 bytes ht hi hz hsize hby rfl (by decide) _ _ _ hown ad m.length cx (m.map (Value.int k)) (by simp) hc (ints_oneCell _ _) h63 hbytes hbase
      obtain ⟨ao', c', rfl⟩ := own_slice h2
      refine ⟨ao', c', w', hrun, ?_, ?_⟩
      · unfold Own; simpa using h2
      · cases ao <;> exact h3
  obtain ⟨ao', c', w', hrun, h2, h3⟩ := key
  refine wpList_plain hgd fun K hK => ?_
  unfold Oper.wp execOp
  simp only [ho, resolve, invoke, builtin, Sem.run_bind, Sem.run_pure, Result.andThen_ok, List.map_toArray, List.map_cons, List.map_nil, hs, hx, hrun]
  exact hK _ _ (h ao' c' w' h2 h3)

/-- 'append(out, s...)', s a text. -/
theorem wpList_appendS {P : Program} (w : World) {ops : Array Oper} {rest : List Oper} {o : Oper} {a : Act} {Q : Exit → Act → World → Prop} (hgd : o.guard = none) (sl x : Operand) (t u : TypeId)
    (ho : o.op = .call { callee := .builtin .append, args := #[sl, x], argTypes := #[t, u] })
    (base : Nat) (e : TypeId) (ht : P.underlying t = some (.slice e)) (hu : P.underlying u = some .string) (hinfo : (P.info? e).map (fun i => (i.zero, i.size, i.bytes)) = some (some (.int .u8 0), 1, 1))
    (ao : Option Addr) (c n : Nat) (l : List Int) (hs : a.eval sl = .slice ao n c) (hn : n = l.length) (hown : Own w base e .u8 ao c l) (s : ByteArray) (hx : a.eval x = .string s)
    (hbytes : l.length + s.size ≤ 140737488355328) (hbase : base ≤ w.heap.size)
    (h : ∀ ao' c' w', Own w' base e .u8 ao' c' (l ++ strL s) → w.grownBy w' (ao.map (·.block)) → wpList P ops Q rest (a.put o.dst (.slice ao' (l.length + s.size) c')) w') : wpList P ops Q (o :: rest) a w := by
  subst hn
  obtain ⟨i, hi, hz, hsize, hby⟩ := info_parts hinfo
  refine Lib.wpList_append_own_string (P := P) w hgd sl x t u ho base e i ht hu hi hz hsize hby _ _ _ hs hown s hx (by unfold maxLen; omega) hbytes hbase ?_
  intro v' w' h2 h3 _
  obtain ⟨ao', c', rfl⟩ := own_slice h2
  refine h ao' c' w' ?_ ?_
  · unfold Own
    rw [strCells_strL] at h2
    simpa [strL_len] using h2
  · cases ao <;> exact h3
end Go.Proofs.YtfpbhedophlnkaaGreatDoor
namespace Go.Proofs.YtfpbhedophlnkaaGreatDoor
open Go.RowKit
set_option linter.unusedSimpArgs false
set_option linter.unusedVariables false

def JRel (w wr : World) (E : TypeId) (l0 l : List Int) (v i : Value) : Prop :=
  ∃ (ao : Option Addr) (c n j : Nat), v = .slice ao n c ∧ i = .int .i64 j ∧ n = (l0 ++ l.take j).length ∧ j ≤ l.length ∧ Own wr w.heap.size E .u8 ao c (l0 ++ l.take j) ∧ Below w.heap.size w wr
theorem jRel_step {w wr w1 : World} {E : TypeId} {l0 l acc : List Int} {ao ao' : Option Addr} {c c' j : Nat} {z : Int} {o : Obj} (hacc : acc = l0 ++ l.take j) (hj : j < l.length) (ht : l.take (j + 1) = l.take j ++ [z])
    (ho : Own wr w.heap.size E .u8 ao c acc) (hb : Below w.heap.size w wr) (ho' : Own w1 w.heap.size E .u8 ao' c' (acc ++ [z])) (hg : (wr.alloc o).grownBy w1 (ao.map (·.block))) :
    JRel w w1 E l0 l (.slice ao' (acc.length + 1) c') (.int .i64 ((j : Int) + 1)) := by
  have e : acc ++ [z] = l0 ++ l.take (j + 1) := by rw [ht, hacc, List.append_assoc]
  refine ⟨ao', c', _, j + 1, rfl, by simp, ?_, hj, by rw [← e]; exact ho', below_app1 hb ho hg⟩
  rw [← e]; simp

set_option maxRecDepth 100000 in
set_option maxHeartbeats 800000 in
theorem l01Bytes_any (b : Option Addr) (d : Nat) (l : List Int) (w : World) (h : Rd w .u8 b l) (hn : l.length ≤ 70368744177664) :
    Calls Tryz.prog 189 #[.slice b l.length d] w (Made w 5 .u8 l) := by
  have hst : Own (w.alloc (Obj.cells #[] 5)) w.heap.size 5 .u8 (some ⟨w.heap.size, 0, none⟩) 0 [] := World.ownsRow_lit w #[] 0 (Nat.le_refl _) (Nat.zero_le _) rfl
  have HST := Lib.hid hst; have HN := Lib.hid hn; have H := Lib.hid h; clear hst h
  have hn' : (l.length : Int) ≤ 70368744177664 := by omega
  clear hn
  rcases H.out with rfl | ⟨b1, off, rfl, _⟩
  · go_enter Tryz.func189, Tryz.ntmps189
    go_wp2
    refine wp_loop_rounds 1 ?_; rw [rounds_succ]; go_wp2
    go_ret
    exact ⟨_, _, rfl, HST.out, (Below.refl _ _).alloc (Nat.le_refl _) _⟩
  · go_enter Tryz.func189, Tryz.ntmps189
    go_wp2
    go_loopw [3, 4] (fun v i wr => JRel w wr 5 [] l v i) (fun _ i _ => l.length - (intOf i).toNat)
    case atStart => exact ⟨_, _, _, 0, rfl, rfl, rfl, Nat.zero_le _, HST.out, (Below.refl _ _).alloc (Nat.le_refl _) _⟩
    case round =>
      obtain ⟨ao, c, n, j, rfl, rfl, hnn, hj, ho, hb⟩ := hrel
      obtain ⟨acc, hacc⟩ : ∃ acc, acc = ([] : List Int) ++ l.take j := ⟨_, rfl⟩
      have hal : acc.length ≤ l.length := by rw [hacc]; simp; omega
      rw [← hacc] at ho hnn
      have HNN := Lib.hid hnn; have HACC := Lib.hid hacc; have HO := Lib.hid ho; have HB := Lib.hid hb; clear hnn hacc ho hb
      by_cases hlt : j < l.length
      · obtain ⟨b', off', heq, hc⟩ : ∃ b' off', (some ⟨b1, off, none⟩ : Option Addr) = some ⟨b', off', none⟩ ∧ ∀ i, i < l.length → wr.cell? ⟨b', off' + i, none⟩ = some (.int .u8 (l.getD i 0)) := by
          rcases H.out.below HB.out with rfl | h'
          · simp at hlt
          · exact h'
        simp only [Option.some.injEq, Addr.mk.injEq, and_true] at heq
        obtain ⟨rfl, rfl⟩ := heq
        obtain ⟨z, _, _, hcz, ht⟩ := Rd.at_ hc hlt
        have HT := Lib.hid ht; clear ht hc
        go_wp2_with (at_builtin; refine wpList_append1 _ rfl (.tmp 12) (.tmp 17) 22 rfl w.heap.size 5 .u8 1 Tryz.underlying22 Tryz.infoU8 ao c n acc rfl HNN.out (HO.out.alloc _) wr.heap.size 1 z rfl (cell_one _ _ _) (by unfold maxLen; omega) (by omega) (base_le HB.out) ?_; intro ao' c' w1 ho' hg'; have HO' := Lib.hid ho'; have HG' := Lib.hid hg'; clear ho' hg')
        go_roundw
        case rel => exact jRel_step HACC.out hlt HT.out HO.out HB.out HO'.out HG'.out
        case measure => simp [intOf]; omega
      · have e : acc = l := by rw [HACC.out, List.take_of_length_le (by omega)]; rfl
        have HEQ := Lib.hid e; clear e
        go_wp2
        go_ret
        refine ⟨ao, c, ?_, ?_, HB.out⟩
        · rw [← HEQ.out]; rw [HNN.out]; rfl
        · rw [← HEQ.out]; exact HO.out

set_option maxRecDepth 100000 in
set_option maxHeartbeats 800000 in
theorem l01Join_any (a0 b : Option Addr) (d0 d : Nat) (l0 l : List Int) (w : World) (h0 : Rd w .u8 a0 l0) (h : Rd w .u8 b l) (hn : l0.length + l.length ≤ 70368744177664) :
    Calls Tryz.prog 114 #[.slice a0 l0.length d0, .slice b l.length d] w (Made w 5 .u8 (l0 ++ l)) := by
  have HN := Lib.hid hn; have H := Lib.hid h; have H0 := Lib.hid h0; clear h h0
  have hn' : (l0.length : Int) + (l.length : Int) ≤ 70368744177664 := by omega
  have C := Lib.hid (fun w h => l01Bytes_any a0 d0 l0 w h (by have := HN.out; omega))
  clear hn
  rcases H.out with rfl | ⟨b1, off, rfl, _⟩
  · go_enter Tryz.func114, Tryz.ntmps114
    go_wp2_with fail
    refine (C.out _ H0.out).mono ?_
    rintro e w1 ⟨ao, c, rfl, ho, hb⟩
    have HO := Lib.hid ho; have HB := Lib.hid hb; clear ho hb
    go_wp2
    refine wp_loop_rounds 1 ?_; rw [rounds_succ]; go_wp2
    go_ret
    exact ⟨_, _, by rw [List.append_nil]; rfl, by rw [List.append_nil]; exact HO.out, HB.out⟩
  · go_enter Tryz.func114, Tryz.ntmps114
    go_wp2_with fail
    refine (C.out _ H0.out).mono ?_
    rintro e w1 ⟨ao1, c1, rfl, ho1, hb1⟩
    have HO1 := Lib.hid ho1; have HB1 := Lib.hid hb1; clear ho1 hb1
    go_wp2
    go_loopw [5, 6] (fun v i wr => JRel w wr 5 l0 l v i) (fun _ i _ => l.length - (intOf i).toNat)
    case atStart => exact ⟨_, _, _, 0, rfl, rfl, by simp, Nat.zero_le _, by simpa using HO1.out, HB1.out⟩
    case round =>
      obtain ⟨ao, c, n, j, rfl, rfl, hnn, hj, ho, hb⟩ := hrel
      obtain ⟨acc, hacc⟩ : ∃ acc, acc = l0 ++ l.take j := ⟨_, rfl⟩
      have hal : acc.length ≤ l0.length + l.length := by rw [hacc]; simp; omega
      rw [← hacc] at ho hnn
      have HNN := Lib.hid hnn; have HACC := Lib.hid hacc; have HO := Lib.hid ho; have HB := Lib.hid hb; clear hnn hacc ho hb
      by_cases hlt : j < l.length
      · obtain ⟨b', off', heq, hc⟩ : ∃ b' off', (some ⟨b1, off, none⟩ : Option Addr) = some ⟨b', off', none⟩ ∧ ∀ i, i < l.length → wr.cell? ⟨b', off' + i, none⟩ = some (.int .u8 (l.getD i 0)) := by
          rcases H.out.below HB.out with rfl | h'
          · simp at hlt
          · exact h'
        simp only [Option.some.injEq, Addr.mk.injEq, and_true] at heq
        obtain ⟨rfl, rfl⟩ := heq
        obtain ⟨z, _, _, hcz, ht⟩ := Rd.at_ hc hlt
        have HT := Lib.hid ht; clear ht hc
        go_wp2_with (at_builtin; refine wpList_append1 _ rfl (.tmp 15) (.tmp 20) 22 rfl w.heap.size 5 .u8 1 Tryz.underlying22 Tryz.infoU8 ao c n acc rfl HNN.out (HO.out.alloc _) wr.heap.size 1 z rfl (cell_one _ _ _) (by unfold maxLen; omega) (by omega) (base_le HB.out) ?_; intro ao' c' w1 ho' hg'; have HO' := Lib.hid ho'; have HG' := Lib.hid hg'; clear ho' hg')
        go_roundw
        case rel => exact jRel_step HACC.out hlt HT.out HO.out HB.out HO'.out HG'.out
        case measure => simp [intOf]; omega
      · have e : acc = l0 ++ l := by rw [HACC.out, List.take_of_length_le (by omega)]
        have HEQ := Lib.hid e; clear e
        go_wp2
        go_ret
        refine ⟨ao, c, ?_, ?_, HB.out⟩
        · rw [← HEQ.out]; rw [HNN.out]; rfl
        · rw [← HEQ.out]; exact HO.out

theorem below_row0 {B : Nat} {w w1 : World} {E : TypeId} {ao : Option Addr} {c : Nat} {l : List Int} (hB : B ≤ w.heap.size) (hg : w.grownBy w1 (ao.map (·.block))) (ho : Own w B E .u8 ao c l) : Below B w w1 := by
  refine (Below.refl B w).grown hg hB ?_
  intro g hg'
  cases ao with
  | none => cases hg'
  | some a => simp at hg'; subst hg'; exact (ho.lt a rfl).1
theorem grown_block0 {w w1 : World} {h : Nat} {T : TypeId} {v : Value} {row : Option Nat} (hb : w.heap[h]? = some (.cells #[v] T (0, 0))) (hg : w.grownBy w1 row) (hne : some h ≠ row) : w1.heap[h]? = some (.cells #[v] T (0, 0)) := by
  rw [hg.block h (lt_of_block hb) hne]; exact hb

set_option maxRecDepth 100000 in
set_option maxHeartbeats 800000 in
theorem addText_any (B h : Nat) (l : List Int) (s : ByteArray) (w : World) (hw : Wr w B h 112 5 l) (hB : B ≤ w.heap.size) (hl : l.length + s.size ≤ 70368744177664) :
    Calls Tryz.prog 174 #[.pointer (some ⟨h, 0, none⟩), .string s] w (Added w B h 112 5 (l ++ strL s)) := by
  obtain ⟨ao, c, hblk, hBh, ho⟩ := hw
  have hcell := cell_of_one hblk
  have hne := own_ne (by decide) hblk ho
  have HBLK := Lib.hid hblk; have HO := Lib.hid ho; have HNE := Lib.hid hne; have HL := Lib.hid hl; clear hblk ho hne hl
  go_enter Tryz.func174, Tryz.ntmps174
  go_wp2_with (at_builtin; refine wpList_appendS _ rfl (.tmp 7) (.tmp 8) 112 9 rfl B 5 Tryz.underlying112 Tryz.underlying9 Tryz.infoU8 ao c l.length l rfl rfl HO.out s rfl (by have := HL.out; omega) hB ?_; intro ao' c' w1 ho' hg'; have hb1 := grown_block0 HBLK.out hg' (row_ne HNE.out); have hc1 := cell_of_one hb1; have hf1 := free_of_one hb1; have HB1 := Lib.hid hb1; have HO' := Lib.hid ho'; have HG' := Lib.hid hg'; clear hb1 ho' hg')
  go_end0
  exact ⟨rfl, Wr.put (by decide) HB1.out hBh HO'.out (by simp [strL_len]), (below_row0 hB HG'.out HO.out).setCell hBh _⟩

set_option maxRecDepth 100000 in
set_option maxHeartbeats 800000 in
theorem addBytes_any (B h : Nat) (l : List Int) (xo : Option Addr) (cx : Nat) (m : List Int) (w : World) (hw : Wr w B h 112 5 l) (hB : B ≤ w.heap.size) (hr : Rd w .u8 xo m) (hnil : xo = none → cx = 0) (hl : l.length + m.length ≤ 70368744177664) :
    Calls Tryz.prog 175 #[.pointer (some ⟨h, 0, none⟩), .slice xo m.length cx] w (Added w B h 112 5 (l ++ m)) := by
  obtain ⟨ao, c, hblk, hBh, ho⟩ := hw
  have hcell := cell_of_one hblk
  have hne := own_ne (by decide) hblk ho
  have HBLK := Lib.hid hblk; have HO := Lib.hid ho; have HNE := Lib.hid hne; have HL := Lib.hid hl; have HR := Lib.hid hr; have HNIL := Lib.hid hnil; clear hblk ho hne hl hr hnil
  go_enter Tryz.func175, Tryz.ntmps175
  go_wp2_with (at_builtin; refine wpList_appendR _ rfl (.tmp 7) (.tmp 8) 112 22 rfl B 5 5 .u8 1 Tryz.underlying112 Tryz.underlying22 Tryz.infoU8 ao c l.length l rfl rfl HO.out xo cx m.length m rfl rfl HR.out HNIL.out (by have := HL.out; unfold maxLen; omega) (by have := HL.out; omega) hB ?_; intro ao' c' w1 ho' hg'; have hb1 := grown_block0 HBLK.out hg' (row_ne HNE.out); have hc1 := cell_of_one hb1; have hf1 := free_of_one hb1; have HB1 := Lib.hid hb1; have HO' := Lib.hid ho'; have HG' := Lib.hid hg'; clear hb1 ho' hg')
  go_end0
  exact ⟨rfl, Wr.put (by decide) HB1.out hBh HO'.out (by simp), (below_row0 hB HG'.out HO.out).setCell hBh _⟩
end Go.Proofs.YtfpbhedophlnkaaGreatDoor
