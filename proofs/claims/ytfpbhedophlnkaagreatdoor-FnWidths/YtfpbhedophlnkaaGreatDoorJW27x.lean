/-
  Appends of whole slices and texts onto a row of the call's own; the contracts of spec.l01Bytes, spec.l01Join, and of addText and addBytes. The contracts of spec.l01Bytes and spec.l01Join (the bytes of one slice, of two slices one behind the other, in a row of the call's own), and of the program's addText and addBytes. The contracts of spec.PutNums and impl.PutNums: both answer, in memory of their own, how many numbers there are and each of them; nothing where one is no number or there are more than 300. For every slice of int.
-/
import Derived.Test.YtfpbhedophlnkaaGreatDoorJW26x
import Derived.Lib.AppendStr
namespace Go.Proofs.YtfpbhedophlnkaaGreatDoor
open Go.RowKit
set_option linter.unusedSimpArgs false
set_option linter.unusedVariables false

def strL (s : ByteArray) : List Int := s.data.toList.map fun b => (b.toNat : Int)
theorem strL_len (s : ByteArray) : (strL s).length = s.size := by simp [strL]
theorem strL_by (s : ByteArray) : By (strL s) := by
  intro z hz
  obtain ⟨b, _, rfl⟩ := List.mem_map.1 hz
  have := b.toNat_lt
  omega
theorem strCells_strL (s : ByteArray) : Lib.strCells s = (strL s).map (Value.int .u8) := by simp [Lib.strCells, strL]

theorem append_types {P : Program} (w : World) (t tx e ex ty : TypeId) (i : TypeInfo) (b : Option Addr) (n c : Nat) (x : Value) (ht : P.underlying t = some (.slice e)) (hx : P.underlying tx = some (.slice ex)) (hi : P.info? e = some i) :
    (Builtin.append_ #[t, tx] ty #[.slice b n c, x]).run P w = (Builtin.append_ #[t, t] ty #[.slice b n c, x]).run P w := by
  simp [Builtin.append_, run_underlying ht, run_underlying hx, sizeOf, typeInfo, hi]

/-- 'append(out, xs...)': out a row of the call's own, xs a slice that reads as m. -/
theorem wpList_appendR {P : Program} (w : World) {ops : Array Oper} {rest : List Oper} {o : Oper} {a : Act} {Q : Exit → Act → World → Prop} (hgd : o.guard = none) (s x : Operand) (t tx : TypeId)
    (ho : o.op = .call { callee := .builtin .append, args := #[s, x], argTypes := #[t, tx] })
    (base : Nat) (e ex : TypeId) (k : IntKind) (bytes : Nat) (ht : P.underlying t = some (.slice e)) (htx : P.underlying tx = some (.slice ex)) (hinfo : (P.info? e).map (fun i => (i.zero, i.size, i.bytes)) = some (some (.int k 0), 1, bytes))
    (ao : Option Addr) (c n : Nat) (l : List Int) (hs : a.eval s = .slice ao n c) (hn : n = l.length) (hown : Own w base e k ao c l)
    (xo : Option Addr) (cx nx : Nat) (m : List Int) (hx : a.eval x = .slice xo nx cx) (hnx : nx = m.length) (hr : Rd w k xo m) (hnil : xo = none → cx = 0)
    (h63 : l.length + m.length ≤ maxLen) (hbytes : (l.length + m.length) * bytes ≤ 140737488355328) (hbase : base ≤ w.heap.size)
    (h : ∀ ao' c' w', Own w' base e k ao' c' (l ++ m) → w.grownBy w' (ao.map (·.block)) → wpList P ops Q rest (a.put o.dst (.slice ao' (l.length + m.length) c')) w') : wpList P ops Q (o :: rest) a w := by
  subst hn; subst hnx
  obtain ⟨i, hi, hz, hsize, hby⟩ := info_parts hinfo
  have key : ∃ ao' c' w', (Builtin.append_ #[t, tx] o.type #[.slice ao l.length c, .slice xo m.length cx]).run P w = .ok (.slice ao' (l.length + m.length) c') w' ∧ Own w' base e k ao' c' (l ++ m) ∧ w.grownBy w' (ao.map (·.block)) := by
    rw [append_types w t tx e ex o.type i _ _ _ _ ht htx hi]
    cases xo with
    | none =>
      have hm : m = [] := by
        rcases hr with rfl | ⟨_, _, hh, _⟩
        · rfl
        · cases hh
      subst hm
      rw [hnil rfl]
      exact ⟨ao, c, w, run_append_owned_none (P := P) (w := w) base t o.type e i 1 ht hi _ _ _ hown, by rw [List.append_nil]; exact hown, World.grownBy.refl _ _⟩
    | some ad =>
      have hc : ∀ j u, (m.map (Value.int k))[j]? = some u → w.cell? (ad.add j) = some u := by
        intro j u hu
        rcases hr with rfl | ⟨b, off, hh, hcell⟩
        · simp at hu
        · injection hh with hh
          subst hh
          rw [List.getElem?_map] at hu
          rcases hmj : m[j]? with _ | z
          · rw [hmj] at hu; cases hu
          · rw [hmj] at hu
            have hj : j < m.length := (List.getElem?_eq_some_iff.1 hmj).1
            have := hcell j hj
            rw [List.getD_eq_getElem?_getD, hmj] at this
            simp at hu; subst hu
            unfold Addr.add
            split
            · rename_i h0; subst h0; exact this
            · exact this
      obtain ⟨v', w', hrun, h2, h3, _⟩ := run_append_own (P := P) w base t o.type e i (.int k 0) 1 bytes ht hi hz hsize hby rfl (by decide) _ _ _ hown ad m.length cx (m.map (Value.int k)) (by simp) hc (ints_oneCell _ _) h63 hbytes hbase
      obtain ⟨ao', c', rfl⟩ := own_slice h2
      refine ⟨ao', c', w', hrun, ?_, ?_⟩
      · unfold Own; simpa using h2
      · cases ao <;> exact h3
  obtain ⟨ao', c', w', hrun, h2, h3⟩ := key
  refine wpList_plain hgd fun K hK => ?_
  unfold Oper.wp execOp
  simp only [ho, resolve, invoke, builtin, Sem.run_bind, Sem.run_pure, Result.andThen_ok, List.map_toArray, List.map_cons, List.map_nil, hs, hx, hrun]
  exact hK _ _ (h ao' c' w' h2 h3)

/-- 'append(out, s...)', s a text. -/
theorem wpList_appendS {P : Program} (w : World) {ops : Array Oper} {rest : List Oper} {o : Oper} {a : Act} {Q : Exit → Act → World → Prop} (hgd : o.guard = none) (sl x : Operand) (t u : TypeId)
    (ho : o.op = .call { callee := .builtin .append, args := #[sl, x], argTypes := #[t, u] })
    (base : Nat) (e : TypeId) (ht : P.underlying t = some (.slice e)) (hu : P.underlying u = some .string) (hinfo : (P.info? e).map (fun i => (i.zero, i.size, i.bytes)) = some (some (.int .u8 0), 1, 1))
    (ao : Option Addr) (c n : Nat) (l : List Int) (hs : a.eval sl = .slice ao n c) (hn : n = l.length) (hown : Own w base e .u8 ao c l) (s : ByteArray) (hx : a.eval x = .string s)
    (hbytes : l.length + s.size ≤ 140737488355328) (hbase : base ≤ w.heap.size)
    (h : ∀ ao' c' w', Own w' base e .u8 ao' c' (l ++ strL s) → w.grownBy w' (ao.map (·.block)) → wpList P ops Q rest (a.put o.dst (.slice ao' (l.length + s.size) c')) w') : wpList P ops Q (o :: rest) a w := by
  subst hn
  obtain ⟨i, hi, hz, hsize, hby⟩ := info_parts hinfo
  refine Lib.wpList_append_own_string (P := P) w hgd sl x t u ho base e i ht hu hi hz hsize hby _ _ _ hs hown s hx (by unfold maxLen; omega) hbytes hbase ?_
  intro v' w' h2 h3 _
  obtain ⟨ao', c', rfl⟩ := own_slice h2
  refine h ao' c' w' ?_ ?_
  · unfold Own
    rw [strCells_strL] at h2
    simpa [strL_len] using h2
  · cases ao <;> exact h3
end Go.Proofs.YtfpbhedophlnkaaGreatDoor
namespace Go.Proofs.YtfpbhedophlnkaaGreatDoor
open Go.RowKit
set_option linter.unusedSimpArgs false
set_option linter.unusedVariables false

def JRel (w wr : World) (E : TypeId) (l0 l : List Int) (v i : Value) : Prop :=
  ∃ (ao : Option Addr) (c n j : Nat), v = .slice ao n c ∧ i = .int .i64 j ∧ n = (l0 ++ l.take j).length ∧ j ≤ l.length ∧ Own wr w.heap.size E .u8 ao c (l0 ++ l.take j) ∧ Below w.heap.size w wr
theorem jRel_step {w wr w1 : World} {E : TypeId} {l0 l acc : List Int} {ao ao' : Option Addr} {c c' j : Nat} {z : Int} {o : Obj} (hacc : acc = l0 ++ l.take j) (hj : j < l.length) (ht : l.take (j + 1) = l.take j ++ [z])
    (ho : Own wr w.heap.size E .u8 ao c acc) (hb : Below w.heap.size w wr) (ho' : Own w1 w.heap.size E .u8 ao' c' (acc ++ [z])) (hg : (wr.alloc o).grownBy w1 (ao.map (·.block))) :
    JRel w w1 E l0 l (.slice ao' (acc.length + 1) c') (.int .i64 ((j : Int) + 1)) := by
  have e : acc ++ [z] = l0 ++ l.take (j + 1) := by rw [ht, hacc, List.append_assoc]
  refine ⟨ao', c', _, j + 1, rfl, by simp, ?_, hj, by rw [← e]; exact ho', below_app1 hb ho hg⟩
  rw [← e]; simp

set_option maxRecDepth 100000 in
set_option maxHeartbeats 800000 in
theorem l01Bytes_any (b : Option Addr) (d : Nat) (l : List Int) (w : World) (h : Rd w .u8 b l) (hn : l.length ≤ 70368744177664) :
    Calls Tryz.prog 189 #[.slice b l.length d] w (Made w 5 .u8 l) := by
  have hst : Own (w.alloc (Obj.cells #[] 5)) w.heap.size 5 .u8 (some ⟨w.heap.size, 0, none⟩) 0 [] := World.ownsRow_lit w #[] 0 (Nat.le_refl _) (Nat.zero_le _) rfl
  have HST := Lib.hid hst; have HN := Lib.hid hn; have H := Lib.hid h; clear hst h
  have hn' : (l.length : Int) ≤ 70368744177664 := by omega
  clear hn
  rcases H.out with rfl | ⟨b1, off, rfl, _⟩
  · go_enter Tryz.func189, Tryz.ntmps189
    go_wp2
    refine wp_loop_rounds 1 ?_; rw [rounds_succ]; go_wp2
    go_ret
    exact ⟨_, _, rfl, HST.out, (Below.refl _ _).alloc (Nat.le_refl _) _⟩
  · go_enter Tryz.func189, Tryz.ntmps189
    go_wp2
    go_loopw [3, 4] (fun v i wr => JRel w wr 5 [] l v i) (fun _ i _ => l.length - (intOf i).toNat)
    case atStart => exact ⟨_, _, _, 0, rfl, rfl, rfl, Nat.zero_le _, HST.out, (Below.refl _ _).alloc (Nat.le_refl _) _⟩
    case round =>
      obtain ⟨ao, c, n, j, rfl, rfl, hnn, hj, ho, hb⟩ := hrel
      obtain ⟨acc, hacc⟩ : ∃ acc, acc = ([] : List Int) ++ l.take j := ⟨_, rfl⟩
      have hal : acc.length ≤ l.length := by rw [hacc]; simp; omega
      rw [← hacc] at ho hnn
      have HNN := Lib.hid hnn; have HACC := Lib.hid hacc; have HO := Lib.hid ho; have HB := Lib.hid hb; clear hnn hacc ho hb
      by_cases hlt : j < l.length
      · obtain ⟨b', off', heq, hc⟩ : ∃ b' off', (some ⟨b1, off, none⟩ : Option Addr) = some ⟨b', off', none⟩ ∧ ∀ i, i < l.length → wr.cell? ⟨b', off' + i, none⟩ = some (.int .u8 (l.getD i 0)) := by
          rcases H.out.below HB.out with rfl | h'
          · simp at hlt
          · exact h'
        simp only [Option.some.injEq, Addr.mk.injEq, and_true] at heq
        obtain ⟨rfl, rfl⟩ := heq
        obtain ⟨z, _, _, hcz, ht⟩ := Rd.at_ hc hlt
        have HT := Lib.hid ht; clear ht hc
        go_wp2_with (at_builtin; refine wpList_append1 _ rfl (.tmp 12) (.tmp 17) 22 rfl w.heap.size 5 .u8 1 Tryz.underlying22 Tryz.infoU8 ao c n acc rfl HNN.out (HO.out.alloc _) wr.heap.size 1 z rfl (cell_one _ _ _) (by unfold maxLen; omega) (by omega) (base_le HB.out) ?_; intro ao' c' w1 ho' hg'; have HO' := Lib.hid ho'; have HG' := Lib.hid hg'; clear ho' hg')
        go_roundw
        case rel => exact jRel_step HACC.out hlt HT.out HO.out HB.out HO'.out HG'.out
        case measure => simp [intOf]; omega
      · have e : acc = l := by rw [HACC.out, List.take_of_length_le (by omega)]; rfl
        have HEQ := Lib.hid e; clear e
        go_wp2
        go_ret
        refine ⟨ao, c, ?_, ?_, HB.out⟩
        · rw [← HEQ.out]; rw [HNN.out]; rfl
        · rw [← HEQ.out]; exact HO.out

set_option maxRecDepth 100000 in
set_option maxHeartbeats 800000 in
theorem l01Join_any (a0 b : Option Addr) (d0 d : Nat) (l0 l : List Int) (w : World) (h0 : Rd w .u8 a0 l0) (h : Rd w .u8 b l) (hn : l0.length + l.length ≤ 70368744177664) :
    Calls Tryz.prog 114 #[.slice a0 l0.length d0, .slice b l.length d] w (Made w 5 .u8 (l0 ++ l)) := by
  have HN := Lib.hid hn; have H := Lib.hid h; have H0 := Lib.hid h0; clear h h0
  have hn' : (l0.length : Int) + (l.length : Int) ≤ 70368744177664 := by omega
  have C := Lib.hid (fun w h => l01Bytes_any a0 d0 l0 w h (by have := HN.out; omega))
  clear hn
  rcases H.out with rfl | ⟨b1, off, rfl, _⟩
  · go_enter Tryz.func114, Tryz.ntmps114
    go_wp2_with fail
    refine (C.out _ H0.out).mono ?_
    rintro e w1 ⟨ao, c, rfl, ho, hb⟩
    have HO := Lib.hid ho; have HB := Lib.hid hb; clear ho hb
    go_wp2
    refine wp_loop_rounds 1 ?_; rw [rounds_succ]; go_wp2
    go_ret
    exact ⟨_, _, by rw [List.append_nil]; rfl, by rw [List.append_nil]; exact HO.out, HB.out⟩
  · go_enter Tryz.func114, Tryz.ntmps114
    go_wp2_with fail
    refine (C.out _ H0.out).mono ?_
    rintro e w1 ⟨ao1, c1, rfl, ho1, hb1⟩
    have HO1 := Lib.hid ho1; have HB1 := Lib.hid hb1; clear ho1 hb1
    go_wp2
    go_loopw [5, 6] (fun v i wr => JRel w wr 5 l0 l v i) (fun _ i _ => l.length - (intOf i).toNat)
    case atStart => exact ⟨_, _, _, 0, rfl, rfl, by simp, Nat.zero_le _, by simpa using HO1.out, HB1.out⟩
    case round =>
      obtain ⟨ao, c, n, j, rfl, rfl, hnn, hj, ho, hb⟩ := hrel
      obtain ⟨acc, hacc⟩ : ∃ acc, acc = l0 ++ l.take j := ⟨_, rfl⟩
      have hal : acc.length ≤ l0.length + l.length := by rw [hacc]; simp; omega
      rw [← hacc] at ho hnn
      have HNN := Lib.hid hnn; have HACC := Lib.hid hacc; have HO := Lib.hid ho; have HB := Lib.hid hb; clear hnn hacc ho hb
      by_cases hlt : j < l.length
      · obtain ⟨b', off', heq, hc⟩ : ∃ b' off', (some ⟨b1, off, none⟩ : Option Addr) = some ⟨b', off', none⟩ ∧ ∀ i, i < l.length → wr.cell? ⟨b', off' + i, none⟩ = some (.int .u8 (l.getD i 0)) := by
          rcases H.out.below HB.out with rfl | h'
          · simp at hlt
          · exact h'
        simp only [Option.some.injEq, Addr.mk.injEq, and_true] at heq
        obtain ⟨rfl, rfl⟩ := heq
        obtain ⟨z, _, _, hcz, ht⟩ := Rd.at_ hc hlt
        have HT := Lib.hid ht; clear ht hc
        go_wp2_with (at_builtin; refine wpList_append1 _ rfl (.tmp 15) (.tmp 20) 22 rfl w.heap.size 5 .u8 1 Tryz.underlying22 Tryz.infoU8 ao c n acc rfl HNN.out (HO.out.alloc _) wr.heap.size 1 z rfl (cell_one _ _ _) (by unfold maxLen; omega) (by omega) (base_le HB.out) ?_; intro ao' c' w1 ho' hg'; have HO' := Lib.hid ho'; have HG' := Lib.hid hg'; clear ho' hg')
        go_roundw
        case rel => exact jRel_step HACC.out hlt HT.out HO.out HB.out HO'.out HG'.out
        case measure => simp [intOf]; omega
      · have e : acc = l0 ++ l := by rw [HACC.out, List.take_of_length_le (by omega)]
        have HEQ := Lib.hid e; clear e
        go_wp2
        go_ret
        refine ⟨ao, c, ?_, ?_, HB.out⟩
        · rw [← HEQ.out]; rw [HNN.out]; rfl
        · rw [← HEQ.out]; exact HO.out

theorem below_row0 {B : Nat} {w w1 : World} {E : TypeId} {ao : Option Addr} {c : Nat} {l : List Int} (hB : B ≤ w.heap.size) (hg : w.grownBy w1 (ao.map (·.block))) (ho : Own w B E .u8 ao c l) : Below B w w1 := by
  refine (Below.refl B w).grown hg hB ?_
  intro g hg'
  cases ao with
  | none => cases hg'
  | some a => simp at hg'; subst hg'; exact (ho.lt a rfl).1
theorem grown_block0 {w w1 : World} {h : Nat} {T : TypeId} {v : Value} {row : Option Nat} (hb : w.heap[h]? = some (.cells #[v] T (0, 0))) (hg : w.grownBy w1 row) (hne : some h ≠ row) : w1.heap[h]? = some (.cells #[v] T (0, 0)) := by
  rw [hg.block h (lt_of_block hb) hne]; exact hb

set_option maxRecDepth 100000 in
set_option maxHeartbeats 800000 in
theorem addText_any (B h : Nat) (l : List Int) (s : ByteArray) (w : World) (hw : Wr w B h 112 5 l) (hB : B ≤ w.heap.size) (hl : l.length + s.size ≤ 70368744177664) :
    Calls Tryz.prog 174 #[.pointer (some ⟨h, 0, none⟩), .string s] w (Added w B h 112 5 (l ++ strL s)) := by
  obtain ⟨ao, c, hblk, hBh, ho⟩ := hw
  have hcell := cell_of_one hblk
  have hne := own_ne (by decide) hblk ho
  have HBLK := Lib.hid hblk; have HO := Lib.hid ho; have HNE := Lib.hid hne; have HL := Lib.hid hl; clear hblk ho hne hl
  go_enter Tryz.func174, Tryz.ntmps174
  go_wp2_with (at_builtin; refine wpList_appendS _ rfl (.tmp 7) (.tmp 8) 112 9 rfl B 5 Tryz.underlying112 Tryz.underlying9 Tryz.infoU8 ao c l.length l rfl rfl HO.out s rfl (by have := HL.out; omega) hB ?_; intro ao' c' w1 ho' hg'; have hb1 := grown_block0 HBLK.out hg' (row_ne HNE.out); have hc1 := cell_of_one hb1; have hf1 := free_of_one hb1; have HB1 := Lib.hid hb1; have HO' := Lib.hid ho'; have HG' := Lib.hid hg'; clear hb1 ho' hg')
  go_end0
  exact ⟨rfl, Wr.put (by decide) HB1.out hBh HO'.out (by simp [strL_len]), (below_row0 hB HG'.out HO.out).setCell hBh _⟩

set_option maxRecDepth 100000 in
set_option maxHeartbeats 800000 in
theorem addBytes_any (B h : Nat) (l : List Int) (xo : Option Addr) (cx : Nat) (m : List Int) (w : World) (hw : Wr w B h 112 5 l) (hB : B ≤ w.heap.size) (hr : Rd w .u8 xo m) (hnil : xo = none → cx = 0) (hl : l.length + m.length ≤ 70368744177664) :
    Calls Tryz.prog 175 #[.pointer (some ⟨h, 0, none⟩), .slice xo m.length cx] w (Added w B h 112 5 (l ++ m)) := by
  obtain ⟨ao, c, hblk, hBh, ho⟩ := hw
  have hcell := cell_of_one hblk
  have hne := own_ne (by decide) hblk ho
  have HBLK := Lib.hid hblk; have HO := Lib.hid ho; have HNE := Lib.hid hne; have HL := Lib.hid hl; have HR := Lib.hid hr; have HNIL := Lib.hid hnil; clear hblk ho hne hl hr hnil
  go_enter Tryz.func175, Tryz.ntmps175
  go_wp2_with (at_builtin; refine wpList_appendR _ rfl (.tmp 7) (.tmp 8) 112 22 rfl B 5 5 .u8 1 Tryz.underlying112 Tryz.underlying22 Tryz.infoU8 ao c l.length l rfl rfl HO.out xo cx m.length m rfl rfl HR.out HNIL.out (by have := HL.out; unfold maxLen; omega) (by have := HL.out; omega) hB ?_; intro ao' c' w1 ho' hg'; have hb1 := grown_block0 HBLK.out hg' (row_ne HNE.out); have hc1 := cell_of_one hb1; have hf1 := free_of_one hb1; have HB1 := Lib.hid hb1; have HO' := Lib.hid ho'; have HG' := Lib.hid hg'; clear hb1 ho' hg')
  go_end0
  exact ⟨rfl, Wr.put (by decide) HB1.out hBh HO'.out (by simp), (below_row0 hB HG'.out HO.out).setCell hBh _⟩
end Go.Proofs.YtfpbhedophlnkaaGreatDoor
namespace Go.Proofs.YtfpbhedophlnkaaGreatDoor
open Go.RowKit
set_option linter.unusedSimpArgs false
set_option linter.unusedVariables false

def preN (l : List Int) (j : Nat) : List Int := putN l.length ++ (l.take j).flatMap putN
theorem preN_zero (l : List Int) : preN l 0 = putN l.length := by simp [preN]
theorem preN_succ {l : List Int} {j : Nat} {z : Int} (ht : l.take (j + 1) = l.take j ++ [z]) : preN l (j + 1) = preN l j ++ putN z := by simp [preN, ht, List.flatMap_append]
theorem flat_len : ∀ l : List Int, (l.flatMap putN).length ≤ 3 * l.length
  | [] => by simp
  | z :: l => by
    have := flat_len l
    have := putN_len z
    simp only [List.flatMap_cons, List.length_append, List.length_cons]; omega
theorem preN_len {l : List Int} (j : Nat) (hl : l.length ≤ 300) : (preN l j).length ≤ 903 := by
  have h1 := putN_len l.length
  have h2 := flat_len (l.take j)
  have h3 : (l.take j).length ≤ l.length := by simp; omega
  simp only [preN, List.length_append]; omega
def okNs (l : List Int) : Bool := decide (l.length ≤ 300) && l.all isN
def putNs (l : List Int) : List Int := if okNs l then preN l l.length else []
theorem putNs_len (l : List Int) : (putNs l).length ≤ 903 := by
  unfold putNs; split
  · rename_i h; unfold okNs at h; simp at h; exact preN_len _ h.1
  · simp
theorem flat_by : ∀ l : List Int, By (l.flatMap putN)
  | [] => by simp [By.nil]
  | z :: l => by rw [List.flatMap_cons]; exact (putN_by z).app (flat_by l)
theorem putNs_by (l : List Int) : By (putNs l) := by
  unfold putNs; split
  · unfold preN; exact (putN_by _).app (flat_by _)
  · exact By.nil
theorem putNs_long {l : List Int} (h : ¬ l.length ≤ 300) : putNs l = [] := by unfold putNs okNs; simp [h]
theorem putNs_no {l : List Int} {z : Int} (h : z ∈ l) (hz : isN z = false) : putNs l = [] := by
  have : okNs l = false := by
    unfold okNs
    rw [show l.all isN = false from List.all_eq_false.2 ⟨z, h, by simp [hz]⟩]; simp
  unfold putNs; rw [this]; rfl
theorem putNs_yes {l : List Int} (h : l.length ≤ 300) (ha : ∀ z ∈ l, isN z = true) : putNs l = preN l l.length := by
  have : okNs l = true := by unfold okNs; simp [h]; exact ha
  unfold putNs; rw [this]; rfl

def NsRel (w wr : World) (E : TypeId) (l : List Int) (v i : Value) : Prop :=
  ∃ (ao : Option Addr) (c n j : Nat), v = .slice ao n c ∧ i = .int .i64 j ∧ n = (preN l j).length ∧ j ≤ l.length ∧ (∀ z ∈ l.take j, isN z = true) ∧ Own wr w.heap.size E .u8 ao c (preN l j) ∧ Below w.heap.size w wr

theorem all_succ {l : List Int} {j : Nat} {z : Int} (ht : l.take (j + 1) = l.take j ++ [z]) (h : ∀ z ∈ l.take j, isN z = true) (hz : isN z = true) : ∀ y ∈ l.take (j + 1), isN y = true := by
  intro y hy; rw [ht] at hy
  rcases List.mem_append.1 hy with h1 | h1
  · exact h y h1
  · simp at h1; subst h1; exact hz

set_option maxRecDepth 100000 in
set_option maxHeartbeats 1600000 in
theorem specPutNums_any (b : Option Addr) (d : Nat) (l : List Int) (w : World) (h : Rd w .i64 b l) (hl : l.length ≤ maxLen) :
    Calls Tryz.prog 193 #[.slice b l.length d] w (Made w 5 .u8 (putNs l)) := by
  unfold maxLen at hl
  by_cases h3 : l.length ≤ 300
  · clear hl
    have H := Lib.hid h; clear h
    have P0 : Hid (∀ w : World, Calls Tryz.prog 113 #[.int .i64 l.length] w (Made w 5 .u8 (preN l 0))) := by rw [preN_zero]; exact fun w => specPutNum_any _ w
    rcases H.out with rfl | ⟨b1, off, rfl, _⟩
    · rw [putNs_yes h3 (by simp)]
      go_enter Tryz.func193, Tryz.ntmps193
      go_wp2_with fail
      refine (P0.out _).mono ?_
      rintro e w1 ⟨ao, c, rfl, ho, hb⟩
      have HO := Lib.hid ho; have HB := Lib.hid hb; clear ho hb
      go_wp2
      refine wp_loop_rounds 1 ?_; rw [rounds_succ]; go_wp2
      go_ret
      exact ⟨ao, c, rfl, HO.out, HB.out⟩
    · obtain ⟨p0, hp0⟩ : ∃ p, p = preN l 0 := ⟨_, rfl⟩
      rw [← hp0] at P0
      have HP0 := Lib.hid hp0; clear hp0
      go_enter Tryz.func193, Tryz.ntmps193
      go_wp2_with fail
      refine (P0.out _).mono ?_
      rintro e w1 ⟨ao1, c1, rfl, ho1, hb1⟩
      have HO1 := Lib.hid ho1; have HB1 := Lib.hid hb1; clear ho1 hb1
      go_wp2
      go_loopw [3, 4] (fun v i wr => NsRel w wr 5 l v i) (fun _ i _ => l.length - (intOf i).toNat)
      case atStart => exact ⟨_, _, _, 0, rfl, rfl, by rw [HP0.out], Nat.zero_le _, by simp, by rw [← HP0.out]; exact HO1.out, HB1.out⟩
      case round =>
        obtain ⟨ao, c, n, j, rfl, rfl, hnn, hj, ha, ho, hb⟩ := hrel
        have hpl := preN_len j h3
        obtain ⟨acc, hacc⟩ : ∃ acc, acc = preN l j := ⟨_, rfl⟩
        rw [← hacc] at ho hnn hpl
        subst hnn
        have HA := Lib.hid ha; have HACC := Lib.hid hacc; have HO := Lib.hid ho; have HB := Lib.hid hb; clear ha hacc ho hb
        by_cases hlt : j < l.length
        · obtain ⟨b', off', heq, hc⟩ : ∃ b' off', (some ⟨b1, off, none⟩ : Option Addr) = some ⟨b', off', none⟩ ∧ ∀ i, i < l.length → wr.cell? ⟨b', off' + i, none⟩ = some (.int .i64 (l.getD i 0)) := by
            rcases H.out.below HB.out with rfl | h'
            · simp at hlt
            · exact h'
          simp only [Option.some.injEq, Addr.mk.injEq, and_true] at heq
          obtain ⟨rfl, rfl⟩ := heq
          obtain ⟨z, hz, _, hcz, ht⟩ := Rd.at_ hc hlt
          have HT := Lib.hid ht; have HZ := Lib.hid hz; clear ht hc hz
          by_cases hN : isN z = true
          · have hN' := isN_of hN
            have HN := Lib.hid hN; have HN' := Lib.hid hN'; clear hN hN'
            obtain ⟨q, hq⟩ : ∃ q, q = putN z := ⟨_, rfl⟩
            have hql : q.length ≤ 3 := by rw [hq]; exact putN_len z
            have PZ : Hid (∀ w : World, Calls Tryz.prog 113 #[.int .i64 z] w (Made w 5 .u8 q)) := by rw [hq]; exact fun w => specPutNum_any _ w
            have HQ := Lib.hid hq; clear hq
            go_wp2_with fail
            refine (l01Number_t _ _ HN'.out).mono ?_
            rintro e w' ⟨rfl, rfl⟩
            go_wp2_with fail
            refine (PZ.out _).mono ?_
            rintro e w2 ⟨a2, c2, rfl, o2, b2⟩
            have O2 := Lib.hid o2; have B2 := Lib.hid b2; clear o2 b2
            go_wp2_with fail
            refine (l01Join_any _ _ _ _ _ _ _ (HO.out.below B2.out).rd O2.out.rd (by omega)).mono ?_
            rintro e w3 ⟨a3, c3, rfl, o3, b3⟩
            have O3 := Lib.hid o3; have B3 := Lib.hid b3; clear o3 b3
            go_wp2
            go_roundw
            case rel =>
              have e1 : acc ++ q = preN l (j + 1) := by rw [preN_succ HT.out, HACC.out, HQ.out]
              have hB := below_step (below_step HB.out (Nat.le_refl _) B2.out) (Nat.le_refl _) B3.out
              refine ⟨a3, c3, _, j + 1, rfl, by go_num, by rw [← e1]; simp, by omega, all_succ HT.out HA.out HN.out, ?_, hB⟩
              rw [← e1]
              exact O3.out.base_le (Nat.le_trans HB.out.size B2.out.size)
            case measure => simp [intOf]; omega
          · have hN' : ¬ (-1000000 ≤ z ∧ z ≤ 1000000) := fun h => hN (isN_mk h)
            have HN' := Lib.hid hN'
            have HF := Lib.hid (putNs_no HZ.out (by simpa using hN))
            clear hN hN'
            go_wp2_with fail
            refine (l01Number_f _ _ HN'.out).mono ?_
            rintro e w' ⟨rfl, rfl⟩
            go_wp2
            go_ret
            refine ⟨none, 0, ?_, ?_, HB.out⟩
            · rw [HF.out]; rfl
            · rw [HF.out]; exact Own.none_
        · have e : j = l.length := by omega
          have HY : Hid (putNs l = acc) := by
            show putNs l = acc
            have ha := HA.out
            rw [List.take_of_length_le (by omega)] at ha
            rw [putNs_yes h3 ha, HACC.out, e]
          clear e
          go_wp2
          go_ret
          refine ⟨ao, c, ?_, ?_, HB.out⟩
          · rw [HY.out]; rfl
          · rw [HY.out]; exact HO.out
  · have h3' : (300 : Int) < l.length := by omega
    rw [putNs_long h3]
    go_enter Tryz.func193, Tryz.ntmps193
    go_wp2
    go_ret
    exact ⟨none, 0, rfl, Own.none_, Below.refl _ _⟩

theorem putN_yes {z : Int} (h : isN z = true) : putN z = enc (fold z) := by unfold putN; rw [h]; rfl
def NiRel (w wr : World) (T E : TypeId) (l : List Int) (i : Value) : Prop :=
  ∃ (j : Nat), i = .int .i64 j ∧ j ≤ l.length ∧ (∀ z ∈ l.take j, isN z = true) ∧ Wr wr w.heap.size w.heap.size T E (preN l j) ∧ Below w.heap.size w wr

set_option maxRecDepth 100000 in
set_option maxHeartbeats 1600000 in
theorem implPutNums_any (b : Option Addr) (d : Nat) (l : List Int) (w : World) (h : Rd w .i64 b l) (hl : l.length ≤ maxLen) :
    Calls Tryz.prog 244 #[.slice b l.length d] w (Made w 5 .u8 (putNs l)) := by
  unfold maxLen at hl
  by_cases h3 : l.length ≤ 300
  · clear hl
    have H := Lib.hid h; clear h
    have N0 : Hid (Calls Tryz.prog 172 #[.pointer (some ⟨w.heap.size, 0, none⟩), .int .i64 l.length] (w.alloc (Obj.cells #[.slice none 0 0] 112)) (Added (w.alloc (Obj.cells #[.slice none 0 0] 112)) w.heap.size w.heap.size 112 5 (preN l 0))) := by
      have := addNum_any w.heap.size w.heap.size [] (l.length : Int) _ (by omega) (Wr.new w 112 5) (by simp) (by simp)
      rw [List.nil_append, ← putN_yes (isN_mk (by omega)), ← preN_zero] at this
      exact this
    rcases H.out with rfl | ⟨b1, off, rfl, _⟩
    · rw [putNs_yes h3 (by simp)]
      go_enter Tryz.func244, Tryz.ntmps244
      go_wp2_with fail
      refine N0.out.mono ?_
      rintro e w1 ⟨rfl, ⟨ao, c, hblk, _, ho⟩, hb⟩
      have hc := cell_of_one hblk
      have HO := Lib.hid ho; have HB := Lib.hid hb; clear ho hb hblk
      go_wp2
      refine wp_loop_rounds 1 ?_; rw [rounds_succ]; go_wp2
      go_ret
      exact ⟨ao, c, rfl, HO.out, below_after HB.out⟩
    · obtain ⟨p0, hp0⟩ : ∃ p, p = preN l 0 := ⟨_, rfl⟩
      rw [← hp0] at N0
      have HP0 := Lib.hid hp0; clear hp0
      go_enter Tryz.func244, Tryz.ntmps244
      go_wp2_with fail
      refine N0.out.mono ?_
      rintro e w1 ⟨rfl, hw1, hb1⟩
      have HW1 := Lib.hid hw1; have HB1 := Lib.hid hb1; clear hw1 hb1
      go_wp2
      go_loopw [14] (fun i wr => NiRel w wr 112 5 l i) (fun i _ => l.length - (intOf i).toNat)
      case atStart => exact ⟨0, rfl, Nat.zero_le _, by simp, by rw [← HP0.out]; exact HW1.out, below_after HB1.out⟩
      case round =>
        obtain ⟨j, rfl, hj, ha, hw, hb⟩ := hrel
        have hpl := preN_len j h3
        obtain ⟨acc, hacc⟩ : ∃ acc, acc = preN l j := ⟨_, rfl⟩
        rw [← hacc] at hw hpl
        have hsz := hb.size
        have HA := Lib.hid ha; have HACC := Lib.hid hacc; have HW := Lib.hid hw; have HB := Lib.hid hb; clear ha hacc hw hb
        by_cases hlt : j < l.length
        · obtain ⟨b', off', heq, hc⟩ : ∃ b' off', (some ⟨b1, off, none⟩ : Option Addr) = some ⟨b', off', none⟩ ∧ ∀ i, i < l.length → wr.cell? ⟨b', off' + i, none⟩ = some (.int .i64 (l.getD i 0)) := by
            rcases H.out.below HB.out with rfl | h'
            · simp at hlt
            · exact h'
          simp only [Option.some.injEq, Addr.mk.injEq, and_true] at heq
          obtain ⟨rfl, rfl⟩ := heq
          obtain ⟨z, hz, _, hcz, ht⟩ := Rd.at_ hc hlt
          have HT := Lib.hid ht; have HZ := Lib.hid hz; clear ht hc hz
          by_cases hN : isN z = true
          · have hN' := isN_of hN
            have HN := Lib.hid hN; have HN' := Lib.hid hN'; clear hN hN'
            go_wp2_with fail
            refine (isNum_t _ _ HN'.out).mono ?_
            rintro e w' ⟨rfl, rfl⟩
            go_wp2_with fail
            refine (addNum_any w.heap.size w.heap.size acc z _ HN'.out HW.out hsz (by omega)).mono ?_
            rintro e w2 ⟨rfl, hw2, hb2⟩
            have HW2 := Lib.hid hw2; have HB2 := Lib.hid hb2; clear hw2 hb2
            go_wp2
            go_roundw
            case rel =>
              have e1 : acc ++ enc (fold z) = preN l (j + 1) := by rw [preN_succ HT.out, HACC.out, putN_yes HN.out]
              exact ⟨j + 1, by go_num, by omega, all_succ HT.out HA.out HN.out, by rw [← e1]; exact HW2.out, HB.out.trans HB2.out⟩
            case measure => simp [intOf]; omega
          · have hN' : ¬ (-1000000 ≤ z ∧ z ≤ 1000000) := fun h => hN (isN_mk h)
            have HN' := Lib.hid hN'
            have HF := Lib.hid (putNs_no HZ.out (by simpa using hN))
            clear hN hN'
            go_wp2_with fail
            refine (isNum_f _ _ HN'.out).mono ?_
            rintro e w' ⟨rfl, rfl⟩
            go_wp2
            go_ret
            refine ⟨none, 0, ?_, ?_, HB.out⟩
            · rw [HF.out]; rfl
            · rw [HF.out]; exact Own.none_
        · have e : j = l.length := by omega
          have HY : Hid (putNs l = acc) := by
            show putNs l = acc
            have ha := HA.out
            rw [List.take_of_length_le (by omega)] at ha
            rw [putNs_yes h3 ha, HACC.out, e]
          clear e
          obtain ⟨ao, c, hblk, _, ho⟩ := HW.out
          have hc := cell_of_one hblk
          have HO := Lib.hid ho; clear ho hblk
          go_wp2
          go_ret
          refine ⟨ao, c, ?_, ?_, HB.out⟩
          · rw [HY.out]; rfl
          · rw [HY.out]; exact HO.out
  · have h3' : (300 : Int) < l.length := by omega
    rw [putNs_long h3]
    go_enter Tryz.func244, Tryz.ntmps244
    go_wp2
    go_ret
    exact ⟨none, 0, rfl, Own.none_, Below.refl _ _⟩
end Go.Proofs.YtfpbhedophlnkaaGreatDoor
