/-
  The model's draws of lists of numbers and of words: some list, some text, in memory of its own. For every slice of bytes.
-/
import Derived.Test.YtcegekkhlfpgfaaDoorDraw2
import Derived.Test.YtcegekkhlfpgfaaDoorPutNum
import Derived.Test.YtcegekkhlfpgfaaDoorRow
namespace Go.Proofs.YtcegekkhlfpgfaaDoor
open Go.RowKit
set_option linter.unusedSimpArgs false
set_option linter.unusedVariables false

theorem Cur.code_lt {w : World} {g : Nat} {ao : Option Addr} {d : Nat} {code : List Int} (h : Cur w g ao d code) : ∀ a, ao = some a → code ≠ [] → a.block < w.heap.size := by
  obtain ⟨i, x, h1, h2, h3, h4, h5, h6⟩ := h
  intro a ha hl
  rcases h4 with rfl | ⟨b, off, hh, hc⟩
  · exact absurd rfl hl
  · rw [ha] at hh
    injection hh with hh
    subst hh
    exact World.block_lt_of_cell? w _ (hc 0 (by cases code with | nil => exact absurd rfl hl | cons _ _ => simp))
theorem Cur.keepI {w w' : World} {g B : Nat} {ao : Option Addr} {d : Nat} {code : List Int} (h : Cur w g ao d code) (hg : g < B) (hcode : ∀ a, ao = some a → code ≠ [] → a.block < B) (hk : ∀ i, i < B → w'.heap[i]? = w.heap[i]?) : Cur w' g ao d code := by
  obtain ⟨i, x, h1, h2, h3, h4, h5, h6⟩ := h
  refine ⟨i, x, (hk g hg).trans h1, h2, h3, ?_, h5, h6⟩
  by_cases hl : code = []
  · exact .inl hl
  · rcases h4 with rfl | ⟨b, off, rfl, hc⟩
    · exact absurd rfl hl
    · exact .inr ⟨b, off, rfl, fun j hj => (World.cell?_of_block (a := ⟨b, off + j, none⟩) (hk b (hcode _ rfl hl))).trans (hc j hj)⟩
/-- What a draw leaves: the cursor moved on, nothing else that was there turned. -/
def Drew (w : World) (g : Nat) (ao : Option Addr) (d : Nat) (code : List Int) (w' : World) : Prop := Cur w' g ao d code ∧ w.grownBy w' (some g)
theorem Drew.own {wr w1 : World} {B g : Nat} {E : TypeId} {k : IntKind} {ao xo : Option Addr} {c d : Nat} {l code : List Int} (h : Drew wr g xo d code w1) (ho : Own wr B E k ao c l) (hg : g < B) : Own w1 B E k ao c l :=
  ho.grown h.2 (fun a ha => by have := (ho.lt a ha).1; simp; omega)
/-- Behind 'append(out, x)' onto a row of the draw's own. -/
theorem drew_app {w wr w1 : World} {g : Nat} {E : TypeId} {k : IntKind} {ao xo : Option Addr} {c d : Nat} {l code : List Int} {o : Obj} (h0 : Cur w g xo d code) (h : Drew w g xo d code wr) (ho : Own wr w.heap.size E k ao c l) (hg' : (wr.alloc o).grownBy w1 (ao.map (·.block))) : Drew w g xo d code w1 := by
  have hb : Below w.heap.size wr w1 := ((Below.refl _ _).alloc h.2.size o).grown hg' (by have := h.2.size; simp; omega) (by
    intro r hr
    cases ao with
    | none => cases hr
    | some a => simp at hr; subst hr; exact (ho.lt a rfl).1)
  refine ⟨h.1.keepI h0.lt h0.code_lt hb.block, ?_⟩
  exact ⟨hb.os.trans h.2.os, hb.tape.trans h.2.tape, hb.output.trans h.2.output, Nat.le_trans h.2.size hb.size, fun i hi hne => (hb.block i hi).trans (h.2.block i hi hne)⟩
theorem drew_trans {w w1 w2 : World} {g : Nat} {xo : Option Addr} {d : Nat} {code : List Int} (h : w.grownBy w1 (some g)) (k : Cur w2 g xo d code) (k2 : w1.grownBy w2 (some g)) : Drew w g xo d code w2 := ⟨k, grownBy_trans h k2⟩

theorem l01PickInt_n (g : Nat) (ao : Option Addr) (d : Nat) (code : List Int) (b c n : Nat) (l : List Int) (w : World) (hc : Cur w g ao d code) (hl : code.length ≤ 1048577)
    (hb : ∀ i, i < l.length → w.cell? ⟨b, i, none⟩ = some (.int .i64 (l.getD i 0))) (hbg : b ≠ g) (h0 : 1 ≤ l.length) (h1 : l.length ≤ 256) (hn : l.length = n) :
    Calls Tryd.prog 95 #[.pointer (some ⟨g, 0, none⟩), .slice (some ⟨b, 0, none⟩) n c] w (PickP w g ao d code l) := by
  subst hn
  exact l01PickInt_any g ao d code b 0 c l w hc hl (by intro i hi; rw [Nat.zero_add]; exact hb i hi) hbg h0 h1
theorem row_cells (w : World) (t : TypeId) (l : List Int) : ∀ i, i < l.length → (w.alloc (.cells (l.map (Value.int .i64)).toArray t)).cell? ⟨w.heap.size, i, none⟩ = some (.int .i64 (l.getD i 0)) := by
  intro i hi
  rw [cell_of_row _ _ _ _ _ _ (heap_alloc_new w _)]
  simp [hi, List.getD_eq_getElem?_getD]

def NumP (w : World) (g : Nat) (ao : Option Addr) (d : Nat) (code : List Int) (lo hi : Int) (e : Ending) (w' : World) : Prop :=
  ∃ z, lo ≤ z ∧ z ≤ hi ∧ e = .returned (.int .i64 z) ∧ Drew w g ao d code w'
set_option maxRecDepth 100000 in
theorem l01DrawNum_any (g : Nat) (ao : Option Addr) (d : Nat) (code : List Int) (w : World) (hc : Cur w g ao d code) (hl : code.length ≤ 1048577) :
    Calls Tryd.prog 90 #[.pointer (some ⟨g, 0, none⟩)] w (NumP w g ao d code (-1000001) 1000001) := by
  have C := Lib.hid (l01Below_any g ao d code 200 w hc hl (by omega) (by omega))
  have HL := Lib.hid hl; have HLT := Lib.hid hc.lt
  clear hc hl
  go_enter Tryd.func90, Tryd.ntmps90
  go_wp2_with fail
  refine C.out.mono ?_
  rintro e w1 ⟨x, rfl, x0, x1, hc1, hg1⟩
  have HC1 := Lib.hid hc1; have HG1 := Lib.hid hg1; clear hc1 hg1
  have P : Hid (Calls Tryd.prog 95 #[.pointer (some ⟨g, 0, none⟩), .slice (some ⟨w1.heap.size, 0, none⟩) 9 9] (w1.alloc (.cells #[.int .i64 0, .int .i64 63, .int .i64 64, .int .i64 (-64), .int .i64 (-65), .int .i64 (x - 100), .int .i64 1000000, .int .i64 (-1000000), .int .i64 1000001] 3)) (PickP (w1.alloc (.cells #[.int .i64 0, .int .i64 63, .int .i64 64, .int .i64 (-64), .int .i64 (-65), .int .i64 (x - 100), .int .i64 1000000, .int .i64 (-1000000), .int .i64 1000001] 3)) g ao d code [0, 63, 64, -64, -65, x - 100, 1000000, -1000000, 1000001])) :=
    l01PickInt_n g ao d code w1.heap.size 9 9 [0, 63, 64, -64, -65, x - 100, 1000000, -1000000, 1000001] _ (HC1.out.keepB ((Below.refl _ _).alloc (Nat.le_refl _) _)) HL.out (row_cells w1 3 [0, 63, 64, -64, -65, x - 100, 1000000, -1000000, 1000001]) (by have := HC1.out.lt; omega) (by simp) (by simp) rfl
  go_wp2_with fail
  refine P.out.mono ?_
  rintro e w2 ⟨z, hz, rfl, hc2, hg2⟩
  have HZ := Lib.hid hz; have HC2 := Lib.hid hc2; have HG2 := Lib.hid hg2; clear hz hc2 hg2
  go_wp2
  go_ret
  have hz := HZ.out
  simp at hz
  exact ⟨z, by omega, by omega, rfl, drew_trans (grownBy_below HG1.out ((Below.refl _ _).alloc (Nat.le_refl _) _)) HC2.out HG2.out⟩

def NumsRel (w wr : World) (g : Nat) (xo : Option Addr) (d : Nat) (code : List Int) (m : Nat) (v i : Value) : Prop :=
  ∃ (k : Nat) (acc : List Int) (ao : Option Addr) (c n : Nat), v = .slice ao n c ∧ i = .int .i64 k ∧ n = acc.length ∧ acc.length = k ∧ k ≤ m ∧ (∀ z ∈ acc, -1000001 ≤ z ∧ z ≤ 1000001) ∧ Own wr w.heap.size 3 .i64 ao c acc ∧ Drew w g xo d code wr
def NumsP (w : World) (g : Nat) (xo : Option Addr) (d : Nat) (code : List Int) (e : Ending) (w' : World) : Prop :=
  ∃ (l : List Int) (ao : Option Addr) (c : Nat), e = .returned (.slice ao l.length c) ∧ l.length ≤ 301 ∧ (∀ z ∈ l, -1000001 ≤ z ∧ z ≤ 1000001) ∧ Own w' w.heap.size 3 .i64 ao c l ∧ Drew w g xo d code w'

theorem all_snoc {acc : List Int} {z lo hi : Int} (h : ∀ y ∈ acc, lo ≤ y ∧ y ≤ hi) (hz : lo ≤ z ∧ z ≤ hi) : ∀ y ∈ acc ++ [z], lo ≤ y ∧ y ≤ hi := by
  intro y hy
  rcases List.mem_append.1 hy with h1 | h1
  · exact h y h1
  · simp at h1; subst h1; exact hz
set_option maxRecDepth 100000 in
set_option maxHeartbeats 1600000 in
theorem l01DrawNums_any (g : Nat) (xo b : Option Addr) (d c0 : Nat) (code : List Int) (w : World) (hc : Cur w g xo d code) (hl : code.length ≤ 1048577) :
    Calls Tryd.prog 62 #[.pointer (some ⟨g, 0, none⟩), .slice b code.length c0] w (NumsP w g xo d code) := by
  have HL := Lib.hid hl; have HC := Lib.hid hc
  have hst : Own (w.alloc (Obj.cells #[] 3)) w.heap.size 3 .i64 (some ⟨w.heap.size, 0, none⟩) 0 [] := World.ownsRow_lit w #[] 0 (Nat.le_refl _) (Nat.zero_le _) rfl
  have HST := Lib.hid hst
  have hgl := hc.lt
  clear hst hc hl
  go_enter Tryd.func62, Tryd.ntmps62
  go_wp2_with fail
  refine (l01Size_any _ _ _ _ HL.out).mono ?_
  rintro e w' ⟨⟨sz, s0, s1, rfl⟩, rfl⟩
  go_wp2_with fail
  refine (l01Below_any g xo d code sz _ (HC.out.keepB ((Below.refl _ _).alloc (Nat.le_refl _) _)) HL.out (by omega) (by omega)).mono ?_
  rintro e w1 ⟨n, rfl, n0, n1, hc1, hg1⟩
  have D1 : Hid (Drew w g xo d code w1) := drew_trans (grownBy_below (World.grownBy.refl _ _) ((Below.refl _ _).alloc (Nat.le_refl _) _)) hc1 hg1
  have O1 := Lib.hid (Drew.own ⟨hc1, hg1⟩ HST.out hgl)
  clear hc1 hg1
  go_wp2_with fail
  refine (l01Once_any g xo d code 40 _ D1.out.1 HL.out (by omega) (by omega)).mono ?_
  rintro e w2 ⟨bb, rfl, hc2, hg2⟩
  have D2 : Hid (Drew w g xo d code w2) := drew_trans D1.out.2 hc2 hg2
  have O2 := Lib.hid (Drew.own ⟨hc2, hg2⟩ O1.out hgl)
  clear hc2 hg2 D1 O1
  cases bb with
  | true =>
    go_wp2_with fail
    refine (l01Below_any g xo d code 2 _ D2.out.1 HL.out (by omega) (by omega)).mono ?_
    rintro e w2b ⟨y', rfl, y0, y1, hc2b, hg2b⟩
    have D2b : Hid (Drew w g xo d code w2b) := drew_trans D2.out.2 hc2b hg2b
    have O2b := Lib.hid (Drew.own ⟨hc2b, hg2b⟩ O2.out hgl)
    clear hc2b hg2b D2 O2
    obtain ⟨y, rfl⟩ : ∃ y : Nat, y' = y := ⟨y'.toNat, by omega⟩
    go_wp2
    go_loopw [5, 7] (fun v i wr => NumsRel w wr g xo d code (300 + y) v i) (fun _ i _ => (300 + y) - (intOf i).toNat)
    case atStart => exact ⟨0, [], _, _, _, rfl, rfl, rfl, rfl, Nat.zero_le _, by simp, O2b.out, D2b.out⟩
    case round =>
      obtain ⟨k, acc, ao, c, n', rfl, rfl, hn', hak, hkm, hall, ho, hd⟩ := hrel
      have HNN := Lib.hid hn'; have HAK := Lib.hid hak; have HALL := Lib.hid hall; have HO := Lib.hid ho; have HD := Lib.hid hd
      clear hn' hak hall ho hd
      have hmb : (300 + y) ≤ 301 := by omega
      by_cases hlt : k < (300 + y)
      · go_wp2_with fail
        refine (l01Below_any g xo d code 200 _ HD.out.1 HL.out (by omega) (by omega)).mono ?_
        rintro e w3 ⟨x, rfl, x0, x1, hc3, hg3⟩
        have D3 : Hid (Drew w g xo d code w3) := drew_trans HD.out.2 hc3 hg3
        have O3 := Lib.hid (Drew.own ⟨hc3, hg3⟩ HO.out hgl)
        clear hc3 hg3
        go_wp2_with fail
        refine (l01Once_any g xo d code 20 _ D3.out.1 HL.out (by omega) (by omega)).mono ?_
        rintro e w4 ⟨b4, rfl, hc4, hg4⟩
        have D4 : Hid (Drew w g xo d code w4) := drew_trans D3.out.2 hc4 hg4
        have O4 := Lib.hid (Drew.own ⟨hc4, hg4⟩ O3.out hgl)
        clear hc4 hg4 D3 O3
        cases b4 with
        | true =>
          go_wp2_with fail
          refine (l01DrawNum_any g xo d code _ D4.out.1 HL.out).mono ?_
          rintro e w5 ⟨z, z0, z1, rfl, d5⟩
          have D5 : Hid (Drew w g xo d code w5) := drew_trans D4.out.2 d5.1 d5.2
          have O5 := Lib.hid (Drew.own d5 O4.out hgl)
          clear d5 D4 O4
          have hacc : acc.length ≤ 301 := by have := HAK.out; omega
          go_wp2_with (at_builtin; refine wpList_append1 _ rfl (.tmp 31) (.tmp 33) 23 rfl w.heap.size 3 .i64 8 Tryd.underlying23 Tryd.infoI64 ao c n' acc rfl HNN.out (O5.out.alloc _) w5.heap.size 1 z rfl (cell_one _ _ _) (by unfold maxLen; omega) (by omega) (by have := D5.out.2.size; simp; omega) ?_; intro ao' c' w6 ho' hg'; have HO' := Lib.hid ho'; have HG' := Lib.hid hg'; clear ho' hg')
          go_roundw
          case rel => exact ⟨k + 1, acc ++ [z], ao', c', _, rfl, by go_num, by simp, by simp; exact HAK.out, by omega, all_snoc HALL.out ⟨z0, z1⟩, HO'.out, drew_app HC.out D5.out O5.out HG'.out⟩
          case measure => simp [intOf]; omega
        | false =>
          have hacc : acc.length ≤ 301 := by have := HAK.out; omega
          go_wp2_with (at_builtin; refine wpList_append1 _ rfl (.tmp 31) (.tmp 33) 23 rfl w.heap.size 3 .i64 8 Tryd.underlying23 Tryd.infoI64 ao c n' acc rfl HNN.out (O4.out.alloc _) w4.heap.size 1 (x - 100) rfl (cell_one _ _ _) (by unfold maxLen; omega) (by omega) (by have := D4.out.2.size; simp; omega) ?_; intro ao' c' w6 ho' hg'; have HO' := Lib.hid ho'; have HG' := Lib.hid hg'; clear ho' hg')
          go_roundw
          case rel => exact ⟨k + 1, acc ++ [x - 100], ao', c', _, rfl, by go_num, by simp, by simp; exact HAK.out, by omega, all_snoc HALL.out ⟨by omega, by omega⟩, HO'.out, drew_app HC.out D4.out O4.out HG'.out⟩
          case measure => simp [intOf]; omega
      · have hacc : Hid (acc.length ≤ 301) := by
          show _ ≤ _
          rw [HAK.out]; omega
        go_wp2
        go_ret
        exact ⟨acc, ao, c, ret_slice HNN.out, hacc.out, HALL.out, HO.out, HD.out⟩
  | false =>
    obtain ⟨m, rfl⟩ : ∃ m : Nat, n = m := ⟨n.toNat, by omega⟩
    go_wp2
    go_loopw [5, 7] (fun v i wr => NumsRel w wr g xo d code m v i) (fun _ i _ => m - (intOf i).toNat)
    case atStart => exact ⟨0, [], _, _, _, rfl, rfl, rfl, rfl, Nat.zero_le _, by simp, O2.out, D2.out⟩
    case round =>
      obtain ⟨k, acc, ao, c, n', rfl, rfl, hn', hak, hkm, hall, ho, hd⟩ := hrel
      have HNN := Lib.hid hn'; have HAK := Lib.hid hak; have HALL := Lib.hid hall; have HO := Lib.hid ho; have HD := Lib.hid hd
      clear hn' hak hall ho hd
      have hmb : m ≤ 301 := by omega
      by_cases hlt : k < m
      · go_wp2_with fail
        refine (l01Below_any g xo d code 200 _ HD.out.1 HL.out (by omega) (by omega)).mono ?_
        rintro e w3 ⟨x, rfl, x0, x1, hc3, hg3⟩
        have D3 : Hid (Drew w g xo d code w3) := drew_trans HD.out.2 hc3 hg3
        have O3 := Lib.hid (Drew.own ⟨hc3, hg3⟩ HO.out hgl)
        clear hc3 hg3
        go_wp2_with fail
        refine (l01Once_any g xo d code 20 _ D3.out.1 HL.out (by omega) (by omega)).mono ?_
        rintro e w4 ⟨b4, rfl, hc4, hg4⟩
        have D4 : Hid (Drew w g xo d code w4) := drew_trans D3.out.2 hc4 hg4
        have O4 := Lib.hid (Drew.own ⟨hc4, hg4⟩ O3.out hgl)
        clear hc4 hg4 D3 O3
        cases b4 with
        | true =>
          go_wp2_with fail
          refine (l01DrawNum_any g xo d code _ D4.out.1 HL.out).mono ?_
          rintro e w5 ⟨z, z0, z1, rfl, d5⟩
          have D5 : Hid (Drew w g xo d code w5) := drew_trans D4.out.2 d5.1 d5.2
          have O5 := Lib.hid (Drew.own d5 O4.out hgl)
          clear d5 D4 O4
          have hacc : acc.length ≤ 301 := by have := HAK.out; omega
          go_wp2_with (at_builtin; refine wpList_append1 _ rfl (.tmp 31) (.tmp 33) 23 rfl w.heap.size 3 .i64 8 Tryd.underlying23 Tryd.infoI64 ao c n' acc rfl HNN.out (O5.out.alloc _) w5.heap.size 1 z rfl (cell_one _ _ _) (by unfold maxLen; omega) (by omega) (by have := D5.out.2.size; simp; omega) ?_; intro ao' c' w6 ho' hg'; have HO' := Lib.hid ho'; have HG' := Lib.hid hg'; clear ho' hg')
          go_roundw
          case rel => exact ⟨k + 1, acc ++ [z], ao', c', _, rfl, by go_num, by simp, by simp; exact HAK.out, by omega, all_snoc HALL.out ⟨z0, z1⟩, HO'.out, drew_app HC.out D5.out O5.out HG'.out⟩
          case measure => simp [intOf]; omega
        | false =>
          have hacc : acc.length ≤ 301 := by have := HAK.out; omega
          go_wp2_with (at_builtin; refine wpList_append1 _ rfl (.tmp 31) (.tmp 33) 23 rfl w.heap.size 3 .i64 8 Tryd.underlying23 Tryd.infoI64 ao c n' acc rfl HNN.out (O4.out.alloc _) w4.heap.size 1 (x - 100) rfl (cell_one _ _ _) (by unfold maxLen; omega) (by omega) (by have := D4.out.2.size; simp; omega) ?_; intro ao' c' w6 ho' hg'; have HO' := Lib.hid ho'; have HG' := Lib.hid hg'; clear ho' hg')
          go_roundw
          case rel => exact ⟨k + 1, acc ++ [x - 100], ao', c', _, rfl, by go_num, by simp, by simp; exact HAK.out, by omega, all_snoc HALL.out ⟨by omega, by omega⟩, HO'.out, drew_app HC.out D4.out O4.out HG'.out⟩
          case measure => simp [intOf]; omega
      · have hacc : Hid (acc.length ≤ 301) := by
          show _ ≤ _
          rw [HAK.out]; omega
        go_wp2
        go_ret
        exact ⟨acc, ao, c, ret_slice HNN.out, hacc.out, HALL.out, HO.out, HD.out⟩
end Go.Proofs.YtcegekkhlfpgfaaDoor
