/-
  The contracts of spec.l01Bytes and spec.l01Join (the bytes of one slice, of two slices one behind the other, in a row of the call's own), and of the program's addText and addBytes.
-/
import Derived.Test.YtcegekkhlfpgfaaDoorJoin
namespace Go.Proofs.YtcegekkhlfpgfaaDoor
open Go.RowKit
set_option linter.unusedSimpArgs false
set_option linter.unusedVariables false

def JRel (w wr : World) (E : TypeId) (l0 l : List Int) (v i : Value) : Prop :=
  ∃ (ao : Option Addr) (c n j : Nat), v = .slice ao n c ∧ i = .int .i64 j ∧ n = (l0 ++ l.take j).length ∧ j ≤ l.length ∧ Own wr w.heap.size E .u8 ao c (l0 ++ l.take j) ∧ Below w.heap.size w wr
theorem jRel_step {w wr w1 : World} {E : TypeId} {l0 l acc : List Int} {ao ao' : Option Addr} {c c' j : Nat} {z : Int} {o : Obj} (hacc : acc = l0 ++ l.take j) (hj : j < l.length) (ht : l.take (j + 1) = l.take j ++ [z])
    (ho : Own wr w.heap.size E .u8 ao c acc) (hb : Below w.heap.size w wr) (ho' : Own w1 w.heap.size E .u8 ao' c' (acc ++ [z])) (hg : (wr.alloc o).grownBy w1 (ao.map (·.block))) :
    JRel w w1 E l0 l (.slice ao' (acc.length + 1) c') (.int .i64 ((j : Int) + 1)) := by
  have e : acc ++ [z] = l0 ++ l.take (j + 1) := by rw [ht, hacc, List.append_assoc]
  refine ⟨ao', c', _, j + 1, rfl, by simp, ?_, hj, by rw [← e]; exact ho', below_app1 hb ho hg⟩
  rw [← e]; simp

set_option maxRecDepth 100000 in
set_option maxHeartbeats 800000 in
theorem l01Bytes_any (b : Option Addr) (d : Nat) (l : List Int) (w : World) (h : Rd w .u8 b l) (hn : l.length ≤ 70368744177664) :
    Calls Tryd.prog 59 #[.slice b l.length d] w (Made w 5 .u8 l) := by
  have hst : Own (w.alloc (Obj.cells #[] 5)) w.heap.size 5 .u8 (some ⟨w.heap.size, 0, none⟩) 0 [] := World.ownsRow_lit w #[] 0 (Nat.le_refl _) (Nat.zero_le _) rfl
  have HST := Lib.hid hst; have HN := Lib.hid hn; have H := Lib.hid h; clear hst h
  have hn' : (l.length : Int) ≤ 70368744177664 := by omega
  clear hn
  rcases H.out with rfl | ⟨b1, off, rfl, _⟩
  · go_enter Tryd.func59, Tryd.ntmps59
    go_wp2
    refine wp_loop_rounds 1 ?_; rw [rounds_succ]; go_wp2
    go_ret
    exact ⟨_, _, rfl, HST.out, (Below.refl _ _).alloc (Nat.le_refl _) _⟩
  · go_enter Tryd.func59, Tryd.ntmps59
    go_wp2
    go_loopw [3, 4] (fun v i wr => JRel w wr 5 [] l v i) (fun _ i _ => l.length - (intOf i).toNat)
    case atStart => exact ⟨_, _, _, 0, rfl, rfl, rfl, Nat.zero_le _, HST.out, (Below.refl _ _).alloc (Nat.le_refl _) _⟩
    case round =>
      obtain ⟨ao, c, n, j, rfl, rfl, hnn, hj, ho, hb⟩ := hrel
      obtain ⟨acc, hacc⟩ : ∃ acc, acc = ([] : List Int) ++ l.take j := ⟨_, rfl⟩
      have hal : acc.length ≤ l.length := by rw [hacc]; simp; omega
      rw [← hacc] at ho hnn
      have HNN := Lib.hid hnn; have HACC := Lib.hid hacc; have HO := Lib.hid ho; have HB := Lib.hid hb; clear hnn hacc ho hb
      by_cases hlt : j < l.length
      · obtain ⟨b', off', heq, hc⟩ : ∃ b' off', (some ⟨b1, off, none⟩ : Option Addr) = some ⟨b', off', none⟩ ∧ ∀ i, i < l.length → wr.cell? ⟨b', off' + i, none⟩ = some (.int .u8 (l.getD i 0)) := by
          rcases H.out.below HB.out with rfl | h'
          · simp at hlt
          · exact h'
        simp only [Option.some.injEq, Addr.mk.injEq, and_true] at heq
        obtain ⟨rfl, rfl⟩ := heq
        obtain ⟨z, _, _, hcz, ht⟩ := Rd.at_ hc hlt
        have HT := Lib.hid ht; clear ht hc
        go_wp2_with (at_builtin; refine wpList_append1 _ rfl (.tmp 12) (.tmp 17) 22 rfl w.heap.size 5 .u8 1 Tryd.underlying22 Tryd.infoU8 ao c n acc rfl HNN.out (HO.out.alloc _) wr.heap.size 1 z rfl (cell_one _ _ _) (by unfold maxLen; omega) (by omega) (base_le HB.out) ?_; intro ao' c' w1 ho' hg'; have HO' := Lib.hid ho'; have HG' := Lib.hid hg'; clear ho' hg')
        go_roundw
        case rel => exact jRel_step HACC.out hlt HT.out HO.out HB.out HO'.out HG'.out
        case measure => simp [intOf]; omega
      · have e : acc = l := by rw [HACC.out, List.take_of_length_le (by omega)]; rfl
        have HEQ := Lib.hid e; clear e
        go_wp2
        go_ret
        refine ⟨ao, c, ?_, ?_, HB.out⟩
        · rw [← HEQ.out]; rw [HNN.out]; rfl
        · rw [← HEQ.out]; exact HO.out

set_option maxRecDepth 100000 in
set_option maxHeartbeats 800000 in
theorem l01Join_any (a0 b : Option Addr) (d0 d : Nat) (l0 l : List Int) (w : World) (h0 : Rd w .u8 a0 l0) (h : Rd w .u8 b l) (hn : l0.length + l.length ≤ 70368744177664) :
    Calls Tryd.prog 68 #[.slice a0 l0.length d0, .slice b l.length d] w (Made w 5 .u8 (l0 ++ l)) := by
  have HN := Lib.hid hn; have H := Lib.hid h; have H0 := Lib.hid h0; clear h h0
  have hn' : (l0.length : Int) + (l.length : Int) ≤ 70368744177664 := by omega
  have C := Lib.hid (fun w h => l01Bytes_any a0 d0 l0 w h (by have := HN.out; omega))
  clear hn
  rcases H.out with rfl | ⟨b1, off, rfl, _⟩
  · go_enter Tryd.func68, Tryd.ntmps68
    go_wp2_with fail
    refine (C.out _ H0.out).mono ?_
    rintro e w1 ⟨ao, c, rfl, ho, hb⟩
    have HO := Lib.hid ho; have HB := Lib.hid hb; clear ho hb
    go_wp2
    refine wp_loop_rounds 1 ?_; rw [rounds_succ]; go_wp2
    go_ret
    exact ⟨_, _, by rw [List.append_nil]; rfl, by rw [List.append_nil]; exact HO.out, HB.out⟩
  · go_enter Tryd.func68, Tryd.ntmps68
    go_wp2_with fail
    refine (C.out _ H0.out).mono ?_
    rintro e w1 ⟨ao1, c1, rfl, ho1, hb1⟩
    have HO1 := Lib.hid ho1; have HB1 := Lib.hid hb1; clear ho1 hb1
    go_wp2
    go_loopw [5, 6] (fun v i wr => JRel w wr 5 l0 l v i) (fun _ i _ => l.length - (intOf i).toNat)
    case atStart => exact ⟨_, _, _, 0, rfl, rfl, by simp, Nat.zero_le _, by simpa using HO1.out, HB1.out⟩
    case round =>
      obtain ⟨ao, c, n, j, rfl, rfl, hnn, hj, ho, hb⟩ := hrel
      obtain ⟨acc, hacc⟩ : ∃ acc, acc = l0 ++ l.take j := ⟨_, rfl⟩
      have hal : acc.length ≤ l0.length + l.length := by rw [hacc]; simp; omega
      rw [← hacc] at ho hnn
      have HNN := Lib.hid hnn; have HACC := Lib.hid hacc; have HO := Lib.hid ho; have HB := Lib.hid hb; clear hnn hacc ho hb
      by_cases hlt : j < l.length
      · obtain ⟨b', off', heq, hc⟩ : ∃ b' off', (some ⟨b1, off, none⟩ : Option Addr) = some ⟨b', off', none⟩ ∧ ∀ i, i < l.length → wr.cell? ⟨b', off' + i, none⟩ = some (.int .u8 (l.getD i 0)) := by
          rcases H.out.below HB.out with rfl | h'
          · simp at hlt
          · exact h'
        simp only [Option.some.injEq, Addr.mk.injEq, and_true] at heq
        obtain ⟨rfl, rfl⟩ := heq
        obtain ⟨z, _, _, hcz, ht⟩ := Rd.at_ hc hlt
        have HT := Lib.hid ht; clear ht hc
        go_wp2_with (at_builtin; refine wpList_append1 _ rfl (.tmp 15) (.tmp 20) 22 rfl w.heap.size 5 .u8 1 Tryd.underlying22 Tryd.infoU8 ao c n acc rfl HNN.out (HO.out.alloc _) wr.heap.size 1 z rfl (cell_one _ _ _) (by unfold maxLen; omega) (by omega) (base_le HB.out) ?_; intro ao' c' w1 ho' hg'; have HO' := Lib.hid ho'; have HG' := Lib.hid hg'; clear ho' hg')
        go_roundw
        case rel => exact jRel_step HACC.out hlt HT.out HO.out HB.out HO'.out HG'.out
        case measure => simp [intOf]; omega
      · have e : acc = l0 ++ l := by rw [HACC.out, List.take_of_length_le (by omega)]
        have HEQ := Lib.hid e; clear e
        go_wp2
        go_ret
        refine ⟨ao, c, ?_, ?_, HB.out⟩
        · rw [← HEQ.out]; rw [HNN.out]; rfl
        · rw [← HEQ.out]; exact HO.out

theorem below_row0 {B : Nat} {w w1 : World} {E : TypeId} {ao : Option Addr} {c : Nat} {l : List Int} (hB : B ≤ w.heap.size) (hg : w.grownBy w1 (ao.map (·.block))) (ho : Own w B E .u8 ao c l) : Below B w w1 := by
  refine (Below.refl B w).grown hg hB ?_
  intro g hg'
  cases ao with
  | none => cases hg'
  | some a => simp at hg'; subst hg'; exact (ho.lt a rfl).1
theorem grown_block0 {w w1 : World} {h : Nat} {T : TypeId} {v : Value} {row : Option Nat} (hb : w.heap[h]? = some (.cells #[v] T (0, 0))) (hg : w.grownBy w1 row) (hne : some h ≠ row) : w1.heap[h]? = some (.cells #[v] T (0, 0)) := by
  rw [hg.block h (lt_of_block hb) hne]; exact hb

set_option maxRecDepth 100000 in
set_option maxHeartbeats 800000 in
theorem addText_any (B h : Nat) (l : List Int) (s : ByteArray) (w : World) (hw : Wr w B h 59 5 l) (hB : B ≤ w.heap.size) (hl : l.length + s.size ≤ 70368744177664) :
    Calls Tryd.prog 72 #[.pointer (some ⟨h, 0, none⟩), .string s] w (Added w B h 59 5 (l ++ strL s)) := by
  obtain ⟨ao, c, hblk, hBh, ho⟩ := hw
  have hcell := cell_of_one hblk
  have hne := own_ne (by decide) hblk ho
  have HBLK := Lib.hid hblk; have HO := Lib.hid ho; have HNE := Lib.hid hne; have HL := Lib.hid hl; clear hblk ho hne hl
  go_enter Tryd.func72, Tryd.ntmps72
  go_wp2_with (at_builtin; refine wpList_appendS _ rfl (.tmp 7) (.tmp 8) 59 9 rfl B 5 Tryd.underlying59 Tryd.underlying9 Tryd.infoU8 ao c l.length l rfl rfl HO.out s rfl (by have := HL.out; omega) hB ?_; intro ao' c' w1 ho' hg'; have hb1 := grown_block0 HBLK.out hg' (row_ne HNE.out); have hc1 := cell_of_one hb1; have hf1 := free_of_one hb1; have HB1 := Lib.hid hb1; have HO' := Lib.hid ho'; have HG' := Lib.hid hg'; clear hb1 ho' hg')
  go_end0
  exact ⟨rfl, Wr.put (by decide) HB1.out hBh HO'.out (by simp [strL_len]), (below_row0 hB HG'.out HO.out).setCell hBh _⟩

set_option maxRecDepth 100000 in
set_option maxHeartbeats 800000 in
theorem addBytes_any (B h : Nat) (l : List Int) (xo : Option Addr) (cx : Nat) (m : List Int) (w : World) (hw : Wr w B h 59 5 l) (hB : B ≤ w.heap.size) (hr : Rd w .u8 xo m) (hnil : xo = none → cx = 0) (hl : l.length + m.length ≤ 70368744177664) :
    Calls Tryd.prog 77 #[.pointer (some ⟨h, 0, none⟩), .slice xo m.length cx] w (Added w B h 59 5 (l ++ m)) := by
  obtain ⟨ao, c, hblk, hBh, ho⟩ := hw
  have hcell := cell_of_one hblk
  have hne := own_ne (by decide) hblk ho
  have HBLK := Lib.hid hblk; have HO := Lib.hid ho; have HNE := Lib.hid hne; have HL := Lib.hid hl; have HR := Lib.hid hr; have HNIL := Lib.hid hnil; clear hblk ho hne hl hr hnil
  go_enter Tryd.func77, Tryd.ntmps77
  go_wp2_with (at_builtin; refine wpList_appendR _ rfl (.tmp 7) (.tmp 8) 59 22 rfl B 5 5 .u8 1 Tryd.underlying59 Tryd.underlying22 Tryd.infoU8 ao c l.length l rfl rfl HO.out xo cx m.length m rfl rfl HR.out HNIL.out (by have := HL.out; unfold maxLen; omega) (by have := HL.out; omega) hB ?_; intro ao' c' w1 ho' hg'; have hb1 := grown_block0 HBLK.out hg' (row_ne HNE.out); have hc1 := cell_of_one hb1; have hf1 := free_of_one hb1; have HB1 := Lib.hid hb1; have HO' := Lib.hid ho'; have HG' := Lib.hid hg'; clear hb1 ho' hg')
  go_end0
  exact ⟨rfl, Wr.put (by decide) HB1.out hBh HO'.out (by simp), (below_row0 hB HG'.out HO.out).setCell hBh _⟩
end Go.Proofs.YtcegekkhlfpgfaaDoor
