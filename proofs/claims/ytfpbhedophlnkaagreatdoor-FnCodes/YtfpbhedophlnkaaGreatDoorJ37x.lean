/-
  The contracts of the law's own helpers: same, sameBytes, at, alt; and of the model's draws of a list, a word and a body: some list, some text, in memory of its own. For every slice of bytes. The contracts of the model's DrawPutNums, DrawPutWord and DrawFrame: some list of numbers, some text, some bytes, in memory of their own. For every slice of bytes. The contract of spec.PutWord: it answers, in memory of its own, the word's length and its bytes; nothing where it is no word. For every text.
-/
import Derived.Test.YtfpbhedophlnkaaGreatDoorJ16x
import Derived.Test.YtfpbhedophlnkaaGreatDoorJ4x
import Derived.Test.YtfpbhedophlnkaaGreatDoorJ7x
import Derived.Laws.IdiomStrings
namespace Go.Proofs.YtfpbhedophlnkaaGreatDoor
open Go.RowKit
set_option linter.unusedSimpArgs false
set_option linter.unusedVariables false

set_option maxHeartbeats 800000 in
theorem sameBytes_any (a b : Option Addr) (c d : Nat) (l m : List Int) (w : World) (h : Rd w .u8 a l) (k : Rd w .u8 b m) (hn : l.length ≤ maxLen) (hm : m.length ≤ maxLen) :
    Calls Tryz.prog 39 #[.slice a l.length c, .slice b m.length d] w fun e w' => e = .returned (.bool (eqL l m)) ∧ Below w.heap.size w w' := by
  unfold maxLen at hn hm
  by_cases hlen : l.length = m.length
  · have hne : ((l.length : Int) != (m.length : Int)) = false := by simp [hlen]
    have HL := Lib.hid hlen; clear hlen
    rcases h with rfl | ⟨b1, o1, rfl, hc⟩
    · have hm0 : m = [] := List.eq_nil_of_length_eq_zero HL.out.symm
      subst hm0
      clear hne
      go_enter Tryz.func39, Tryz.ntmps39
      go_wp2
      refine wp_loop_rounds 1 ?_; rw [rounds_succ]; go_wp2
      go_ret
      exact ⟨rfl, Below.refl _ _⟩
    · rcases k with rfl | ⟨b2, o2, rfl, kc⟩
      · have hl0 : l = [] := List.eq_nil_of_length_eq_zero HL.out
        subst hl0
        clear hne hc
        go_enter Tryz.func39, Tryz.ntmps39
        go_wp2
        refine wp_loop_rounds 1 ?_; rw [rounds_succ]; go_wp2
        go_ret
        exact ⟨rfl, Below.refl _ _⟩
      · have HC := Lib.hid hc; have KC := Lib.hid kc; clear hc kc
        go_enter Tryz.func39, Tryz.ntmps39
        go_wp2
        go_loopw [5] (fun i wr => ∃ j q : Nat, j ≤ l.length ∧ i = .int .i64 j ∧ l.take j = m.take j ∧ wr = w.drewN q) (fun i _ => l.length - (intOf i).toNat)
        case atStart => exact ⟨0, 0, Nat.zero_le _, rfl, rfl, rfl⟩
        case round =>
          obtain ⟨j, q, hj, rfl, ht, rfl⟩ := hrel
          have HT := Lib.hid ht; clear ht
          by_cases hlt : j < l.length
          · have hlt2 : j < m.length := by have := HL.out; omega
            obtain ⟨x, _, hx, hcx, htx⟩ := Rd.at_ HC.out hlt
            obtain ⟨y, _, hy, hcy, hty⟩ := Rd.at_ KC.out hlt2
            have X := Lib.hid hx; have Y := Lib.hid hy; have TX := Lib.hid htx; have TY := Lib.hid hty
            clear hx hy htx hty
            have i1 : (j : Int) < (l.length : Int) := by omega
            have i2 : (j : Int) < (m.length : Int) := by omega
            by_cases hxy : x = y
            · subst hxy
              have hb : (x != x) = false := by simp
              go_wp2
              go_quiet (fail)
              go_wp2
              go_roundw
              case rel => exact ⟨j + 1, _, by omega, by go_num, by rw [TX.out, TY.out, HT.out], by first | rfl | rw [World.drewN_drewN]⟩
              case measure => simp [intOf]; omega
            · have hb : (x != y) = true := by simp [hxy]
              have HF := Lib.hid (eqL_no hxy X.out Y.out)
              clear hxy
              go_wp2
              go_quiet (fail)
              go_wp2
              go_ret
              exact ⟨ret_bool HF.out.symm, by first | exact below_drewN (Below.refl _ _) _ | exact below_drewN (below_drewN (Below.refl _ _) _) _⟩
          · go_wp2
            go_ret
            exact ⟨ret_bool (eqL_yes HL.out (by omega) HT.out).symm, below_drewN (Below.refl _ _) _⟩
  · have hne : ((l.length : Int) != (m.length : Int)) = true := by simp; omega
    have HF : Hid (eqL l m = false) := by
      show eqL l m = false
      unfold eqL; simp; rintro rfl; exact hlen rfl
    go_enter Tryz.func39, Tryz.ntmps39
    go_wp2
    go_ret
    exact ⟨ret_bool HF.out.symm, Below.refl _ _⟩
set_option maxHeartbeats 800000 in
theorem same_any (a b : Option Addr) (c d : Nat) (l m : List Int) (w : World) (h : Rd w .i64 a l) (k : Rd w .i64 b m) (hn : l.length ≤ maxLen) (hm : m.length ≤ maxLen) :
    Calls Tryz.prog 31 #[.slice a l.length c, .slice b m.length d] w fun e w' => e = .returned (.bool (eqL l m)) ∧ Below w.heap.size w w' := by
  unfold maxLen at hn hm
  by_cases hlen : l.length = m.length
  · have hne : ((l.length : Int) != (m.length : Int)) = false := by simp [hlen]
    have HL := Lib.hid hlen; clear hlen
    rcases h with rfl | ⟨b1, o1, rfl, hc⟩
    · have hm0 : m = [] := List.eq_nil_of_length_eq_zero HL.out.symm
      subst hm0
      clear hne
      go_enter Tryz.func31, Tryz.ntmps31
      go_wp2
      refine wp_loop_rounds 1 ?_; rw [rounds_succ]; go_wp2
      go_ret
      exact ⟨rfl, Below.refl _ _⟩
    · rcases k with rfl | ⟨b2, o2, rfl, kc⟩
      · have hl0 : l = [] := List.eq_nil_of_length_eq_zero HL.out
        subst hl0
        clear hne hc
        go_enter Tryz.func31, Tryz.ntmps31
        go_wp2
        refine wp_loop_rounds 1 ?_; rw [rounds_succ]; go_wp2
        go_ret
        exact ⟨rfl, Below.refl _ _⟩
      · have HC := Lib.hid hc; have KC := Lib.hid kc; clear hc kc
        go_enter Tryz.func31, Tryz.ntmps31
        go_wp2
        go_loopw [5] (fun i wr => ∃ j q : Nat, j ≤ l.length ∧ i = .int .i64 j ∧ l.take j = m.take j ∧ wr = w.drewN q) (fun i _ => l.length - (intOf i).toNat)
        case atStart => exact ⟨0, 0, Nat.zero_le _, rfl, rfl, rfl⟩
        case round =>
          obtain ⟨j, q, hj, rfl, ht, rfl⟩ := hrel
          have HT := Lib.hid ht; clear ht
          by_cases hlt : j < l.length
          · have hlt2 : j < m.length := by have := HL.out; omega
            obtain ⟨x, _, hx, hcx, htx⟩ := Rd.at_ HC.out hlt
            obtain ⟨y, _, hy, hcy, hty⟩ := Rd.at_ KC.out hlt2
            have X := Lib.hid hx; have Y := Lib.hid hy; have TX := Lib.hid htx; have TY := Lib.hid hty
            clear hx hy htx hty
            have i1 : (j : Int) < (l.length : Int) := by omega
            have i2 : (j : Int) < (m.length : Int) := by omega
            by_cases hxy : x = y
            · subst hxy
              have hb : (x != x) = false := by simp
              go_wp2
              go_quiet (fail)
              go_wp2
              go_roundw
              case rel => exact ⟨j + 1, _, by omega, by go_num, by rw [TX.out, TY.out, HT.out], by first | rfl | rw [World.drewN_drewN]⟩
              case measure => simp [intOf]; omega
            · have hb : (x != y) = true := by simp [hxy]
              have HF := Lib.hid (eqL_no hxy X.out Y.out)
              clear hxy
              go_wp2
              go_quiet (fail)
              go_wp2
              go_ret
              exact ⟨ret_bool HF.out.symm, by first | exact below_drewN (Below.refl _ _) _ | exact below_drewN (below_drewN (Below.refl _ _) _) _⟩
          · go_wp2
            go_ret
            exact ⟨ret_bool (eqL_yes HL.out (by omega) HT.out).symm, below_drewN (Below.refl _ _) _⟩
  · have hne : ((l.length : Int) != (m.length : Int)) = true := by simp; omega
    have HF : Hid (eqL l m = false) := by
      show eqL l m = false
      unfold eqL; simp; rintro rfl; exact hlen rfl
    go_enter Tryz.func31, Tryz.ntmps31
    go_wp2
    go_ret
    exact ⟨ret_bool HF.out.symm, Below.refl _ _⟩

set_option maxRecDepth 100000 in
theorem at_any (ao : Option Addr) (d : Nat) (code : List Int) (i : Int) (w : World) (hr : Rd w .u8 ao code) (hby : By code) (hl : code.length ≤ 1048576) (h0 : 0 ≤ i) (h1 : i ≤ 2) :
    Calls Tryz.prog 43 #[.slice ao code.length d, .int .i64 i] w fun e w' => (∃ x : Int, 0 ≤ x ∧ x ≤ 255 ∧ e = .returned (.int .i64 x)) ∧ w = w' := by
  have hl' : (code.length : Int) ≤ 1048576 := by omega
  obtain ⟨k, rfl⟩ : ∃ k : Nat, i = k := ⟨i.toNat, by omega⟩
  by_cases hlt : k < code.length
  · rcases hr with rfl | ⟨b1, off, rfl, hc⟩
    · simp at hlt
    · obtain ⟨z, hz, _, hcz, _⟩ := Rd.at_ hc hlt
      have zb := hby z hz
      clear hz hc hby hl
      go_enter Tryz.func43, Tryz.ntmps43
      go_wp2
      go_ret
      exact ⟨⟨z, by omega, by omega, rfl⟩, rfl⟩
  · clear hr hby hl
    go_enter Tryz.func43, Tryz.ntmps43
    go_wp2
    go_ret
    exact ⟨⟨_, by omega, by omega, rfl⟩, rfl⟩

def AltRel (w wr : World) (v i : Value) (m : Nat) : Prop :=
  ∃ (k : Nat) (acc : List Int) (ao : Option Addr) (c n : Nat), v = .slice ao n c ∧ i = .int .i64 k ∧ n = acc.length ∧ acc.length = k + 1 ∧ k ≤ m ∧ k ≤ 3000 ∧ By acc ∧ Own wr w.heap.size 5 .u8 ao c acc ∧ Below w.heap.size w wr
def SomeP (w : World) (m : Nat) (e : Ending) (w' : World) : Prop :=
  ∃ (l : List Int) (ao : Option Addr) (c : Nat), e = .returned (.slice ao l.length c) ∧ l.length ≤ m ∧ By l ∧ Own w' w.heap.size 5 .u8 ao c l ∧ Below w.heap.size w w'
theorem by_snoc {acc : List Int} {z : Int} (h : By acc) (h0 : 0 ≤ z) (h1 : z < 256) : By (acc ++ [z]) := h.app (By.one h0 h1)

set_option maxRecDepth 100000 in
set_option maxHeartbeats 1600000 in
theorem alt_any (xo : Option Addr) (d : Nat) (code : List Int) (x : Int) (w : World) (hr : Rd w .u8 xo code) (hby : By code) (hl : code.length ≤ 1048576) (h0 : 0 ≤ x) (h1 : x ≤ 2) :
    Calls Tryz.prog 17 #[.slice xo code.length d, .int .i64 x] w (SomeP w 3001) := by
  have HR := Lib.hid hr; have HBY := Lib.hid hby
  have hst : Own (w.alloc (Obj.cells #[.int .u8 x] 5)) w.heap.size 5 .u8 (some ⟨w.heap.size, 0, none⟩) 1 [x] := World.ownsRow_lit w #[.int .u8 x] 1 (Nat.le_refl _) (by unfold maxLen; omega) rfl
  have HST := Lib.hid hst
  have hl' : (code.length : Int) ≤ 1048576 := by omega
  clear hst hby
  rcases hr with rfl | ⟨b1, off, rfl, hc⟩
  · go_enter Tryz.func17, Tryz.ntmps17
    go_wp2
    refine wp_loop_rounds 1 ?_; rw [rounds_succ]; go_wp2
    go_ret
    exact ⟨[x], _, _, rfl, by simp, By.one h0 (by omega), HST.out, (Below.refl _ _).alloc (Nat.le_refl _) _⟩
  · clear hc
    go_enter Tryz.func17, Tryz.ntmps17
    go_wp2
    go_loopw [5, 6] (fun v i wr => AltRel w wr v i code.length) (fun _ i _ => code.length - (intOf i).toNat)
    case atStart => exact ⟨0, [x], _, _, _, rfl, rfl, rfl, rfl, Nat.zero_le _, by omega, By.one h0 (by omega), HST.out, (Below.refl _ _).alloc (Nat.le_refl _) _⟩
    case round =>
      obtain ⟨k, acc, ao, c, n', rfl, rfl, hn', hak, hkm, hk3, hacc, ho, hb⟩ := hrel
      have HNN := Lib.hid hn'; have HAK := Lib.hid hak; have HALL := Lib.hid hacc; have HO := Lib.hid ho; have HB := Lib.hid hb
      have hal : acc.length ≤ 3001 := by omega
      clear hn' hak hacc ho hb
      have fin : Hid (∀ W, W = wr → SomeP w 3001 (.returned (.slice ao n' c)) W) := by
        intro W hW
        rw [hW, HNN.out]
        exact ⟨acc, ao, c, rfl, hal, HALL.out, HO.out, HB.out⟩
      by_cases hlt : k < code.length
      · have hbl : decide (k < code.length) = true := by simpa using hlt
        by_cases h3 : k < 3000
        · have h3' : (k : Int) < 3000 := by omega
          obtain ⟨b', off', heq, hc⟩ : ∃ b' off', (some ⟨b1, off, none⟩ : Option Addr) = some ⟨b', off', none⟩ ∧ ∀ i, i < code.length → wr.cell? ⟨b', off' + i, none⟩ = some (.int .u8 (code.getD i 0)) := by
            rcases HR.out.below HB.out with rfl | h'
            · simp at hlt
            · exact h'
          simp only [Option.some.injEq, Addr.mk.injEq, and_true] at heq
          obtain ⟨rfl, rfl⟩ := heq
          obtain ⟨z, hz, _, hcz, _⟩ := Rd.at_ hc hlt
          have zb := HBY.out z hz
          clear hz hc
          go_wp2_with (at_builtin; refine wpList_append1 _ rfl (.tmp 20) (.tmp 25) 22 rfl w.heap.size 5 .u8 1 Tryz.underlying22 Tryz.infoU8 ao c n' acc rfl HNN.out (HO.out.alloc _) wr.heap.size 1 z rfl (cell_one _ _ _) (by unfold maxLen; omega) (by omega) (base_le HB.out) ?_; intro ao' c' w1 ho' hg'; have HO' := Lib.hid ho'; have HG' := Lib.hid hg'; clear ho' hg')
          go_roundw
          case rel => exact ⟨k + 1, acc ++ [z], ao', c', _, rfl, by go_num, by simp, by simp; exact HAK.out, by omega, by omega, by_snoc HALL.out zb.1 zb.2, HO'.out, below_app1 HB.out HO.out HG'.out⟩
          case measure => simp [intOf]; omega
        · have h3' : (3000 : Int) ≤ k := by omega
          go_wp2
          go_ret
          exact fin.out _ rfl
      · have hbl : decide (k < code.length) = false := by simpa using hlt
        go_wp2
        go_ret
        exact fin.out _ rfl
end Go.Proofs.YtfpbhedophlnkaaGreatDoor
namespace Go.Proofs.YtfpbhedophlnkaaGreatDoor
open Go.RowKit
set_option linter.unusedSimpArgs false
set_option linter.unusedVariables false

theorem below_cur {w w1 w2 : World} {g : Nat} (h : Below w.heap.size w w1) (hg : w.heap.size ≤ g) (k : w1.grownBy w2 (some g)) : Below w.heap.size w w2 :=
  h.grown k h.size (by intro r hr; injection hr with hr; omega)

def ListP (w : World) (e : Ending) (w' : World) : Prop :=
  ∃ (l : List Int) (ao : Option Addr) (c : Nat), e = .returned (.slice ao l.length c) ∧ l.length ≤ 301 ∧ (∀ z ∈ l, -1000001 ≤ z ∧ z ≤ 1000001) ∧ Own w' w.heap.size 3 .i64 ao c l ∧ Below w.heap.size w w'
def TextP (w : World) (e : Ending) (w' : World) : Prop := ∃ s : ByteArray, s.size ≤ 100 ∧ e = .returned (.string s) ∧ Below w.heap.size w w'
def BytesRel (w wr : World) (g : Nat) (xo : Option Addr) (d : Nat) (code : List Int) (m : Nat) (v i : Value) : Prop :=
  ∃ (k : Nat) (acc : List Int) (ao : Option Addr) (c n : Nat), v = .slice ao n c ∧ i = .int .i64 k ∧ n = acc.length ∧ acc.length = k ∧ k ≤ m ∧ By acc ∧ Own wr w.heap.size 5 .u8 ao c acc ∧ Drew w g xo d code wr
def BytesP (w : World) (g : Nat) (xo : Option Addr) (d : Nat) (code : List Int) (m : Nat) (e : Ending) (w' : World) : Prop :=
  ∃ (l : List Int) (ao : Option Addr) (c : Nat), e = .returned (.slice ao l.length c) ∧ l.length ≤ m ∧ By l ∧ Own w' w.heap.size 5 .u8 ao c l ∧ Drew w g xo d code w'
end Go.Proofs.YtfpbhedophlnkaaGreatDoor
namespace Go.Proofs.YtfpbhedophlnkaaGreatDoor
open Go.RowKit
set_option linter.unusedSimpArgs false
set_option linter.unusedVariables false

/-- The row that '[]byte(s)' lays. -/
theorem rd_bytesRow (w : World) (s : ByteArray) (cap : Nat) (e : TypeId) (m : Nat × Nat) : Rd (w.alloc (.cells (bytesRow s cap) e m)) .u8 (some ⟨w.heap.size, 0, none⟩) (strL s) := by
  refine .inr ⟨w.heap.size, 0, rfl, fun i hi => ?_⟩
  rw [strL_len] at hi
  have hh : (w.alloc (.cells (bytesRow s cap) e m)).heap[w.heap.size]? = some (.cells (bytesRow s cap) e m) := heap_alloc_new w _
  rw [Nat.zero_add, cell_of_row _ _ _ _ _ _ hh, bytesRow_at s cap i hi]
  simp [strL, List.getD_eq_getElem?_getD]
  rw [Array.getElem?_eq_getElem (by simpa using hi)]
  rfl

set_option maxRecDepth 100000 in
set_option maxHeartbeats 800000 in
theorem specPutWord_any (s : ByteArray) (w : World) (hs : s.size ≤ maxLen) : Calls Tryz.prog 190 #[.string s] w (Made w 5 .u8 (putW s)) := by
  have C := Lib.hid (specWordOk_any s w hs)
  cases hb : wordB s.data.toList with
  | false =>
    rw [show putW s = [] by unfold putW; rw [hb]; rfl]
    have c := C.out; rw [hb] at c
    have C1 := Lib.hid c; clear c C hb
    go_enter Tryz.func190, Tryz.ntmps190
    go_wp2_with (go_at_call 96; refine C1.out.mono ?_; rintro e w' ⟨rfl, rfl⟩)
    go_ret
    exact ⟨none, 0, rfl, Own.none_, Below.refl _ _⟩
  | true =>
    have hsz := wordB_size hb
    rw [show putW s = putN s.size ++ strL s by unfold putW; rw [hb]; rfl]
    have c := C.out; rw [hb] at c
    have C1 := Lib.hid c; clear c C hb
    have hcv := fun w s => run_bytes_of_string (P := Tryz.prog) w 9 22 5 s Tryz.underlying9 Tryz.underlying22 Tryz.underlying5
    obtain ⟨p, hp⟩ : ∃ p, p = putN (s.size : Int) := ⟨_, rfl⟩
    have hpl : p.length ≤ 3 := by rw [hp]; exact putN_len _
    have P1 : Hid (∀ w : World, Calls Tryz.prog 113 #[.int .i64 s.size] w (Made w 5 .u8 p)) := by rw [hp]; exact fun w => specPutNum_any _ w
    rw [← hp]
    have J : Hid (∀ (a0 b : Option Addr) (d0 d : Nat) (w : World), Rd w .u8 a0 p → Rd w .u8 b (strL s) → Calls Tryz.prog 114 #[.slice a0 p.length d0, .slice b s.size d] w (Made w 5 .u8 (p ++ strL s))) := by
      intro a0 b d0 d w h0 h1
      have := l01Join_any a0 b d0 d p (strL s) w h0 h1 (by rw [strL_len]; omega)
      rwa [strL_len] at this
    clear hp
    go_enter Tryz.func190, Tryz.ntmps190
    go_wp2_with (go_at_call 96; refine C1.out.mono ?_; rintro e w' ⟨rfl, rfl⟩)
    refine (P1.out _).mono ?_
    rintro e w1 ⟨a1, c1, rfl, o1, b1⟩
    have O1 := Lib.hid o1; have B1 := Lib.hid b1; clear o1 b1
    go_wp2_with fail
    refine (J.out _ _ _ _ _ ?_ ?_).mono ?_
    · exact (O1.out.below ((Below.refl _ _).alloc (Nat.le_refl _) _)).rd
    · exact rd_bytesRow w1 s _ _ _
    rintro e w2 ⟨a2, c2, rfl, o2, b2⟩
    have O2 := Lib.hid o2; have B2 := Lib.hid b2; clear o2 b2 hcv
    go_wp2
    go_ret
    have b3 : Below w1.heap.size w1 w2 := by
      have hb2 := B2.out
      exact ((Below.refl _ _).alloc (Nat.le_refl _) _).drew.trans (hb2.mono (by simp))
    refine ⟨a2, c2, ret_slice (by simp), O2.out.base_le ?_, below_step B1.out (Nat.le_refl _) b3⟩
    have := B1.out.size
    simp; omega

end Go.Proofs.YtfpbhedophlnkaaGreatDoor
