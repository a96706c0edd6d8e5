/-
  The model's draws of lists of numbers and of words: some list, some text, in memory of its own. For every slice of bytes. The contracts of the law's own helpers: same, sameBytes, at, alt; and of the model's draws of a list, a word and a body: some list, some text, in memory of its own. For every slice of bytes. The contracts of the model's DrawPutNums, DrawPutWord and DrawFrame: some list of numbers, some text, some bytes, in memory of their own. For every slice of bytes.
-/
import Derived.Test.YtfpbhedophlnkaaGreatDoorJR27x
import Derived.Test.YtfpbhedophlnkaaGreatDoorJR28x
import Derived.Test.YtfpbhedophlnkaaGreatDoorJR5x
namespace Go.Proofs.YtfpbhedophlnkaaGreatDoor
open Go.RowKit
set_option linter.unusedSimpArgs false
set_option linter.unusedVariables false

theorem Cur.code_lt {w : World} {g : Nat} {ao : Option Addr} {d : Nat} {code : List Int} (h : Cur w g ao d code) : ∀ a, ao = some a → code ≠ [] → a.block < w.heap.size := by
  obtain ⟨i, x, h1, h2, h3, h4, h5, h6⟩ := h
  intro a ha hl
  rcases h4 with rfl | ⟨b, off, hh, hc⟩
  · exact absurd rfl hl
  · rw [ha] at hh
    injection hh with hh
    subst hh
    exact World.block_lt_of_cell? w _ (hc 0 (by cases code with | nil => exact absurd rfl hl | cons _ _ => simp))
theorem Cur.keepI {w w' : World} {g B : Nat} {ao : Option Addr} {d : Nat} {code : List Int} (h : Cur w g ao d code) (hg : g < B) (hcode : ∀ a, ao = some a → code ≠ [] → a.block < B) (hk : ∀ i, i < B → w'.heap[i]? = w.heap[i]?) : Cur w' g ao d code := by
  obtain ⟨i, x, h1, h2, h3, h4, h5, h6⟩ := h
  refine ⟨i, x, (hk g hg).trans h1, h2, h3, ?_, h5, h6⟩
  by_cases hl : code = []
  · exact .inl hl
  · rcases h4 with rfl | ⟨b, off, rfl, hc⟩
    · exact absurd rfl hl
    · exact .inr ⟨b, off, rfl, fun j hj => (World.cell?_of_block (a := ⟨b, off + j, none⟩) (hk b (hcode _ rfl hl))).trans (hc j hj)⟩
/-- What a draw leaves: the cursor moved on, nothing else that was there turned. -/
def Drew (w : World) (g : Nat) (ao : Option Addr) (d : Nat) (code : List Int) (w' : World) : Prop := Cur w' g ao d code ∧ w.grownBy w' (some g)
theorem Drew.own {wr w1 : World} {B g : Nat} {E : TypeId} {k : IntKind} {ao xo : Option Addr} {c d : Nat} {l code : List Int} (h : Drew wr g xo d code w1) (ho : Own wr B E k ao c l) (hg : g < B) : Own w1 B E k ao c l :=
  ho.grown h.2 (fun a ha => by have := (ho.lt a ha).1; simp; omega)
/-- Behind 'append(out, x)' onto a row of the draw's own. -/
theorem drew_app {w wr w1 : World} {g : Nat} {E : TypeId} {k : IntKind} {ao xo : Option Addr} {c d : Nat} {l code : List Int} {o : Obj} (h0 : Cur w g xo d code) (h : Drew w g xo d code wr) (ho : Own wr w.heap.size E k ao c l) (hg' : (wr.alloc o).grownBy w1 (ao.map (·.block))) : Drew w g xo d code w1 := by
  have hb : Below w.heap.size wr w1 := ((Below.refl _ _).alloc h.2.size o).grown hg' (by have := h.2.size; simp; omega) (by
    intro r hr
    cases ao with
    | none => cases hr
    | some a => simp at hr; subst hr; exact (ho.lt a rfl).1)
  refine ⟨h.1.keepI h0.lt h0.code_lt hb.block, ?_⟩
  exact ⟨hb.os.trans h.2.os, hb.tape.trans h.2.tape, hb.output.trans h.2.output, Nat.le_trans h.2.size hb.size, fun i hi hne => (hb.block i hi).trans (h.2.block i hi hne)⟩
theorem drew_trans {w w1 w2 : World} {g : Nat} {xo : Option Addr} {d : Nat} {code : List Int} (h : w.grownBy w1 (some g)) (k : Cur w2 g xo d code) (k2 : w1.grownBy w2 (some g)) : Drew w g xo d code w2 := ⟨k, grownBy_trans h k2⟩

theorem l01PickInt_n (g : Nat) (ao : Option Addr) (d : Nat) (code : List Int) (b c n : Nat) (l : List Int) (w : World) (hc : Cur w g ao d code) (hl : code.length ≤ 1048577)
    (hb : ∀ i, i < l.length → w.cell? ⟨b, i, none⟩ = some (.int .i64 (l.getD i 0))) (hbg : b ≠ g) (h0 : 1 ≤ l.length) (h1 : l.length ≤ 256) (hn : l.length = n) :
    Calls Tryz.prog 146 #[.pointer (some ⟨g, 0, none⟩), .slice (some ⟨b, 0, none⟩) n c] w (PickP w g ao d code l) := by
  subst hn
  exact l01PickInt_any g ao d code b 0 c l w hc hl (by intro i hi; rw [Nat.zero_add]; exact hb i hi) hbg h0 h1
theorem row_cells (w : World) (t : TypeId) (l : List Int) : ∀ i, i < l.length → (w.alloc (.cells (l.map (Value.int .i64)).toArray t)).cell? ⟨w.heap.size, i, none⟩ = some (.int .i64 (l.getD i 0)) := by
  intro i hi
  rw [cell_of_row _ _ _ _ _ _ (heap_alloc_new w _)]
  simp [hi, List.getD_eq_getElem?_getD]

def NumP (w : World) (g : Nat) (ao : Option Addr) (d : Nat) (code : List Int) (lo hi : Int) (e : Ending) (w' : World) : Prop :=
  ∃ z, lo ≤ z ∧ z ≤ hi ∧ e = .returned (.int .i64 z) ∧ Drew w g ao d code w'
def NumsRel (w wr : World) (g : Nat) (xo : Option Addr) (d : Nat) (code : List Int) (m : Nat) (v i : Value) : Prop :=
  ∃ (k : Nat) (acc : List Int) (ao : Option Addr) (c n : Nat), v = .slice ao n c ∧ i = .int .i64 k ∧ n = acc.length ∧ acc.length = k ∧ k ≤ m ∧ (∀ z ∈ acc, -1000001 ≤ z ∧ z ≤ 1000001) ∧ Own wr w.heap.size 3 .i64 ao c acc ∧ Drew w g xo d code wr
def NumsP (w : World) (g : Nat) (xo : Option Addr) (d : Nat) (code : List Int) (e : Ending) (w' : World) : Prop :=
  ∃ (l : List Int) (ao : Option Addr) (c : Nat), e = .returned (.slice ao l.length c) ∧ l.length ≤ 301 ∧ (∀ z ∈ l, -1000001 ≤ z ∧ z ≤ 1000001) ∧ Own w' w.heap.size 3 .i64 ao c l ∧ Drew w g xo d code w'

theorem all_snoc {acc : List Int} {z lo hi : Int} (h : ∀ y ∈ acc, lo ≤ y ∧ y ≤ hi) (hz : lo ≤ z ∧ z ≤ hi) : ∀ y ∈ acc ++ [z], lo ≤ y ∧ y ≤ hi := by
  intro y hy
  rcases List.mem_append.1 hy with h1 | h1
  · exact h y h1
  · simp at h1; subst h1; exact hz
end Go.Proofs.YtfpbhedophlnkaaGreatDoor
namespace Go.Proofs.YtfpbhedophlnkaaGreatDoor
open Go.RowKit
set_option linter.unusedSimpArgs false
set_option linter.unusedVariables false

set_option maxHeartbeats 800000 in
theorem sameBytes_any (a b : Option Addr) (c d : Nat) (l m : List Int) (w : World) (h : Rd w .u8 a l) (k : Rd w .u8 b m) (hn : l.length ≤ maxLen) (hm : m.length ≤ maxLen) :
    Calls Tryz.prog 39 #[.slice a l.length c, .slice b m.length d] w fun e w' => e = .returned (.bool (eqL l m)) ∧ Below w.heap.size w w' := by
  unfold maxLen at hn hm
  by_cases hlen : l.length = m.length
  · have hne : ((l.length : Int) != (m.length : Int)) = false := by simp [hlen]
    have HL := Lib.hid hlen; clear hlen
    rcases h with rfl | ⟨b1, o1, rfl, hc⟩
    · have hm0 : m = [] := List.eq_nil_of_length_eq_zero HL.out.symm
      subst hm0
      clear hne
      go_enter Tryz.func39, Tryz.ntmps39
      go_wp2
      refine wp_loop_rounds 1 ?_; rw [rounds_succ]; go_wp2
      go_ret
      exact ⟨rfl, Below.refl _ _⟩
    · rcases k with rfl | ⟨b2, o2, rfl, kc⟩
      · have hl0 : l = [] := List.eq_nil_of_length_eq_zero HL.out
        subst hl0
        clear hne hc
        go_enter Tryz.func39, Tryz.ntmps39
        go_wp2
        refine wp_loop_rounds 1 ?_; rw [rounds_succ]; go_wp2
        go_ret
        exact ⟨rfl, Below.refl _ _⟩
      · have HC := Lib.hid hc; have KC := Lib.hid kc; clear hc kc
        go_enter Tryz.func39, Tryz.ntmps39
        go_wp2
        go_loopw [5] (fun i wr => ∃ j q : Nat, j ≤ l.length ∧ i = .int .i64 j ∧ l.take j = m.take j ∧ wr = w.drewN q) (fun i _ => l.length - (intOf i).toNat)
        case atStart => exact ⟨0, 0, Nat.zero_le _, rfl, rfl, rfl⟩
        case round =>
          obtain ⟨j, q, hj, rfl, ht, rfl⟩ := hrel
          have HT := Lib.hid ht; clear ht
          by_cases hlt : j < l.length
          · have hlt2 : j < m.length := by have := HL.out; omega
            obtain ⟨x, _, hx, hcx, htx⟩ := Rd.at_ HC.out hlt
            obtain ⟨y, _, hy, hcy, hty⟩ := Rd.at_ KC.out hlt2
            have X := Lib.hid hx; have Y := Lib.hid hy; have TX := Lib.hid htx; have TY := Lib.hid hty
            clear hx hy htx hty
            have i1 : (j : Int) < (l.length : Int) := by omega
            have i2 : (j : Int) < (m.length : Int) := by omega
            by_cases hxy : x = y
            · subst hxy
              have hb : (x != x) = false := by simp
              go_wp2
              go_quiet (fail)
              go_wp2
              go_roundw
              case rel => exact ⟨j + 1, _, by omega, by go_num, by rw [TX.out, TY.out, HT.out], by first | rfl | rw [World.drewN_drewN]⟩
              case measure => simp [intOf]; omega
            · have hb : (x != y) = true := by simp [hxy]
              have HF := Lib.hid (eqL_no hxy X.out Y.out)
              clear hxy
              go_wp2
              go_quiet (fail)
              go_wp2
              go_ret
              exact ⟨ret_bool HF.out.symm, by first | exact below_drewN (Below.refl _ _) _ | exact below_drewN (below_drewN (Below.refl _ _) _) _⟩
          · go_wp2
            go_ret
            exact ⟨ret_bool (eqL_yes HL.out (by omega) HT.out).symm, below_drewN (Below.refl _ _) _⟩
  · have hne : ((l.length : Int) != (m.length : Int)) = true := by simp; omega
    have HF : Hid (eqL l m = false) := by
      show eqL l m = false
      unfold eqL; simp; rintro rfl; exact hlen rfl
    go_enter Tryz.func39, Tryz.ntmps39
    go_wp2
    go_ret
    exact ⟨ret_bool HF.out.symm, Below.refl _ _⟩
set_option maxHeartbeats 800000 in
theorem same_any (a b : Option Addr) (c d : Nat) (l m : List Int) (w : World) (h : Rd w .i64 a l) (k : Rd w .i64 b m) (hn : l.length ≤ maxLen) (hm : m.length ≤ maxLen) :
    Calls Tryz.prog 31 #[.slice a l.length c, .slice b m.length d] w fun e w' => e = .returned (.bool (eqL l m)) ∧ Below w.heap.size w w' := by
  unfold maxLen at hn hm
  by_cases hlen : l.length = m.length
  · have hne : ((l.length : Int) != (m.length : Int)) = false := by simp [hlen]
    have HL := Lib.hid hlen; clear hlen
    rcases h with rfl | ⟨b1, o1, rfl, hc⟩
    · have hm0 : m = [] := List.eq_nil_of_length_eq_zero HL.out.symm
      subst hm0
      clear hne
      go_enter Tryz.func31, Tryz.ntmps31
      go_wp2
      refine wp_loop_rounds 1 ?_; rw [rounds_succ]; go_wp2
      go_ret
      exact ⟨rfl, Below.refl _ _⟩
    · rcases k with rfl | ⟨b2, o2, rfl, kc⟩
      · have hl0 : l = [] := List.eq_nil_of_length_eq_zero HL.out
        subst hl0
        clear hne hc
        go_enter Tryz.func31, Tryz.ntmps31
        go_wp2
        refine wp_loop_rounds 1 ?_; rw [rounds_succ]; go_wp2
        go_ret
        exact ⟨rfl, Below.refl _ _⟩
      · have HC := Lib.hid hc; have KC := Lib.hid kc; clear hc kc
        go_enter Tryz.func31, Tryz.ntmps31
        go_wp2
        go_loopw [5] (fun i wr => ∃ j q : Nat, j ≤ l.length ∧ i = .int .i64 j ∧ l.take j = m.take j ∧ wr = w.drewN q) (fun i _ => l.length - (intOf i).toNat)
        case atStart => exact ⟨0, 0, Nat.zero_le _, rfl, rfl, rfl⟩
        case round =>
          obtain ⟨j, q, hj, rfl, ht, rfl⟩ := hrel
          have HT := Lib.hid ht; clear ht
          by_cases hlt : j < l.length
          · have hlt2 : j < m.length := by have := HL.out; omega
            obtain ⟨x, _, hx, hcx, htx⟩ := Rd.at_ HC.out hlt
            obtain ⟨y, _, hy, hcy, hty⟩ := Rd.at_ KC.out hlt2
            have X := Lib.hid hx; have Y := Lib.hid hy; have TX := Lib.hid htx; have TY := Lib.hid hty
            clear hx hy htx hty
            have i1 : (j : Int) < (l.length : Int) := by omega
            have i2 : (j : Int) < (m.length : Int) := by omega
            by_cases hxy : x = y
            · subst hxy
              have hb : (x != x) = false := by simp
              go_wp2
              go_quiet (fail)
              go_wp2
              go_roundw
              case rel => exact ⟨j + 1, _, by omega, by go_num, by rw [TX.out, TY.out, HT.out], by first | rfl | rw [World.drewN_drewN]⟩
              case measure => simp [intOf]; omega
            · have hb : (x != y) = true := by simp [hxy]
              have HF := Lib.hid (eqL_no hxy X.out Y.out)
              clear hxy
              go_wp2
              go_quiet (fail)
              go_wp2
              go_ret
              exact ⟨ret_bool HF.out.symm, by first | exact below_drewN (Below.refl _ _) _ | exact below_drewN (below_drewN (Below.refl _ _) _) _⟩
          · go_wp2
            go_ret
            exact ⟨ret_bool (eqL_yes HL.out (by omega) HT.out).symm, below_drewN (Below.refl _ _) _⟩
  · have hne : ((l.length : Int) != (m.length : Int)) = true := by simp; omega
    have HF : Hid (eqL l m = false) := by
      show eqL l m = false
      unfold eqL; simp; rintro rfl; exact hlen rfl
    go_enter Tryz.func31, Tryz.ntmps31
    go_wp2
    go_ret
    exact ⟨ret_bool HF.out.symm, Below.refl _ _⟩

set_option maxRecDepth 100000 in
theorem at_any (ao : Option Addr) (d : Nat) (code : List Int) (i : Int) (w : World) (hr : Rd w .u8 ao code) (hby : By code) (hl : code.length ≤ 1048576) (h0 : 0 ≤ i) (h1 : i ≤ 2) :
    Calls Tryz.prog 43 #[.slice ao code.length d, .int .i64 i] w fun e w' => (∃ x : Int, 0 ≤ x ∧ x ≤ 255 ∧ e = .returned (.int .i64 x)) ∧ w = w' := by
  have hl' : (code.length : Int) ≤ 1048576 := by omega
  obtain ⟨k, rfl⟩ : ∃ k : Nat, i = k := ⟨i.toNat, by omega⟩
  by_cases hlt : k < code.length
  · rcases hr with rfl | ⟨b1, off, rfl, hc⟩
    · simp at hlt
    · obtain ⟨z, hz, _, hcz, _⟩ := Rd.at_ hc hlt
      have zb := hby z hz
      clear hz hc hby hl
      go_enter Tryz.func43, Tryz.ntmps43
      go_wp2
      go_ret
      exact ⟨⟨z, by omega, by omega, rfl⟩, rfl⟩
  · clear hr hby hl
    go_enter Tryz.func43, Tryz.ntmps43
    go_wp2
    go_ret
    exact ⟨⟨_, by omega, by omega, rfl⟩, rfl⟩

def AltRel (w wr : World) (v i : Value) (m : Nat) : Prop :=
  ∃ (k : Nat) (acc : List Int) (ao : Option Addr) (c n : Nat), v = .slice ao n c ∧ i = .int .i64 k ∧ n = acc.length ∧ acc.length = k + 1 ∧ k ≤ m ∧ k ≤ 3000 ∧ By acc ∧ Own wr w.heap.size 5 .u8 ao c acc ∧ Below w.heap.size w wr
def SomeP (w : World) (m : Nat) (e : Ending) (w' : World) : Prop :=
  ∃ (l : List Int) (ao : Option Addr) (c : Nat), e = .returned (.slice ao l.length c) ∧ l.length ≤ m ∧ By l ∧ Own w' w.heap.size 5 .u8 ao c l ∧ Below w.heap.size w w'
theorem by_snoc {acc : List Int} {z : Int} (h : By acc) (h0 : 0 ≤ z) (h1 : z < 256) : By (acc ++ [z]) := h.app (By.one h0 h1)

set_option maxRecDepth 100000 in
set_option maxHeartbeats 1600000 in
theorem alt_any (xo : Option Addr) (d : Nat) (code : List Int) (x : Int) (w : World) (hr : Rd w .u8 xo code) (hby : By code) (hl : code.length ≤ 1048576) (h0 : 0 ≤ x) (h1 : x ≤ 2) :
    Calls Tryz.prog 17 #[.slice xo code.length d, .int .i64 x] w (SomeP w 3001) := by
  have HR := Lib.hid hr; have HBY := Lib.hid hby
  have hst : Own (w.alloc (Obj.cells #[.int .u8 x] 5)) w.heap.size 5 .u8 (some ⟨w.heap.size, 0, none⟩) 1 [x] := World.ownsRow_lit w #[.int .u8 x] 1 (Nat.le_refl _) (by unfold maxLen; omega) rfl
  have HST := Lib.hid hst
  have hl' : (code.length : Int) ≤ 1048576 := by omega
  clear hst hby
  rcases hr with rfl | ⟨b1, off, rfl, hc⟩
  · go_enter Tryz.func17, Tryz.ntmps17
    go_wp2
    refine wp_loop_rounds 1 ?_; rw [rounds_succ]; go_wp2
    go_ret
    exact ⟨[x], _, _, rfl, by simp, By.one h0 (by omega), HST.out, (Below.refl _ _).alloc (Nat.le_refl _) _⟩
  · clear hc
    go_enter Tryz.func17, Tryz.ntmps17
    go_wp2
    go_loopw [5, 6] (fun v i wr => AltRel w wr v i code.length) (fun _ i _ => code.length - (intOf i).toNat)
    case atStart => exact ⟨0, [x], _, _, _, rfl, rfl, rfl, rfl, Nat.zero_le _, by omega, By.one h0 (by omega), HST.out, (Below.refl _ _).alloc (Nat.le_refl _) _⟩
    case round =>
      obtain ⟨k, acc, ao, c, n', rfl, rfl, hn', hak, hkm, hk3, hacc, ho, hb⟩ := hrel
      have HNN := Lib.hid hn'; have HAK := Lib.hid hak; have HALL := Lib.hid hacc; have HO := Lib.hid ho; have HB := Lib.hid hb
      have hal : acc.length ≤ 3001 := by omega
      clear hn' hak hacc ho hb
      have fin : Hid (∀ W, W = wr → SomeP w 3001 (.returned (.slice ao n' c)) W) := by
        intro W hW
        rw [hW, HNN.out]
        exact ⟨acc, ao, c, rfl, hal, HALL.out, HO.out, HB.out⟩
      by_cases hlt : k < code.length
      · have hbl : decide (k < code.length) = true := by simpa using hlt
        by_cases h3 : k < 3000
        · have h3' : (k : Int) < 3000 := by omega
          obtain ⟨b', off', heq, hc⟩ : ∃ b' off', (some ⟨b1, off, none⟩ : Option Addr) = some ⟨b', off', none⟩ ∧ ∀ i, i < code.length → wr.cell? ⟨b', off' + i, none⟩ = some (.int .u8 (code.getD i 0)) := by
            rcases HR.out.below HB.out with rfl | h'
            · simp at hlt
            · exact h'
          simp only [Option.some.injEq, Addr.mk.injEq, and_true] at heq
          obtain ⟨rfl, rfl⟩ := heq
          obtain ⟨z, hz, _, hcz, _⟩ := Rd.at_ hc hlt
          have zb := HBY.out z hz
          clear hz hc
          go_wp2_with (at_builtin; refine wpList_append1 _ rfl (.tmp 20) (.tmp 25) 22 rfl w.heap.size 5 .u8 1 Tryz.underlying22 Tryz.infoU8 ao c n' acc rfl HNN.out (HO.out.alloc _) wr.heap.size 1 z rfl (cell_one _ _ _) (by unfold maxLen; omega) (by omega) (base_le HB.out) ?_; intro ao' c' w1 ho' hg'; have HO' := Lib.hid ho'; have HG' := Lib.hid hg'; clear ho' hg')
          go_roundw
          case rel => exact ⟨k + 1, acc ++ [z], ao', c', _, rfl, by go_num, by simp, by simp; exact HAK.out, by omega, by omega, by_snoc HALL.out zb.1 zb.2, HO'.out, below_app1 HB.out HO.out HG'.out⟩
          case measure => simp [intOf]; omega
        · have h3' : (3000 : Int) ≤ k := by omega
          go_wp2
          go_ret
          exact fin.out _ rfl
      · have hbl : decide (k < code.length) = false := by simpa using hlt
        go_wp2
        go_ret
        exact fin.out _ rfl
end Go.Proofs.YtfpbhedophlnkaaGreatDoor
namespace Go.Proofs.YtfpbhedophlnkaaGreatDoor
open Go.RowKit
set_option linter.unusedSimpArgs false
set_option linter.unusedVariables false

theorem below_cur {w w1 w2 : World} {g : Nat} (h : Below w.heap.size w w1) (hg : w.heap.size ≤ g) (k : w1.grownBy w2 (some g)) : Below w.heap.size w w2 :=
  h.grown k h.size (by intro r hr; injection hr with hr; omega)

def ListP (w : World) (e : Ending) (w' : World) : Prop :=
  ∃ (l : List Int) (ao : Option Addr) (c : Nat), e = .returned (.slice ao l.length c) ∧ l.length ≤ 301 ∧ (∀ z ∈ l, -1000001 ≤ z ∧ z ≤ 1000001) ∧ Own w' w.heap.size 3 .i64 ao c l ∧ Below w.heap.size w w'
def TextP (w : World) (e : Ending) (w' : World) : Prop := ∃ s : ByteArray, s.size ≤ 100 ∧ e = .returned (.string s) ∧ Below w.heap.size w w'
def BytesRel (w wr : World) (g : Nat) (xo : Option Addr) (d : Nat) (code : List Int) (m : Nat) (v i : Value) : Prop :=
  ∃ (k : Nat) (acc : List Int) (ao : Option Addr) (c n : Nat), v = .slice ao n c ∧ i = .int .i64 k ∧ n = acc.length ∧ acc.length = k ∧ k ≤ m ∧ By acc ∧ Own wr w.heap.size 5 .u8 ao c acc ∧ Drew w g xo d code wr
def BytesP (w : World) (g : Nat) (xo : Option Addr) (d : Nat) (code : List Int) (m : Nat) (e : Ending) (w' : World) : Prop :=
  ∃ (l : List Int) (ao : Option Addr) (c : Nat), e = .returned (.slice ao l.length c) ∧ l.length ≤ m ∧ By l ∧ Own w' w.heap.size 5 .u8 ao c l ∧ Drew w g xo d code w'
end Go.Proofs.YtfpbhedophlnkaaGreatDoor
