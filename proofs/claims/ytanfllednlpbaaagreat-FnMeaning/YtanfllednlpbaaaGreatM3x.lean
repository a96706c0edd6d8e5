/-
  Contracts of spec.WordOk and impl.WordOk: both answer whether the text is a word, and change nothing. For every text. The model's cursor over the bytes of a draw: l01Byte answers a number from 0 to 255 and turns the cursor's own block alone. For every slice of bytes. The model's draws of numbers below a bound, of an element of a list, of a text of a list; the cursor made. For every slice of bytes. Contracts of the helpers over slices of bytes: eqByteS, toByteS, markByteS, heldByteS. For every slice of bytes. Append of one number onto a row of the call's own, as a law of the walk; and the contracts of spec.PutNum, spec.l01Bytes, spec.l01Join. Contracts of spec.PutNum, spec.l01Bytes, spec.l01Join. The model's draws of lists of numbers and of words: some list, some text, in memory of its own. For every slice of bytes.
-/
import Derived.Test.YtanfllednlpbaaaGreatRows
import Derived.Test.YtanfllednlpbaaaGreatM1x
import Derived.WalkKit
import Derived.WalkSpells
import Derived.WalkLawsBesides
import Derived.Lib.Hide
import Derived.Test.YtanfllednlpbaaaGreatM2x
import Derived.OneCell
import Derived.Deep.QuietTactic
import Derived.BigQuiet
import Derived.Laws.BitsAllLaws
import Derived.Laws.BitsLemmas
namespace Go.Proofs.YtanfllednlpbaaaGreat
open Go.RowKit
set_option linter.unusedSimpArgs false
set_option linter.unusedVariables false
theorem l01In_any (x a b : Int) (w : World) :
    Calls Tryz.prog 72 #[.int .i64 x, .int .i64 a, .int .i64 b] w fun e w' => e = .returned (.bool (decide (a ≤ x) && decide (x ≤ b))) ∧ w = w' := by
  by_cases h1 : a ≤ x
  · by_cases h2 : x ≤ b
    · go_enter Tryz.func72, Tryz.ntmps72
      go_wp2
      go_ret
      exact ⟨ret_bool (by simp [h1, h2]), rfl⟩
    · have h3 : b < x := by omega
      go_enter Tryz.func72, Tryz.ntmps72
      go_wp2
      go_ret
      exact ⟨ret_bool (by simp [h2]), rfl⟩
  · have h3 : x < a := by omega
    have h4 : decide (a ≤ x) = false := by simp; omega
    go_enter Tryz.func72, Tryz.ntmps72
    go_wp2
    go_ret
    exact ⟨ret_bool (by simp), rfl⟩
set_option maxHeartbeats 400000 in
theorem specWordOk_any (s : ByteArray) (w : World) (hs : s.size ≤ maxLen) :
    Calls Tryz.prog 112 #[.string s] w fun e w' => e = .returned (.bool (wordB s.data.toList)) ∧ w = w' := by
  unfold maxLen at hs
  by_cases h1 : 1 ≤ s.size ∧ s.size ≤ 12
  · obtain ⟨h1, h2⟩ := h1
    have h1' : (1 : Int) ≤ s.size := by omega
    have h2' : (s.size : Int) ≤ 12 := by omega
    by_cases h3 : s[0].toNat < 97
    · have hfin : wordB s.data.toList = false := wordB_head (by omega) h3
      have HF := Lib.hid hfin; clear hfin
      go_enter Tryz.func112, Tryz.ntmps112
      go_wp2_with (go_at_call 72; refine (l01In_any _ _ _ _).mono ?_; rintro e w' ⟨rfl, rfl⟩)
      go_ret
      exact ⟨ret_bool HF.out.symm, rfl⟩
    · go_enter Tryz.func112, Tryz.ntmps112
      go_wp2_with (go_at_call 72; refine (l01In_any _ _ _ _).mono ?_; rintro e w' ⟨rfl, rfl⟩)
      go_loop [3] (fun i => ∃ k : Nat, k ≤ s.size ∧ i = .int .i64 k ∧ allB (s.data.toList.take k) = true) (fun i => s.size - (intOf i).toNat)
      case atStart => exact ⟨0, Nat.zero_le _, rfl, rfl⟩
      case round =>
        obtain ⟨k, hk, rfl, hall⟩ := hrel
        have HA := Lib.hid hall; clear hall
        by_cases hlt : k < s.size
        · go_wp2
          all_goals first
            | (go_ret; exact ⟨ret_bool (wordB_no hlt (charF (by omega))).symm, rfl⟩)
            | (go_round
               case rel => exact ⟨k + 1, by omega, by go_num, by rw [allB_take_succ s k hlt, HA.out, charT (by omega)]; rfl⟩
               case measure => simp [intOf]; omega)
        · go_wp2
          go_ret
          exact ⟨ret_bool (wordB_yes (by omega) (by omega) (by omega) k (by omega) HA.out).symm, rfl⟩
  · have hfin : wordB s.data.toList = false := wordB_len h1
    have HF := Lib.hid hfin; clear hfin
    have h3 : (decide ((1 : Int) ≤ s.size) && decide ((s.size : Int) ≤ 12)) = false := by simp; omega
    have H3 := Lib.hid h3; clear h3
    go_enter Tryz.func112, Tryz.ntmps112
    go_wp2_with (go_at_call 72; refine (l01In_any _ _ _ _).mono ?_; rintro e w' ⟨rfl, rfl⟩; rw [H3.out])
    go_ret
    exact ⟨ret_bool HF.out.symm, rfl⟩
theorem isDigit_t (c : Nat) (w : World) (h1 : 48 ≤ c) (h2 : c ≤ 57) : Calls Tryz.prog 148 #[.int .u8 c] w fun e w' => e = .returned (.bool true) ∧ w = w' := by
  have h3 : (48 : Int) ≤ c := by omega
  have h4 : (c : Int) ≤ 57 := by omega
  go_enter Tryz.func148, Tryz.ntmps148
  go_wp2
  go_ret
  exact ⟨ret_bool (by simp), rfl⟩
theorem isDigit_f (c : Nat) (w : World) (h : c < 48 ∨ 57 < c) : Calls Tryz.prog 148 #[.int .u8 c] w fun e w' => e = .returned (.bool false) ∧ w = w' := by
  by_cases h1 : 48 ≤ c
  · have h3 : (57 : Int) < c := by omega
    go_enter Tryz.func148, Tryz.ntmps148
    go_wp2
    go_ret
    exact ⟨ret_bool (by simp; omega), rfl⟩
  · have h4 : decide ((48 : Int) ≤ (c : Int)) = false := by simp; omega
    go_enter Tryz.func148, Tryz.ntmps148
    go_wp2
    go_ret
    exact ⟨rfl, rfl⟩
theorem isLetter_t (c : Nat) (w : World) (h1 : 97 ≤ c) (h2 : c ≤ 122) : Calls Tryz.prog 149 #[.int .u8 c] w fun e w' => e = .returned (.bool true) ∧ w = w' := by
  have h3 : (97 : Int) ≤ c := by omega
  have h4 : (c : Int) ≤ 122 := by omega
  go_enter Tryz.func149, Tryz.ntmps149
  go_wp2
  go_ret
  exact ⟨ret_bool (by simp), rfl⟩
theorem isLetter_f (c : Nat) (w : World) (h : c < 97 ∨ 122 < c) : Calls Tryz.prog 149 #[.int .u8 c] w fun e w' => e = .returned (.bool false) ∧ w = w' := by
  by_cases h1 : 97 ≤ c
  · have h3 : (122 : Int) < c := by omega
    go_enter Tryz.func149, Tryz.ntmps149
    go_wp2
    go_ret
    exact ⟨ret_bool (by simp; omega), rfl⟩
  · have h4 : decide ((97 : Int) ≤ (c : Int)) = false := by simp; omega
    go_enter Tryz.func149, Tryz.ntmps149
    go_wp2
    go_ret
    exact ⟨rfl, rfl⟩
set_option maxHeartbeats 800000 in
theorem implWordOk_any (s : ByteArray) (w : World) (hs : s.size ≤ maxLen) :
    Calls Tryz.prog 123 #[.string s] w fun e w' => e = .returned (.bool (wordB s.data.toList)) ∧ w = w' := by
  unfold maxLen at hs
  by_cases h0 : s.size < 1
  · have HF := Lib.hid (wordB_len (s := s) (by omega))
    have h1 : decide ((s.size : Int) < 1) = true := by simp; omega
    go_enter Tryz.func123, Tryz.ntmps123
    go_wp2
    go_ret
    exact ⟨ret_bool HF.out.symm, rfl⟩
  by_cases h2 : 12 < s.size
  · have HF := Lib.hid (wordB_len (s := s) (by omega))
    have h1 : decide ((s.size : Int) < 1) = false := by simp; omega
    have h3 : decide ((12 : Int) < (s.size : Int)) = true := by simp; omega
    go_enter Tryz.func123, Tryz.ntmps123
    go_wp2
    go_ret
    exact ⟨ret_bool HF.out.symm, rfl⟩
  have hp : 0 < s.size := by omega
  have h1 : decide ((s.size : Int) < 1) = false := by simp; omega
  have h3 : decide ((12 : Int) < (s.size : Int)) = false := by simp; omega
  by_cases hd : 48 ≤ s[0].toNat ∧ s[0].toNat ≤ 57
  · obtain ⟨hd1, hd2⟩ := hd
    have HF := Lib.hid (wordB_head (s := s) (by omega) (by omega))
    go_enter Tryz.func123, Tryz.ntmps123
    go_wp2_with (go_at_call 148; refine (isDigit_t _ _ hd1 hd2).mono ?_; rintro e w' ⟨rfl, rfl⟩)
    go_ret
    exact ⟨ret_bool HF.out.symm, rfl⟩
  · have hd' : s[0].toNat < 48 ∨ 57 < s[0].toNat := by omega
    go_enter Tryz.func123, Tryz.ntmps123
    go_wp2_with (go_at_call 148; refine (isDigit_f _ _ hd').mono ?_; rintro e w' ⟨rfl, rfl⟩)
    go_loop [19] (fun i => ∃ k : Nat, k ≤ s.size ∧ i = .int .i64 k ∧ allB (s.data.toList.take k) = true) (fun i => s.size - (intOf i).toNat)
    case atStart => exact ⟨0, Nat.zero_le _, rfl, rfl⟩
    case round =>
      obtain ⟨k, hk, rfl, hall⟩ := hrel
      have HA := Lib.hid hall; clear hall
      by_cases hlt : k < s.size
      · by_cases hl : 97 ≤ s[k].toNat ∧ s[k].toNat ≤ 122
        · obtain ⟨hl1, hl2⟩ := hl
          go_wp2_with (go_at_call 149; refine (isLetter_t _ _ hl1 hl2).mono ?_; rintro e w' ⟨rfl, rfl⟩)
          go_round
          case rel => exact ⟨k + 1, by omega, by go_num, by rw [allB_take_succ s k hlt, HA.out, charT (by omega)]; rfl⟩
          case measure => simp [intOf]; omega
        · have hl' : s[k].toNat < 97 ∨ 122 < s[k].toNat := by omega
          by_cases hg : 48 ≤ s[k].toNat ∧ s[k].toNat ≤ 57
          · obtain ⟨hg1, hg2⟩ := hg
            go_wp2_with (first | (go_at_call 149; refine (isLetter_f _ _ hl').mono ?_; rintro e w' ⟨rfl, rfl⟩) | (go_at_call 148; refine (isDigit_t _ _ hg1 hg2).mono ?_; rintro e w' ⟨rfl, rfl⟩))
            go_round
            case rel => exact ⟨k + 1, by omega, by go_num, by rw [allB_take_succ s k hlt, HA.out, charT (by omega)]; rfl⟩
            case measure => simp [intOf]; omega
          · have hg' : s[k].toNat < 48 ∨ 57 < s[k].toNat := by omega
            have HF := Lib.hid (wordB_no hlt (charF (by omega)))
            go_wp2_with (first | (go_at_call 149; refine (isLetter_f _ _ hl').mono ?_; rintro e w' ⟨rfl, rfl⟩) | (go_at_call 148; refine (isDigit_f _ _ hg').mono ?_; rintro e w' ⟨rfl, rfl⟩))
            go_ret
            exact ⟨ret_bool HF.out.symm, rfl⟩
      · have h0c : charB s[0].toNat = true := by
          have e : s.data.toList.take k = s.data.toList := List.take_of_length_le (by simp; omega)
          have ha := HA.out; rw [e] at ha
          cases hc : charB s[0].toNat with
          | true => rfl
          | false => rw [allB_false_of s 0 (by omega) hc] at ha; cases ha
        have := char_of h0c
        go_wp2
        go_ret
        exact ⟨ret_bool (wordB_yes (by omega) (by omega) (by omega) k (by omega) HA.out).symm, rfl⟩
theorem and255 (x : Int) : 0 ≤ bits .and .i64 x 255 ∧ bits .and .i64 x 255 ≤ 255 := by
  have h : (BitVec.ofInt 64 x &&& BitVec.ofInt 64 255).toNat ≤ 255 := by
    rw [BitVec.toNat_and]
    exact Nat.and_le_right
  have e : bits .and .i64 x 255 = ((BitVec.ofInt 64 x &&& BitVec.ofInt 64 255).toNat : Int) := by
    show IntKind.i64.wrap ((BitVec.ofInt 64 x &&& BitVec.ofInt 64 255).toNat : Int) = _
    rw [IntKind.wrap_i64]; omega
  rw [e]; omega
def Cur (w : World) (g : Nat) (ao : Option Addr) (d : Nat) (code : List Int) : Prop :=
  ∃ i h : Int, w.heap[g]? = some (.cells #[.slice ao code.length d, .int .i64 i, .int .i64 h] 96 (0, 0)) ∧ 0 ≤ i ∧ i ≤ code.length ∧ Rd w .u8 ao code ∧ By code ∧ (∀ a, ao = some a → code ≠ [] → a.block ≠ g)
def ByteP (w : World) (g : Nat) (ao : Option Addr) (d : Nat) (code : List Int) (lo hi : Int) (e : Ending) (w' : World) : Prop :=
  ∃ x, e = .returned (.int .i64 x) ∧ lo ≤ x ∧ x ≤ hi ∧ Cur w' g ao d code ∧ w.grownBy w' (some g)
theorem cur_next {w w' : World} {g : Nat} {ao : Option Addr} {d k : Nat} {code : List Int} {h : Int} (hb : w.heap[g]? = some (.cells #[.slice ao code.length d, .int .i64 k, .int .i64 h] 96 (0, 0)))
    (hr : Rd w .u8 ao code) (hby : By code) (hne : ∀ a, ao = some a → code ≠ [] → a.block ≠ g) (hk : k < code.length) {n : Nat} (e : w' = (w.drewN n).setCell ⟨g, 1, none⟩ (.int .i64 ((k : Int) + 1)) := by rfl) : Cur w' g ao d code := by
  subst e
  refine ⟨(k : Int) + 1, h, ?_, by omega, by omega, ?_, hby, hne⟩
  · have hb' : (w.drewN n).heap[g]? = some (.cells #[.slice ao code.length d, .int .i64 k, .int .i64 h] 96 (0, 0)) := hb
    rw [heap_setCell_same (w.drewN n) g 1 _ _ _ hb']; rfl
  · have hr' : Rd (w.drewN n) .u8 ao code := hr
    exact hr'.far hne fun p hp => World.cell?_setCell_other _ _ _ _ (fun e => by subst e; exact hp rfl)
theorem cur_grown {w w1 w' : World} {g n : Nat} {v : Value} (h : w.grownBy w1 (some g)) (e : w' = (w1.drewN n).setCell ⟨g, 1, none⟩ v := by rfl) : w.grownBy w' (some g) := by
  subst e
  exact grownBy_trans h ⟨rfl, rfl, rfl, by simp [World.setCell], fun i _ hi => heap_setCell_other (w1.drewN n) ⟨g, 1, none⟩ i _ (fun e => hi (by simp [e]))⟩
set_option maxRecDepth 100000 in
set_option maxHeartbeats 1600000 in
theorem l01Byte_any (g : Nat) (ao : Option Addr) (d : Nat) (code : List Int) (w : World) (hc : Cur w g ao d code) (hl : code.length ≤ 1048577) :
    Calls Tryz.prog 110 #[.pointer (some ⟨g, 0, none⟩)] w (ByteP w g ao d code 0 255) := by
  obtain ⟨i, h, hb, hi0, hi1, hr, hby, hne⟩ := hc
  have c0 : w.cell? ⟨g, 0, none⟩ = some (.slice ao code.length d) := cell_of_row w g 0 _ _ _ hb
  have c1 : w.cell? ⟨g, 1, none⟩ = some (.int .i64 i) := cell_of_row w g 1 _ _ _ hb
  have c2 : w.cell? ⟨g, 2, none⟩ = some (.int .i64 h) := cell_of_row w g 2 _ _ _ hb
  have f1 : w.frozen? ⟨g, 1, none⟩ = false := by simp [World.frozen?, hb]
  have f2 : w.frozen? ⟨g, 2, none⟩ = false := by simp [World.frozen?, hb]
  have HB := Lib.hid hb; have HR := Lib.hid hr; have HBY := Lib.hid hby; have HNE := Lib.hid hne
  clear hb hr hby hne
  by_cases hlt : i < code.length
  · obtain ⟨b1, off, rfl, hcc⟩ : ∃ b1 off, ao = some ⟨b1, off, none⟩ ∧ ∀ k, k < code.length → w.cell? ⟨b1, off + k, none⟩ = some (.int .u8 (code.getD k 0)) := by
      rcases HR.out with rfl | h'
      · simp at hlt; omega
      · exact h'
    obtain ⟨k, rfl⟩ : ∃ k : Nat, i = k := ⟨i.toNat, by omega⟩
    have hk : k < code.length := by omega
    obtain ⟨z, hz, _, hcz, _⟩ := Rd.at_ hcc hk
    have zb := HBY.out z hz
    have hbg : b1 ≠ g := HNE.out _ rfl (by intro e; rw [e] at hk; simp at hk)
    go_enter Tryz.func110, Tryz.ntmps110
    go_wp2
    generalize wrap64 (wrap64 (h * 6364136223846793005) + 1442695040888963407) = h2
    generalize wrap64 (h * 6364136223846793005) = h3
    obtain ⟨w1, hw1⟩ : ∃ w1, w1 = w.setCell ⟨g, 2, none⟩ (.int .i64 h2) := ⟨_, rfl⟩
    rw [← hw1]
    have B1 : w1.heap[g]? = some (.cells #[.slice (some ⟨b1, off, none⟩) code.length d, .int .i64 k, .int .i64 h2] 96 (0, 0)) := by rw [hw1, heap_setCell_same w g 2 _ _ _ HB.out]; rfl
    have R1 : Rd w1 .u8 (some ⟨b1, off, none⟩) code := by rw [hw1]; exact HR.out.far HNE.out fun p hp => World.cell?_setCell_other _ _ _ _ (fun e => by subst e; exact hp rfl)
    have G1 : w.grownBy w1 (some g) := by rw [hw1]; exact ⟨rfl, rfl, rfl, by simp, fun i _ hi => heap_setCell_other w ⟨g, 2, none⟩ i _ (fun e => hi (by simp [e]))⟩
    have cz : w1.cell? ⟨b1, off + k, none⟩ = some (.int .u8 z) := by rw [hw1, World.cell?_setCell_other _ _ _ _ (by simp)]; exact hcz
    have HB1 := Lib.hid B1; have HR1 := Lib.hid R1; have HG1 := Lib.hid G1
    clear c0 c1 c2 f1 f2 hcc hcz hw1 B1 R1 G1
    have c0 : w1.cell? ⟨g, 0, none⟩ = some (.slice (some ⟨b1, off, none⟩) code.length d) := cell_of_row w1 g 0 _ _ _ HB1.out
    have c1 : w1.cell? ⟨g, 1, none⟩ = some (.int .i64 k) := cell_of_row w1 g 1 _ _ _ HB1.out
    have c2 : w1.cell? ⟨g, 2, none⟩ = some (.int .i64 h2) := cell_of_row w1 g 2 _ _ _ HB1.out
    have f1 : w1.frozen? ⟨g, 1, none⟩ = false := frozen_of_row w1 g 1 _ _ HB1.out
    go_quiet (fail)
    go_wp2
    go_quiet (fail)
    go_wp2
    go_quiet (fail)
    go_wp2
    go_ret
    exact ⟨_, rfl, (and255 _).1, (and255 _).2, cur_next (w := w1) HB1.out HR1.out HBY.out HNE.out hk, cur_grown (w1 := w1) HG1.out⟩
  · go_enter Tryz.func110, Tryz.ntmps110
    go_wp2
    generalize wrap64 (wrap64 (h * 6364136223846793005) + 1442695040888963407) = h2
    generalize wrap64 (h * 6364136223846793005) = h3
    obtain ⟨w1, hw1⟩ : ∃ w1, w1 = w.setCell ⟨g, 2, none⟩ (.int .i64 h2) := ⟨_, rfl⟩
    rw [← hw1]
    have B1 : w1.heap[g]? = some (.cells #[.slice ao code.length d, .int .i64 i, .int .i64 h2] 96 (0, 0)) := by rw [hw1, heap_setCell_same w g 2 _ _ _ HB.out]; rfl
    have R1 : Rd w1 .u8 ao code := by rw [hw1]; exact HR.out.far HNE.out fun p hp => World.cell?_setCell_other _ _ _ _ (fun e => by subst e; exact hp rfl)
    have G1 : w.grownBy w1 (some g) := by rw [hw1]; exact ⟨rfl, rfl, rfl, by simp, fun i _ hi => heap_setCell_other w ⟨g, 2, none⟩ i _ (fun e => hi (by simp [e]))⟩
    have HB1 := Lib.hid B1; have HR1 := Lib.hid R1; have HG1 := Lib.hid G1
    clear c0 c1 c2 f1 f2 hw1 B1 R1 G1
    have c0 : w1.cell? ⟨g, 0, none⟩ = some (.slice ao code.length d) := cell_of_row w1 g 0 _ _ _ HB1.out
    have c1 : w1.cell? ⟨g, 1, none⟩ = some (.int .i64 i) := cell_of_row w1 g 1 _ _ _ HB1.out
    have c2 : w1.cell? ⟨g, 2, none⟩ = some (.int .i64 h2) := cell_of_row w1 g 2 _ _ _ HB1.out
    go_quiet (fail)
    go_wp2
    go_quiet (fail)
    go_wp2
    go_ret
    exact ⟨_, rfl, (and255 _).1, (and255 _).2, ⟨i, h2, HB1.out, hi0, hi1, HR1.out, HBY.out, HNE.out⟩, ⟨HG1.out.os, HG1.out.tape, HG1.out.output, HG1.out.size, HG1.out.block⟩⟩
theorem Cur.keepB {w w' : World} {g : Nat} {ao : Option Addr} {d : Nat} {code : List Int} (h : Cur w g ao d code) (hb : Below w.heap.size w w') : Cur w' g ao d code := by
  obtain ⟨i, x, h1, h2, h3, h4, h5, h6⟩ := h
  exact ⟨i, x, (hb.block g (lt_of_block h1)).trans h1, h2, h3, h4.below hb, h5, h6⟩
theorem Cur.lt {w : World} {g : Nat} {ao : Option Addr} {d : Nat} {code : List Int} (h : Cur w g ao d code) : g < w.heap.size := by
  obtain ⟨i, x, h1, _⟩ := h
  exact lt_of_block h1
set_option maxRecDepth 100000 in
theorem l01Below_any (g : Nat) (ao : Option Addr) (d : Nat) (code : List Int) (n : Int) (w : World) (hc : Cur w g ao d code) (hl : code.length ≤ 1048577) (h0 : 1 ≤ n) (h1 : n ≤ 256) :
    Calls Tryz.prog 68 #[.pointer (some ⟨g, 0, none⟩), .int .i64 n] w (ByteP w g ao d code 0 (n - 1)) := by
  have C := Lib.hid (l01Byte_any g ao d code w hc hl)
  clear hc hl
  go_enter Tryz.func68, Tryz.ntmps68
  go_wp2_with fail
  refine C.out.mono ?_
  rintro e w1 ⟨x, rfl, x0, x1, hc1, hg1⟩
  have HC1 := Lib.hid hc1; have HG1 := Lib.hid hg1; clear hc1 hg1
  go_wp2
  go_ret
  have e1 : x % n < n := Int.emod_lt_of_pos _ (by omega)
  have e2 : 0 ≤ x % n := Int.emod_nonneg _ (by omega)
  exact ⟨_, rfl, e2, by omega, HC1.out, HG1.out⟩
def OnceP (w : World) (g : Nat) (ao : Option Addr) (d : Nat) (code : List Int) (e : Ending) (w' : World) : Prop :=
  ∃ b : Bool, e = .returned (.bool b) ∧ Cur w' g ao d code ∧ w.grownBy w' (some g)
set_option maxRecDepth 100000 in
theorem l01Once_any (g : Nat) (ao : Option Addr) (d : Nat) (code : List Int) (n : Int) (w : World) (hc : Cur w g ao d code) (hl : code.length ≤ 1048577) (h0 : 1 ≤ n) (h1 : n ≤ 256) :
    Calls Tryz.prog 38 #[.pointer (some ⟨g, 0, none⟩), .int .i64 n] w (OnceP w g ao d code) := by
  have C := Lib.hid (l01Below_any g ao d code n w hc hl h0 h1)
  clear hc hl
  go_enter Tryz.func38, Tryz.ntmps38
  go_wp2_with fail
  refine C.out.mono ?_
  rintro e w1 ⟨x, rfl, x0, x1, hc1, hg1⟩
  have HC1 := Lib.hid hc1; have HG1 := Lib.hid hg1; clear hc1 hg1
  go_wp2
  go_ret
  exact ⟨_, rfl, HC1.out, HG1.out⟩
def PickP (w : World) (g : Nat) (ao : Option Addr) (d : Nat) (code l : List Int) (e : Ending) (w' : World) : Prop :=
  ∃ z, z ∈ l ∧ e = .returned (.int .i64 z) ∧ Cur w' g ao d code ∧ w.grownBy w' (some g)
set_option maxRecDepth 100000 in
theorem l01PickInt_any (g : Nat) (ao : Option Addr) (d : Nat) (code : List Int) (b off c : Nat) (l : List Int) (w : World) (hc : Cur w g ao d code) (hl : code.length ≤ 1048577)
    (hb : ∀ i, i < l.length → w.cell? ⟨b, off + i, none⟩ = some (.int .i64 (l.getD i 0))) (hbg : b ≠ g) (h0 : 1 ≤ l.length) (h1 : l.length ≤ 256) :
    Calls Tryz.prog 69 #[.pointer (some ⟨g, 0, none⟩), .slice (some ⟨b, off, none⟩) l.length c] w (PickP w g ao d code l) := by
  have C := Lib.hid (l01Below_any g ao d code (l.length : Int) w hc hl (by omega) (by omega))
  have HB := Lib.hid hb
  clear hc hl hb
  go_enter Tryz.func69, Tryz.ntmps69
  go_wp2_with fail
  refine C.out.mono ?_
  rintro e w1 ⟨x, rfl, x0, x1, hc1, hg1⟩
  have HC1 := Lib.hid hc1; have HG1 := Lib.hid hg1; clear hc1 hg1
  obtain ⟨k, rfl⟩ : ∃ k : Nat, x = k := ⟨x.toNat, by omega⟩
  have hk : k < l.length := by omega
  obtain ⟨z, hz, _, hcz, _⟩ := Rd.at_ HB.out hk
  have hcz1 : w1.cell? ⟨b, off + k, none⟩ = some (.int .i64 z) := HG1.out.cell hcz (by simp [hbg])
  have HZ := Lib.hid hz
  clear hz hcz
  go_wp2
  go_ret
  exact ⟨z, HZ.out, rfl, HC1.out, HG1.out⟩
def PickT (w : World) (g : Nat) (ao : Option Addr) (d : Nat) (code : List Int) (e : Ending) (w' : World) : Prop :=
  ∃ s : ByteArray, s.size ≤ 100 ∧ e = .returned (.string s) ∧ Cur w' g ao d code ∧ w.grownBy w' (some g)
set_option maxRecDepth 100000 in
theorem l01PickText_any (g : Nat) (ao : Option Addr) (d : Nat) (code : List Int) (b n c : Nat) (w : World) (hc : Cur w g ao d code) (hl : code.length ≤ 1048577)
    (hb : ∀ i, i < n → ∃ s : ByteArray, s.size ≤ 100 ∧ w.cell? ⟨b, i, none⟩ = some (.string s)) (hbg : b ≠ g) (h0 : 1 ≤ n) (h1 : n ≤ 256) :
    Calls Tryz.prog 70 #[.pointer (some ⟨g, 0, none⟩), .slice (some ⟨b, 0, none⟩) n c] w (PickT w g ao d code) := by
  have C := Lib.hid (l01Below_any g ao d code (n : Int) w hc hl (by omega) (by omega))
  have HB := Lib.hid hb
  clear hc hl hb
  go_enter Tryz.func70, Tryz.ntmps70
  go_wp2_with fail
  refine C.out.mono ?_
  rintro e w1 ⟨x, rfl, x0, x1, hc1, hg1⟩
  have HC1 := Lib.hid hc1; have HG1 := Lib.hid hg1; clear hc1 hg1
  obtain ⟨k, rfl⟩ : ∃ k : Nat, x = k := ⟨x.toNat, by omega⟩
  have hk : k < n := by omega
  obtain ⟨s, hs, hcs⟩ := HB.out k hk
  have hcs1 : w1.cell? ⟨b, k, none⟩ = some (.string s) := HG1.out.cell hcs (by simp [hbg])
  have HS := Lib.hid hs
  clear hcs hs
  go_wp2
  go_ret
  exact ⟨s, HS.out, rfl, HC1.out, HG1.out⟩
def NewP (w : World) (ao : Option Addr) (d : Nat) (code : List Int) (e : Ending) (w' : World) : Prop :=
  ∃ g, e = .returned (.pointer (some ⟨g, 0, none⟩)) ∧ w.heap.size ≤ g ∧ Cur w' g ao d code ∧ Below w.heap.size w w'
theorem new_cur {w : World} {ao : Option Addr} {d : Nat} {code : List Int} {h : Int} (hr : Rd w .u8 ao code) (hby : By code) :
    Cur (w.alloc (.cells #[.slice ao code.length d, .int .i64 0, .int .i64 h] 96)) w.heap.size ao d code := by
  refine ⟨0, h, heap_alloc_new w _, by omega, by omega, hr.below ((Below.refl _ _).alloc (Nat.le_refl _) _), hby, ?_⟩
  intro a ha hl e
  rcases hr with rfl | ⟨b, off, hh, hc⟩
  · exact hl rfl
  · rw [ha] at hh
    injection hh with hh
    subst hh
    have := World.block_lt_of_cell? w _ (hc 0 (by cases code with | nil => exact absurd rfl hl | cons _ _ => simp))
    simp only at this e; omega
set_option maxRecDepth 100000 in
set_option maxHeartbeats 1600000 in
theorem l01New_any (ao : Option Addr) (d : Nat) (code : List Int) (w : World) (hr : Rd w .u8 ao code) (hby : By code) (hl : code.length ≤ 1048577) :
    Calls Tryz.prog 36 #[.slice ao code.length d] w (NewP w ao d code) := by
  have HR := Lib.hid hr; have HBY := Lib.hid hby
  have hl' : (code.length : Int) ≤ 1048577 := by omega
  clear hby hl
  rcases hr with rfl | ⟨b1, off, rfl, hc⟩
  · go_enter Tryz.func36, Tryz.ntmps36
    go_wp2
    refine wp_loop_rounds 1 ?_; rw [rounds_succ]; go_wp2
    go_ret
    exact ⟨_, rfl, Nat.le_refl _, new_cur HR.out HBY.out, (Below.refl _ _).alloc (Nat.le_refl _) _⟩
  · have HC := Lib.hid hc; clear hc
    go_enter Tryz.func36, Tryz.ntmps36
    go_wp2
    go_loop [3, 4] (fun h i => ∃ (k : Nat) (x : Int), k ≤ code.length ∧ i = .int .i64 k ∧ h = .int .i64 x) (fun _ i => code.length - (intOf i).toNat)
    case atStart => exact ⟨0, _, Nat.zero_le _, rfl, rfl⟩
    case round =>
      obtain ⟨k, x, hk, rfl, rfl⟩ := hrel
      by_cases hlt : k < code.length
      · have hb1 : decide ((k : Int) < code.length) = true := by simp; omega
        have hb1' : decide (k < code.length) = true := by simpa using hlt
        by_cases h4 : k < 4000
        · obtain ⟨z, hz, _, hcz, _⟩ := Rd.at_ HC.out hlt
          have zb := HBY.out z hz
          have h4' : (k : Int) < 4000 := by omega
          clear hz
          go_wp2
          go_round
          case rel => exact ⟨k + 1, _, by omega, by go_num, rfl⟩
          case measure => simp [intOf]; omega
        · have h4' : (4000 : Int) ≤ k := by omega
          go_wp2
          go_ret
          exact ⟨_, rfl, Nat.le_refl _, new_cur HR.out HBY.out, (Below.refl _ _).alloc (Nat.le_refl _) _⟩
      · have hb1' : decide (k < code.length) = false := by simpa using hlt
        go_wp2
        go_ret
        exact ⟨_, rfl, Nat.le_refl _, new_cur HR.out HBY.out, (Below.refl _ _).alloc (Nat.le_refl _) _⟩
def enc (n : Nat) : List Int := if n < 128 then [(n : Int)] else (128 + (n : Int) % 128) :: enc (n / 128)
termination_by n
decreasing_by omega
theorem Cur.code_lt {w : World} {g : Nat} {ao : Option Addr} {d : Nat} {code : List Int} (h : Cur w g ao d code) : ∀ a, ao = some a → code ≠ [] → a.block < w.heap.size := by
  obtain ⟨i, x, h1, h2, h3, h4, h5, h6⟩ := h
  intro a ha hl
  rcases h4 with rfl | ⟨b, off, hh, hc⟩
  · exact absurd rfl hl
  · rw [ha] at hh
    injection hh with hh
    subst hh
    exact World.block_lt_of_cell? w _ (hc 0 (by cases code with | nil => exact absurd rfl hl | cons _ _ => simp))
theorem Cur.keepI {w w' : World} {g B : Nat} {ao : Option Addr} {d : Nat} {code : List Int} (h : Cur w g ao d code) (hg : g < B) (hcode : ∀ a, ao = some a → code ≠ [] → a.block < B) (hk : ∀ i, i < B → w'.heap[i]? = w.heap[i]?) : Cur w' g ao d code := by
  obtain ⟨i, x, h1, h2, h3, h4, h5, h6⟩ := h
  refine ⟨i, x, (hk g hg).trans h1, h2, h3, ?_, h5, h6⟩
  by_cases hl : code = []
  · exact .inl hl
  · rcases h4 with rfl | ⟨b, off, rfl, hc⟩
    · exact absurd rfl hl
    · exact .inr ⟨b, off, rfl, fun j hj => (World.cell?_of_block (a := ⟨b, off + j, none⟩) (hk b (hcode _ rfl hl))).trans (hc j hj)⟩
def Drew (w : World) (g : Nat) (ao : Option Addr) (d : Nat) (code : List Int) (w' : World) : Prop := Cur w' g ao d code ∧ w.grownBy w' (some g)
theorem Drew.own {wr w1 : World} {B g : Nat} {E : TypeId} {k : IntKind} {ao xo : Option Addr} {c d : Nat} {l code : List Int} (h : Drew wr g xo d code w1) (ho : Own wr B E k ao c l) (hg : g < B) : Own w1 B E k ao c l :=
  ho.grown h.2 (fun a ha => by have := (ho.lt a ha).1; simp; omega)
theorem drew_app {w wr w1 : World} {g : Nat} {E : TypeId} {k : IntKind} {ao xo : Option Addr} {c d : Nat} {l code : List Int} {o : Obj} (h0 : Cur w g xo d code) (h : Drew w g xo d code wr) (ho : Own wr w.heap.size E k ao c l) (hg' : (wr.alloc o).grownBy w1 (ao.map (·.block))) : Drew w g xo d code w1 := by
  have hb : Below w.heap.size wr w1 := ((Below.refl _ _).alloc h.2.size o).grown hg' (by have := h.2.size; simp; omega) (by
    intro r hr
    cases ao with
    | none => cases hr
    | some a => simp at hr; subst hr; exact (ho.lt a rfl).1)
  refine ⟨h.1.keepI h0.lt h0.code_lt hb.block, ?_⟩
  exact ⟨hb.os.trans h.2.os, hb.tape.trans h.2.tape, hb.output.trans h.2.output, Nat.le_trans h.2.size hb.size, fun i hi hne => (hb.block i hi).trans (h.2.block i hi hne)⟩
theorem drew_trans {w w1 w2 : World} {g : Nat} {xo : Option Addr} {d : Nat} {code : List Int} (h : w.grownBy w1 (some g)) (k : Cur w2 g xo d code) (k2 : w1.grownBy w2 (some g)) : Drew w g xo d code w2 := ⟨k, grownBy_trans h k2⟩
theorem l01PickInt_n (g : Nat) (ao : Option Addr) (d : Nat) (code : List Int) (b c n : Nat) (l : List Int) (w : World) (hc : Cur w g ao d code) (hl : code.length ≤ 1048577)
    (hb : ∀ i, i < l.length → w.cell? ⟨b, i, none⟩ = some (.int .i64 (l.getD i 0))) (hbg : b ≠ g) (h0 : 1 ≤ l.length) (h1 : l.length ≤ 256) (hn : l.length = n) :
    Calls Tryz.prog 69 #[.pointer (some ⟨g, 0, none⟩), .slice (some ⟨b, 0, none⟩) n c] w (PickP w g ao d code l) := by
  subst hn
  exact l01PickInt_any g ao d code b 0 c l w hc hl (by intro i hi; rw [Nat.zero_add]; exact hb i hi) hbg h0 h1
theorem row_cells (w : World) (t : TypeId) (l : List Int) : ∀ i, i < l.length → (w.alloc (.cells (l.map (Value.int .i64)).toArray t)).cell? ⟨w.heap.size, i, none⟩ = some (.int .i64 (l.getD i 0)) := by
  intro i hi
  rw [cell_of_row _ _ _ _ _ _ (heap_alloc_new w _)]
  simp [hi, List.getD_eq_getElem?_getD]
end Go.Proofs.YtanfllednlpbaaaGreat
