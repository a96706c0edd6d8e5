/-
  Contracts of impl.SameRows and impl.CountSame. For every slice of rows. Contract of eqNode. For every two nodes. Contracts of spec.WordOk and impl.WordOk: both answer whether the text is a word, and change nothing. For every text.
-/
import Derived.Test.YtfpbhedophlnkaaGreatDoorJR17x
import Derived.Test.YtfpbhedophlnkaaGreatDoorJR10x
import Derived.Deep.RegionWith
import Derived.Test.YtfpbhedophlnkaaGreatDoorJR5x
import Derived.Test.YtfpbhedophlnkaaGreatDoorRows
import Derived.Test.YtfpbhedophlnkaaGreatDoorJR3x
import Derived.WalkKit
import Derived.WalkSpells
import Derived.WalkLawsBesides
import Derived.Lib.Hide
namespace Go.Proofs.YtfpbhedophlnkaaGreatDoor
open Go.RowKit
set_option linter.unusedSimpArgs false
set_option linter.unusedVariables false

theorem sameRow_any (a b : Option Addr) (c d : Nat) (l m : List Int) (w : World) (h : Rd w .i64 a l) (k : Rd w .i64 b m) (hn : l.length ≤ maxLen) (hm : m.length ≤ maxLen) :
    Calls Tryz.prog 106 #[.slice a l.length c, .slice b m.length d] w fun e w' => e = .returned (.bool (eqL l m)) ∧ Below w.heap.size w w' := by
  have H := Lib.hid h; clear h
  have K := Lib.hid k; clear k
  go_enter Tryz.func106, Tryz.ntmps106
  go_wp2_with fail
  refine (libEqual_any a b c d l m _ H.out K.out hn hm).mono ?_
  rintro e w1 ⟨rfl, b1⟩
  go_wp2_with fail
  go_ret
  exact ⟨rfl, b1⟩

set_option maxRecDepth 100000 in
set_option maxHeartbeats 1600000 in
theorem equalFuncR_any (a b : Option Addr) (c d : Nat) (l m : List (List Int)) (w : World) (h : RdR w a l) (k : RdR w b m) (hn : l.length ≤ maxLen) (hm : m.length ≤ maxLen) :
    Calls Tryz.prog 105 #[.slice a l.length c, .slice b m.length d, .func (.func 106) #[] #[]] w fun e w' => e = .returned (.bool (eqR l m)) ∧ Below w.heap.size w w' := by
  unfold maxLen at hn hm
  have H := Lib.hid h; clear h
  have K := Lib.hid k; clear k
  by_cases hlen : l.length = m.length
  · have hne : ((l.length : Int) != (m.length : Int)) = false := by simp [hlen]
    have HL := Lib.hid hlen; clear hlen
    go_enter Tryz.func105, Tryz.ntmps105
    go_wp2_with fail
    go_loopw [17] (fun i wr => ∃ j : Nat, j ≤ l.length ∧ i = .int .i64 j ∧ l.take j = m.take j ∧ Below w.heap.size w wr) (fun i _ => l.length - (intOf i).toNat)
    case atStart => exact ⟨0, Nat.zero_le _, rfl, rfl, Below.refl _ _⟩
    case round =>
      obtain ⟨j, hj, rfl, ht, hb⟩ := hrel
      have HT := Lib.hid ht; clear ht
      by_cases hlt : j < l.length
      · have hlt2 : j < m.length := by have := HL.out; omega
        obtain ⟨b1, o1, x, a1, c1, rfl, hx, ⟨e0, rx, cx, mx⟩⟩ := (H.out.below hb).at_ hlt
        obtain ⟨b2, o2, y, a2, c2, rfl, hy, ⟨f0, ry, cy, my⟩⟩ := (K.out.below hb).at_ hlt2
        have X := Lib.hid hx; have Y := Lib.hid hy; have HB := Lib.hid hb
        have RX := Lib.hid rx; have RY := Lib.hid ry
        clear hx hy hb rx ry
        have lx := Nat.le_trans cx mx
        have ly := Nat.le_trans cy my
        clear cx mx cy my
        cases hxy : eqL x y with
        | true =>
          have Q := Lib.hid hxy; clear hxy
          go_wp2_with fail
          refine (sameRow_any a1 a2 c1 c2 x y _ RX.out RY.out lx ly).mono ?_
          rintro e w1 ⟨rfl, b1⟩
          rw [Q.out]
          have T1 := Lib.hid (below_step HB.out (Nat.le_refl _) b1)
          clear b1
          go_wp2_with fail
          go_roundw
          case rel => exact ⟨j + 1, by omega, by go_num, take_eq_step HT.out X.out (by rw [eqL_eq Q.out]; exact Y.out), T1.out⟩
          case measure => simp [intOf]; omega
        | false =>
          have Q := Lib.hid hxy; clear hxy
          have F := Lib.hid (eqR_no X.out Y.out Q.out)
          go_wp2_with fail
          refine (sameRow_any a1 a2 c1 c2 x y _ RX.out RY.out lx ly).mono ?_
          rintro e w1 ⟨rfl, b1⟩
          rw [Q.out]
          have T1 := Lib.hid (below_step HB.out (Nat.le_refl _) b1)
          clear b1
          go_wp2_with fail
          go_ret
          exact ⟨ret_bool F.out.symm, T1.out⟩
      · have HB := Lib.hid hb; clear hb
        go_wp2_with fail
        go_ret
        exact ⟨ret_bool (eqR_yes HL.out (by omega) HT.out).symm, HB.out⟩
  · have hne : ((l.length : Int) != (m.length : Int)) = true := by simp; omega
    have HF := Lib.hid (eqR_len hlen)
    go_enter Tryz.func105, Tryz.ntmps105
    go_wp2_with fail
    go_ret
    exact ⟨ret_bool HF.out.symm, Below.refl _ _⟩

theorem implSameRows_any (a b : Option Addr) (c d : Nat) (l m : List (List Int)) (w : World) (h : RdR w a l) (k : RdR w b m) (hn : l.length ≤ maxLen) (hm : m.length ≤ maxLen) :
    Calls Tryz.prog 27 #[.slice a l.length c, .slice b m.length d] w fun e w' => e = .returned (.bool (eqR l m)) ∧ Below w.heap.size w w' := by
  have H := Lib.hid h; clear h
  have K := Lib.hid k; clear k
  go_enter Tryz.func27, Tryz.ntmps27
  go_wp2_with fail
  refine (equalFuncR_any a b c d l m _ H.out K.out hn hm).mono ?_
  rintro e w1 ⟨rfl, b1⟩
  go_wp2_with fail
  go_ret
  exact ⟨rfl, b1⟩

set_option maxRecDepth 100000 in
set_option maxHeartbeats 1600000 in
theorem implCountSame_any (a b : Option Addr) (c d : Nat) (l : List (List Int)) (r : List Int) (w : World) (h : RdR w a l) (k : Rd w .i64 b r) (hn : l.length ≤ 1048576) (hm : r.length ≤ maxLen) :
    Calls Tryz.prog 32 #[.slice a l.length c, .slice b r.length d] w fun e w' => e = .returned (.int .i64 (countL l r)) ∧ Below w.heap.size w w' := by
  have H := Lib.hid h; clear h
  have K := Lib.hid k; clear k
  go_enter Tryz.func32, Tryz.ntmps32
  go_wp2_with fail
  go_loopw [5, 10] (fun q i wr => ∃ j : Nat, j ≤ l.length ∧ i = .int .i64 j ∧ q = .int .i64 (countL (l.take j) r) ∧ Below w.heap.size w wr) (fun _ i _ => l.length - (intOf i).toNat)
  case atStart => exact ⟨0, Nat.zero_le _, rfl, rfl, Below.refl _ _⟩
  case round =>
    obtain ⟨j, hj, rfl, rfl, hb⟩ := hrel
    have q0 := countL_take_le l j r
    by_cases hlt : j < l.length
    · obtain ⟨b1, o1, x, a1, c1, rfl, hx, ⟨e0, rx, cx, mx⟩⟩ := (H.out.below hb).at_ hlt
      have X := Lib.hid hx; have HB := Lib.hid hb; have RX := Lib.hid rx
      have RK := Lib.hid (K.out.below hb)
      have CT := Lib.hid (countL_take (r := r) hx)
      have lx := Nat.le_trans cx mx
      clear hx hb rx cx mx
      cases hxy : eqL x r with
      | true =>
        have Q := Lib.hid hxy; clear hxy
        go_wp2_with fail
        refine (sameRow_any a1 b c1 d x r _ RX.out RK.out lx hm).mono ?_
        rintro e w1 ⟨rfl, b1⟩
        rw [Q.out]
        have T1 := Lib.hid (below_step HB.out (Nat.le_refl _) b1)
        clear b1
        go_wp2_with fail
        go_roundw
        case rel => exact ⟨j + 1, by omega, by go_num, by rw [CT.out, Q.out]; simp, T1.out⟩
        case measure => simp [intOf]; omega
      | false =>
        have Q := Lib.hid hxy; clear hxy
        go_wp2_with fail
        refine (sameRow_any a1 b c1 d x r _ RX.out RK.out lx hm).mono ?_
        rintro e w1 ⟨rfl, b1⟩
        rw [Q.out]
        have T1 := Lib.hid (below_step HB.out (Nat.le_refl _) b1)
        clear b1
        go_wp2_with fail
        go_roundw
        case rel => exact ⟨j + 1, by omega, by go_num, by rw [CT.out, Q.out]; simp, T1.out⟩
        case measure => simp [intOf]; omega
    · obtain rfl : j = l.length := by omega
      have HB := Lib.hid hb; clear hb
      go_wp2_with fail
      go_ret
      exact ⟨ret_int (by rw [List.take_length]), HB.out⟩
end Go.Proofs.YtfpbhedophlnkaaGreatDoor
namespace Go.Proofs.YtfpbhedophlnkaaGreatDoor
open Go.RowKit
set_option linter.unusedSimpArgs false
set_option linter.unusedVariables false

/-- Whether two nodes are the same. -/
def eqN (n m : Nd) : Bool := (n.kind == m.kind) && (n.name.toList == m.name.toList) && (n.col == m.col) && (n.op == m.op) && (n.num == m.num) && (n.slot == m.slot) && eqL n.cols m.cols
theorem eqN_refl (n : Nd) : eqN n n = true := by simp [eqN, eqL_refl]

theorem eqNode_any (n m : Nd) (a b : Option Addr) (c d : Nat) (w : World) (h : Rd w .i64 a n.cols) (k : Rd w .i64 b m.cols) (hn : n.cols.length ≤ maxLen) (hm : m.cols.length ≤ maxLen) :
    Calls Tryz.prog 141 #[.agg #[.int .i64 n.kind, .string n.name, .int .i64 n.col, .int .i64 n.op, .int .i64 n.num, .bool n.slot, .slice a n.cols.length c], .agg #[.int .i64 m.kind, .string m.name, .int .i64 m.col, .int .i64 m.op, .int .i64 m.num, .bool m.slot, .slice b m.cols.length d]] w fun e w' => e = .returned (.bool (eqN n m)) ∧ Below w.heap.size w w' := by
  have H := Lib.hid h; clear h
  have K := Lib.hid k; clear k
  go_enter Tryz.func141, Tryz.ntmps141
  go_wp2_with fail
  all_goals try (go_ret; exact ⟨ret_bool (by simp_all [eqN]), ((Below.refl _ _).alloc (Nat.le_refl _) _).alloc (by simp) _⟩)
  have E : Hid (eqN n m = eqL n.cols m.cols) := by
    show eqN n m = eqL n.cols m.cols
    simp_all [eqN]
  have B2 := Lib.hid (show Below w.heap.size w ((w.alloc (.cells #[.int .i64 n.kind, .string n.name, .int .i64 n.col, .int .i64 n.op, .int .i64 n.num, .bool n.slot, .slice a n.cols.length c] 92)).alloc (.cells #[.int .i64 m.kind, .string m.name, .int .i64 m.col, .int .i64 m.op, .int .i64 m.num, .bool m.slot, .slice b m.cols.length d] 92)) from ((Below.refl _ _).alloc (Nat.le_refl _) _).alloc (by simp) _)
  refine (eqIntS_any a b c d n.cols m.cols _ (H.out.below B2.out) (K.out.below B2.out) hn hm).mono ?_
  rintro e w1 ⟨rfl, b1⟩
  cases hq : eqL n.cols m.cols with
  | true =>
    have Q := Lib.hid (E.out.trans hq); clear hq
    go_wp2
    go_ret
    exact ⟨ret_bool Q.out.symm, B2.out.trans (b1.mono (by simp; omega))⟩
  | false =>
    have Q := Lib.hid (E.out.trans hq); clear hq
    go_wp2
    go_ret
    exact ⟨ret_bool Q.out.symm, B2.out.trans (b1.mono (by simp; omega))⟩
end Go.Proofs.YtfpbhedophlnkaaGreatDoor
namespace Go.Proofs.YtfpbhedophlnkaaGreatDoor
open Go.RowKit
set_option linter.unusedSimpArgs false
set_option linter.unusedVariables false


theorem l01In_any (x a b : Int) (w : World) :
    Calls Tryz.prog 97 #[.int .i64 x, .int .i64 a, .int .i64 b] w fun e w' => e = .returned (.bool (decide (a ≤ x) && decide (x ≤ b))) ∧ w = w' := by
  by_cases h1 : a ≤ x
  · by_cases h2 : x ≤ b
    · go_enter Tryz.func97, Tryz.ntmps97
      go_wp2
      go_ret
      exact ⟨ret_bool (by simp [h1, h2]), rfl⟩
    · have h3 : b < x := by omega
      go_enter Tryz.func97, Tryz.ntmps97
      go_wp2
      go_ret
      exact ⟨ret_bool (by simp [h2]), rfl⟩
  · have h3 : x < a := by omega
    have h4 : decide (a ≤ x) = false := by simp; omega
    go_enter Tryz.func97, Tryz.ntmps97
    go_wp2
    go_ret
    exact ⟨ret_bool (by simp), rfl⟩

set_option maxHeartbeats 400000 in
theorem specWordOk_any (s : ByteArray) (w : World) (hs : s.size ≤ maxLen) :
    Calls Tryz.prog 96 #[.string s] w fun e w' => e = .returned (.bool (wordB s.data.toList)) ∧ w = w' := by
  unfold maxLen at hs
  by_cases h1 : 1 ≤ s.size ∧ s.size ≤ 12
  · obtain ⟨h1, h2⟩ := h1
    have h1' : (1 : Int) ≤ s.size := by omega
    have h2' : (s.size : Int) ≤ 12 := by omega
    by_cases h3 : s[0].toNat < 97
    · have hfin : wordB s.data.toList = false := wordB_head (by omega) h3
      have HF := Lib.hid hfin; clear hfin
      go_enter Tryz.func96, Tryz.ntmps96
      go_wp2_with (go_at_call 97; refine (l01In_any _ _ _ _).mono ?_; rintro e w' ⟨rfl, rfl⟩)
      go_ret
      exact ⟨ret_bool HF.out.symm, rfl⟩
    · go_enter Tryz.func96, Tryz.ntmps96
      go_wp2_with (go_at_call 97; refine (l01In_any _ _ _ _).mono ?_; rintro e w' ⟨rfl, rfl⟩)
      go_loop [3] (fun i => ∃ k : Nat, k ≤ s.size ∧ i = .int .i64 k ∧ allB (s.data.toList.take k) = true) (fun i => s.size - (intOf i).toNat)
      case atStart => exact ⟨0, Nat.zero_le _, rfl, rfl⟩
      case round =>
        obtain ⟨k, hk, rfl, hall⟩ := hrel
        have HA := Lib.hid hall; clear hall
        by_cases hlt : k < s.size
        · go_wp2
          all_goals first
            | (go_ret; exact ⟨ret_bool (wordB_no hlt (charF (by omega))).symm, rfl⟩)
            | (go_round
               case rel => exact ⟨k + 1, by omega, by go_num, by rw [allB_take_succ s k hlt, HA.out, charT (by omega)]; rfl⟩
               case measure => simp [intOf]; omega)
        · go_wp2
          go_ret
          exact ⟨ret_bool (wordB_yes (by omega) (by omega) (by omega) k (by omega) HA.out).symm, rfl⟩
  · have hfin : wordB s.data.toList = false := wordB_len h1
    have HF := Lib.hid hfin; clear hfin
    have h3 : (decide ((1 : Int) ≤ s.size) && decide ((s.size : Int) ≤ 12)) = false := by simp; omega
    have H3 := Lib.hid h3; clear h3
    go_enter Tryz.func96, Tryz.ntmps96
    go_wp2_with (go_at_call 97; refine (l01In_any _ _ _ _).mono ?_; rintro e w' ⟨rfl, rfl⟩; rw [H3.out])
    go_ret
    exact ⟨ret_bool HF.out.symm, rfl⟩

theorem isDigit_t (c : Nat) (w : World) (h1 : 48 ≤ c) (h2 : c ≤ 57) : Calls Tryz.prog 231 #[.int .u8 c] w fun e w' => e = .returned (.bool true) ∧ w = w' := by
  have h3 : (48 : Int) ≤ c := by omega
  have h4 : (c : Int) ≤ 57 := by omega
  go_enter Tryz.func231, Tryz.ntmps231
  go_wp2
  go_ret
  exact ⟨ret_bool (by simp), rfl⟩
theorem isDigit_f (c : Nat) (w : World) (h : c < 48 ∨ 57 < c) : Calls Tryz.prog 231 #[.int .u8 c] w fun e w' => e = .returned (.bool false) ∧ w = w' := by
  by_cases h1 : 48 ≤ c
  · have h3 : (57 : Int) < c := by omega
    go_enter Tryz.func231, Tryz.ntmps231
    go_wp2
    go_ret
    exact ⟨ret_bool (by simp; omega), rfl⟩
  · have h4 : decide ((48 : Int) ≤ (c : Int)) = false := by simp; omega
    go_enter Tryz.func231, Tryz.ntmps231
    go_wp2
    go_ret
    exact ⟨rfl, rfl⟩
theorem isLetter_t (c : Nat) (w : World) (h1 : 97 ≤ c) (h2 : c ≤ 122) : Calls Tryz.prog 232 #[.int .u8 c] w fun e w' => e = .returned (.bool true) ∧ w = w' := by
  have h3 : (97 : Int) ≤ c := by omega
  have h4 : (c : Int) ≤ 122 := by omega
  go_enter Tryz.func232, Tryz.ntmps232
  go_wp2
  go_ret
  exact ⟨ret_bool (by simp), rfl⟩
theorem isLetter_f (c : Nat) (w : World) (h : c < 97 ∨ 122 < c) : Calls Tryz.prog 232 #[.int .u8 c] w fun e w' => e = .returned (.bool false) ∧ w = w' := by
  by_cases h1 : 97 ≤ c
  · have h3 : (122 : Int) < c := by omega
    go_enter Tryz.func232, Tryz.ntmps232
    go_wp2
    go_ret
    exact ⟨ret_bool (by simp; omega), rfl⟩
  · have h4 : decide ((97 : Int) ≤ (c : Int)) = false := by simp; omega
    go_enter Tryz.func232, Tryz.ntmps232
    go_wp2
    go_ret
    exact ⟨rfl, rfl⟩

set_option maxHeartbeats 800000 in
theorem implWordOk_any (s : ByteArray) (w : World) (hs : s.size ≤ maxLen) :
    Calls Tryz.prog 173 #[.string s] w fun e w' => e = .returned (.bool (wordB s.data.toList)) ∧ w = w' := by
  unfold maxLen at hs
  by_cases h0 : s.size < 1
  · have HF := Lib.hid (wordB_len (s := s) (by omega))
    have h1 : decide ((s.size : Int) < 1) = true := by simp; omega
    go_enter Tryz.func173, Tryz.ntmps173
    go_wp2
    go_ret
    exact ⟨ret_bool HF.out.symm, rfl⟩
  by_cases h2 : 12 < s.size
  · have HF := Lib.hid (wordB_len (s := s) (by omega))
    have h1 : decide ((s.size : Int) < 1) = false := by simp; omega
    have h3 : decide ((12 : Int) < (s.size : Int)) = true := by simp; omega
    go_enter Tryz.func173, Tryz.ntmps173
    go_wp2
    go_ret
    exact ⟨ret_bool HF.out.symm, rfl⟩
  have hp : 0 < s.size := by omega
  have h1 : decide ((s.size : Int) < 1) = false := by simp; omega
  have h3 : decide ((12 : Int) < (s.size : Int)) = false := by simp; omega
  by_cases hd : 48 ≤ s[0].toNat ∧ s[0].toNat ≤ 57
  · obtain ⟨hd1, hd2⟩ := hd
    have HF := Lib.hid (wordB_head (s := s) (by omega) (by omega))
    go_enter Tryz.func173, Tryz.ntmps173
    go_wp2_with (go_at_call 231; refine (isDigit_t _ _ hd1 hd2).mono ?_; rintro e w' ⟨rfl, rfl⟩)
    go_ret
    exact ⟨ret_bool HF.out.symm, rfl⟩
  · have hd' : s[0].toNat < 48 ∨ 57 < s[0].toNat := by omega
    go_enter Tryz.func173, Tryz.ntmps173
    go_wp2_with (go_at_call 231; refine (isDigit_f _ _ hd').mono ?_; rintro e w' ⟨rfl, rfl⟩)
    go_loop [19] (fun i => ∃ k : Nat, k ≤ s.size ∧ i = .int .i64 k ∧ allB (s.data.toList.take k) = true) (fun i => s.size - (intOf i).toNat)
    case atStart => exact ⟨0, Nat.zero_le _, rfl, rfl⟩
    case round =>
      obtain ⟨k, hk, rfl, hall⟩ := hrel
      have HA := Lib.hid hall; clear hall
      by_cases hlt : k < s.size
      · by_cases hl : 97 ≤ s[k].toNat ∧ s[k].toNat ≤ 122
        · obtain ⟨hl1, hl2⟩ := hl
          go_wp2_with (go_at_call 232; refine (isLetter_t _ _ hl1 hl2).mono ?_; rintro e w' ⟨rfl, rfl⟩)
          go_round
          case rel => exact ⟨k + 1, by omega, by go_num, by rw [allB_take_succ s k hlt, HA.out, charT (by omega)]; rfl⟩
          case measure => simp [intOf]; omega
        · have hl' : s[k].toNat < 97 ∨ 122 < s[k].toNat := by omega
          by_cases hg : 48 ≤ s[k].toNat ∧ s[k].toNat ≤ 57
          · obtain ⟨hg1, hg2⟩ := hg
            go_wp2_with (first | (go_at_call 232; refine (isLetter_f _ _ hl').mono ?_; rintro e w' ⟨rfl, rfl⟩) | (go_at_call 231; refine (isDigit_t _ _ hg1 hg2).mono ?_; rintro e w' ⟨rfl, rfl⟩))
            go_round
            case rel => exact ⟨k + 1, by omega, by go_num, by rw [allB_take_succ s k hlt, HA.out, charT (by omega)]; rfl⟩
            case measure => simp [intOf]; omega
          · have hg' : s[k].toNat < 48 ∨ 57 < s[k].toNat := by omega
            have HF := Lib.hid (wordB_no hlt (charF (by omega)))
            go_wp2_with (first | (go_at_call 232; refine (isLetter_f _ _ hl').mono ?_; rintro e w' ⟨rfl, rfl⟩) | (go_at_call 231; refine (isDigit_f _ _ hg').mono ?_; rintro e w' ⟨rfl, rfl⟩))
            go_ret
            exact ⟨ret_bool HF.out.symm, rfl⟩
      · have h0c : charB s[0].toNat = true := by
          have e : s.data.toList.take k = s.data.toList := List.take_of_length_le (by simp; omega)
          have ha := HA.out; rw [e] at ha
          cases hc : charB s[0].toNat with
          | true => rfl
          | false => rw [allB_false_of s 0 (by omega) hc] at ha; cases ha
        have := char_of h0c
        go_wp2
        go_ret
        exact ⟨ret_bool (wordB_yes (by omega) (by omega) (by omega) k (by omega) HA.out).symm, rfl⟩
end Go.Proofs.YtfpbhedophlnkaaGreatDoor
