/-
  Contracts of ColumnOf, of the model and of the program. For every slice of rows and every number. Small contracts for the wires' law: laws.big. For every slice of bytes. Contracts of laws.same and impl.CountSame where they leave the world as it is, but for what was drawn. For every slice.
-/
import Derived.Test.YtfpbhedophlnkaaGreatDoorJR17x
import Derived.Test.YtfpbhedophlnkaaGreatDoorJR38x
import Derived.Test.YtfpbhedophlnkaaGreatDoorJR18x
import Derived.Test.YtfpbhedophlnkaaGreatDoorJR20x
import Derived.Test.YtfpbhedophlnkaaGreatDoorJR29x
import Derived.BigQuiet
namespace Go.Proofs.YtfpbhedophlnkaaGreatDoor
open Go.RowKit
set_option linter.unusedSimpArgs false
set_option linter.unusedVariables false

theorem colL_take_le (l : List (List Int)) (j col : Nat) : (colL (l.take j) col).length ≤ j := Nat.le_trans (colL_len _ _) (by simp; omega)

set_option maxRecDepth 100000 in
set_option maxHeartbeats 1600000 in
theorem implColumn_any (a : Option Addr) (c : Nat) (l : List (List Int)) (col : Int) (w : World) (h : RdR w a l) (hl : l.length ≤ 1048576) :
    Calls Tryz.prog 34 #[.slice a l.length c, .int .i64 col] w (Made w 3 .i64 (colO l col)) := by
  have H := Lib.hid h; clear h
  by_cases hneg : col < 0
  · have E := Lib.hid (show colO l col = [] by simp [colO, hneg])
    go_enter Tryz.func34, Tryz.ntmps34
    go_wp2_with fail
    go_ret
    rw [E.out]
    exact ⟨none, 0, rfl, Own.none_, Below.refl _ _⟩
  · obtain ⟨n, rfl⟩ : ∃ n : Nat, col = n := ⟨col.toNat, by omega⟩
    have E := Lib.hid (show colO l n = colL l n by unfold colO; rw [if_neg hneg]; rfl)
    go_enter Tryz.func34, Tryz.ntmps34
    go_wp2_with fail
    go_loopw [5, 12] (fun s i wr => ∃ (j : Nat) (ao : Option Addr) (k cc : Nat), j ≤ l.length ∧ i = .int .i64 j ∧ s = .slice ao k cc ∧ k = (colL (l.take j) n).length ∧ Own wr w.heap.size 3 .i64 ao cc (colL (l.take j) n) ∧ Below w.heap.size w wr) (fun _ i _ => l.length - (intOf i).toNat)
    case atStart => exact ⟨0, _, _, _, Nat.zero_le _, rfl, rfl, by simp [colL], by simpa [colL] using Own.none_, Below.refl _ _⟩
    case round =>
      obtain ⟨j, ao, k, cc, hj, rfl, rfl, hk, ho, hb⟩ := hrel
      have HO := Lib.hid ho; have HB := Lib.hid hb; have HK := Lib.hid hk
      by_cases hlt : j < l.length
      · obtain ⟨b1, o1, x, a1, c1, rfl, hx, ⟨e0, rx, cx, mx⟩⟩ := (H.out.below hb).at_ hlt
        have RX := Lib.hid rx; have X := Lib.hid hx
        have kl := colL_take_le l j n
        clear hx rx cx mx ho hb hk
        by_cases hc : n < x.length
        · obtain ⟨b2, o2, z, rfl, hz, cz⟩ := RX.out.get hc
          have HS := Lib.hid (colL_take_some X.out hz)
          clear hz
          have i1 : (j : Int) < (l.length : Int) := by omega
          have i2 : (n : Int) < (x.length : Int) := by omega
          go_wp2_with (at_builtin; refine wpList_appendI _ rfl (.tmp 20) (.tmp 25) 47 rfl w.heap.size 3 Tryz.underlying47 Tryz.infoInt ao cc k (colL (l.take j) n) rfl HK.out (HO.out.alloc _) wr.heap.size 1 z rfl (cell_one _ _ _) (by omega) (by have := HB.out.size; simp; omega) ?_; intro ao2 c2 w2 o2 g2; have b2 := below_app HB.out HO.out g2; have O2 := Lib.hid o2; have B2 := Lib.hid b2; clear o2 g2 b2)
          go_roundw
          case rel => exact ⟨j + 1, ao2, _, c2, by omega, by go_num, rfl, by rw [HS.out]; simp, by rw [HS.out]; exact O2.out, B2.out⟩
          case measure => simp [intOf]; omega
        · have HS := Lib.hid (colL_take_none (col := n) X.out (by omega))
          have i1 : (j : Int) < (l.length : Int) := by omega
          have i2 : ¬ (n : Int) < (x.length : Int) := by omega
          go_wp2_with fail
          go_roundw
          case rel => exact ⟨j + 1, ao, k, cc, by omega, by go_num, rfl, by rw [HS.out]; exact HK.out, by rw [HS.out]; exact HO.out, HB.out⟩
          case measure => simp [intOf]; omega
      · obtain rfl : j = l.length := by omega
        clear ho hb hk
        go_wp2_with fail
        go_ret
        have hk := HK.out; have ho := HO.out
        rw [List.take_length] at hk ho
        rw [E.out]
        exact ⟨ao, cc, ret_slice hk, ho, HB.out⟩
end Go.Proofs.YtfpbhedophlnkaaGreatDoor
namespace Go.Proofs.YtfpbhedophlnkaaGreatDoor
open Go.RowKit
set_option linter.unusedSimpArgs false
set_option linter.unusedVariables false
set_option maxRecDepth 100000 in
theorem big_t (a : Option Addr) (n c : Nat) (w : World) (h : 1048576 < n) (hn : n ≤ maxLen) : Calls Tryz.prog 11 #[.slice a n c] w fun e w' => e = .returned (.bool true) ∧ w = w' := by
  unfold maxLen at hn
  have h' : decide ((1048576 : Int) < n) = true := by simp; omega
  go_enter Tryz.func11, Tryz.ntmps11
  go_wp2
  go_ret
  exact ⟨rfl, rfl⟩
set_option maxRecDepth 100000 in
theorem big_f (a : Option Addr) (n c : Nat) (w : World) (h : ¬ 1048576 < n) : Calls Tryz.prog 11 #[.slice a n c] w fun e w' => e = .returned (.bool false) ∧ w = w' := by
  have h' : decide ((1048576 : Int) < n) = false := by simp; omega
  go_enter Tryz.func11, Tryz.ntmps11
  go_wp2
  go_ret
  exact ⟨rfl, rfl⟩
end Go.Proofs.YtfpbhedophlnkaaGreatDoor
namespace Go.Proofs.YtfpbhedophlnkaaGreatDoor
open Go.RowKit
set_option linter.unusedSimpArgs false
set_option linter.unusedVariables false

set_option maxHeartbeats 800000 in
theorem same_q (a b : Option Addr) (c d : Nat) (l m : List Int) (w : World) (h : Rd w .i64 a l) (k : Rd w .i64 b m) (hn : l.length ≤ maxLen) (hm : m.length ≤ maxLen) :
    Calls Tryz.prog 31 #[.slice a l.length c, .slice b m.length d] w fun e w' => e = .returned (.bool (eqL l m)) ∧ ∃ q, w' = w.drewN q := by
  unfold maxLen at hn hm
  by_cases hlen : l.length = m.length
  · have hne : ((l.length : Int) != (m.length : Int)) = false := by simp [hlen]
    have HL := Lib.hid hlen; clear hlen
    rcases h with rfl | ⟨b1, o1, rfl, hc⟩
    · have hm0 : m = [] := List.eq_nil_of_length_eq_zero HL.out.symm
      subst hm0
      clear hne
      go_enter Tryz.func31, Tryz.ntmps31
      go_wp2
      refine wp_loop_rounds 1 ?_; rw [rounds_succ]; go_wp2
      go_ret
      exact ⟨rfl, 0, rfl⟩
    · rcases k with rfl | ⟨b2, o2, rfl, kc⟩
      · have hl0 : l = [] := List.eq_nil_of_length_eq_zero HL.out
        subst hl0
        clear hne hc
        go_enter Tryz.func31, Tryz.ntmps31
        go_wp2
        refine wp_loop_rounds 1 ?_; rw [rounds_succ]; go_wp2
        go_ret
        exact ⟨rfl, 0, rfl⟩
      · have HC := Lib.hid hc; have KC := Lib.hid kc; clear hc kc
        go_enter Tryz.func31, Tryz.ntmps31
        go_wp2
        go_loopw [5] (fun i wr => ∃ j q : Nat, j ≤ l.length ∧ i = .int .i64 j ∧ l.take j = m.take j ∧ wr = w.drewN q) (fun i _ => l.length - (intOf i).toNat)
        case atStart => exact ⟨0, 0, Nat.zero_le _, rfl, rfl, rfl⟩
        case round =>
          obtain ⟨j, q, hj, rfl, ht, rfl⟩ := hrel
          have HT := Lib.hid ht; clear ht
          by_cases hlt : j < l.length
          · have hlt2 : j < m.length := by have := HL.out; omega
            obtain ⟨x, _, hx, hcx, htx⟩ := Rd.at_ HC.out hlt
            obtain ⟨y, _, hy, hcy, hty⟩ := Rd.at_ KC.out hlt2
            have X := Lib.hid hx; have Y := Lib.hid hy; have TX := Lib.hid htx; have TY := Lib.hid hty
            clear hx hy htx hty
            have i1 : (j : Int) < (l.length : Int) := by omega
            have i2 : (j : Int) < (m.length : Int) := by omega
            by_cases hxy : x = y
            · subst hxy
              have hb : (x != x) = false := by simp
              go_wp2
              go_quiet (fail)
              go_wp2
              go_roundw
              case rel => exact ⟨j + 1, _, by omega, by go_num, by rw [TX.out, TY.out, HT.out], by first | rfl | rw [World.drewN_drewN]⟩
              case measure => simp [intOf]; omega
            · have hb : (x != y) = true := by simp [hxy]
              have HF := Lib.hid (eqL_no hxy X.out Y.out)
              clear hxy
              go_wp2
              go_quiet (fail)
              go_wp2
              go_ret
              exact ⟨ret_bool HF.out.symm, _, by first | rfl | rw [World.drewN_drewN] | (rw [World.drewN_drewN, World.drewN_drewN])⟩
          · go_wp2
            go_ret
            exact ⟨ret_bool (eqL_yes HL.out (by omega) HT.out).symm, _, rfl⟩
  · have hne : ((l.length : Int) != (m.length : Int)) = true := by simp; omega
    have HF : Hid (eqL l m = false) := by
      show eqL l m = false
      unfold eqL; simp; rintro rfl; exact hlen rfl
    go_enter Tryz.func31, Tryz.ntmps31
    go_wp2
    go_ret
    exact ⟨ret_bool HF.out.symm, 0, rfl⟩

theorem libEqual_q (a b : Option Addr) (c d : Nat) (l m : List Int) (w : World) (h : Rd w .i64 a l) (k : Rd w .i64 b m) (hn : l.length ≤ maxLen) (hm : m.length ≤ maxLen) :
    Calls Tryz.prog 185 #[.slice a l.length c, .slice b m.length d] w fun e w' => e = .returned (.bool (eqL l m)) ∧ ∃ q, w' = w.drewN q := by
  have hn' : l.length ≤ 9223372036854775807 := by unfold maxLen at hn; omega
  have hm' : m.length ≤ 9223372036854775807 := by unfold maxLen at hm; omega
  by_cases hlen : l.length = m.length
  · rcases h with rfl | ⟨b1, o1, rfl, hc⟩
    · have hm0 : m = [] := List.eq_nil_of_length_eq_zero hlen.symm
      subst hm0
      exact (Any.slices_Equal_int_empty Tryz.lays111 a b c 0 d w (by omega)).mono fun e w' ⟨he, hw⟩ => ⟨by rw [he]; rfl, 0, hw⟩
    · rcases k with rfl | ⟨b2, o2, rfl, kc⟩
      · have hl0 : l = [] := List.eq_nil_of_length_eq_zero hlen
        subst hl0
        exact (Any.slices_Equal_int_empty Tryz.lays111 _ b c 0 d w (by omega)).mono fun e w' ⟨he, hw⟩ => ⟨by rw [he]; rfl, 0, hw⟩
      · refine (Any.slices_Equal_int Tryz.lays111 b1 o1 l.length c b2 o2 m.length d l m w (Nat.le_refl _) (Nat.le_refl _) hn' hm' hc kc).mono fun e w' ⟨he, q, hw⟩ => ⟨?_, ?_⟩
        · rw [he, List.take_length, List.take_length]; exact ret_bool (by unfold eqL; rw [Bool.eq_iff_iff]; simp)
        · exact ⟨q, hw⟩
  · refine (Any.slices_Equal_int_lens Tryz.lays111 a b l.length c m.length d w hlen).mono fun e w' ⟨he, hw⟩ => ⟨?_, 0, hw⟩
    rw [he]; exact ret_bool (by symm; unfold eqL; simp; rintro rfl; exact hlen rfl)

theorem sameRow_q (a b : Option Addr) (c d : Nat) (l m : List Int) (w : World) (h : Rd w .i64 a l) (k : Rd w .i64 b m) (hn : l.length ≤ maxLen) (hm : m.length ≤ maxLen) :
    Calls Tryz.prog 106 #[.slice a l.length c, .slice b m.length d] w fun e w' => e = .returned (.bool (eqL l m)) ∧ ∃ q, w' = w.drewN q := by
  have H := Lib.hid h; clear h
  have K := Lib.hid k; clear k
  go_enter Tryz.func106, Tryz.ntmps106
  go_wp2_with fail
  refine (libEqual_q a b c d l m _ H.out K.out hn hm).mono ?_
  rintro e w1 ⟨rfl, q, rfl⟩
  go_wp2_with fail
  go_ret
  exact ⟨rfl, q, rfl⟩
theorem RdR.drewN {w : World} {ao : Option Addr} {l : List (List Int)} (h : RdR w ao l) (q : Nat) : RdR (w.drewN q) ao l := h.below (below_drewN (Below.refl _ _) q)
set_option maxRecDepth 100000 in
set_option maxHeartbeats 1600000 in
theorem countSame_q (a b : Option Addr) (c d : Nat) (l : List (List Int)) (r : List Int) (w : World) (h : RdR w a l) (k : Rd w .i64 b r) (hn : l.length ≤ 1048576) (hm : r.length ≤ maxLen) :
    Calls Tryz.prog 32 #[.slice a l.length c, .slice b r.length d] w fun e w' => e = .returned (.int .i64 (countL l r)) ∧ ∃ q, w' = w.drewN q := by
  have H := Lib.hid h; clear h
  have K := Lib.hid k; clear k
  go_enter Tryz.func32, Tryz.ntmps32
  go_wp2_with fail
  go_loopw [5, 10] (fun q i wr => ∃ j p : Nat, j ≤ l.length ∧ i = .int .i64 j ∧ q = .int .i64 (countL (l.take j) r) ∧ wr = w.drewN p) (fun _ i _ => l.length - (intOf i).toNat)
  case atStart => exact ⟨0, 0, Nat.zero_le _, rfl, rfl, rfl⟩
  case round =>
    obtain ⟨j, p, hj, rfl, rfl, rfl⟩ := hrel
    have q0 := countL_take_le l j r
    by_cases hlt : j < l.length
    · obtain ⟨b1, o1, x, a1, c1, rfl, hx, ⟨e0, rx, cx, mx⟩⟩ := (H.out.drewN p).at_ hlt
      have X := Lib.hid hx; have RX := Lib.hid rx
      have RK := Lib.hid (K.out.drewN p)
      have CT := Lib.hid (countL_take (r := r) hx)
      have lx := Nat.le_trans cx mx
      clear hx rx cx mx
      cases hxy : eqL x r with
      | true =>
        have Q := Lib.hid hxy; clear hxy
        go_wp2_with fail
        refine (sameRow_q a1 b c1 d x r _ RX.out RK.out lx hm).mono ?_
        rintro e w1 ⟨rfl, q, rfl⟩
        rw [Q.out]
        go_wp2_with fail
        go_roundw
        case rel => exact ⟨j + 1, _, by omega, by go_num, by rw [CT.out, Q.out]; simp, by first | rfl | rw [World.drewN_drewN]⟩
        case measure => simp [intOf]; omega
      | false =>
        have Q := Lib.hid hxy; clear hxy
        go_wp2_with fail
        refine (sameRow_q a1 b c1 d x r _ RX.out RK.out lx hm).mono ?_
        rintro e w1 ⟨rfl, q, rfl⟩
        rw [Q.out]
        go_wp2_with fail
        go_roundw
        case rel => exact ⟨j + 1, _, by omega, by go_num, by rw [CT.out, Q.out]; simp, by first | rfl | rw [World.drewN_drewN]⟩
        case measure => simp [intOf]; omega
    · have e : countL (l.take j) r = countL l r := by rw [List.take_of_length_le (by omega)]
      go_wp2_with fail
      go_ret
      exact ⟨by rw [e]; rfl, p, rfl⟩
end Go.Proofs.YtfpbhedophlnkaaGreatDoor
