/-
  Contracts of ColumnOf, of the model and of the program. For every slice of rows and every number.
-/
import Derived.Test.YtaaiedgmpgoonaaRowP
import Derived.Test.YtaaiedgmpgoonaaKids
import Derived.Test.YtaaiedgmpgoonaaSLess
namespace Go.Proofs.Ytaaiedgmpgoonaa
open Go.RowKit
set_option linter.unusedSimpArgs false
set_option linter.unusedVariables false

theorem colL_take_le (l : List (List Int)) (j col : Nat) : (colL (l.take j) col).length ≤ j := Nat.le_trans (colL_len _ _) (by simp; omega)

set_option maxRecDepth 100000 in
set_option maxHeartbeats 1600000 in
theorem specColumn_any (a : Option Addr) (c : Nat) (l : List (List Int)) (col : Int) (w : World) (h : RdR w a l) (hl : l.length ≤ 1048576) :
    Calls Try.prog 50 #[.slice a l.length c, .int .i64 col] w (Made w 3 .i64 (colO l col)) := by
  have H := Lib.hid h; clear h
  have O0 := Lib.hid (own_empty (w := w) (base := w.heap.size) (e := 3) (k := .i64) (Nat.le_refl _))
  have B0 := Lib.hid ((Below.refl w.heap.size w).alloc (Nat.le_refl _) (.cells #[] 3))
  by_cases hneg : col < 0
  · have E := Lib.hid (show colO l col = [] by simp [colO, hneg])
    go_enter Try.func50, Try.ntmps50
    go_wp2_with fail
    go_ret
    rw [E.out]
    exact ⟨none, 0, rfl, Own.none_, B0.out⟩
  · obtain ⟨n, rfl⟩ : ∃ n : Nat, col = n := ⟨col.toNat, by omega⟩
    have E := Lib.hid (show colO l n = colL l n by unfold colO; rw [if_neg hneg]; rfl)
    go_enter Try.func50, Try.ntmps50
    go_wp2_with fail
    go_loopw [5, 6] (fun s i wr => ∃ (j : Nat) (ao : Option Addr) (k cc : Nat), j ≤ l.length ∧ i = .int .i64 j ∧ s = .slice ao k cc ∧ k = (colL (l.take j) n).length ∧ Own wr w.heap.size 3 .i64 ao cc (colL (l.take j) n) ∧ Below w.heap.size w wr) (fun _ i _ => l.length - (intOf i).toNat)
    case atStart => exact ⟨0, _, _, _, Nat.zero_le _, rfl, rfl, by simp [colL], by simpa [colL] using O0.out, B0.out⟩
    case round =>
      clear O0 B0
      obtain ⟨j, ao, k, cc, hj, rfl, rfl, hk, ho, hb⟩ := hrel
      have HO := Lib.hid ho; have HB := Lib.hid hb; have HK := Lib.hid hk
      by_cases hlt : j < l.length
      · obtain ⟨b1, o1, x, a1, c1, rfl, hx, ⟨e0, rx, cx, mx⟩⟩ := (H.out.below hb).at_ hlt
        have RX := Lib.hid rx; have X := Lib.hid hx
        have kl := colL_take_le l j n
        clear hx rx cx mx ho hb hk
        by_cases hc : n < x.length
        · obtain ⟨b2, o2, z, rfl, hz, cz⟩ := RX.out.get hc
          have HS := Lib.hid (colL_take_some X.out hz)
          clear hz
          have i1 : (j : Int) < (l.length : Int) := by omega
          have i2 : (n : Int) < (x.length : Int) := by omega
          go_wp2_with (at_builtin; refine wpList_appendI _ rfl (.tmp 23) (.tmp 31) 32 rfl w.heap.size 3 Try.underlying32 Try.infoInt ao cc k (colL (l.take j) n) rfl HK.out (HO.out.alloc _) wr.heap.size 1 z rfl (cell_one _ _ _) (by omega) (by have := HB.out.size; simp; omega) ?_; intro ao2 c2 w2 o2 g2; have b2 := below_app HB.out HO.out g2; have O2 := Lib.hid o2; have B2 := Lib.hid b2; clear o2 g2 b2)
          go_roundw
          case rel => exact ⟨j + 1, ao2, _, c2, by omega, by go_num, rfl, by rw [HS.out]; simp, by rw [HS.out]; exact O2.out, B2.out⟩
          case measure => simp [intOf]; omega
        · have HS := Lib.hid (colL_take_none (col := n) X.out (by omega))
          have i1 : (j : Int) < (l.length : Int) := by omega
          have i2 : ¬ (n : Int) < (x.length : Int) := by omega
          go_wp2_with fail
          go_roundw
          case rel => exact ⟨j + 1, ao, k, cc, by omega, by go_num, rfl, by rw [HS.out]; exact HK.out, by rw [HS.out]; exact HO.out, HB.out⟩
          case measure => simp [intOf]; omega
      · obtain rfl : j = l.length := by omega
        clear ho hb hk
        go_wp2_with fail
        go_ret
        have hk := HK.out; have ho := HO.out
        rw [List.take_length] at hk ho
        rw [E.out]
        exact ⟨ao, cc, ret_slice hk, ho, HB.out⟩

set_option maxRecDepth 100000 in
set_option maxHeartbeats 1600000 in
theorem implColumn_any (a : Option Addr) (c : Nat) (l : List (List Int)) (col : Int) (w : World) (h : RdR w a l) (hl : l.length ≤ 1048576) :
    Calls Try.prog 51 #[.slice a l.length c, .int .i64 col] w (Made w 3 .i64 (colO l col)) := by
  have H := Lib.hid h; clear h
  by_cases hneg : col < 0
  · have E := Lib.hid (show colO l col = [] by simp [colO, hneg])
    go_enter Try.func51, Try.ntmps51
    go_wp2_with fail
    go_ret
    rw [E.out]
    exact ⟨none, 0, rfl, Own.none_, Below.refl _ _⟩
  · obtain ⟨n, rfl⟩ : ∃ n : Nat, col = n := ⟨col.toNat, by omega⟩
    have E := Lib.hid (show colO l n = colL l n by unfold colO; rw [if_neg hneg]; rfl)
    go_enter Try.func51, Try.ntmps51
    go_wp2_with fail
    go_loopw [5, 12] (fun s i wr => ∃ (j : Nat) (ao : Option Addr) (k cc : Nat), j ≤ l.length ∧ i = .int .i64 j ∧ s = .slice ao k cc ∧ k = (colL (l.take j) n).length ∧ Own wr w.heap.size 3 .i64 ao cc (colL (l.take j) n) ∧ Below w.heap.size w wr) (fun _ i _ => l.length - (intOf i).toNat)
    case atStart => exact ⟨0, _, _, _, Nat.zero_le _, rfl, rfl, by simp [colL], by simpa [colL] using Own.none_, Below.refl _ _⟩
    case round =>
      obtain ⟨j, ao, k, cc, hj, rfl, rfl, hk, ho, hb⟩ := hrel
      have HO := Lib.hid ho; have HB := Lib.hid hb; have HK := Lib.hid hk
      by_cases hlt : j < l.length
      · obtain ⟨b1, o1, x, a1, c1, rfl, hx, ⟨e0, rx, cx, mx⟩⟩ := (H.out.below hb).at_ hlt
        have RX := Lib.hid rx; have X := Lib.hid hx
        have kl := colL_take_le l j n
        clear hx rx cx mx ho hb hk
        by_cases hc : n < x.length
        · obtain ⟨b2, o2, z, rfl, hz, cz⟩ := RX.out.get hc
          have HS := Lib.hid (colL_take_some X.out hz)
          clear hz
          have i1 : (j : Int) < (l.length : Int) := by omega
          have i2 : (n : Int) < (x.length : Int) := by omega
          go_wp2_with (at_builtin; refine wpList_appendI _ rfl (.tmp 20) (.tmp 25) 32 rfl w.heap.size 3 Try.underlying32 Try.infoInt ao cc k (colL (l.take j) n) rfl HK.out (HO.out.alloc _) wr.heap.size 1 z rfl (cell_one _ _ _) (by omega) (by have := HB.out.size; simp; omega) ?_; intro ao2 c2 w2 o2 g2; have b2 := below_app HB.out HO.out g2; have O2 := Lib.hid o2; have B2 := Lib.hid b2; clear o2 g2 b2)
          go_roundw
          case rel => exact ⟨j + 1, ao2, _, c2, by omega, by go_num, rfl, by rw [HS.out]; simp, by rw [HS.out]; exact O2.out, B2.out⟩
          case measure => simp [intOf]; omega
        · have HS := Lib.hid (colL_take_none (col := n) X.out (by omega))
          have i1 : (j : Int) < (l.length : Int) := by omega
          have i2 : ¬ (n : Int) < (x.length : Int) := by omega
          go_wp2_with fail
          go_roundw
          case rel => exact ⟨j + 1, ao, k, cc, by omega, by go_num, rfl, by rw [HS.out]; exact HK.out, by rw [HS.out]; exact HO.out, HB.out⟩
          case measure => simp [intOf]; omega
      · obtain rfl : j = l.length := by omega
        clear ho hb hk
        go_wp2_with fail
        go_ret
        have hk := HK.out; have ho := HO.out
        rw [List.take_length] at hk ho
        rw [E.out]
        exact ⟨ao, cc, ret_slice hk, ho, HB.out⟩
end Go.Proofs.Ytaaiedgmpgoonaa
