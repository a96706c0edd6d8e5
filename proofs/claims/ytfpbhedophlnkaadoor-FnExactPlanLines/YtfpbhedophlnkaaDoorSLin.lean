/-
  Contract of spec.PlanLines. For every slice of nodes.
-/
import Derived.Test.YtfpbhedophlnkaaDoorKN
import Derived.Test.YtfpbhedophlnkaaDoorKP
import Derived.Test.YtfpbhedophlnkaaDoorSPlan
namespace Go.Proofs.YtfpbhedophlnkaaDoor
open Go.RowKit
set_option linter.unusedSimpArgs false
set_option linter.unusedVariables false

theorem en10_none {p : List Nd} {i : Nat} (h : endN p 10 i = none) : en10 p i = 0 := by unfold en10; rw [h]
theorem en10_some {p : List Nd} {i e d : Nat} (h : endN p 10 i = some (e, d)) : en10 p i = e := by unfold en10; rw [h]
theorem cntE_yes {p : List Nd} {k i : Nat} (h : k < en10 p i) : cntE p k 0 (i + 1) = cntE p k 0 i + 1 := by
  show cntE p k 0 i + (if k < en10 p (0 + i) then 1 else 0) = _
  rw [Nat.zero_add, if_pos h]
theorem cntE_no {p : List Nd} {k i : Nat} (h : ¬ k < en10 p i) : cntE p k 0 (i + 1) = cntE p k 0 i := by
  show cntE p k 0 i + (if k < en10 p (0 + i) then 1 else 0) = _
  rw [Nat.zero_add, if_neg h]; rfl
set_option maxRecDepth 100000 in
set_option maxHeartbeats 1600000 in
theorem above_any (ao : Option Addr) (c : Nat) (p : List Nd) (hp : p.length ≤ 1048576) (k : Nat) (hk : k ≤ 40) (w : World) (h : RdN w ao p) :
    Calls Tryd.prog 32 #[.slice ao p.length c, .int .i64 k] w fun e w' => e = .returned (.int .i64 (aboveN p k)) ∧ w = w' := by
  have H := Lib.hid h
  have SE := Lib.hid (fun (i : Nat) (hi : i ≤ 40) => specEnd_any ao c p hp 10 i 10 w h (by omega) (by omega) (by omega) (by omega) (by omega))
  clear h
  go_enter Tryd.func32, Tryd.ntmps32
  go_wp2_with fail
  go_loopw [5, 6] (fun n i wr => ∃ j : Nat, j ≤ k ∧ i = .int .i64 j ∧ n = .int .i64 (cntE p k 0 j) ∧ w = wr) (fun _ i _ => k - (intOf i).toNat)
  case atStart => exact ⟨0, Nat.zero_le _, rfl, rfl, rfl⟩
  case round =>
    obtain ⟨j, hj, rfl, rfl, rfl⟩ := hrel
    by_cases hlt : j < k
    · have i1 : (j : Int) < (k : Int) := by omega
      have SJ := Lib.hid (SE.out j (by omega))
      have hcle := cntE_le p k 0 j
      rw [Int.toNat_natCast] at SJ
      cases hx : endN p 10 j with
      | none =>
        have CN := Lib.hid (cntE_no (k := k) (show ¬ k < en10 p j by rw [en10_none hx]; omega))
        rw [hx] at SJ
        clear hx
        go_wp2_with fail
        refine SJ.out.mono ?_
        rintro e w' ⟨rfl, rfl⟩
        simp only [endV]
        go_wp2_with fail
        go_roundw
        case rel => exact ⟨j + 1, by omega, by go_num, by rw [CN.out], trivial⟩
        case measure => simp [intOf]; omega
      | some x =>
        obtain ⟨e1, d1⟩ := x
        have EE := Lib.hid (en10_some hx)
        rw [hx] at SJ
        clear hx
        by_cases hgt : k < e1
        · have CN := Lib.hid (cntE_yes (k := k) (show k < en10 p j by rw [EE.out]; exact hgt))
          have g1 : (k : Int) < (e1 : Int) := by omega
          go_wp2_with fail
          refine SJ.out.mono ?_
          rintro e w' ⟨rfl, rfl⟩
          simp only [endV]
          go_wp2_with fail
          go_roundw
          case rel => exact ⟨j + 1, by omega, by go_num, by rw [CN.out]; go_num, trivial⟩
          case measure => simp [intOf]; omega
        · have CN := Lib.hid (cntE_no (k := k) (show ¬ k < en10 p j by rw [EE.out]; exact hgt))
          have g1 : (e1 : Int) ≤ (k : Int) := by omega
          go_wp2_with fail
          refine SJ.out.mono ?_
          rintro e w' ⟨rfl, rfl⟩
          simp only [endV]
          go_wp2_with fail
          go_roundw
          case rel => exact ⟨j + 1, by omega, by go_num, by rw [CN.out], trivial⟩
          case measure => simp [intOf]; omega
    · obtain rfl : j = k := by omega
      go_wp2_with fail
      go_ret
      exact ⟨rfl, rfl⟩
theorem size_of_list {X : ByteArray} {l : List UInt8} (h : X.data.toList = l) : X.size = l.length := by
  rw [← h, Array.length_toList]; rfl
set_option maxRecDepth 100000 in
set_option maxHeartbeats 3200000 in
theorem specPlanLines_any (ao : Option Addr) (c : Nat) (p : List Nd) (w : World) (h : RdN w ao p) (hp : p.length ≤ 1048576) :
    Calls Tryd.prog 16 #[.slice ao p.length c] w fun e w' => e = .returned (.string (linO p)) ∧ Below w.heap.size w w' := by
  have H := Lib.hid h; clear h
  have PO := Lib.hid (fun w h => specPlanOk_any ao c p w h hp)
  cases hg : planB p with
  | false =>
    rw [linO_no hg]
    rw [hg] at PO
    clear hg
    go_enter Tryd.func16, Tryd.ntmps16
    go_wp2_with fail
    refine (PO.out _ H.out).mono ?_
    rintro e w1 ⟨rfl, b1⟩
    go_wp2_with fail
    go_ret
    exact ⟨rfl, b1⟩
  | true =>
    rw [hg] at PO
    have hl40 := planB_40 hg
    have HG := Lib.hid (planB_nodes hg)
    have E := Lib.hid (linO_yes hg)
    have AB := Lib.hid (fun (k : Nat) (hk : k ≤ 40) w h => above_any ao c p hp k hk w h)
    clear hg
    go_enter Tryd.func16, Tryd.ntmps16
    go_wp2_with fail
    refine (PO.out _ H.out).mono ?_
    rintro e w1 ⟨rfl, b1⟩
    have B1 := Lib.hid b1; clear b1
    go_wp2_with fail
    go_loopw [3, 4] (fun s i wr => ∃ (j : Nat) (X : ByteArray), j ≤ p.length ∧ i = .int .i64 j ∧ s = .string X ∧ X.data.toList = linsT p j ∧ Below w.heap.size w wr) (fun _ i _ => p.length - (intOf i).toNat)
    case atStart => exact ⟨0, _, Nat.zero_le _, rfl, rfl, rfl, B1.out⟩
    case round =>
      obtain ⟨j, X, hj, rfl, rfl, hX, hb⟩ := hrel
      have hxs : X.size ≤ 10280 := by
        rw [size_of_list hX]
        have := linsT_len HG.out hl40 j (by omega)
        omega
      have HX := Lib.hid hX; have HB := Lib.hid hb; clear hX hb
      by_cases hlt : j < p.length
      · obtain ⟨b, off, n, a, c', rfl, hn, hat⟩ := (H.out.below HB.out).at_ hlt
        have hnb := HG.out n (List.mem_of_getElem? hn)
        have LT := Lib.hid (show linsT p (j + 1) = linsT p j ++ (padL (aboveN p j) ++ ndT n ++ [10]) by rw [linsT_succ, lineAt_some hn]; rfl)
        have HO := Lib.hid (ndO_list hnb)
        have hns := ndO_size n
        have hab := aboveN_le p j
        obtain ⟨c0, c1, c2', c3', c4, c5, c6, rd, cap, mx, nm⟩ := hat
        have RD := Lib.hid rd
        have cl := Nat.le_trans cap mx
        have ABJ := Lib.hid (AB.out j (by omega) wr (H.out.below HB.out))
        clear rd cap mx hnb hn
        have PN := Lib.hid (fun w h => specNodeText_any n a c' w h cl nm)
        generalize ndO n = R at PN HO hns
        generalize aboveN p j = dd at ABJ LT hab
        have i1 : (j : Int) < (p.length : Int) := by omega
        go_wp2_with fail
        refine ABJ.out.mono ?_
        rintro e w' ⟨rfl, rfl⟩
        go_wp2_with fail
        go_loopw [3, 5] (fun s i wx => ∃ (t : Nat) (Y : ByteArray), t ≤ dd ∧ i = .int .i64 t ∧ s = .string Y ∧ Y.data.toList = linsT p j ++ padL (dd - t) ∧ wr = wx) (fun _ i _ => (intOf i).toNat)
        case atStart => exact ⟨dd, X, Nat.le_refl _, rfl, rfl, by rw [Nat.sub_self, HX.out]; simp [padL], rfl⟩
        case round =>
          obtain ⟨t, Y, ht, rfl, rfl, hY, rfl⟩ := hrel
          have hys : Y.size ≤ 10380 := by
            rw [size_of_list hY, List.length_append, padL_len, ← HX.out, ← size_of_list rfl]
            omega
          have HY := Lib.hid hY; clear hY
          by_cases h0 : t = 0
          · subst h0
            have e1 : ¬ (9223372036854775807 < Y.size + R.size) := by omega
            have e2 : ¬ (9223372036854775807 < Y.size + R.size + 1) := by omega
            go_wp2_with fail
            refine (PN.out _ RD.out).mono ?_
            rintro e w4 ⟨rfl, b4⟩
            have B4 := Lib.hid (below_step HB.out (Nat.le_refl _) b4)
            clear b4 c0 c1 c2' c3' c4 c5 c6
            go_wp2_with fail
            go_roundw
            case rel => exact ⟨j + 1, _, by omega, by go_num, rfl, by rw [LT.out]; simp only [ByteArray.data_append, Array.toList_append, HY.out, HO.out, Nat.sub_zero, List.append_assoc], B4.out⟩
            case measure => simp [intOf]; omega
          · have t1 : (0 : Int) < (t : Int) := by omega
            have e1 : ¬ (9223372036854775807 < Y.size + 2) := by omega
            go_wp2_with fail
            go_roundw
            case rel => exact ⟨t - 1, _, by omega, by go_num, rfl, by rw [ByteArray.data_append, Array.toList_append, HY.out, show dd - (t - 1) = (dd - t) + 1 by omega]; simp [padL], trivial⟩
            case measure => simp [intOf]; omega
      · obtain rfl : j = p.length := by omega
        have XE : Hid (X = linO p) := by
          show _ = _
          rw [E.out]; refine bx ?_
          exact HX.out
        clear HX
        go_wp2_with fail
        go_ret
        exact ⟨ret_strN XE.out, HB.out⟩
end Go.Proofs.YtfpbhedophlnkaaDoor
