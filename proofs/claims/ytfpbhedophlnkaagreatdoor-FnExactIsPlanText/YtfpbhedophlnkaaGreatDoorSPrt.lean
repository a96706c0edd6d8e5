/-
  Contract of spec.PrintPlan. For every slice of nodes.
-/
import Derived.Test.YtfpbhedophlnkaaGreatDoorKN
import Derived.Test.YtfpbhedophlnkaaGreatDoorKX
import Derived.Test.YtfpbhedophlnkaaGreatDoorSPlan
namespace Go.Proofs.YtfpbhedophlnkaaGreatDoor
open Go.RowKit
set_option linter.unusedSimpArgs false
set_option linter.unusedVariables false

set_option maxRecDepth 100000 in
set_option maxHeartbeats 1600000 in
theorem specPrintPlan_any (ao : Option Addr) (c : Nat) (p : List Nd) (w : World) (h : RdN w ao p) (hp : p.length ≤ 1048576) :
    Calls Tryz.prog 49 #[.slice ao p.length c] w fun e w' => e = .returned (.string (planO p)) ∧ Below w.heap.size w w' := by
  have H := Lib.hid h; clear h
  have PO := Lib.hid (fun w h => specPlanOk_any ao c p w h hp)
  cases hg : planB p with
  | false =>
    rw [planO_no hg]
    rw [hg] at PO
    clear hg
    go_enter Tryz.func49, Tryz.ntmps49
    go_wp2_with fail
    refine (PO.out _ H.out).mono ?_
    rintro e w1 ⟨rfl, b1⟩
    go_wp2_with fail
    go_ret
    exact ⟨rfl, b1⟩
  | true =>
    rw [hg] at PO
    have hl40 := planB_40 hg
    have HG := Lib.hid (planB_nodes hg)
    have E := Lib.hid (planO_yes hg)
    clear hg
    go_enter Tryz.func49, Tryz.ntmps49
    go_wp2_with fail
    refine (PO.out _ H.out).mono ?_
    rintro e w1 ⟨rfl, b1⟩
    have B1 := Lib.hid b1; clear b1
    go_wp2_with fail
    go_loopw [3, 4] (fun s i wr => ∃ (j : Nat) (X : ByteArray), j ≤ p.length ∧ i = .int .i64 j ∧ s = .string X ∧ X.data.toList = joinB 32 ((p.take j).map ndT) ∧ Below w.heap.size w wr) (fun _ i _ => p.length - (intOf i).toNat)
    case atStart => exact ⟨0, _, Nat.zero_le _, rfl, rfl, rfl, B1.out⟩
    case round =>
      obtain ⟨j, X, hj, rfl, rfl, hX, hb⟩ := hrel
      have hxs : X.size ≤ 7080 := by
        have h1 : X.data.toList.length = X.size := by rw [Array.length_toList]; rfl
        have h2 := planT_len (p := p.take j) (fun n hn => HG.out n (List.mem_of_mem_take hn))
        have h3 : (p.take j).length ≤ 40 := by simp; omega
        rw [← h1, hX]; omega
      have HX := Lib.hid hX; have HB := Lib.hid hb; clear hX hb
      by_cases hlt : j < p.length
      · obtain ⟨b, off, n, a, c', rfl, hn, hat⟩ := (H.out.below HB.out).at_ hlt
        have hnb := HG.out n (List.mem_of_getElem? hn)
        have JT := Lib.hid (joinB_take 32 ndT hn)
        have HO := Lib.hid (ndO_list hnb)
        have hns := ndO_size n
        obtain ⟨c0, c1, c2', c3', c4, c5, c6, rd, cap, mx, nm⟩ := hat
        have RD := Lib.hid rd
        have cl := Nat.le_trans cap mx
        clear rd cap mx hnb hn
        have PN := Lib.hid (fun w h => specNodeText_any n a c' w h cl nm)
        generalize ndO n = R at PN HO hns
        have i1 : (j : Int) < (p.length : Int) := by omega
        by_cases h0 : j = 0
        · have Z := Lib.hid h0
          have j0 : ¬ (0 : Int) < (j : Int) := by omega
          have e1 : ¬ (9223372036854775807 < X.size + R.size) := by omega
          clear h0
          go_wp2_with fail
          refine (PN.out _ RD.out).mono ?_
          rintro e w4 ⟨rfl, b4⟩
          have B4 := Lib.hid (below_step HB.out (Nat.le_refl _) b4)
          clear b4 c0 c1 c2' c3' c4 c5 c6
          go_wp2_with fail
          go_roundw
          case rel => exact ⟨j + 1, _, by omega, by go_num, rfl, by rw [JT.out, if_pos Z.out]; have := HX.out; rw [Z.out] at this; simp [joinB] at this; simp [ByteArray.data_append, this, HO.out], B4.out⟩
          case measure => simp [intOf]; omega
        · have Z := Lib.hid h0
          have j0 : (0 : Int) < (j : Int) := by omega
          have e0 : ¬ (9223372036854775807 < X.size + 1) := by omega
          have e1 : ¬ (9223372036854775807 < X.size + 1 + R.size) := by omega
          clear h0
          go_wp2_with fail
          refine (PN.out _ RD.out).mono ?_
          rintro e w4 ⟨rfl, b4⟩
          have B4 := Lib.hid (below_step HB.out (Nat.le_refl _) b4)
          clear b4 c0 c1 c2' c3' c4 c5 c6
          go_wp2_with fail
          go_roundw
          case rel => exact ⟨j + 1, _, by omega, by go_num, rfl, by rw [JT.out, if_neg Z.out, ← HX.out]; simp [ByteArray.data_append, HO.out], B4.out⟩
          case measure => simp [intOf]; omega
      · obtain rfl : j = p.length := by omega
        have XE : Hid (X = planO p) := by
          show _ = _
          rw [E.out]; refine bx ?_
          have := HX.out; rw [List.take_length] at this; exact this
        clear HX
        go_wp2_with fail
        go_ret
        exact ⟨ret_strN XE.out, HB.out⟩
end Go.Proofs.YtfpbhedophlnkaaGreatDoor
