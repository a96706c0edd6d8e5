/-
  Contract of heldNodeS: over a row of marked nodes it answers the number behind the last mark. For every such row.
-/
import Derived.Test.YtdkiaahcmoafdaaMarkS
import Derived.Deep.RegionWith
namespace Go.Proofs.Ytdkiaahcmoafdaa
open Go.RowKit
set_option linter.unusedSimpArgs false
set_option linter.unusedVariables false

theorem markL_at : ∀ (l : List Nd) (k : Int) (j : Nat) (n : Nd), l[j]? = some n → (markL l k)[j]? = some (mkNd n (k + mlen (l.take j)))
  | [], _, j, n, h => by simp at h
  | m :: l, k, 0, n, h => by simp at h; subst h; simp [markL, mlen_nil]
  | m :: l, k, j + 1, n, h => by
    simp only [List.getElem?_cons_succ] at h
    simp only [markL, List.getElem?_cons_succ, List.take_succ_cons]
    rw [markL_at l _ j n h, mlen_cons]
    rw [show k + 6 + (m.cols.length : Int) + mlen (l.take j) = k + (6 + (m.cols.length : Int) + mlen (l.take j)) by omega]

set_option maxRecDepth 100000 in
set_option maxHeartbeats 4000000 in
theorem heldNodeS_any (ao : Option Addr) (c : Nat) (l : List Nd) (k : Int) (w : World) (h : RdN w ao (markL l k)) (hl : l.length ≤ 1048576) (h0 : 0 ≤ k) (hk : k + mlen l ≤ 1000000000) :
    Calls Try.prog 34 #[.slice ao l.length c, .int .i64 k] w fun e w' => e = .returned (.int .i64 (k + mlen l)) ∧ Below w.heap.size w w' := by
  have H := Lib.hid h; clear h
  have ml := mlen_pos l
  go_enter Try.func34, Try.ntmps34
  go_wp2_with fail
  go_loopw [1, 5] (fun q i wr => ∃ j : Nat, j ≤ l.length ∧ i = .int .i64 j ∧ q = .int .i64 (k + mlen (l.take j)) ∧ Below w.heap.size w wr) (fun _ i _ => l.length - (intOf i).toNat)
  case atStart => exact ⟨0, Nat.zero_le _, rfl, by simp [mlen_nil], Below.refl _ _⟩
  case round =>
    obtain ⟨j, hj, rfl, rfl, hb⟩ := hrel
    have HB := Lib.hid hb
    have m0 := mlen_pos (l.take j)
    have m1 := mlen_take_le l j
    by_cases hlt : j < l.length
    · have hn0 : l[j]? = some l[j] := List.getElem?_eq_getElem hlt
      generalize l[j] = n at hn0
      obtain ⟨b, off, x, a, c', rfl, hx, hat⟩ := (H.out.below hb).at_ (i := j) (by rw [markL_len]; exact hlt)
      rw [markL_at l k j n hn0] at hx
      cases hx
      have MT := Lib.hid (mlen_take hn0)
      have m2 : k + (mlen (l.take j) + 6 + n.cols.length) ≤ 1000000000 := by have := mlen_take_le l (j + 1); rw [MT.out] at this; omega
      clear hn0 hb
      generalize hkk : k + mlen (l.take j) = kk at hat ⊢
      have hk0 : 0 ≤ kk := by omega
      have hk1 : kk + 6 + n.cols.length ≤ 1000000000 := by omega
      have KK := Lib.hid hkk; clear hkk
      obtain ⟨c0, c1, c2, c3, c4, c5, c6, rd, cap, mx, nm⟩ := hat
      simp only [mkNd] at c0 c1 c2 c3 c4 c5 c6 rd
      rw [marksL_len] at c6
      have RD := Lib.hid rd; clear rd cap mx nm
      have q0 : (kk != kk) = false := by simp
      have q2 : (kk + 1 + 1 != kk + 1 + 1) = false := by simp
      have q3 : (kk + 1 + 1 + 1 != kk + 1 + 1 + 1) = false := by simp
      have q4 : (kk + 1 + 1 + 1 + 1 != kk + 1 + 1 + 1 + 1) = false := by simp
      have i1 : (j : Int) < (l.length : Int) := by omega
      go_wp2_with fail
      first | go_region_with (go_at_call 74; refine (markText_any (kk + 1) _ (by omega)).mono ?_; rintro e w1 ⟨rfl, b1⟩; have T1 := Lib.hid (below_step HB.out.drew (Nat.le_refl _) b1); have hq1 := fun o => b1.cell (p := ⟨b, o, none⟩) (show b < _ from World.block_lt_of_cell? wr ⟨b, off + j * 7, none⟩ c0); have D1 := Lib.hid b1; clear b1) | fail
      all_goals
        go_wp2_with fail
        refine (heldIntS_any a c' n.cols.length (kk + 1 + 1 + 1 + 1 + 1 + 1) _ ((show Rd wr.drew .i64 a _ from RD.out).below D1.out) (by omega) (by omega)).mono ?_
        rintro e w' ⟨rfl, rfl⟩
        go_wp2_with fail
        go_roundw
        case rel => exact ⟨j + 1, by omega, by go_num, by rw [MT.out]; have := KK.out; congr 1; omega, T1.out⟩
        case measure => simp [intOf]; omega
    · obtain rfl : j = l.length := by omega
      clear hb
      go_wp2_with fail
      go_ret
      exact ⟨ret_int (by rw [List.take_length]), HB.out⟩
end Go.Proofs.Ytdkiaahcmoafdaa
