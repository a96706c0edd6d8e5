/-
  Contracts of spec.l04Value and spec.StoreOk. For every slice of tables and every slice of lists of rows.
-/
import Derived.Test.YtaaiedgmpgoonaaStoP
import Derived.Test.YtaaiedgmpgoonaaSSch
import Derived.Test.YtaaiedgmpgoonaaSNode0
import Derived.Test.YtaaiedgmpgoonaaSLess
import Derived.Deep.RegionWith
namespace Go.Proofs.Ytaaiedgmpgoonaa
open Go.RowKit
set_option linter.unusedSimpArgs false
set_option linter.unusedVariables false

theorem numB_I (x : Int) : numB x = numI x := by unfold numB numI; simp
theorem l04Value_any (x : Int) (w : World) : Calls Try.prog 73 #[.int .i64 x] w fun e w' => e = .returned (.bool (valB x)) ∧ w = w' := by
  cases hn : numB x with
  | true =>
    have E := Lib.hid (show valB x = true by simp [valB, ← numB_I, hn])
    have N := Lib.hid hn; clear hn
    go_enter Try.func73, Try.ntmps73
    go_wp2_with fail
    refine (l01Number_any _ _).mono ?_
    rintro e w' ⟨rfl, rfl⟩
    rw [N.out]
    go_wp2_with fail
    go_ret
    exact ⟨ret_bool E.out.symm, rfl⟩
  | false =>
    have E := Lib.hid (show valB x = (x == -2000000) by simp [valB, ← numB_I, hn])
    have N := Lib.hid hn; clear hn
    go_enter Try.func73, Try.ntmps73
    go_wp2_with fail
    refine (l01Number_any _ _).mono ?_
    rintro e w' ⟨rfl, rfl⟩
    rw [N.out]
    go_wp2_with fail
    go_ret
    exact ⟨ret_bool E.out.symm, rfl⟩

theorem RdRR.drewN {w : World} {ao : Option Addr} {l : List (List (List Int))} (h : RdRR w ao l) (q : Nat) : RdRR (w.drewN q) ao l := h.below (below_drewN (Below.refl _ _) q)

set_option maxRecDepth 100000 in
set_option maxHeartbeats 4000000 in
theorem specStoreOk_any (a b : Option Addr) (c d : Nat) (s : List Tb) (l : List (List (List Int))) (w : World) (h : RdT w a s) (k : RdRR w b l) (hs : s.length ≤ 1048576) (hl : l.length ≤ 1048576) (hc : ∀ x ∈ l, x.length ≤ 1048576 ∧ ∀ y ∈ x, y.length ≤ 1048576) :
    Calls Try.prog 27 #[.slice a s.length c, .slice b l.length d] w fun e w' => e = .returned (.bool (storeB s l)) ∧ Below w.heap.size w w' := by
  have H := Lib.hid h; clear h
  have K := Lib.hid k; clear k
  have HC := Lib.hid hc; clear hc
  have SC := Lib.hid (specSchema_any a c s w H.out (by omega))
  cases hsc : schemaB s with
  | false =>
    have E := Lib.hid (storeB_schema (l := l) hsc)
    have Q := Lib.hid hsc; clear hsc
    go_enter Try.func27, Try.ntmps27
    go_wp2_with fail
    refine SC.out.mono ?_
    rintro e w1 ⟨rfl, b1⟩
    rw [Q.out]
    have B1 := Lib.hid b1; clear b1
    go_wp2_with fail
    go_ret
    exact ⟨ret_bool E.out.symm, B1.out⟩
  | true =>
    have Q := Lib.hid hsc; clear hsc
    by_cases hlen : l.length = s.length
    · have hne : ((l.length : Int) != (s.length : Int)) = false := by simp [hlen]
      have HL := Lib.hid hlen
      go_enter Try.func27, Try.ntmps27
      go_wp2_with fail
      refine SC.out.mono ?_
      rintro e w1 ⟨rfl, b1⟩
      rw [Q.out]
      have B1 := Lib.hid b1
      have H1 := Lib.hid (H.out.below b1); have K1 := Lib.hid (K.out.below b1)
      have FIN := Lib.hid (fun q => below_drewN b1 q)
      clear b1 H K SC
      go_wp2_with fail
      go_loopw [5] (fun i wr => ∃ j q : Nat, j ≤ s.length ∧ i = .int .i64 j ∧ FitTo s l j ∧ wr = w1.drewN q) (fun i _ => s.length - (intOf i).toNat)
      case atStart => exact ⟨0, 0, Nat.zero_le _, rfl, FitTo.zero, rfl⟩
      case round =>
        obtain ⟨j, q, hj, rfl, ht, rfl⟩ := hrel
        have FT := Lib.hid ht; clear ht
        by_cases hlt : j < s.length
        · obtain ⟨b1, o1, t, rfl, hn, hat⟩ := H1.out.at_ hlt
          obtain ⟨b2, o2, r, a2, c2, rfl, hr, ⟨e0, rr, _, _⟩⟩ := K1.out.at_ (i := j) (by omega)
          have hrl := HC.out r (List.mem_of_getElem? hr)
          have HN := Lib.hid hn; have HR := Lib.hid hr; have RR := Lib.hid rr
          obtain ⟨t0, t1, nm⟩ := hat
          clear hn hr rr
          have i1 : (j : Int) < (s.length : Int) := by omega
          have i2 : (j : Int) < (l.length : Int) := by omega
          by_cases h40 : 40 < r.length
          · have h40' : (40 : Int) < r.length := by omega
            have E := Lib.hid (storeB_no HN.out HR.out (rowsB_big h40))
            go_wp2_with fail
            go_ret
            exact ⟨ret_bool E.out.symm, FIN.out _⟩
          have h40' : (r.length : Int) ≤ 40 := by omega
          go_wp2_with fail
          go_loopw [6] (fun i wr => ∃ m q : Nat, m ≤ r.length ∧ i = .int .i64 m ∧ (∀ x ∈ r.take m, rowB t.width x = true) ∧ wr = w1.drewN q) (fun i _ => r.length - (intOf i).toNat)
          case atStart => exact ⟨0, q, Nat.zero_le _, rfl, (fun t h => by cases h), rfl⟩
          case round =>
            obtain ⟨m, q2, hm, rfl, ht, rfl⟩ := hrel
            have TA := Lib.hid ht; clear ht
            by_cases hlt2 : m < r.length
            · obtain ⟨b3, o3, x, a3, c3, rfl, hx, ⟨f0, rx, _, _⟩⟩ := RR.out.at_ hlt2
              have hxl := hrl.2 x (List.mem_of_getElem? hx)
              have X := Lib.hid hx; have RX := Lib.hid rx
              clear hx rx
              have i3 : (m : Int) < (r.length : Int) := by omega
              by_cases hw : (x.length : Int) = t.width
              · have hw' : ((x.length : Int) != t.width) = false := by simp [hw]
                have HW := Lib.hid hw; clear hw
                go_wp2_with fail
                go_quiet (fail)
                go_wp2_with fail
                go_loopw [7] (fun i wr => ∃ n q : Nat, n ≤ x.length ∧ i = .int .i64 n ∧ (∀ z ∈ x.take n, valB z = true) ∧ wr = w1.drewN q) (fun i _ => x.length - (intOf i).toNat)
                case atStart => exact ⟨0, _, Nat.zero_le _, rfl, (fun t h => by cases h), by first | rfl | rw [World.drewN_drewN]⟩
                case round =>
                  obtain ⟨n, q3, hn3, rfl, ht, rfl⟩ := hrel
                  have VA := Lib.hid ht; clear ht
                  by_cases hlt3 : n < x.length
                  · obtain ⟨b4, o4, z, rfl, hz, cz⟩ := RX.out.get hlt3
                    have Z := Lib.hid hz; clear hz
                    have i4 : (n : Int) < (x.length : Int) := by omega
                    cases hv : valB z with
                    | true =>
                      have V := Lib.hid hv; clear hv
                      go_wp2_with fail
                      refine (l04Value_any z _).mono ?_
                      rintro e w' ⟨rfl, rfl⟩
                      rw [V.out]
                      go_wp2_with fail
                      go_roundw
                      case rel => exact ⟨n + 1, q3, by omega, by go_num, all_take_snoc Z.out V.out VA.out, rfl⟩
                      case measure => simp [intOf]; omega
                    | false =>
                      have V := Lib.hid hv; clear hv
                      have E := Lib.hid (storeB_no HN.out HR.out (rowsB_no X.out (rowB_no Z.out V.out)))
                      go_wp2_with fail
                      refine (l04Value_any z _).mono ?_
                      rintro e w' ⟨rfl, rfl⟩
                      rw [V.out]
                      go_wp2_with fail
                      go_ret
                      exact ⟨ret_bool E.out.symm, FIN.out _⟩
                  · have OK := Lib.hid (rowB_yes HW.out (by omega) VA.out)
                    have i4 : ¬ (n : Int) < (x.length : Int) := by omega
                    go_wp2_with fail
                    go_roundw
                    case rel => exact ⟨m + 1, q3, by omega, by go_num, all_take_snoc X.out OK.out TA.out, rfl⟩
                    case measure => simp [intOf]; omega
              · have hw' : ((x.length : Int) != t.width) = true := by simp [hw]
                have E := Lib.hid (storeB_no HN.out HR.out (rowsB_no X.out (rowB_len hw)))
                clear hw
                go_wp2_with fail
                go_quiet (fail)
                go_wp2_with fail
                go_ret
                exact ⟨ret_bool E.out.symm, by first | exact FIN.out _ | (rw [World.drewN_drewN]; exact FIN.out _)⟩
            · have i3 : ¬ (m : Int) < (r.length : Int) := by omega
              have OK := Lib.hid (rowsB_yes (by omega) (by omega) TA.out)
              go_wp2_with fail
              go_roundw
              case rel => exact ⟨j + 1, q2, by omega, by go_num, FT.out.next HN.out HR.out OK.out, rfl⟩
              case measure => simp [intOf]; omega
        · have E := Lib.hid (FT.out.all (by omega) Q.out HL.out)
          go_wp2_with fail
          go_ret
          exact ⟨ret_bool E.out.symm, FIN.out _⟩
    · have hne : ((l.length : Int) != (s.length : Int)) = true := by simp; omega
      have E := Lib.hid (storeB_len hlen)
      go_enter Try.func27, Try.ntmps27
      go_wp2_with fail
      refine SC.out.mono ?_
      rintro e w1 ⟨rfl, b1⟩
      rw [Q.out]
      have B1 := Lib.hid b1; clear b1
      go_wp2_with fail
      go_ret
      exact ⟨ret_bool E.out.symm, B1.out⟩
end Go.Proofs.Ytaaiedgmpgoonaa
