/-
  Contracts of impl.isValue, impl.rowsFit and impl.StoreOk. For every slice of tables and every slice of lists of rows.
-/
import Derived.Test.YtaaiedgmpgoonaaStoP
import Derived.Test.YtaaiedgmpgoonaaLibI
import Derived.Test.YtaaiedgmpgoonaaITold
import Derived.Deep.RegionWith
namespace Go.Proofs.Ytaaiedgmpgoonaa
open Go.RowKit
set_option linter.unusedSimpArgs false
set_option linter.unusedVariables false

theorem isValue_any (x : Int) (w : World) : Calls Try.prog 132 #[.int .i64 x] w fun e w' => e = .returned (.bool (valB x)) ∧ w = w' := by
  cases hn : numI x with
  | true =>
    have E := Lib.hid (show valB x = true by simp [valB, hn])
    have N := Lib.hid hn; clear hn
    go_enter Try.func132, Try.ntmps132
    go_wp2_with fail
    refine (isNum_any _ _).mono ?_
    rintro e w' ⟨rfl, rfl⟩
    rw [N.out]
    go_wp2_with fail
    go_ret
    exact ⟨ret_bool E.out.symm, rfl⟩
  | false =>
    have E := Lib.hid (show valB x = (x == -2000000) by simp [valB, hn])
    have N := Lib.hid hn; clear hn
    go_enter Try.func132, Try.ntmps132
    go_wp2_with fail
    refine (isNum_any _ _).mono ?_
    rintro e w' ⟨rfl, rfl⟩
    rw [N.out]
    go_wp2_with fail
    go_ret
    exact ⟨ret_bool E.out.symm, rfl⟩
theorem isNoValue_any (x : Int) (w : World) : Calls Try.prog 105 #[.int .i64 x] w fun e w' => e = .returned (.bool (!valB x)) ∧ w = w' := by
  go_enter Try.func105, Try.ntmps105
  go_wp2_with fail
  refine (isValue_any _ _).mono ?_
  rintro e w' ⟨rfl, rfl⟩
  go_wp2
  go_ret
  exact ⟨rfl, rfl⟩
theorem libContainsV_any (a : Option Addr) (c : Nat) (l : List Int) (w : World) (h : Rd w .i64 a l) (hn : l.length ≤ maxLen) :
    Calls Try.prog 104 #[.slice a l.length c, .func (.func 105) #[] #[]] w fun e w' => e = .returned (.bool (!l.all valB)) ∧ Below w.heap.size w w' := by
  have hn' : l.length ≤ 9223372036854775807 := by unfold maxLen at hn; omega
  rcases h with rfl | ⟨b1, o1, rfl, hc⟩
  · exact (AnyE.slices_ContainsFunc_empty Try.laysContains a c _ w).mono fun e w' ⟨he, hw⟩ => ⟨by rw [he]; rfl, by rw [hw]; exact Below.refl _ _⟩
  · refine (AnyE.slices_ContainsFunc Try.laysContains (Value.int .i64) (fun x => !valB x) 105 #[] (enters_of Try.func105 (by kernel_rfl) rfl) b1 o1 l.length c l w
      (fun W x _ => (isNoValue_any x W).mono fun e w' ⟨he, hw⟩ => ⟨he, 0, by rw [← hw]; rfl⟩) (Nat.le_refl _) hn' (fun j hj => ?_)).mono fun e w' ⟨he, q, hw⟩ => ⟨?_, ?_⟩
    · rw [hc j hj, List.getD_eq_getElem?_getD, getElem!_def, List.getElem?_eq_getElem hj]; rfl
    · rw [he, List.take_length]; exact ret_bool (by rw [List.not_all_eq_any_not])
    · rw [hw]; exact below_drewN (Below.refl _ _) q

set_option maxRecDepth 100000 in
set_option maxHeartbeats 1600000 in
theorem rowsFit_any (wd : Int) (a : Option Addr) (c : Nat) (l : List (List Int)) (w : World) (h : RdR w a l) (hl : l.length ≤ 1048576) :
    Calls Try.prog 76 #[.int .i64 wd, .slice a l.length c] w fun e w' => e = .returned (.bool (rowsB wd l)) ∧ Below w.heap.size w w' := by
  have H := Lib.hid h; clear h
  by_cases h40 : 40 < l.length
  · have h40' : (40 : Int) < l.length := by omega
    have E := Lib.hid (rowsB_big (wd := wd) h40)
    go_enter Try.func76, Try.ntmps76
    go_wp2_with fail
    go_ret
    exact ⟨ret_bool E.out.symm, Below.refl _ _⟩
  have h40' : (l.length : Int) ≤ 40 := by omega
  go_enter Try.func76, Try.ntmps76
  go_wp2_with fail
  go_loopw [12] (fun i wr => ∃ j : Nat, j ≤ l.length ∧ i = .int .i64 j ∧ (∀ r ∈ l.take j, rowB wd r = true) ∧ Below w.heap.size w wr) (fun i _ => l.length - (intOf i).toNat)
  case atStart => exact ⟨0, Nat.zero_le _, rfl, (fun t h => by cases h), Below.refl _ _⟩
  case round =>
    obtain ⟨j, hj, rfl, ht, hb⟩ := hrel
    have TA := Lib.hid ht; clear ht
    by_cases hlt : j < l.length
    · obtain ⟨b1, o1, x, a1, c1, rfl, hx, ⟨e0, rx, cx, mx⟩⟩ := (H.out.below hb).at_ hlt
      have X := Lib.hid hx; have HB := Lib.hid hb; have RX := Lib.hid rx
      have lx := Nat.le_trans cx mx
      clear hx hb rx cx mx
      by_cases hw : (x.length : Int) = wd
      · have hw' : ((x.length : Int) != wd) = false := by simp [hw]
        have E := Lib.hid (rowB_rest hw)
        clear hw
        cases hv : x.all valB with
        | true =>
          have V := Lib.hid (E.out.trans hv)
          have V' := Lib.hid (show (!x.all valB) = false by simp [hv])
          clear hv
          go_wp2_with fail
          refine (libContainsV_any a1 c1 x _ RX.out lx).mono ?_
          rintro e w1 ⟨rfl, b1⟩
          rw [V'.out]
          have T1 := Lib.hid (below_step HB.out (Nat.le_refl _) b1)
          clear b1
          go_wp2_with fail
          go_roundw
          case rel => exact ⟨j + 1, by omega, by go_num, all_take_snoc X.out V.out TA.out, T1.out⟩
          case measure => simp [intOf]; omega
        | false =>
          have V := Lib.hid (rowsB_no X.out (E.out.trans hv))
          have V' := Lib.hid (show (!x.all valB) = true by simp [hv])
          clear hv
          go_wp2_with fail
          refine (libContainsV_any a1 c1 x _ RX.out lx).mono ?_
          rintro e w1 ⟨rfl, b1⟩
          rw [V'.out]
          have T1 := Lib.hid (below_step HB.out (Nat.le_refl _) b1)
          clear b1
          go_wp2_with fail
          go_ret
          exact ⟨ret_bool V.out.symm, T1.out⟩
      · have hw' : ((x.length : Int) != wd) = true := by simp [hw]
        have V := Lib.hid (rowsB_no X.out (rowB_len hw))
        clear hw
        go_wp2_with fail
        go_ret
        exact ⟨ret_bool V.out.symm, HB.out⟩
    · have HB := Lib.hid hb; clear hb
      have V := Lib.hid (rowsB_yes (by omega) (by omega) TA.out)
      go_wp2_with fail
      go_ret
      exact ⟨ret_bool V.out.symm, HB.out⟩

set_option maxRecDepth 100000 in
set_option maxHeartbeats 1600000 in
theorem implStoreOk_any (a b : Option Addr) (c d : Nat) (s : List Tb) (l : List (List (List Int))) (w : World) (h : RdT w a s) (k : RdRR w b l) (hs : s.length ≤ 1048576) (hl : l.length ≤ 1048576) (hc : ∀ x ∈ l, x.length ≤ 1048576 ∧ ∀ y ∈ x, y.length ≤ 1048576) :
    Calls Try.prog 30 #[.slice a s.length c, .slice b l.length d] w fun e w' => e = .returned (.bool (storeB s l)) ∧ Below w.heap.size w w' := by
  have H := Lib.hid h; clear h
  have K := Lib.hid k; clear k
  have HC := Lib.hid hc; clear hc
  have SC := Lib.hid (implSchema_any a c s w H.out hs)
  cases hsc : schemaB s with
  | false =>
    have E := Lib.hid (storeB_schema (l := l) hsc)
    have Q := Lib.hid hsc; clear hsc
    go_enter Try.func30, Try.ntmps30
    go_wp2_with fail
    refine SC.out.mono ?_
    rintro e w1 ⟨rfl, b1⟩
    rw [Q.out]
    have B1 := Lib.hid b1; clear b1
    go_wp2_with fail
    go_ret
    exact ⟨ret_bool E.out.symm, B1.out⟩
  | true =>
    have Q := Lib.hid hsc; clear hsc
    by_cases hlen : l.length = s.length
    · have hne : ((l.length : Int) != (s.length : Int)) = false := by simp [hlen]
      have HL := Lib.hid hlen
      go_enter Try.func30, Try.ntmps30
      go_wp2_with fail
      refine SC.out.mono ?_
      rintro e w1 ⟨rfl, b1⟩
      rw [Q.out]
      have B1 := Lib.hid b1; clear b1
      go_wp2_with fail
      go_loopw [19] (fun i wr => ∃ j : Nat, j ≤ s.length ∧ i = .int .i64 j ∧ FitTo s l j ∧ Below w.heap.size w wr) (fun i _ => s.length - (intOf i).toNat)
      case atStart => exact ⟨0, Nat.zero_le _, rfl, FitTo.zero, B1.out⟩
      case round =>
        clear B1
        obtain ⟨j, hj, rfl, ht, hb⟩ := hrel
        have FT := Lib.hid ht; clear ht
        by_cases hlt : j < s.length
        · obtain ⟨b1, o1, t, rfl, hn, hat⟩ := (H.out.below hb).at_ hlt
          obtain ⟨b2, o2, r, a2, c2, rfl, hr, ⟨e0, rr, _, _⟩⟩ := (K.out.below hb).at_ (i := j) (by omega)
          have hrl := (HC.out r (List.mem_of_getElem? hr)).1
          have HN := Lib.hid hn; have HR := Lib.hid hr; have HB := Lib.hid hb; have RR := Lib.hid rr
          have lt1 := hat.lt
          have lt2 : b2 < wr.heap.size := World.block_lt_of_cell? wr ⟨b2, o2 + j, none⟩ e0
          obtain ⟨t0, t1, nm⟩ := hat
          clear hn hr hb rr
          have i1 : (j : Int) < (s.length : Int) := by omega
          have i2 : (j : Int) < (l.length : Int) := by omega
          have BA := Lib.hid (fun o => (Below.refl wr.heap.size wr).alloc (Nat.le_refl _) o)
          cases hv : rowsB t.width r with
          | true =>
            have V := Lib.hid hv; clear hv
            go_wp2_with fail
            first | go_region_with (go_at_call 76; refine (rowsFit_any t.width a2 c2 r _ (RR.out.below (BA.out _).drew) hrl).mono ?_; rintro e w1 ⟨rfl, b1⟩; rw [V.out]; have T1 := Lib.hid (below_step ((HB.out.trans ((BA.out _).mono HB.out.size)).drew) (Nat.le_refl _) b1); clear b1) | fail
            all_goals
              go_wp2_with fail
              go_roundw
              case rel => exact ⟨j + 1, by omega, by go_num, FT.out.next HN.out HR.out V.out, T1.out⟩
              case measure => simp [intOf]; omega
          | false =>
            have V := Lib.hid hv; clear hv
            have E := Lib.hid (storeB_no HN.out HR.out V.out)
            go_wp2_with fail
            first | go_region_with (go_at_call 76; refine (rowsFit_any t.width a2 c2 r _ (RR.out.below (BA.out _).drew) hrl).mono ?_; rintro e w1 ⟨rfl, b1⟩; rw [V.out]; have T1 := Lib.hid (below_step ((HB.out.trans ((BA.out _).mono HB.out.size)).drew) (Nat.le_refl _) b1); clear b1) | fail
            all_goals
              go_wp2_with fail
              go_ret
              exact ⟨ret_bool E.out.symm, T1.out⟩
        · have HB := Lib.hid hb; clear hb
          have E := Lib.hid (FT.out.all (by omega) Q.out HL.out)
          go_wp2_with fail
          go_ret
          exact ⟨ret_bool E.out.symm, HB.out⟩
    · have hne : ((l.length : Int) != (s.length : Int)) = true := by simp; omega
      have E := Lib.hid (storeB_len hlen)
      go_enter Try.func30, Try.ntmps30
      go_wp2_with fail
      refine SC.out.mono ?_
      rintro e w1 ⟨rfl, b1⟩
      rw [Q.out]
      have B1 := Lib.hid b1; clear b1
      go_wp2_with fail
      go_ret
      exact ⟨ret_bool E.out.symm, B1.out⟩
end Go.Proofs.Ytaaiedgmpgoonaa
