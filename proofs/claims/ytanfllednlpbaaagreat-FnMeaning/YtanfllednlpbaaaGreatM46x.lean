/-
  Contracts of impl.isValue, impl.rowsFit and impl.StoreOk. For every slice of tables and every slice of lists of rows. Contract of spec.SchemaOk. For every slice of tables. Contracts of l03Find and of FindTable, of the model and of the program. For every slice of tables and every text. Contract of spec.l03Width at a scan.
-/
import Derived.Test.YtanfllednlpbaaaGreatM43x
import Derived.Test.YtanfllednlpbaaaGreatM9x
import Derived.Test.YtanfllednlpbaaaGreatM45x
import Derived.Deep.RegionWith
import Derived.Test.YtanfllednlpbaaaGreatM24x
import Derived.Test.YtanfllednlpbaaaGreatM3x
import Derived.Deep.QuietTactic
import Derived.Test.YtanfllednlpbaaaGreatM11x
import Derived.Test.YtanfllednlpbaaaGreatGrowQ
import Derived.Test.YtanfllednlpbaaaGreatM42x
namespace Go.Proofs.YtanfllednlpbaaaGreat
open Go.RowKit
set_option linter.unusedSimpArgs false
set_option linter.unusedVariables false
theorem isValue_any (x : Int) (w : World) : Calls Tryz.prog 159 #[.int .i64 x] w fun e w' => e = .returned (.bool (valB x)) ∧ w = w' := by
  cases hn : numI x with
  | true =>
    have E := Lib.hid (show valB x = true by simp [valB, hn])
    have N := Lib.hid hn; clear hn
    go_enter Tryz.func159, Tryz.ntmps159
    go_wp2_with fail
    refine (isNum_any _ _).mono ?_
    rintro e w' ⟨rfl, rfl⟩
    rw [N.out]
    go_wp2_with fail
    go_ret
    exact ⟨ret_bool E.out.symm, rfl⟩
  | false =>
    have E := Lib.hid (show valB x = (x == -2000000) by simp [valB, hn])
    have N := Lib.hid hn; clear hn
    go_enter Tryz.func159, Tryz.ntmps159
    go_wp2_with fail
    refine (isNum_any _ _).mono ?_
    rintro e w' ⟨rfl, rfl⟩
    rw [N.out]
    go_wp2_with fail
    go_ret
    exact ⟨ret_bool E.out.symm, rfl⟩
theorem isNoValue_any (x : Int) (w : World) : Calls Tryz.prog 138 #[.int .i64 x] w fun e w' => e = .returned (.bool (!valB x)) ∧ w = w' := by
  go_enter Tryz.func138, Tryz.ntmps138
  go_wp2_with fail
  refine (isValue_any _ _).mono ?_
  rintro e w' ⟨rfl, rfl⟩
  go_wp2
  go_ret
  exact ⟨rfl, rfl⟩
theorem libContainsV_any (a : Option Addr) (c : Nat) (l : List Int) (w : World) (h : Rd w .i64 a l) (hn : l.length ≤ maxLen) :
    Calls Tryz.prog 137 #[.slice a l.length c, .func (.func 138) #[] #[]] w fun e w' => e = .returned (.bool (!l.all valB)) ∧ Below w.heap.size w w' := by
  have hn' : l.length ≤ 9223372036854775807 := by unfold maxLen at hn; omega
  rcases h with rfl | ⟨b1, o1, rfl, hc⟩
  · exact (AnyE.slices_ContainsFunc_empty Tryz.laysContains a c _ w).mono fun e w' ⟨he, hw⟩ => ⟨by rw [he]; rfl, by rw [hw]; exact Below.refl _ _⟩
  · refine (AnyE.slices_ContainsFunc Tryz.laysContains (Value.int .i64) (fun x => !valB x) 138 #[] (enters_of Tryz.func138 (by kernel_rfl) rfl) b1 o1 l.length c l w
      (fun W x _ => (isNoValue_any x W).mono fun e w' ⟨he, hw⟩ => ⟨he, 0, by rw [← hw]; rfl⟩) (Nat.le_refl _) hn' (fun j hj => ?_)).mono fun e w' ⟨he, q, hw⟩ => ⟨?_, ?_⟩
    · rw [hc j hj, List.getD_eq_getElem?_getD, getElem!_def, List.getElem?_eq_getElem hj]; rfl
    · rw [he, List.take_length]; exact ret_bool (by rw [List.not_all_eq_any_not])
    · rw [hw]; exact below_drewN (Below.refl _ _) q
set_option maxRecDepth 100000 in
set_option maxHeartbeats 1600000 in
theorem rowsFit_any (wd : Int) (a : Option Addr) (c : Nat) (l : List (List Int)) (w : World) (h : RdR w a l) (hl : l.length ≤ 1048576) :
    Calls Tryz.prog 119 #[.int .i64 wd, .slice a l.length c] w fun e w' => e = .returned (.bool (rowsB wd l)) ∧ Below w.heap.size w w' := by
  have H := Lib.hid h; clear h
  by_cases h40 : 40 < l.length
  · have h40' : (40 : Int) < l.length := by omega
    have E := Lib.hid (rowsB_big (wd := wd) h40)
    go_enter Tryz.func119, Tryz.ntmps119
    go_wp2_with fail
    go_ret
    exact ⟨ret_bool E.out.symm, Below.refl _ _⟩
  have h40' : (l.length : Int) ≤ 40 := by omega
  go_enter Tryz.func119, Tryz.ntmps119
  go_wp2_with fail
  go_loopw [12] (fun i wr => ∃ j : Nat, j ≤ l.length ∧ i = .int .i64 j ∧ (∀ r ∈ l.take j, rowB wd r = true) ∧ Below w.heap.size w wr) (fun i _ => l.length - (intOf i).toNat)
  case atStart => exact ⟨0, Nat.zero_le _, rfl, (fun t h => by cases h), Below.refl _ _⟩
  case round =>
    obtain ⟨j, hj, rfl, ht, hb⟩ := hrel
    have TA := Lib.hid ht; clear ht
    by_cases hlt : j < l.length
    · obtain ⟨b1, o1, x, a1, c1, rfl, hx, ⟨e0, rx, cx, mx⟩⟩ := (H.out.below hb).at_ hlt
      have X := Lib.hid hx; have HB := Lib.hid hb; have RX := Lib.hid rx
      have lx := Nat.le_trans cx mx
      clear hx hb rx cx mx
      by_cases hw : (x.length : Int) = wd
      · have hw' : ((x.length : Int) != wd) = false := by simp [hw]
        have E := Lib.hid (rowB_rest hw)
        clear hw
        cases hv : x.all valB with
        | true =>
          have V := Lib.hid (E.out.trans hv)
          have V' := Lib.hid (show (!x.all valB) = false by simp [hv])
          clear hv
          go_wp2_with fail
          refine (libContainsV_any a1 c1 x _ RX.out lx).mono ?_
          rintro e w1 ⟨rfl, b1⟩
          rw [V'.out]
          have T1 := Lib.hid (below_step HB.out (Nat.le_refl _) b1)
          clear b1
          go_wp2_with fail
          go_roundw
          case rel => exact ⟨j + 1, by omega, by go_num, all_take_snoc X.out V.out TA.out, T1.out⟩
          case measure => simp [intOf]; omega
        | false =>
          have V := Lib.hid (rowsB_no X.out (E.out.trans hv))
          have V' := Lib.hid (show (!x.all valB) = true by simp [hv])
          clear hv
          go_wp2_with fail
          refine (libContainsV_any a1 c1 x _ RX.out lx).mono ?_
          rintro e w1 ⟨rfl, b1⟩
          rw [V'.out]
          have T1 := Lib.hid (below_step HB.out (Nat.le_refl _) b1)
          clear b1
          go_wp2_with fail
          go_ret
          exact ⟨ret_bool V.out.symm, T1.out⟩
      · have hw' : ((x.length : Int) != wd) = true := by simp [hw]
        have V := Lib.hid (rowsB_no X.out (rowB_len hw))
        clear hw
        go_wp2_with fail
        go_ret
        exact ⟨ret_bool V.out.symm, HB.out⟩
    · have HB := Lib.hid hb; clear hb
      have V := Lib.hid (rowsB_yes (by omega) (by omega) TA.out)
      go_wp2_with fail
      go_ret
      exact ⟨ret_bool V.out.symm, HB.out⟩
set_option maxRecDepth 100000 in
set_option maxHeartbeats 1600000 in
theorem implStoreOk_any (a b : Option Addr) (c d : Nat) (s : List Tb) (l : List (List (List Int))) (w : World) (h : RdT w a s) (k : RdRR w b l) (hs : s.length ≤ 1048576) (hl : l.length ≤ 1048576) (hc : ∀ x ∈ l, x.length ≤ 1048576 ∧ ∀ y ∈ x, y.length ≤ 1048576) :
    Calls Tryz.prog 86 #[.slice a s.length c, .slice b l.length d] w fun e w' => e = .returned (.bool (storeB s l)) ∧ Below w.heap.size w w' := by
  have H := Lib.hid h; clear h
  have K := Lib.hid k; clear k
  have HC := Lib.hid hc; clear hc
  have SC := Lib.hid (implSchema_any a c s w H.out hs)
  cases hsc : schemaB s with
  | false =>
    have E := Lib.hid (storeB_schema (l := l) hsc)
    have Q := Lib.hid hsc; clear hsc
    go_enter Tryz.func86, Tryz.ntmps86
    go_wp2_with fail
    refine SC.out.mono ?_
    rintro e w1 ⟨rfl, b1⟩
    rw [Q.out]
    have B1 := Lib.hid b1; clear b1
    go_wp2_with fail
    go_ret
    exact ⟨ret_bool E.out.symm, B1.out⟩
  | true =>
    have Q := Lib.hid hsc; clear hsc
    by_cases hlen : l.length = s.length
    · have hne : ((l.length : Int) != (s.length : Int)) = false := by simp [hlen]
      have HL := Lib.hid hlen
      go_enter Tryz.func86, Tryz.ntmps86
      go_wp2_with fail
      refine SC.out.mono ?_
      rintro e w1 ⟨rfl, b1⟩
      rw [Q.out]
      have B1 := Lib.hid b1; clear b1
      go_wp2_with fail
      go_loopw [19] (fun i wr => ∃ j : Nat, j ≤ s.length ∧ i = .int .i64 j ∧ FitTo s l j ∧ Below w.heap.size w wr) (fun i _ => s.length - (intOf i).toNat)
      case atStart => exact ⟨0, Nat.zero_le _, rfl, FitTo.zero, B1.out⟩
      case round =>
        clear B1
        obtain ⟨j, hj, rfl, ht, hb⟩ := hrel
        have FT := Lib.hid ht; clear ht
        by_cases hlt : j < s.length
        · obtain ⟨b1, o1, t, rfl, hn, hat⟩ := (H.out.below hb).at_ hlt
          obtain ⟨b2, o2, r, a2, c2, rfl, hr, ⟨e0, rr, _, _⟩⟩ := (K.out.below hb).at_ (i := j) (by omega)
          have hrl := (HC.out r (List.mem_of_getElem? hr)).1
          have HN := Lib.hid hn; have HR := Lib.hid hr; have HB := Lib.hid hb; have RR := Lib.hid rr
          have lt1 := hat.lt
          have lt2 : b2 < wr.heap.size := World.block_lt_of_cell? wr ⟨b2, o2 + j, none⟩ e0
          obtain ⟨t0, t1, nm⟩ := hat
          clear hn hr hb rr
          have i1 : (j : Int) < (s.length : Int) := by omega
          have i2 : (j : Int) < (l.length : Int) := by omega
          have BA := Lib.hid (fun o => (Below.refl wr.heap.size wr).alloc (Nat.le_refl _) o)
          cases hv : rowsB t.width r with
          | true =>
            have V := Lib.hid hv; clear hv
            go_wp2_with fail
            first | go_region_with (go_at_call 119; refine (rowsFit_any t.width a2 c2 r _ (RR.out.below (BA.out _).drew) hrl).mono ?_; rintro e w1 ⟨rfl, b1⟩; rw [V.out]; have T1 := Lib.hid (below_step ((HB.out.trans ((BA.out _).mono HB.out.size)).drew) (Nat.le_refl _) b1); clear b1) | fail
            all_goals
              go_wp2_with fail
              go_roundw
              case rel => exact ⟨j + 1, by omega, by go_num, FT.out.next HN.out HR.out V.out, T1.out⟩
              case measure => simp [intOf]; omega
          | false =>
            have V := Lib.hid hv; clear hv
            have E := Lib.hid (storeB_no HN.out HR.out V.out)
            go_wp2_with fail
            first | go_region_with (go_at_call 119; refine (rowsFit_any t.width a2 c2 r _ (RR.out.below (BA.out _).drew) hrl).mono ?_; rintro e w1 ⟨rfl, b1⟩; rw [V.out]; have T1 := Lib.hid (below_step ((HB.out.trans ((BA.out _).mono HB.out.size)).drew) (Nat.le_refl _) b1); clear b1) | fail
            all_goals
              go_wp2_with fail
              go_ret
              exact ⟨ret_bool E.out.symm, T1.out⟩
        · have HB := Lib.hid hb; clear hb
          have E := Lib.hid (FT.out.all (by omega) Q.out HL.out)
          go_wp2_with fail
          go_ret
          exact ⟨ret_bool E.out.symm, HB.out⟩
    · have hne : ((l.length : Int) != (s.length : Int)) = true := by simp; omega
      have E := Lib.hid (storeB_len hlen)
      go_enter Tryz.func86, Tryz.ntmps86
      go_wp2_with fail
      refine SC.out.mono ?_
      rintro e w1 ⟨rfl, b1⟩
      rw [Q.out]
      have B1 := Lib.hid b1; clear b1
      go_wp2_with fail
      go_ret
      exact ⟨ret_bool E.out.symm, B1.out⟩
theorem specWordOk_is {s : ByteArray} {r : Bool} (hr : wordB s.data.toList = r) (w : World) (hs : s.size ≤ maxLen) :
    Calls Tryz.prog 112 #[.string s] w fun e w' => e = .returned (.bool r) ∧ ∃ m, w' = w.drewN m := by
  rw [← hr]
  refine (specWordOk_any s w hs).mono ?_
  rintro e w' ⟨rfl, rfl⟩; exact ⟨rfl, 0, rfl⟩
theorem l01In_is {x a b : Int} {r : Bool} (hr : (decide (a ≤ x) && decide (x ≤ b)) = r) (w : World) :
    Calls Tryz.prog 72 #[.int .i64 x, .int .i64 a, .int .i64 b] w fun e w' => e = .returned (.bool r) ∧ ∃ m, w' = w.drewN m := by
  rw [← hr]
  refine (l01In_any x a b w).mono ?_
  rintro e w' ⟨rfl, rfl⟩; exact ⟨rfl, 0, rfl⟩
theorem schema_table {l : List Tb} {j : Nat} {t : Tb} (ht : l[j]? = some t) (h : tableB t = false) : schemaB l = false :=
  schemaB_no fun hh => by have := hh.2.1 t (List.mem_of_getElem? ht); rw [h] at this; cases this
theorem schema_order {l : List Tb} {j : Nat} {s t : Tb} (hs : l[j]? = some s) (ht : l[j + 1]? = some t) (h : lessS s.name t.name = false) : schemaB l = false :=
  schemaB_no fun hh => by
    have := ascT_neigh hh.2.2 hs ht
    unfold lessS at h
    simp only [decide_eq_false_iff_not] at h
    exact h this
set_option maxRecDepth 100000 in
set_option maxHeartbeats 4000000 in
theorem specSchema_any (ao : Option Addr) (c : Nat) (l : List Tb) (w : World) (h : RdT w ao l) (hl : l.length ≤ 4194304) :
    Calls Tryz.prog 76 #[.slice ao l.length c] w fun e w' => e = .returned (.bool (schemaB l)) ∧ Below w.heap.size w w' := by
  have H := Lib.hid h; clear h
  by_cases h8 : 8 < l.length
  · have h8' : (8 : Int) < l.length := by omega
    have E := Lib.hid (schemaB_no (l := l) fun hh => by omega)
    go_enter Tryz.func76, Tryz.ntmps76
    go_wp2_with fail
    go_ret
    exact ⟨ret_bool E.out.symm, Below.refl _ _⟩
  have h8' : (l.length : Int) ≤ 8 := by omega
  clear h8 hl
  go_enter Tryz.func76, Tryz.ntmps76
  go_wp2_with fail
  go_loopw [3] (fun i wr => ∃ j : Nat, j ≤ l.length ∧ i = .int .i64 j ∧ (∀ t ∈ l.take j, tableB t = true) ∧ AscT (l.take j) ∧ Below w.heap.size w wr) (fun i _ => l.length - (intOf i).toNat)
  case atStart => exact ⟨0, Nat.zero_le _, rfl, (fun t h => by cases h), List.Pairwise.nil, Below.refl _ _⟩
  case round =>
    obtain ⟨j, hj, rfl, ht, ha, hb⟩ := hrel
    have TA := Lib.hid ht; have AS := Lib.hid ha; have HB := Lib.hid hb
    have HR := Lib.hid (H.out.below hb)
    clear ht ha hb
    by_cases hlt : j < l.length
    · obtain ⟨b, off, t, rfl, hn, hat⟩ := HR.out.at_ hlt
      have HN := Lib.hid hn; clear hn
      obtain ⟨c0, c1, nm⟩ := hat
      have hlt' : (j : Int) < l.length := by omega
      cases hw : wordB t.key with
      | false =>
        have HW := Lib.hid (show wordB t.name.data.toList = false from hw)
        have E := Lib.hid (schema_table HN.out (by unfold tableB; rw [hw]; rfl))
        clear hw
        go_wp2_with fail
        go_quiet ((go_at_call 112; exact Calls.quiet_of (specWordOk_is HW.out _ nm)))
        all_goals
          go_wp2_with fail
          go_ret
          exact ⟨ret_bool E.out.symm, below_drewN HB.out _⟩
      | true =>
        have HW := Lib.hid (show wordB t.name.data.toList = true from hw)
        cases hi : (decide (1 ≤ t.width) && decide (t.width ≤ 6)) with
        | false =>
          have HI := Lib.hid hi
          have E := Lib.hid (schema_table HN.out (by unfold tableB; rw [hw, Bool.true_and]; simpa using hi))
          clear hw hi
          go_wp2_with fail
          go_quiet (first | (go_at_call 112; exact Calls.quiet_of (specWordOk_is HW.out _ nm)) | (go_at_call 72; exact Calls.quiet_of (l01In_is HI.out _)))
          all_goals
            go_wp2_with fail
            go_ret
            exact ⟨ret_bool E.out.symm, below_drewN HB.out _⟩
        | true =>
          have HI := Lib.hid hi
          have TT := Lib.hid (show tableB t = true by unfold tableB; rw [hw, Bool.true_and]; simpa using hi)
          clear hw hi
          have TN := Lib.hid (show ∀ s ∈ l.take (j + 1), tableB s = true by
            intro s hs
            rw [List.take_add_one, HN.out] at hs
            rcases List.mem_append.1 hs with h1 | h1
            · exact TA.out s h1
            · simp at h1; subst h1; exact TT.out)
          by_cases hj0 : j = 0
          · have AN := Lib.hid (ascT_succ AS.out HN.out fun s h => by omega)
            have hz : (j : Int) ≤ 0 := by omega
            have hd : decide (0 < j) = false := by simp; omega
            clear hj0
            go_wp2_with fail
            go_quiet (first | (go_at_call 112; exact Calls.quiet_of (specWordOk_is HW.out _ nm)) | (go_at_call 72; exact Calls.quiet_of (l01In_is HI.out _)))
            all_goals
              go_wp2_with fail
              go_roundw
              case rel => exact ⟨j + 1, by omega, by go_num, TN.out, AN.out, below_drewN HB.out _⟩
              case measure => simp [intOf]; omega
          · obtain ⟨i, rfl⟩ : ∃ i, j = i + 1 := ⟨j - 1, by omega⟩
            obtain ⟨b', off', s, hbo, hs, has⟩ := HR.out.at_ (i := i) (by omega)
            simp only [Option.some.injEq, Addr.mk.injEq, and_true] at hbo
            obtain ⟨rfl, rfl⟩ := hbo
            have HS := Lib.hid hs; clear hs
            obtain ⟨d0, d1, ns⟩ := has
            have hi1 : (0 : Int) ≤ (i + 1 : Nat) - 1 := by omega
            have hi2 : (((i + 1 : Nat) : Int) - 1) < l.length := by omega
            have hi3 : (((i + 1 : Nat) : Int) - 1).toNat = i := by omega
            cases hls : lessS s.name t.name with
            | true =>
              have LS := Lib.hid hls
              have AN := Lib.hid (ascT_succ AS.out HN.out fun s' _ hs' => by
                rw [show i + 1 - 1 = i by omega, HS.out] at hs'
                injection hs' with hs'; subst hs'
                exact of_decide_eq_true hls)
              clear hls
              go_wp2_with fail
              go_quiet (first | (go_at_call 112; exact Calls.quiet_of (specWordOk_is HW.out _ nm)) | (go_at_call 72; exact Calls.quiet_of (l01In_is HI.out _)) | (go_at_call 113; exact Calls.quiet_of (l01Less_is LS.out _ ns nm)))
              all_goals
                go_wp2_with fail
                go_roundw
                case rel => exact ⟨i + 1 + 1, by omega, by go_num, TN.out, AN.out, below_drewN HB.out _⟩
                case measure => simp [intOf]; omega
            | false =>
              have LS := Lib.hid hls
              have E := Lib.hid (schema_order HS.out HN.out hls)
              clear hls
              go_wp2_with fail
              go_quiet (first | (go_at_call 112; exact Calls.quiet_of (specWordOk_is HW.out _ nm)) | (go_at_call 72; exact Calls.quiet_of (l01In_is HI.out _)) | (go_at_call 113; exact Calls.quiet_of (l01Less_is LS.out _ ns nm)))
              all_goals
                go_wp2_with fail
                go_ret
                exact ⟨ret_bool E.out.symm, below_drewN HB.out _⟩
    · obtain rfl : j = l.length := by omega
      have E := Lib.hid (schemaB_iff.2 ⟨show l.length ≤ 8 by omega, by have := TA.out; rwa [List.take_length] at this, by have := AS.out; rwa [List.take_length] at this⟩)
      go_wp2_with fail
      go_ret
      exact ⟨ret_bool E.out.symm, HB.out⟩
end Go.Proofs.YtanfllednlpbaaaGreat
namespace Go.Proofs.YtanfllednlpbaaaGreat
open Go.RowKit Go.Maps
set_option linter.unusedSimpArgs false
set_option linter.unusedVariables false
def FoundAt (l : List Tb) (x : ByteArray) (r : Int) : Prop := (r = -1 ∧ ∀ t ∈ l, t.key ≠ x.data.toList) ∨ ∃ (i : Nat) (t : Tb), r = i ∧ l[i]? = some t ∧ t.name = x
theorem name_eq {x y : ByteArray} (h : x.toList = y.toList) : x = y := by
  rw [ByteArray.toList_eq, ByteArray.toList_eq] at h
  apply ByteArray.ext; exact Array.toList_inj.1 h
set_option maxRecDepth 100000 in
set_option maxHeartbeats 1600000 in
theorem l03Find_any (ao : Option Addr) (c : Nat) (l : List Tb) (x : ByteArray) (w : World) (h : RdT w ao l) (hl : l.length ≤ 1048576) :
    Calls Tryz.prog 79 #[.slice ao l.length c, .string x] w fun e w' => w = w' ∧ ∃ r : Int, e = .returned (.int .i64 r) ∧ FoundAt l x r := by
  have H := Lib.hid h; clear h
  go_enter Tryz.func79, Tryz.ntmps79
  go_wp2_with fail
  go_loop [5] (fun i => ∃ j : Nat, j ≤ l.length ∧ i = .int .i64 j ∧ ∀ t ∈ l.take j, t.key ≠ x.data.toList) (fun i => l.length - (intOf i).toNat)
  case atStart => exact ⟨0, Nat.zero_le _, rfl, fun t h => by cases h⟩
  case round =>
    obtain ⟨j, hj, rfl, ht⟩ := hrel
    have TA := Lib.hid ht; clear ht
    by_cases hlt : j < l.length
    · obtain ⟨b, off, t, rfl, hn, hat⟩ := H.out.at_ hlt
      have HN := Lib.hid hn; clear hn
      obtain ⟨c0, c1, nm⟩ := hat
      cases hb : (t.name.toList == x.toList) with
      | true =>
        have E := Lib.hid (show FoundAt l x (j : Int) from .inr ⟨j, t, rfl, HN.out, name_eq (by simpa using hb)⟩)
        go_wp2
        go_ret
        exact ⟨rfl, _, rfl, E.out⟩
      | false =>
        have E := Lib.hid (show ∀ s ∈ l.take (j + 1), s.key ≠ x.data.toList by
          intro s hs
          rw [List.take_add_one, HN.out] at hs
          rcases List.mem_append.1 hs with h1 | h1
          · exact TA.out s h1
          · simp at h1; subst h1
            intro e
            have : s.name.toList = x.toList := by rw [ByteArray.toList_eq, ByteArray.toList_eq]; exact e
            rw [this] at hb; simp at hb)
        go_wp2
        go_round
        case rel => exact ⟨j + 1, by omega, by go_num, E.out⟩
        case measure => simp [intOf]; omega
    · obtain rfl : j = l.length := by omega
      have E := Lib.hid (show FoundAt l x (-1) from .inl ⟨rfl, by have := TA.out; rwa [List.take_length] at this⟩)
      go_wp2
      go_ret
      exact ⟨rfl, _, rfl, E.out⟩
end Go.Proofs.YtanfllednlpbaaaGreat
namespace Go.Proofs.YtanfllednlpbaaaGreat
open Go.RowKit
set_option linter.unusedSimpArgs false
set_option linter.unusedVariables false
set_option maxRecDepth 100000 in
set_option maxHeartbeats 4000000 in
theorem wid_t0 (sa : Option Addr) (cs : Nat) (s : List Tb) (ao : Option Addr) (c : Nat) (p : List Nd) (T0 : Tr) (hs : schemaB s = true) (hsl : s.length ≤ 1048576) (hp : p.length ≤ 1048576) (ht : treeN p = some T0) (n : Nd) (pl en : Nat) : ∀ (k : Nat) (w : World), RdT w sa s → RdN w ao p → growT p p.length k = some (Tr.t0 n pl en) → (Tr.t0 n pl en).depth ≤ 10 →
    Calls Tryz.prog 115 #[.slice sa s.length cs, .slice ao p.length c, .int .i64 k] w fun e w' => e = .returned (.int .i64 (widT (fnOf s) (Tr.t0 n pl en))) ∧ Below w.heap.size w w' := by
  have hf := fnOk_schema hs
  have TS := Lib.hid (told_self s (schemaB_iff.1 hs).2.2)
  intro k w hrs hrp hg hd
  have HG := Lib.hid hg
  obtain ⟨n', hn, hnb, hS⟩ := grow_inv hg
  rcases hS with ⟨hS, ha⟩ | ⟨c', hS, _⟩ | ⟨c', d', hS, _⟩
  case inr.inl => cases hS
  case inr.inr => cases hS
  cases hS
  have hkl : pl < p.length := (List.getElem?_eq_some_iff.1 hn).1
  obtain ⟨b, off, n2, a, c2, rfl, hn2, hat⟩ := hrp.at_ hkl
  obtain rfl : n = n2 := by rw [hn] at hn2; injection hn2
  obtain ⟨c0, c1, c2', c3, c4, c5, c6, rd, cap, mx, nm⟩ := hat
  have RDC := Lib.hid rd
  have hcl : n.cols.length ≤ maxLen := Nat.le_trans cap mx
  clear rd hn2 cap mx
  obtain ⟨W1, hW1⟩ : ∃ W1, W1 = w.alloc (.cells (#[.int .i64 n.kind, .string n.name, .int .i64 n.col, .int .i64 n.op, .int .i64 n.num, .bool n.slot, .slice a n.cols.length c2]) 39) := ⟨_, rfl⟩
  have Z1 := Lib.hid (show W1.heap.size = w.heap.size + 1 by rw [hW1]; simp)
  have A1 := Lib.hid (show Below w.heap.size w W1 by rw [hW1]; exact (Below.refl _ _).alloc (Nat.le_refl _) _)
  have f0 : W1.cell? ⟨w.heap.size, 0, none⟩ = some (.int .i64 n.kind) := by rw [hW1, World.cell?_alloc_new]; rfl
  have f1 : W1.cell? ⟨w.heap.size, 1, none⟩ = some (.string n.name) := by rw [hW1, World.cell?_alloc_new]; rfl
  have f2 : W1.cell? ⟨w.heap.size, 2, none⟩ = some (.int .i64 n.col) := by rw [hW1, World.cell?_alloc_new]; rfl
  have f4 : W1.cell? ⟨w.heap.size, 4, none⟩ = some (.int .i64 n.num) := by rw [hW1, World.cell?_alloc_new]; rfl
  have f6 : W1.cell? ⟨w.heap.size, 6, none⟩ = some (.slice a n.cols.length c2) := by rw [hW1, World.cell?_alloc_new]; rfl
  have OE := Lib.hid (show Own (W1.alloc (.cells #[] 3)) (w.heap.size + 1) 3 .i64 (some ⟨w.heap.size + 1, 0, none⟩) 0 [] by
    have := own_empty (w := W1) (base := W1.heap.size) (e := 3) (k := .i64) (Nat.le_refl _)
    rw [Z1.out] at this; exact this)
  have NE := Lib.hid ((Below.refl W1.heap.size W1).alloc (Nat.le_refl _) (.cells #[] 3))
  have HRS := Lib.hid (hrs.below A1.out); have HRP := Lib.hid (hrp.below A1.out)
  have FIN := Lib.hid (fun w' (hc : Below W1.heap.size W1 w') => (A1.out.trans (hc.mono (by rw [Z1.out]; exact Nat.le_succ _)) : Below w.heap.size w w'))
  have RD1 := Lib.hid (RDC.out.below A1.out)
  have hbw : b < w.heap.size := World.block_lt_of_cell? w ⟨b, off + pl * 7, none⟩ c0
  have HK := Lib.hid (show n.kind = 0 from (growT_nodes p _ _ _ HG.out).2)
  have KO := Lib.hid (show KidsOk p ((pl : Int)).toNat [] by rw [Int.toNat_natCast]; exact ⟨n, hn, .inl ⟨ha, rfl⟩⟩)
  go_enter Tryz.func115, Tryz.ntmps115
  go_wp2_with fail
  rw [← hW1]
  refine (specKids_any (some ⟨b, off, none⟩) c p pl [] _ (HRP.out.below NE.out) hp (by omega) (by omega) KO.out).mono ?_
  rintro e w3 ⟨a3, c3', rfl, o3, b3⟩
  have N3 := Lib.hid (below_step NE.out (Nat.le_refl _) b3)
  have OW3 := Lib.hid (OE.out.below b3)
  have e3 := fun o => N3.out.cell (p := ⟨w.heap.size, o, none⟩) (by rw [Z1.out]; exact Nat.lt_succ_self _)
  clear o3 b3
  have g0 := (e3 0).trans f0; have g1 := (e3 1).trans f1
  rw [HK.out] at g0
  clear c0 c1 c2' c3 c4 c5 c6 hW1 f0 f1 f2 f4 f6 e3
  go_wp2_with fail
  refine wp_loop_rounds 1 ?_; rw [rounds_succ]
  go_wp2_with fail
  refine (l03Find_any sa cs s n.name _ (HRS.out.below N3.out) hsl).mono ?_
  rintro e w' ⟨rfl, r, rfl, hr⟩
  rcases hr with ⟨rfl, hno⟩ | ⟨i, t, rfl, hi, hx⟩
  · have E := Lib.hid (show widT (fnOf s) (.t0 n pl (pl + 1)) = -1 by
      unfold widT
      cases hv : fnOf s n.name.data.toList with
      | none => rfl
      | some v =>
        obtain ⟨t, ht, h1, _⟩ := (TS.out.2 _ _).1 hv
        exact absurd h1 (hno t ht))
    clear hno
    go_wp2_with fail
    go_ret
    rw [E.out]
    exact ⟨rfl, FIN.out _ N3.out⟩
  · have E := Lib.hid (show widT (fnOf s) (.t0 n pl (pl + 1)) = t.width by
      unfold widT
      rw [(TS.out.2 n.name.data.toList t.width).2 ⟨t, List.mem_of_getElem? hi, by unfold Tb.key; rw [hx], rfl⟩]; rfl)
    have hil : i < s.length := (List.getElem?_eq_some_iff.1 hi).1
    obtain ⟨bs, os, t', rfl, hi', hat⟩ := (HRS.out.below N3.out).at_ hil
    obtain rfl : t = t' := by rw [hi] at hi'; injection hi'
    obtain ⟨u0, u1, _⟩ := hat
    clear hi hi' hx
    go_wp2_with fail
    go_ret
    rw [E.out]
    exact ⟨rfl, FIN.out _ N3.out⟩
end Go.Proofs.YtanfllednlpbaaaGreat
