/-
  Contract of spec.SchemaOk. For every slice of tables.
-/
import Derived.Test.YtcegekkhlfpgfaaDoorTbP
import Derived.Test.YtcegekkhlfpgfaaDoorWord
import Derived.Deep.RegionWith
import Derived.Deep.QuietTactic
namespace Go.Proofs.YtcegekkhlfpgfaaDoor
open Go.RowKit
set_option linter.unusedSimpArgs false
set_option linter.unusedVariables false

theorem specWordOk_is {s : ByteArray} {r : Bool} (hr : wordB s.data.toList = r) (w : World) (hs : s.size ≤ maxLen) :
    Calls Tryd.prog 33 #[.string s] w fun e w' => e = .returned (.bool r) ∧ ∃ m, w' = w.drewN m := by
  rw [← hr]
  refine (specWordOk_any s w hs).mono ?_
  rintro e w' ⟨rfl, rfl⟩; exact ⟨rfl, 0, rfl⟩
theorem l01In_is {x a b : Int} {r : Bool} (hr : (decide (a ≤ x) && decide (x ≤ b)) = r) (w : World) :
    Calls Tryd.prog 50 #[.int .i64 x, .int .i64 a, .int .i64 b] w fun e w' => e = .returned (.bool r) ∧ ∃ m, w' = w.drewN m := by
  rw [← hr]
  refine (l01In_any x a b w).mono ?_
  rintro e w' ⟨rfl, rfl⟩; exact ⟨rfl, 0, rfl⟩
theorem schema_table {l : List Tb} {j : Nat} {t : Tb} (ht : l[j]? = some t) (h : tableB t = false) : schemaB l = false :=
  schemaB_no fun hh => by have := hh.2.1 t (List.mem_of_getElem? ht); rw [h] at this; cases this
theorem schema_order {l : List Tb} {j : Nat} {s t : Tb} (hs : l[j]? = some s) (ht : l[j + 1]? = some t) (h : lessS s.name t.name = false) : schemaB l = false :=
  schemaB_no fun hh => by
    have := ascT_neigh hh.2.2 hs ht
    unfold lessS at h
    simp only [decide_eq_false_iff_not] at h
    exact h this

set_option maxRecDepth 100000 in
set_option maxHeartbeats 4000000 in
theorem specSchema_any (ao : Option Addr) (c : Nat) (l : List Tb) (w : World) (h : RdT w ao l) (hl : l.length ≤ 4194304) :
    Calls Tryd.prog 51 #[.slice ao l.length c] w fun e w' => e = .returned (.bool (schemaB l)) ∧ Below w.heap.size w w' := by
  have H := Lib.hid h; clear h
  by_cases h8 : 8 < l.length
  · have h8' : (8 : Int) < l.length := by omega
    have E := Lib.hid (schemaB_no (l := l) fun hh => by omega)
    go_enter Tryd.func51, Tryd.ntmps51
    go_wp2_with fail
    go_ret
    exact ⟨ret_bool E.out.symm, Below.refl _ _⟩
  have h8' : (l.length : Int) ≤ 8 := by omega
  clear h8 hl
  go_enter Tryd.func51, Tryd.ntmps51
  go_wp2_with fail
  go_loopw [3] (fun i wr => ∃ j : Nat, j ≤ l.length ∧ i = .int .i64 j ∧ (∀ t ∈ l.take j, tableB t = true) ∧ AscT (l.take j) ∧ Below w.heap.size w wr) (fun i _ => l.length - (intOf i).toNat)
  case atStart => exact ⟨0, Nat.zero_le _, rfl, (fun t h => by cases h), List.Pairwise.nil, Below.refl _ _⟩
  case round =>
    obtain ⟨j, hj, rfl, ht, ha, hb⟩ := hrel
    have TA := Lib.hid ht; have AS := Lib.hid ha; have HB := Lib.hid hb
    have HR := Lib.hid (H.out.below hb)
    clear ht ha hb
    by_cases hlt : j < l.length
    · obtain ⟨b, off, t, rfl, hn, hat⟩ := HR.out.at_ hlt
      have HN := Lib.hid hn; clear hn
      obtain ⟨c0, c1, nm⟩ := hat
      have hlt' : (j : Int) < l.length := by omega
      cases hw : wordB t.key with
      | false =>
        have HW := Lib.hid (show wordB t.name.data.toList = false from hw)
        have E := Lib.hid (schema_table HN.out (by unfold tableB; rw [hw]; rfl))
        clear hw
        go_wp2_with fail
        go_quiet ((go_at_call 33; exact Calls.quiet_of (specWordOk_is HW.out _ nm)))
        all_goals
          go_wp2_with fail
          go_ret
          exact ⟨ret_bool E.out.symm, below_drewN HB.out _⟩
      | true =>
        have HW := Lib.hid (show wordB t.name.data.toList = true from hw)
        cases hi : (decide (1 ≤ t.width) && decide (t.width ≤ 6)) with
        | false =>
          have HI := Lib.hid hi
          have E := Lib.hid (schema_table HN.out (by unfold tableB; rw [hw, Bool.true_and]; simpa using hi))
          clear hw hi
          go_wp2_with fail
          go_quiet (first | (go_at_call 33; exact Calls.quiet_of (specWordOk_is HW.out _ nm)) | (go_at_call 50; exact Calls.quiet_of (l01In_is HI.out _)))
          all_goals
            go_wp2_with fail
            go_ret
            exact ⟨ret_bool E.out.symm, below_drewN HB.out _⟩
        | true =>
          have HI := Lib.hid hi
          have TT := Lib.hid (show tableB t = true by unfold tableB; rw [hw, Bool.true_and]; simpa using hi)
          clear hw hi
          have TN := Lib.hid (show ∀ s ∈ l.take (j + 1), tableB s = true by
            intro s hs
            rw [List.take_add_one, HN.out] at hs
            rcases List.mem_append.1 hs with h1 | h1
            · exact TA.out s h1
            · simp at h1; subst h1; exact TT.out)
          by_cases hj0 : j = 0
          · have AN := Lib.hid (ascT_succ AS.out HN.out fun s h => by omega)
            have hz : (j : Int) ≤ 0 := by omega
            have hd : decide (0 < j) = false := by simp; omega
            clear hj0
            go_wp2_with fail
            go_quiet (first | (go_at_call 33; exact Calls.quiet_of (specWordOk_is HW.out _ nm)) | (go_at_call 50; exact Calls.quiet_of (l01In_is HI.out _)))
            all_goals
              go_wp2_with fail
              go_roundw
              case rel => exact ⟨j + 1, by omega, by go_num, TN.out, AN.out, below_drewN HB.out _⟩
              case measure => simp [intOf]; omega
          · obtain ⟨i, rfl⟩ : ∃ i, j = i + 1 := ⟨j - 1, by omega⟩
            obtain ⟨b', off', s, hbo, hs, has⟩ := HR.out.at_ (i := i) (by omega)
            simp only [Option.some.injEq, Addr.mk.injEq, and_true] at hbo
            obtain ⟨rfl, rfl⟩ := hbo
            have HS := Lib.hid hs; clear hs
            obtain ⟨d0, d1, ns⟩ := has
            have hi1 : (0 : Int) ≤ (i + 1 : Nat) - 1 := by omega
            have hi2 : (((i + 1 : Nat) : Int) - 1) < l.length := by omega
            have hi3 : (((i + 1 : Nat) : Int) - 1).toNat = i := by omega
            cases hls : lessS s.name t.name with
            | true =>
              have LS := Lib.hid hls
              have AN := Lib.hid (ascT_succ AS.out HN.out fun s' _ hs' => by
                rw [show i + 1 - 1 = i by omega, HS.out] at hs'
                injection hs' with hs'; subst hs'
                exact of_decide_eq_true hls)
              clear hls
              go_wp2_with fail
              go_quiet (first | (go_at_call 33; exact Calls.quiet_of (specWordOk_is HW.out _ nm)) | (go_at_call 50; exact Calls.quiet_of (l01In_is HI.out _)) | (go_at_call 84; exact Calls.quiet_of (l01Less_is LS.out _ ns nm)))
              all_goals
                go_wp2_with fail
                go_roundw
                case rel => exact ⟨i + 1 + 1, by omega, by go_num, TN.out, AN.out, below_drewN HB.out _⟩
                case measure => simp [intOf]; omega
            | false =>
              have LS := Lib.hid hls
              have E := Lib.hid (schema_order HS.out HN.out hls)
              clear hls
              go_wp2_with fail
              go_quiet (first | (go_at_call 33; exact Calls.quiet_of (specWordOk_is HW.out _ nm)) | (go_at_call 50; exact Calls.quiet_of (l01In_is HI.out _)) | (go_at_call 84; exact Calls.quiet_of (l01Less_is LS.out _ ns nm)))
              all_goals
                go_wp2_with fail
                go_ret
                exact ⟨ret_bool E.out.symm, below_drewN HB.out _⟩
    · obtain rfl : j = l.length := by omega
      have E := Lib.hid (schemaB_iff.2 ⟨show l.length ≤ 8 by omega, by have := TA.out; rwa [List.take_length] at this, by have := AS.out; rwa [List.take_length] at this⟩)
      go_wp2_with fail
      go_ret
      exact ⟨ret_bool E.out.symm, HB.out⟩
end Go.Proofs.YtcegekkhlfpgfaaDoor
