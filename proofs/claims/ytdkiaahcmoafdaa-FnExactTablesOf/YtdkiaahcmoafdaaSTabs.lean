/-
  Contract of spec.TablesOf: the names of the scans, each once, by their bytes. For every slice of nodes.
-/
import Derived.Test.YtdkiaahcmoafdaaTabsI
import Derived.Test.YtdkiaahcmoafdaaSPlan
import Derived.Test.YtdkiaahcmoafdaaGrow
namespace Go.Proofs.Ytdkiaahcmoafdaa
open Go.RowKit
set_option linter.unusedSimpArgs false
set_option linter.unusedVariables false

set_option maxRecDepth 100000 in
set_option maxHeartbeats 4000000 in
theorem specTables_any (ao : Option Addr) (c : Nat) (p : List Nd) (w : World) (h : RdN w ao p) (hp : p.length ≤ 1048576) :
    Calls Try.prog 26 #[.slice ao p.length c] w (MadeS w (if planB p = true then tabsOf (scans p) else [])) := by
  have H := Lib.hid h; clear h
  have O0 := Lib.hid (ownS_empty (w := w) (base := w.heap.size) (Nat.le_refl _))
  have B0 := Lib.hid ((Below.refl w.heap.size w).alloc (Nat.le_refl _) (.cells #[] 9))
  cases hb : planB p with
  | false =>
    have HB := Lib.hid hb; clear hb
    go_enter Try.func26, Try.ntmps26
    go_wp2_with fail
    refine (specPlanOk_any ao c p _ (H.out.below B0.out) hp).mono ?_
    rintro e w1 ⟨rfl, b1⟩
    rw [HB.out]
    have B1 := Lib.hid (below_step B0.out (Nat.le_refl _) b1); clear b1
    go_wp2_with fail
    go_ret
    exact ⟨none, 0, rfl, OwnS.none_, B1.out⟩
  | true =>
    have HB := Lib.hid hb; clear hb
    go_enter Try.func26, Try.ntmps26
    go_wp2_with fail
    refine (specPlanOk_any ao c p _ (H.out.below B0.out) hp).mono ?_
    rintro e w1 ⟨rfl, b1⟩
    rw [HB.out]
    have B1 := Lib.hid (below_step B0.out (Nat.le_refl _) b1)
    have O1 := Lib.hid (O0.out.below b1); clear b1 O0 B0
    have H40 : p.length ≤ 40 := by
      have := HB.out
      unfold planB at this
      cases ht : treeN p with
      | none => rw [ht] at this; cases this
      | some T => exact (treeN_some ht).1
    go_wp2_with fail
    go_loopw [3, 4] (fun o i wr => ∃ (j : Nat) (a3 : Option Addr) (c3 : Nat), j ≤ p.length ∧ i = .int .i64 j ∧ o = .slice a3 (tabsOf (scans (p.take j))).length c3 ∧ OwnS wr w.heap.size a3 c3 (tabsOf (scans (p.take j))) ∧ Below w.heap.size w wr) (fun _ i _ => p.length - (intOf i).toNat)
    case atStart => exact ⟨0, _, _, Nat.zero_le _, rfl, rfl, O1.out, B1.out⟩
    case round =>
      clear O1 B1
      obtain ⟨j, a3, c3, hj, rfl, rfl, ho, hb⟩ := hrel
      have HO := Lib.hid ho; have HW := Lib.hid hb
      by_cases hlt : j < p.length
      · obtain ⟨b, off, n, a, c', rfl, hn, hat⟩ := (H.out.below hb).at_ (i := j) hlt
        have hbl := hat.lt
        have c0 := hat.c0
        have c1 := hat.c1
        have HN := Lib.hid hn
        have i1 : (j : Int) < (p.length : Int) := by omega
        clear hat hn ho hb
        by_cases hk : n.kind = 0
        · have hk0 : (n.kind != 0) = false := by simp [hk]
          have ES := Lib.hid (scans_take_yes HN.out hk)
          have hnm := H.out.name (List.mem_of_getElem? HN.out)
          have hsz : ∀ z ∈ tabsOf (scans (p.take j)), z.size ≤ maxLen := fun z hz => tabs_name H.out hz
          have hlen : (tabsOf (scans (p.take j))).length ≤ 40 := by
            have h1 := tabsOf_len (scans (p.take j)) []
            have h2 := scans_len (p.take j)
            have h3 : (p.take j).length ≤ p.length := by simp; omega
            unfold tabsOf; simp only [List.length_nil] at h1; omega
          clear hk
          generalize htt : tabsOf (scans (p.take j)) = out at *
          have HTT := Lib.hid htt; clear htt
          generalize hxx : n.name = x at *
          have HXX := Lib.hid hxx; clear hxx
          go_wp2_with fail
          generalize wr = w0 at *
          go_loopw [5, 6, 7] (fun nx pt kk w2 => ∃ (k : Nat) (a5 : Option Addr) (c5 : Nat), k ≤ out.length ∧ kk = .int .i64 k ∧ nx = .slice a5 ((out.take k).foldl (insR x) ([], false)).1.length c5 ∧ pt = .bool ((out.take k).foldl (insR x) ([], false)).2 ∧ OwnS w2 w0.heap.size a5 c5 ((out.take k).foldl (insR x) ([], false)).1 ∧ Below w0.heap.size w0 w2) (fun _ _ kk _ => out.length - (intOf kk).toNat)
          case atStart => exact ⟨0, _, _, Nat.zero_le _, rfl, rfl, rfl, ownS_empty (Nat.le_refl _), (Below.refl _ _).alloc (Nat.le_refl _) _⟩
          case round =>
            obtain ⟨k, a5, c5, hkk, rfl, rfl, rfl, h5, b5⟩ := hrel
            have SL := insR_len x (out.take k) ([], false)
            generalize hS : (out.take k).foldl (insR x) ([], false) = S at *
            obtain ⟨S1, S2⟩ := S
            simp only at h5 SL ⊢
            have sl : S1.length ≤ 100 := by
              have : (out.take k).length ≤ out.length := by simp; omega
              simp at SL; omega
            have HS := Lib.hid hS; have H5 := Lib.hid h5; have B5 := Lib.hid b5
            have hw5 := b5.size
            have d1 := (b5.cell (p := ⟨b, off + j * 7 + 1, none⟩) hbl).trans c1
            by_cases hlt2 : k < out.length
            · obtain ⟨y, hym, hy, hcy⟩ : ∃ y, y ∈ out ∧ out[k]? = some y ∧ ∃ g3, a3 = some ⟨g3, 0, none⟩ ∧ wr.cell? ⟨g3, k, none⟩ = some (.string y) := by
                rcases HO.out.form with ⟨_, _, hz⟩ | ⟨g3, hg, _, hg3⟩
                · rw [hz] at hlt2; simp at hlt2
                · subst hg
                  have h1 := HO.out.cell k hlt2
                  rw [List.getD_eq_getElem?_getD, List.getElem?_eq_getElem hlt2] at h1
                  exact ⟨out[k], List.getElem_mem hlt2, List.getElem?_eq_getElem hlt2, g3, rfl, (b5.cell hg3).trans h1⟩
              obtain ⟨g3, rfl, hcy⟩ := hcy
              have hg3 : g3 < w0.heap.size := (HO.out.lt _ rfl).2
              have hys := hsz y hym
              have FT := Lib.hid (fold_take hy hS)
              have i2 : (k : Int) < (out.length : Int) := by omega
              clear hy hS h5 b5 SL
              have hcy0 := (B5.out.cell (p := ⟨g3, k, none⟩) hg3).symm.trans hcy
              have hbl5 : b < wr.heap.size := by omega
              have hg5 : g3 < wr.heap.size := by omega
              cases S2 with
              | true =>
                have E := Lib.hid (show insR x (S1, true) y = (S1 ++ [y], true) from rfl)
                go_wp2_with fail
                go_quiet (fail)
                go_wp2_with fail
                go_quiet (fail)
                go_wp2_with (at_builtin; refine wpList_appendSs _ rfl (.tmp 67) (.tmp 72) 38 rfl w0.heap.size Try.underlying38 Try.infoStr a5 c5 S1.length S1 rfl rfl ((H5.out.below (below_drewN (Below.refl _ _) _)).alloc _) _ 1 _ [y] rfl rfl (by intro i hi; obtain rfl : i = 0 := (by simpa using hi); exact cell_one _ _ _) (by simp; omega) (by have := B5.out.size; simp; omega) ?_; intro ao2 c2 w2 o9 g9; have B2 := Lib.hid (below_appS (below_drewN B5.out _) (H5.out.below (below_drewN (Below.refl _ _) _)) g9); have O2 := Lib.hid o9; clear o9 g9)
                go_roundw
                case rel => exact ⟨k + 1, ao2, c2, by omega, by go_num, by rw [FT.out, E.out]; simp, by rw [FT.out, E.out], by rw [FT.out, E.out]; exact O2.out, B2.out⟩
                case measure => simp [intOf]; omega
              | false =>
                by_cases hxy : x = y
                · subst hxy
                  have E := Lib.hid (show insR x (S1, false) x = (S1 ++ [x], true) by simp [insR])
                  have hb0 : (x.toList == x.toList) = true := by simp
                  go_wp2_with fail
                  go_quiet (fail)
                  go_wp2_with fail
                  go_quiet (fail)
                  go_wp2_with (at_builtin; refine wpList_appendSs _ rfl (.tmp 67) (.tmp 72) 38 rfl w0.heap.size Try.underlying38 Try.infoStr a5 c5 S1.length S1 rfl rfl ((H5.out.below (below_drewN (Below.refl _ _) _)).alloc _) _ 1 _ [x] rfl rfl (by intro i hi; obtain rfl : i = 0 := (by simpa using hi); exact cell_one _ _ _) (by simp; omega) (by have := B5.out.size; simp; omega) ?_; intro ao2 c2 w2 o9 g9; have B2 := Lib.hid (below_appS (below_drewN B5.out _) (H5.out.below (below_drewN (Below.refl _ _) _)) g9); have O2 := Lib.hid o9; clear o9 g9)
                  go_roundw
                  case rel => exact ⟨k + 1, ao2, c2, by omega, by go_num, by rw [FT.out, E.out]; simp, by rw [FT.out, E.out], by rw [FT.out, E.out]; exact O2.out, B2.out⟩
                  case measure => simp [intOf]; omega
                · have hb0 : (x.toList == y.toList) = false := by simp [str_eq, hxy]
                  cases hls : lessS x y with
                  | true =>
                    have E := Lib.hid (show insR x (S1, false) y = (S1 ++ [x] ++ [y], true) by simp [insR, hxy, hls])
                    have LS := Lib.hid hls; clear hls hxy
                    go_wp2_with fail
                    go_quiet (fail)
                    go_wp2_with fail
                    obtain ⟨wq, hwq⟩ : ∃ wq, wq = wr.drewN nq := ⟨_, rfl⟩
                    rw [← hwq]
                    have dq := (show wq.cell? ⟨b, off + j * 7 + 1, none⟩ = some (.string x) by rw [hwq]; exact d1)
                    have yq := (show wq.cell? ⟨g3, k, none⟩ = some (.string y) by rw [hwq]; exact hcy)
                    have HQ := Lib.hid (show OwnS wq w0.heap.size a5 c5 S1 by rw [hwq]; exact H5.out.below (below_drewN (Below.refl _ _) _))
                    have BQ := Lib.hid (show Below w0.heap.size w0 wq by rw [hwq]; exact below_drewN B5.out _)
                    clear hwq d1 hcy
                    go_quiet ((go_at_call 71; exact Calls.quiet_of (l01Less_is LS.out _ hnm hys)))
                    all_goals
                      go_wp2_with (first | (at_builtin; refine wpList_appendSs _ rfl (.tmp 59) (.tmp 65) 38 rfl w0.heap.size Try.underlying38 Try.infoStr a5 c5 S1.length S1 rfl rfl ((HQ.out.below (below_drewN (Below.refl _ _) _)).alloc _) _ 1 _ [x] rfl rfl (by intro i hi; obtain rfl : i = 0 := (by simpa using hi); exact cell_one _ _ _) (by simp; omega) (by have := BQ.out.size; simp; omega) ?_; intro ao4 c4 w4 o9 g9; have B4 := Lib.hid (below_appS (below_drewN BQ.out _) (HQ.out.below (below_drewN (Below.refl _ _) _)) g9); have O4 := Lib.hid o9; clear o9 g9; have hcy4 := (B4.out.cell (p := ⟨g3, k, none⟩) hg3).trans hcy0) | (at_builtin; refine wpList_appendSs _ rfl (.tmp 67) (.tmp 72) 38 rfl w0.heap.size Try.underlying38 Try.infoStr ao4 c4 (S1.length + 1) (S1 ++ [x]) rfl (by simp) ((O4.out).alloc _) _ 1 _ [y] rfl rfl (by intro i hi; obtain rfl : i = 0 := (by simpa using hi); exact cell_one _ _ _) (by simp; omega) (by have := B4.out.size; simp; omega) ?_; intro ao2 c2 w2 o9 g9; have B2 := Lib.hid (below_appS (B4.out) (O4.out) g9); have O2 := Lib.hid o9; clear o9 g9))
                      go_roundw
                      case rel => exact ⟨k + 1, ao2, c2, by omega, by go_num, by rw [FT.out, E.out]; simp, by rw [FT.out, E.out], by rw [FT.out, E.out]; exact O2.out, B2.out⟩
                      case measure => simp [intOf]; omega
                  | false =>
                    have E := Lib.hid (show insR x (S1, false) y = (S1 ++ [y], false) by simp [insR, hxy, hls])
                    have LS := Lib.hid hls; clear hls hxy
                    go_wp2_with fail
                    go_quiet (fail)
                    go_wp2_with fail
                    obtain ⟨wq, hwq⟩ : ∃ wq, wq = wr.drewN nq := ⟨_, rfl⟩
                    rw [← hwq]
                    have dq := (show wq.cell? ⟨b, off + j * 7 + 1, none⟩ = some (.string x) by rw [hwq]; exact d1)
                    have yq := (show wq.cell? ⟨g3, k, none⟩ = some (.string y) by rw [hwq]; exact hcy)
                    have HQ := Lib.hid (show OwnS wq w0.heap.size a5 c5 S1 by rw [hwq]; exact H5.out.below (below_drewN (Below.refl _ _) _))
                    have BQ := Lib.hid (show Below w0.heap.size w0 wq by rw [hwq]; exact below_drewN B5.out _)
                    clear hwq d1 hcy
                    go_quiet ((go_at_call 71; exact Calls.quiet_of (l01Less_is LS.out _ hnm hys)))
                    all_goals
                      go_wp2_with (at_builtin; refine wpList_appendSs _ rfl (.tmp 67) (.tmp 72) 38 rfl w0.heap.size Try.underlying38 Try.infoStr a5 c5 S1.length S1 rfl rfl ((HQ.out.below (below_drewN (Below.refl _ _) _)).alloc _) _ 1 _ [y] rfl rfl (by intro i hi; obtain rfl : i = 0 := (by simpa using hi); exact cell_one _ _ _) (by simp; omega) (by have := BQ.out.size; simp; omega) ?_; intro ao2 c2 w2 o9 g9; have B2 := Lib.hid (below_appS (below_drewN BQ.out _) (HQ.out.below (below_drewN (Below.refl _ _) _)) g9); have O2 := Lib.hid o9; clear o9 g9)
                      go_roundw
                      case rel => exact ⟨k + 1, ao2, c2, by omega, by go_num, by rw [FT.out, E.out]; simp, by rw [FT.out, E.out], by rw [FT.out, E.out]; exact O2.out, B2.out⟩
                      case measure => simp [intOf]; omega
            · obtain rfl : k = out.length := by omega
              have FI := insR_ins x out []
              rw [List.take_length] at hS
              rw [hS] at FI
              clear hS h5 b5 SL
              cases S2 with
              | true =>
                have FJ := Lib.hid (show tabsOf (scans (p.take (j + 1))) = S1 by rw [ES.out]; simpa using FI.symm)
                clear FI
                go_wp2_with fail
                go_roundw
                case rel => exact ⟨j + 1, a5, c5, by omega, by go_num, by rw [FJ.out], by rw [FJ.out]; exact H5.out.base_le HW.out.size, below_step HW.out (Nat.le_refl _) B5.out⟩
                case measure => simp [intOf]; omega
              | false =>
                have FJ := Lib.hid (show tabsOf (scans (p.take (j + 1))) = S1 ++ [x] by rw [ES.out]; simpa using FI.symm)
                clear FI
                go_wp2_with (at_builtin; refine wpList_appendSs _ rfl (.tmp 76) (.tmp 82) 38 rfl w0.heap.size Try.underlying38 Try.infoStr a5 c5 S1.length S1 rfl rfl (H5.out.alloc _) _ 1 _ [x] rfl rfl (by intro i hi; obtain rfl : i = 0 := (by simpa using hi); exact cell_one _ _ _) (by simp; omega) (by have := B5.out.size; simp; omega) ?_; intro ao2 c2 w2 o9 g9; have B2 := Lib.hid (below_appS B5.out H5.out g9); have O2 := Lib.hid o9; clear o9 g9)
                go_roundw
                case rel => exact ⟨j + 1, ao2, c2, by omega, by go_num, by rw [FJ.out]; simp, by rw [FJ.out]; exact O2.out.base_le HW.out.size, below_step HW.out (Nat.le_refl _) B2.out⟩
                case measure => simp [intOf]; omega
        · have hk0 : (n.kind != 0) = true := by simp [hk]
          have ES := Lib.hid (scans_take_no HN.out hk)
          clear hk
          go_wp2_with fail
          go_roundw
          case rel => exact ⟨j + 1, a3, c3, by omega, by go_num, by rw [ES.out], by rw [ES.out]; exact HO.out, HW.out⟩
          case measure => simp [intOf]; omega
      · obtain rfl : j = p.length := by omega
        clear ho hb
        go_wp2_with fail
        go_ret
        refine ⟨a3, c3, ?_, ?_, HW.out⟩
        · first | rfl | rw [if_pos rfl]
        · have := HO.out; rw [List.take_length] at this; exact this
end Go.Proofs.Ytdkiaahcmoafdaa
