/-
  Contracts of the helpers over slices of int: eqIntS, markIntS, toIntS, heldIntS. For every slice of int.
-/
import Derived.Test.YtfpbhedophlnkaaDoorRow
namespace Go.Proofs.YtfpbhedophlnkaaDoor
open Go.RowKit
set_option linter.unusedSimpArgs false
set_option linter.unusedVariables false

set_option maxHeartbeats 800000 in
theorem eqIntS_any (a b : Option Addr) (c d : Nat) (l m : List Int) (w : World) (h : Rd w .i64 a l) (k : Rd w .i64 b m) (hn : l.length ≤ maxLen) (hm : m.length ≤ maxLen) :
    Calls Tryd.prog 28 #[.slice a l.length c, .slice b m.length d] w fun e w' => e = .returned (.bool (eqL l m)) ∧ Below w.heap.size w w' := by
  unfold maxLen at hn hm
  by_cases hlen : l.length = m.length
  · have hne : ((l.length : Int) != (m.length : Int)) = false := by simp [hlen]
    have HL := Lib.hid hlen; clear hlen
    rcases h with rfl | ⟨b1, o1, rfl, hc⟩
    · have hm0 : m = [] := List.eq_nil_of_length_eq_zero HL.out.symm
      subst hm0
      clear hne
      go_enter Tryd.func28, Tryd.ntmps28
      go_wp2
      refine wp_loop_rounds 1 ?_; rw [rounds_succ]; go_wp2
      go_ret
      exact ⟨rfl, Below.refl _ _⟩
    · rcases k with rfl | ⟨b2, o2, rfl, kc⟩
      · have hl0 : l = [] := List.eq_nil_of_length_eq_zero HL.out
        subst hl0
        clear hne hc
        go_enter Tryd.func28, Tryd.ntmps28
        go_wp2
        refine wp_loop_rounds 1 ?_; rw [rounds_succ]; go_wp2
        go_ret
        exact ⟨rfl, Below.refl _ _⟩
      · have HC := Lib.hid hc; have KC := Lib.hid kc; clear hc kc
        go_enter Tryd.func28, Tryd.ntmps28
        go_wp2
        go_loopw [5] (fun i wr => ∃ j q : Nat, j ≤ l.length ∧ i = .int .i64 j ∧ l.take j = m.take j ∧ wr = w.drewN q) (fun i _ => l.length - (intOf i).toNat)
        case atStart => exact ⟨0, 0, Nat.zero_le _, rfl, rfl, rfl⟩
        case round =>
          obtain ⟨j, q, hj, rfl, ht, rfl⟩ := hrel
          have HT := Lib.hid ht; clear ht
          by_cases hlt : j < l.length
          · have hlt2 : j < m.length := by have := HL.out; omega
            obtain ⟨x, _, hx, hcx, htx⟩ := Rd.at_ HC.out hlt
            obtain ⟨y, _, hy, hcy, hty⟩ := Rd.at_ KC.out hlt2
            have X := Lib.hid hx; have Y := Lib.hid hy; have TX := Lib.hid htx; have TY := Lib.hid hty
            clear hx hy htx hty
            have i1 : (j : Int) < (l.length : Int) := by omega
            have i2 : (j : Int) < (m.length : Int) := by omega
            by_cases hxy : x = y
            · subst hxy
              have hb : (x != x) = false := by simp
              go_wp2
              go_quiet (fail)
              go_wp2
              go_roundw
              case rel => exact ⟨j + 1, _, by omega, by go_num, by rw [TX.out, TY.out, HT.out], by first | rfl | rw [World.drewN_drewN]⟩
              case measure => simp [intOf]; omega
            · have hb : (x != y) = true := by simp [hxy]
              have HF := Lib.hid (eqL_no hxy X.out Y.out)
              clear hxy
              go_wp2
              go_quiet (fail)
              go_wp2
              go_ret
              exact ⟨ret_bool HF.out.symm, by first | exact below_drewN (Below.refl _ _) _ | exact below_drewN (below_drewN (Below.refl _ _) _) _⟩
          · go_wp2
            go_ret
            exact ⟨ret_bool (eqL_yes HL.out (by omega) HT.out).symm, below_drewN (Below.refl _ _) _⟩
  · have hne : ((l.length : Int) != (m.length : Int)) = true := by simp; omega
    have HF : Hid (eqL l m = false) := by
      show eqL l m = false
      unfold eqL; simp; rintro rfl; exact hlen rfl
    go_enter Tryd.func28, Tryd.ntmps28
    go_wp2
    go_ret
    exact ⟨ret_bool HF.out.symm, Below.refl _ _⟩
set_option maxHeartbeats 800000 in
theorem toIntS_any (a : Option Addr) (c : Nat) (l : List Int) (w : World) (h : Rd w .i64 a l) (hn : l.length ≤ 35184372088832) :
    Calls Tryd.prog 24 #[.slice a l.length c] w (Made w 3 .i64 l) := by
  obtain ⟨i0, hi, hz0, hz1, hz2⟩ := info_parts Tryd.infoI64
  have H := Lib.hid h; clear h
  rcases H.out with rfl | ⟨b, off, rfl, _⟩
  · go_enter Tryd.func24, Tryd.ntmps24
    go_wp2_with (at_make; refine wpList_make_full _ rfl (.tmp 6) (.tmp 6) 22 rfl w.heap.size 3 i0 (.int .i64 0) 1 Tryd.underlying22 hi hz0 hz1 .i64 .i64 _ _ 0 rfl rfl rfl rfl (by omega) (by unfold maxLen; omega) (Nat.le_refl _) ?_; intro w1 hown hgrow)
    refine wp_loop_rounds 1 ?_; rw [rounds_succ]; go_wp2
    go_ret
    rw [made_ints] at hown
    exact ⟨_, _, rfl, hown, below_of_grown hgrow (Nat.le_refl _) (by intro g hg; cases hg)⟩
  · go_enter Tryd.func24, Tryd.ntmps24
    go_wp2_with (at_make; refine wpList_make_full _ rfl (.tmp 6) (.tmp 6) 22 rfl w.heap.size 3 i0 (.int .i64 0) 1 Tryd.underlying22 hi hz0 hz1 .i64 .i64 _ _ l.length rfl rfl rfl rfl (by rw [hz2]; omega) (by unfold maxLen; omega) (Nat.le_refl _) ?_; intro w1 hown hgrow)
    rw [made_ints, ← fillL_zero] at hown
    have hbel : Below w.heap.size w w1 := below_of_grown hgrow (Nat.le_refl _) (by intro g hg; cases hg)
    clear hgrow hi hz0 hz1 hz2
    go_loopw [4] (fun i wr => ∃ j : Nat, j ≤ l.length ∧ i = .int .i64 j ∧ wr.ownsRow w.heap.size 3 1 (.slice (some ⟨w.heap.size, 0, none⟩) l.length l.length) l.length ((fillL l j).map (Value.int .i64)) ∧ Below w.heap.size w wr) (fun i _ => l.length - (intOf i).toNat)
    case atStart => exact ⟨0, Nat.zero_le _, rfl, hown, hbel⟩
    case round =>
      clear hown hbel
      obtain ⟨j, hj, rfl, ho, hb⟩ := hrel
      by_cases hlt : j < l.length
      · obtain ⟨b', off', heq, hc⟩ : ∃ b' off', (some ⟨b, off, none⟩ : Option Addr) = some ⟨b', off', none⟩ ∧ ∀ i, i < l.length → wr.cell? ⟨b', off' + i, none⟩ = some (.int .i64 (l.getD i 0)) := by
          rcases H.out.below hb with rfl | h'
          · simp at hlt
          · exact h'
        simp only [Option.some.injEq, Addr.mk.injEq, and_true] at heq
        obtain ⟨rfl, rfl⟩ := heq
        obtain ⟨z, _, _, hcz, ht⟩ := Rd.at_ hc hlt
        obtain ⟨y, hy⟩ := toS_cell hlt ho
        have hf := ho.frozenAt j
        have R := Lib.hid (toS_round hlt ht (Nat.le_refl _) ho hb)
        clear ht hc ho hb
        go_wp2
        go_roundw
        case rel => exact ⟨j + 1, by omega, by go_num, R.out.1, R.out.2⟩
        case measure => simp [intOf]; omega
      · go_wp2
        go_ret
        refine ⟨_, _, rfl, ?_, hb⟩
        rw [fillL_all l j (by omega)] at ho
        exact ho

end Go.Proofs.YtfpbhedophlnkaaDoor
