/-
  The walk of FnExactParsePlan.
-/
import Derived.Test.YtfpbhedophlnkaaGreatDoorRows
import Derived.Test.YtfpbhedophlnkaaGreatDoorArg
import Derived.Test.YtfpbhedophlnkaaGreatDoorSPrH
import Derived.Test.YtfpbhedophlnkaaGreatDoorIPrJ
import Derived.Test.YtfpbhedophlnkaaGreatDoorKM
namespace Go.Proofs.YtfpbhedophlnkaaGreatDoor.fnExactParsePlan
open Go.RowKit
set_option linter.unusedSimpArgs false
set_option linter.unusedVariables false
set_option linter.unusedVariables false

theorem mlen_6 {l : List Nd} (h : ∀ n ∈ l, n.cols.length ≤ 6) : mlen l ≤ 12 * l.length := by
  induction l with
  | nil => simp [mlen_nil]
  | cons n l ih =>
    rw [mlen_cons]
    have h1 := h n (by simp)
    have h2 := ih (fun m hm => h m (by simp [hm]))
    simp only [List.length_cons]; omega
theorem parse_small (s : ByteArray) : (parseO s).1.length ≤ 2000 ∧ ∀ n ∈ (parseO s).1, n.cols.length ≤ 6 := by
  by_cases h : 2000 < s.size
  · unfold parseO; rw [if_pos h]; simp
  · have hw : wordsO s = (wordsL s.data.toList).map mkBs := by unfold wordsO; rw [if_neg h]
    have hl : (wordsO s).length ≤ 2000 := by rw [hw]; exact wordsL_acc (by omega)
    unfold parseO
    rw [if_neg h, parseQ_pick]
    cases hg : goQ (wordsO s) ((wordsO s).length + 2) [] 1 0 with
    | inl q => simp [pickQ]
    | inr x =>
      obtain ⟨l, q⟩ := x
      have hb := goQ_bd _ _ _ _ l q hg (by simp) (by simp) (by simp)
      unfold pickQ
      simp only
      split
      · simp
      · split
        · exact ⟨by simp only; omega, hb.2.2⟩
        · simp
set_option maxRecDepth 100000 in
set_option maxHeartbeats 4000000 in
theorem walk (w : World) (s : ByteArray) (hx : s.size ≤ maxLen) (hg : GlobN w) :
    Calls Tryz.prog 8 #[.string s] w fun e w' => e = .returned (.bool true) ∧ Below w.heap.size w w' := by
  by_cases hbig : 1048576 < s.size
  · have hbig' : (1048576 : Int) < s.size := by omega
    clear hg
    go_enter Tryz.func8, Tryz.ntmps8
    go_wp2_with fail
    go_ret
    exact ⟨rfl, Below.refl _ _⟩
  have hbig' : (s.size : Int) ≤ 1048576 := by omega
  have hd0 := parse_small s
  have hm2 := mlen_6 hd0.2
  have hql := hd0.1
  have hm0 := mlen_pos (parseO s).1
  clear hd0
  have S : Hid (∀ (w : World), Calls Tryz.prog 56 #[.string s] w (MadeN2 (parseO s) w)) := fun w => specParsePlan_any s w (by omega)
  have I : Hid (∀ (w : World), GlobN w → Calls Tryz.prog 53 #[.string s] w (MadeN2 (parseO s) w)) := fun w g => implParsePlan_any s w g (by omega)
  unfold MadeN2 at S I
  generalize (parseO s).1 = q at S I hql hm2 hm0
  generalize (parseO s).2 = nx at S I
  have hnn : (nx != nx) = false := by simp
  have hm : q.length ≤ maxLen := by unfold maxLen; omega
  have HM := Lib.hid hm; have G0 := Lib.hid hg
  clear hm hg hx hbig
  go_enter Tryz.func8, Tryz.ntmps8
  go_wp2_with fail
  refine (S.out _).mono ?_
  rintro e w2 ⟨aw, cw, rfl, o2, b2⟩
  have T2 := Lib.hid b2; have W2 := Lib.hid o2.rd
  have z2 := b2.size
  clear o2 b2
  go_wp2_with fail
  refine (I.out _ (G0.out.below T2.out)).mono ?_
  rintro e w4 ⟨ag, cg, rfl, o4, b4⟩
  have T4 := Lib.hid (below_step T2.out (Nat.le_refl _) b4); have D4 := Lib.hid b4; have G4 := Lib.hid o4.hi
  have z4 := b4.size
  clear o4 b4 T2
  go_wp2_with fail
  refine (eqNodeS_any _ _ _ _ _ _ _ G4.out.rd (W2.out.below D4.out) HM.out HM.out).mono ?_
  rintro e w5 ⟨rfl, b5⟩
  rw [eqNs_refl]
  have T9 := Lib.hid (below_step T4.out (Nat.le_refl _) b5); have D9 := Lib.hid (below_step D4.out (Nat.le_refl _) b5); have G9 := Lib.hid (G4.out.below b5)
  clear b5 T4 D4 G4
  go_wp2_with fail
  refine (markNodeS_any _ _ ag cg q 1 _ G9.out (by omega) (by omega) (by omega)).mono ?_
  rintro e w10 ⟨rfl, m10, f10⟩
  have T10 := Lib.hid (f10.below T9.out z2 (Nat.le_refl _))
  have D10 := Lib.hid (f10.below D9.out (Nat.le_refl _) (Nat.le_refl _))
  have K10 := Lib.hid m10.rd
  clear m10 f10 T9 D9 G9
  go_wp2_with fail
  refine (heldNodeS_any ag cg q 1 _ K10.out (by omega) (by omega) (by omega)).mono ?_
  rintro e v10 ⟨rfl, bb⟩
  have TT10 := Lib.hid (below_step T10.out (Nat.le_refl _) bb); have DD10 := Lib.hid (below_step D10.out (Nat.le_refl _) bb); have KK10 := Lib.hid (K10.out.below bb)
  have q1 : (1 + mlen q != 1 + mlen q) = false := by simp
  clear bb T10 D10 K10
  go_wp2_with fail
  refine (I.out _ (G0.out.below TT10.out)).mono ?_
  rintro e w12 ⟨ah, ch, rfl, o12, b12⟩
  have T12 := Lib.hid (below_step TT10.out (Nat.le_refl _) b12); have D12 := Lib.hid (below_step DD10.out (Nat.le_refl _) b12); have K12 := Lib.hid (KK10.out.below b12); have H12 := Lib.hid o12.rd
  clear o12 b12 TT10 DD10 KK10
  go_wp2_with fail
  refine (eqNodeS_any _ _ _ _ _ _ _ H12.out (W2.out.below D12.out) HM.out HM.out).mono ?_
  rintro e w13 ⟨rfl, b13⟩
  rw [eqNs_refl]
  have T13 := Lib.hid (below_step T12.out (Nat.le_refl _) b13); have K13 := Lib.hid (K12.out.below b13)
  clear b13 T12 D12 K12 H12
  go_wp2_with fail
  refine (heldNodeS_any ag cg q 1 _ K13.out (by omega) (by omega) (by omega)).mono ?_
  rintro e v13 ⟨rfl, bb⟩
  have TT13 := Lib.hid (below_step T13.out (Nat.le_refl _) bb)
  clear bb
  go_wp2_with fail
  go_ret
  exact ⟨rfl, TT13.out⟩
end Go.Proofs.YtfpbhedophlnkaaGreatDoor.fnExactParsePlan
