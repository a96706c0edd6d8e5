/-
  Contracts of TidyPlan and IsPlanText, the model's and the program's. For every text that is not too long.
-/
import Derived.Test.YtfpbhedophlnkaaGreatDoorSPrH
import Derived.Test.YtfpbhedophlnkaaGreatDoorSPrt
import Derived.Test.YtfpbhedophlnkaaGreatDoorIPrt
namespace Go.Proofs.YtfpbhedophlnkaaGreatDoor
open Go.RowKit
set_option linter.unusedSimpArgs false
set_option linter.unusedVariables false

theorem parseO_small (s : ByteArray) : (parseO s).1.length ≤ 2000 ∧ (∀ n ∈ (parseO s).1, n.cols.length ≤ 6) ∧ ((parseO s).2 = -1 ∨ 0 ≤ (parseO s).2) := by
  by_cases h : 2000 < s.size
  · unfold parseO; rw [if_pos h]; simp
  · have hw : wordsO s = (wordsL s.data.toList).map mkBs := by unfold wordsO; rw [if_neg h]
    have hl : (wordsO s).length ≤ 2000 := by rw [hw]; exact wordsL_acc (by omega)
    unfold parseO
    rw [if_neg h, parseQ_pick]
    cases hg : goQ (wordsO s) ((wordsO s).length + 2) [] 1 0 with
    | inl q => exact ⟨by simp [pickQ], by simp [pickQ], .inr (by simp [pickQ])⟩
    | inr x =>
      obtain ⟨l, q⟩ := x
      have hb := goQ_bd _ _ _ _ l q hg (by simp) (by simp) (by simp)
      unfold pickQ
      simp only
      split
      · refine ⟨by simp, by simp, .inr (by simp)⟩
      · split
        · exact ⟨by simp only; omega, hb.2.2, .inl rfl⟩
        · exact ⟨by simp, by simp, .inr (by simp)⟩
/-- TidyPlan's answer. -/
noncomputable def tidyO (s : ByteArray) : ByteArray × Bool := if (parseO s).2 = -1 then (planO (parseO s).1, true) else (⟨#[]⟩, false)
noncomputable def isTxt (s : ByteArray) : Bool := if (parseO s).2 = -1 then decide (planO (parseO s).1 = s) else false

set_option maxRecDepth 100000 in
set_option maxHeartbeats 1600000 in
theorem specTidy_any (s : ByteArray) (w : World) (hs : s.size ≤ 9223372036854775807) :
    Calls Tryz.prog 66 #[.string s] w fun e w' => e = .returned (.tuple #[.string (tidyO s).1, .bool (tidyO s).2]) ∧ Below w.heap.size w w' := by
  have hb := parseO_small s
  have P := Lib.hid (fun W => specParsePlan_any s W hs)
  have T : Hid (tidyO s = if (parseO s).2 = -1 then (planO (parseO s).1, true) else (⟨#[]⟩, false)) := rfl
  obtain ⟨⟨l, x⟩, hx⟩ : ∃ r, r = parseO s := ⟨_, rfl⟩
  obtain ⟨res, hres⟩ : ∃ r, r = tidyO s := ⟨_, rfl⟩
  rw [← hx] at P T hb
  rw [← hres] at T ⊢
  simp only at hb T
  clear hx hres
  have PP := Lib.hid (fun a c W (h : RdN W a l) => specPrintPlan_any a c l W h (by omega))
  unfold MadeN2 at P
  simp only at P
  by_cases h1 : x = -1
  · subst h1
    have E : Hid (res = (planO l, true)) := T.out
    clear T hb
    go_enter Tryz.func66, Tryz.ntmps66
    go_wp2_with fail
    refine (P.out _).mono ?_
    rintro e w1 ⟨a, c, rfl, o1, b1⟩
    have B1 := Lib.hid b1; have R1 := Lib.hid o1.rd
    clear o1 b1
    go_wp2_with fail
    refine (PP.out _ _ _ R1.out).mono ?_
    rintro e w2 ⟨rfl, b2⟩
    have B2 := Lib.hid (below_step B1.out (Nat.le_refl _) b2)
    clear b2
    go_wp2_with fail
    go_ret2
    exact ⟨by rw [E.out]; rfl, B2.out⟩
  · have E : Hid (res = (⟨#[]⟩, false)) := by show _ = _; rw [T.out, if_neg h1]
    have h0 : decide (0 ≤ x) = true := by simp; omega
    have h0' : 0 ≤ x := by omega
    clear T hb
    go_enter Tryz.func66, Tryz.ntmps66
    go_wp2_with fail
    refine (P.out _).mono ?_
    rintro e w1 ⟨a, c, rfl, o1, b1⟩
    clear o1
    go_wp2_with fail
    go_ret2
    exact ⟨by rw [E.out]; rfl, b1⟩
set_option maxRecDepth 100000 in
set_option maxHeartbeats 1600000 in
theorem implTidy_any (s : ByteArray) (w : World) (hg : GlobN w) (hs : s.size ≤ 9223372036854775807) :
    Calls Tryz.prog 57 #[.string s] w fun e w' => e = .returned (.tuple #[.string (tidyO s).1, .bool (tidyO s).2]) ∧ Below w.heap.size w w' := by
  have hb := parseO_small s
  have G := Lib.hid hg
  have P := Lib.hid (fun W g => implParsePlan_any s W g hs)
  have T : Hid (tidyO s = if (parseO s).2 = -1 then (planO (parseO s).1, true) else (⟨#[]⟩, false)) := rfl
  obtain ⟨⟨l, x⟩, hx⟩ : ∃ r, r = parseO s := ⟨_, rfl⟩
  obtain ⟨res, hres⟩ : ∃ r, r = tidyO s := ⟨_, rfl⟩
  rw [← hx] at P T hb
  rw [← hres] at T ⊢
  simp only at hb T
  clear hx hres hg
  have PP := Lib.hid (fun a c W (h : RdN W a l) g => implPrintPlan_any a c l ⟨by omega, fun n hn => by have := hb.2.1 n hn; omega⟩ W h g)
  unfold MadeN2 at P
  simp only at P
  by_cases h1 : x = -1
  · subst h1
    have E : Hid (res = (planO l, true)) := T.out
    clear T hb
    go_enter Tryz.func57, Tryz.ntmps57
    go_wp2_with fail
    refine (P.out _ G.out).mono ?_
    rintro e w1 ⟨a, c, rfl, o1, b1⟩
    have B1 := Lib.hid b1; have R1 := Lib.hid o1.rd
    clear o1 b1
    go_wp2_with fail
    refine (PP.out _ _ _ R1.out (G.out.below B1.out).tab).mono ?_
    rintro e w2 ⟨rfl, b2⟩
    have B2 := Lib.hid (below_step B1.out (Nat.le_refl _) b2)
    clear b2
    go_wp2_with fail
    go_ret2
    exact ⟨by rw [E.out]; rfl, B2.out⟩
  · have E : Hid (res = (⟨#[]⟩, false)) := by show _ = _; rw [T.out, if_neg h1]
    have h0 : (x != -1) = true := by simpa using h1
    clear T hb
    go_enter Tryz.func57, Tryz.ntmps57
    go_wp2_with fail
    refine (P.out _ G.out).mono ?_
    rintro e w1 ⟨a, c, rfl, o1, b1⟩
    clear o1
    go_wp2_with fail
    go_ret2
    exact ⟨by rw [E.out]; rfl, b1⟩

theorem tidy_is (s : ByteArray) : isTxt s = ((tidyO s).2 && decide ((tidyO s).1 = s)) := by
  unfold isTxt tidyO
  split <;> simp
set_option maxRecDepth 100000 in
set_option maxHeartbeats 1600000 in
theorem implIsText_any (s : ByteArray) (w : World) (hg : GlobN w) (hs : s.size ≤ 9223372036854775807) :
    Calls Tryz.prog 54 #[.string s] w fun e w' => e = .returned (.bool (isTxt s)) ∧ Below w.heap.size w w' := by
  have T := Lib.hid (implTidy_any s w hg hs)
  rw [tidy_is]
  obtain ⟨⟨t, ok⟩, ht⟩ : ∃ r, r = tidyO s := ⟨_, rfl⟩
  rw [← ht] at T ⊢
  clear ht hg
  have key := Lib.hid (str_same t s)
  cases ok
  all_goals
    go_enter Tryz.func54, Tryz.ntmps54
    go_wp2_with fail
    refine T.out.mono ?_
    rintro e w1 ⟨rfl, b1⟩
    go_wp2_with fail
    go_ret
    exact ⟨by first | rfl | (rw [← key.out]; rfl), b1⟩
set_option maxRecDepth 100000 in
set_option maxHeartbeats 1600000 in
theorem specIsText_any (s : ByteArray) (w : World) (hs : s.size ≤ 9223372036854775807) :
    Calls Tryz.prog 65 #[.string s] w fun e w' => e = .returned (.bool (isTxt s)) ∧ Below w.heap.size w w' := by
  have hb := parseO_small s
  have P := Lib.hid (fun W => specParsePlan_any s W hs)
  have T : Hid (isTxt s = if (parseO s).2 = -1 then decide (planO (parseO s).1 = s) else false) := rfl
  obtain ⟨⟨l, x⟩, hx⟩ : ∃ r, r = parseO s := ⟨_, rfl⟩
  obtain ⟨res, hres⟩ : ∃ r, r = isTxt s := ⟨_, rfl⟩
  rw [← hx] at P T hb
  rw [← hres] at T ⊢
  simp only at hb T
  clear hx hres
  have PP := Lib.hid (fun a c W (h : RdN W a l) => specPrintPlan_any a c l W h (by omega))
  unfold MadeN2 at P
  simp only at P
  by_cases h1 : x = -1
  · subst h1
    have E : Hid (res = decide (planO l = s)) := T.out
    obtain ⟨t, ht⟩ : ∃ t, t = planO l := ⟨_, rfl⟩
    rw [← ht] at E PP
    have key := Lib.hid (str_same t s)
    clear T hb ht
    all_goals
      go_enter Tryz.func65, Tryz.ntmps65
      go_wp2_with fail
      refine (P.out _).mono ?_
      rintro e w1 ⟨a, c, rfl, o1, b1⟩
      have B1 := Lib.hid b1; have R1 := Lib.hid o1.rd
      clear o1 b1
      go_wp2_with fail
      refine (PP.out _ _ _ R1.out).mono ?_
      rintro e w2 ⟨rfl, b2⟩
      have B2 := Lib.hid (below_step B1.out (Nat.le_refl _) b2)
      clear b2
      go_wp2_with fail
      go_ret
      exact ⟨by rw [E.out, ← key.out]; rfl, B2.out⟩
  · have E : Hid (res = false) := by show _ = _; rw [T.out, if_neg h1]
    have h0 : (x == -1) = false := by simpa using h1
    clear T hb
    go_enter Tryz.func65, Tryz.ntmps65
    go_wp2_with fail
    refine (P.out _).mono ?_
    rintro e w1 ⟨a, c, rfl, o1, b1⟩
    clear o1
    go_wp2_with fail
    go_ret
    exact ⟨by rw [E.out]; rfl, b1⟩
end Go.Proofs.YtfpbhedophlnkaaGreatDoor
