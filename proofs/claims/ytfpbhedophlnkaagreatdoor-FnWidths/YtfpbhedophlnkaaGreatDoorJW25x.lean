/-
  What FnWidths says of a typed plan: all its parts have a width, and a part of the same width in the place of another keeps the plan's. Plain facts; no program, no walk. Contracts of the helpers over slices of bytes: eqByteS, toByteS, markByteS, heldByteS. For every slice of bytes. Append of one number onto a row of the call's own, as a law of the walk; and the contracts of spec.PutNum, spec.l01Bytes, spec.l01Join.
-/
import Derived.Test.YtfpbhedophlnkaaGreatDoorJW24x
import Derived.Test.YtfpbhedophlnkaaGreatDoorRows
import Derived.Test.YtfpbhedophlnkaaGreatDoorJW3x
import Derived.Test.YtfpbhedophlnkaaGreatDoorJW4x
import Derived.WalkKit
import Derived.WalkSpells
import Derived.WalkLawsBesides
import Derived.Deep.QuietTactic
import Derived.BigQuiet
namespace Go.Proofs.YtfpbhedophlnkaaGreatDoor
open Go.RowKit
set_option linter.unusedSimpArgs false
set_option linter.unusedVariables false

/-- A tree of a list that stands elsewhere in another list. -/
theorem grow_move {p p' : List Nd} {a b : Nat} (g : Fn) (h : ∀ i, a ≤ i → p'[b + (i - a)]? = p[i]?) : ∀ (f j : Nat) (T : Tr), growT p f j = some T → a ≤ j → ∃ T', growT p' f (b + (j - a)) = some T' ∧ T'.en = b + (T.en - a) ∧ widT g T' = widT g T := by
  intro f
  induction f with
  | zero => intro j T h; cases h
  | succ f ih =>
    intro j T hg hj
    simp only [growT] at hg ⊢
    rw [h j hj]
    cases hp : p[j]? with
    | none => rw [hp] at hg; cases hg
    | some n =>
      rw [hp] at hg
      simp only at hg ⊢
      split at hg
      · cases hg
      · rename_i hn
        rw [if_neg hn]
        have e1 : b + (j - a) + 1 = b + (j + 1 - a) := by omega
        split at hg
        · rename_i h1
          rw [if_pos h1]
          cases hc : growT p f (j + 1) with
          | none => rw [hc] at hg; cases hg
          | some c =>
            rw [hc] at hg; simp only [Option.some.injEq] at hg; subst hg
            obtain ⟨c', e, e2, e3⟩ := ih (j + 1) c hc (by omega)
            rw [e1, e]
            exact ⟨_, rfl, e2, by simp only [widT, e3]⟩
        · rename_i h1
          rw [if_neg h1]
          split at hg
          · rename_i h2
            rw [if_pos h2]
            cases hc : growT p f (j + 1) with
            | none => rw [hc] at hg; cases hg
            | some c =>
              rw [hc] at hg; simp only at hg
              cases hd : growT p f c.en with
              | none => rw [hd] at hg; cases hg
              | some d =>
                rw [hd] at hg; simp only [Option.some.injEq] at hg; subst hg
                have hs := growT_sound p _ _ _ hc
                obtain ⟨c', e, e2, e3⟩ := ih (j + 1) c hc (by omega)
                obtain ⟨d', k, k2, k3⟩ := ih c.en d hd (by omega)
                rw [e1, e]
                simp only
                rw [e2, k]
                exact ⟨_, rfl, k2, by simp only [widT, e3, k3]⟩
          · rename_i h2
            rw [if_neg h2]
            simp only [Option.some.injEq] at hg; subst hg
            exact ⟨_, rfl, by simp only [Tr.en0]; omega, rfl⟩
theorem grow_left {p p' : List Nd} {k : Nat} (h : ∀ i, i < k → p'[i]? = p[i]?) : ∀ (f j : Nat) (T : Tr), growT p f j = some T → T.en ≤ k → growT p' f j = some T := by
  intro f
  induction f with
  | zero => intro j T h; cases h
  | succ f ih =>
    intro j T hg hk
    have hs0 := growT_sound p _ _ _ hg
    simp only [growT] at hg ⊢
    rw [h j (by omega)]
    cases hp : p[j]? with
    | none => rw [hp] at hg; cases hg
    | some n =>
      rw [hp] at hg
      simp only at hg ⊢
      split at hg
      · cases hg
      · rename_i hn
        rw [if_neg hn]
        split at hg
        · rename_i h1
          rw [if_pos h1]
          cases hc : growT p f (j + 1) with
          | none => rw [hc] at hg; cases hg
          | some c =>
            rw [hc] at hg; simp only [Option.some.injEq] at hg; subst hg
            simp only [Tr.en1] at hk
            rw [ih _ _ hc hk]
        · rename_i h1
          rw [if_neg h1]
          split at hg
          · rename_i h2
            rw [if_pos h2]
            cases hc : growT p f (j + 1) with
            | none => rw [hc] at hg; cases hg
            | some c =>
              rw [hc] at hg; simp only at hg
              cases hd : growT p f c.en with
              | none => rw [hd] at hg; cases hg
              | some d =>
                rw [hd] at hg; simp only [Option.some.injEq] at hg; subst hg
                simp only [Tr.en2] at hk
                have hs := growT_sound p _ _ _ hd
                rw [ih _ _ hc (by omega)]
                simp only
                rw [ih _ _ hd hk]
          · rename_i h2
            rw [if_neg h2]
            exact hg
theorem grow_up (p : List Nd) (k : Nat) (T : Tr) (f : Nat) (h : growT p f k = some T) : ∀ g, growT p (f + g) k = some T
  | 0 => h
  | g + 1 => growT_more p (f + g) k T (grow_up p k T f h g)
/-- Another tree in the place of one of the same width. -/
theorem grow_swap {p p' : List Nd} {k e m : Nat} (g : Fn) {S Q : Tr} {F : Nat} (hS : growT p F k = some S) (he : S.en = e) (hl : ∀ i, i < k → p'[i]? = p[i]?) (hr : ∀ i, e ≤ i → p'[k + m + (i - e)]? = p[i]?)
    (hQ : growT p' F k = some Q) (hQe : Q.en = k + m) (hw : widT g Q = widT g S) (hF : p'.length ≤ F) :
    ∀ (f j : Nat) (T : Tr), f ≤ F → growT p f j = some T → j ≤ k → k < T.en → ∃ T', growT p' F j = some T' ∧ T'.en = k + m + (T.en - e) ∧ widT g T' = widT g T ∧ e ≤ T.en := by
  intro f
  induction f with
  | zero => intro j T _ h; cases h
  | succ f ih =>
    intro j T hf hg hj hk
    have hgF : growT p F j = some T := by
      obtain ⟨d, rfl⟩ : ∃ d, F = f + 1 + d := ⟨F - (f + 1), by omega⟩
      exact grow_up p j T _ hg d
    by_cases hjk : j = k
    · subst hjk
      rw [hgF] at hS
      cases hS
      exact ⟨Q, hQ, by omega, hw, by omega⟩
    · obtain ⟨F', rfl⟩ : ∃ F', F = F' + 1 := ⟨F - 1, by omega⟩
      have hgo := hg
      simp only [growT] at hg
      have up : ∀ j T, growT p f j = some T → growT p F' j = some T := fun j T h => by
        obtain ⟨d, rfl⟩ : ∃ d, F' = f + d := ⟨F' - f, by omega⟩
        exact grow_up p j T _ h d
      cases hp : p[j]? with
      | none => rw [hp] at hg; cases hg
      | some n =>
        rw [hp] at hg
        simp only at hg
        split at hg
        · cases hg
        · rename_i hn
          split at hg
          · rename_i h1
            cases hc : growT p f (j + 1) with
            | none => rw [hc] at hg; cases hg
            | some c =>
              rw [hc] at hg; simp only [Option.some.injEq] at hg; subst hg
              simp only [Tr.en1] at hk
              obtain ⟨c', e1, e2, e3, e4⟩ := ih (j + 1) c (by omega) hc (by omega) hk
              rw [growT_fuel p' (F' + 1) F' (j + 1) (by omega) (by omega)] at e1
              refine ⟨.t1 n j c'.en c', ?_, e2, by simp only [widT, e3], e4⟩
              simp only [growT]
              rw [hl j (by omega), hp]
              simp only
              rw [if_neg hn, if_pos h1, e1]
          · rename_i h1
            split at hg
            · rename_i h2
              cases hc : growT p f (j + 1) with
              | none => rw [hc] at hg; cases hg
              | some c =>
                rw [hc] at hg; simp only at hg
                cases hd : growT p f c.en with
                | none => rw [hd] at hg; cases hg
                | some d =>
                  rw [hd] at hg; simp only [Option.some.injEq] at hg; subst hg
                  simp only [Tr.en2] at hk
                  have hs := growT_sound p _ _ _ hc
                  have hsd := growT_sound p _ _ _ hd
                  by_cases hkc : k < c.en
                  · obtain ⟨c', e1, e2, e3, e4⟩ := ih (j + 1) c (by omega) hc (by omega) hkc
                    rw [growT_fuel p' (F' + 1) F' (j + 1) (by omega) (by omega)] at e1
                    obtain ⟨d', k1, k2, k3⟩ := grow_move (p := p) (p' := p') (a := e) (b := k + m) g hr F' c.en d (up _ _ hd) e4
                    refine ⟨.t2 n j d'.en c' d', ?_, by simp only [Tr.en2]; omega, by simp only [widT, e3, k3], by simp only [Tr.en2]; omega⟩
                    simp only [growT]
                    rw [hl j (by omega), hp]
                    simp only
                    rw [if_neg hn, if_neg h1, if_pos h2, e1]
                    simp only
                    rw [e2, k1]
                  · have c1 := grow_left (p := p) (p' := p') (k := k) hl F' (j + 1) c (up _ _ hc) (by omega)
                    obtain ⟨d', e1, e2, e3, e4⟩ := ih c.en d (by omega) hd (by omega) hk
                    rw [growT_fuel p' (F' + 1) F' c.en (by omega) (by omega)] at e1
                    refine ⟨.t2 n j d'.en c d', ?_, by simp only [Tr.en2]; exact e2, by simp only [widT, e3], by simp only [Tr.en2]; exact e4⟩
                    simp only [growT]
                    rw [hl j (by omega), hp]
                    simp only
                    rw [if_neg hn, if_neg h1, if_pos h2, c1]
                    simp only
                    rw [e1]
            · exfalso
              simp only [Option.some.injEq] at hg; subst hg
              simp only [Tr.en0] at hk
              omega
/-- A part of a typed tree is typed. -/
theorem grow_typed {p : List Nd} (g : Fn) : ∀ (f j k : Nat) (T S : Tr), growT p f j = some T → j ≤ k → k < T.en → widT g T ≠ -1 → growT p (f + p.length) k = some S → widT g S ≠ -1 := by
  intro f
  induction f with
  | zero => intro j k T S h; cases h
  | succ f ih =>
    intro j k T S hg hj hk hw hS
    have hfull := grow_up p j T _ hg p.length
    have hS' : growT p (f + p.length) k = some S := by rw [growT_fuel p (f + p.length) (f + 1 + p.length) k (by omega) (by omega)]; exact hS
    by_cases hjk : j = k
    · subst hjk
      rw [hfull] at hS
      cases hS; exact hw
    · simp only [growT] at hg
      cases hp : p[j]? with
      | none => rw [hp] at hg; cases hg
      | some n =>
        rw [hp] at hg
        simp only at hg
        split at hg
        · cases hg
        · split at hg
          · cases hc : growT p f (j + 1) with
            | none => rw [hc] at hg; cases hg
            | some c =>
              rw [hc] at hg; simp only [Option.some.injEq] at hg; subst hg
              simp only [Tr.en1] at hk
              refine ih (j + 1) k c S hc (by omega) hk (fun h => hw ?_) hS'
              simp only [widT]; rw [if_pos h]
          · split at hg
            · cases hc : growT p f (j + 1) with
              | none => rw [hc] at hg; cases hg
              | some c =>
                rw [hc] at hg; simp only at hg
                cases hd : growT p f c.en with
                | none => rw [hd] at hg; cases hg
                | some d =>
                  rw [hd] at hg; simp only [Option.some.injEq] at hg; subst hg
                  simp only [Tr.en2] at hk
                  have hcw : widT g c ≠ -1 := fun h => hw (by simp only [widT]; rw [if_pos h])
                  have hdw : widT g d ≠ -1 := fun h => hw (by simp only [widT]; rw [if_neg hcw, if_pos h])
                  by_cases hkc : k < c.en
                  · exact ih (j + 1) k c S hc (by omega) hkc hcw hS'
                  · exact ih c.en k d S hd (by omega) hk hdw hS'
            · exfalso
              simp only [Option.some.injEq] at hg; subst hg
              simp only [Tr.en0] at hk
              omega
theorem widO_cases (s : List Tb) (p : List Nd) : widO s p = -1 ∨ (1 ≤ widO s p ∧ widO s p ≤ 64) := by
  cases hs : schemaB s with
  | false => exact .inl (widO_no hs p)
  | true =>
    cases ht : treeN p with
    | none => exact .inl (widO_none ht)
    | some T =>
      rw [widO_some hs ht]
      exact widT_wide (fnOk_schema hs) T (growT_nodes p _ _ _ (treeN_some ht).2.1)
theorem typB_wid (s : List Tb) (p : List Nd) : typB s p = decide (0 ≤ widO s p) := by
  unfold typB
  rcases widO_cases s p with h | h
  · rw [h]; rfl
  · have h1 : decide (0 ≤ widO s p) = true := by simp; omega
    rw [h1]; simp; omega
theorem widO_typed {s : List Tb} {p : List Nd} (h : 0 ≤ widO s p) : schemaB s = true ∧ ∃ T, treeN p = some T ∧ widO s p = widT (fnOf s) T := by
  cases hs : schemaB s with
  | false => rw [widO_no hs] at h; omega
  | true =>
    cases ht : treeN p with
    | none => rw [widO_none ht] at h; omega
    | some T => exact ⟨rfl, T, rfl, widO_some hs ht⟩
theorem good_at {p : List Nd} {T : Tr} (ht : treeN p = some T) {i : Nat} (hi : i < p.length) : goodB p i = true := by
  unfold goodB planB; rw [ht]; simp; omega
/-- The parts of a typed plan are typed. -/
theorem wid_parts {s : List Tb} {p : List Nd} (h : 0 ≤ widO s p) {i : Nat} (hi : i < p.length) : 1 ≤ widO s (partN p i) := by
  obtain ⟨hs, T, ht, hw⟩ := widO_typed h
  obtain ⟨T2, S, ht2, hg, hd, _, _, hp⟩ := widA_some hs (good_at ht hi)
  rw [ht] at ht2; cases ht2
  have hen := (treeN_some ht).2.2.1
  rw [Int.toNat_natCast] at hg
  have := grow_typed (fnOf s) p.length 0 i T S (treeN_some ht).2.1 (by omega) (by omega) (by rw [← hw]; omega) (grow_up p i S _ hg p.length)
  rcases widO_cases s (partN p i) with h1 | h1
  · rw [hp] at h1; exact absurd h1 this
  · exact h1.1
/-- A part of the same width in the place of another keeps the plan's width. -/
theorem wid_put {s : List Tb} {p q : List Nd} (h : 0 ≤ widO s p) {i : Nat} (hi : i < p.length) (hp : putPB p i q = true) (hq : widO s q = widO s (partN p i)) (hq0 : 0 ≤ widO s q) : widO s (joinN p i q) = widO s p := by
  obtain ⟨hs, T, ht, hw⟩ := widO_typed h
  obtain ⟨_, Q, htq, hwq⟩ := widO_typed hq0
  obtain ⟨T2, S, ht2, hg, hd, _, _, hpa⟩ := widA_some hs (good_at ht hi)
  rw [ht] at ht2; cases ht2
  rw [Int.toNat_natCast] at hg
  obtain ⟨T3, S3, ht3, _, _, hend, _, hSl, _, _, _⟩ := part_good (good_at ht hi)
  have hS3 : S3.en = S.en := by
    obtain ⟨T4, S4, ht4, hf4, _, _, _, _, _, _, _, hg4⟩ := good_some (good_at ht hi)
    rw [Int.toNat_natCast] at hg4
    rw [hg] at hg4; cases hg4
    have : endOfN p i = S.en := by unfold endOfN; rw [ht4]; simp only; rw [hf4]
    omega
  have hsS := growT_sound p _ _ _ hg
  have hen : (endOfN p (i : Int)).toNat = S.en := by rw [hend, hS3, Int.toNat_natCast]
  have hj : joinN p i q = p.take i ++ q ++ p.drop S.en := by unfold joinN; rw [Int.toNat_natCast, hen]
  have hpl : planB (joinN p i q) = true := by unfold putPB at hp; simp only [Bool.and_eq_true] at hp; exact hp.2
  obtain ⟨T', hT'⟩ : ∃ T', treeN (joinN p i q) = some T' := by
    cases hx : treeN (joinN p i q) with
    | none => simp [planB, hx] at hpl
    | some T' => exact ⟨T', rfl⟩
  have hti : (p.take i).length = i := by rw [List.length_take]; omega
  have hqe := (treeN_some htq).2.2.1
  have hl : ∀ j, j < i → (joinN p i q)[j]? = p[j]? := fun j hj2 => by
    rw [hj, List.append_assoc, List.getElem?_append_left (by omega), List.getElem?_take_of_lt hj2]
  have hr : ∀ j, S.en ≤ j → (joinN p i q)[i + q.length + (j - S.en)]? = p[j]? := fun j hj2 => by
    rw [hj, List.getElem?_append_right (by rw [List.length_append]; omega), List.length_append, hti, List.getElem?_drop]
    congr 1; omega
  have hm : ∀ j, 0 ≤ j → (joinN p i q)[i + (j - 0)]? = (q ++ p.drop S.en)[j]? := fun j _ => by
    rw [hj, List.append_assoc, List.getElem?_append_right (by omega), hti]
    congr 1; omega
  have hq1 := grow_left (p := q) (p' := q ++ p.drop S.en) (k := q.length) (fun j hj2 => List.getElem?_append_left hj2) _ 0 Q (treeN_some htq).2.1 (by omega)
  obtain ⟨Q', e1, e2, e3⟩ := grow_move (fnOf s) hm q.length 0 Q hq1 (Nat.le_refl _)
  rw [Nat.sub_zero, Nat.add_zero] at e1
  rw [Nat.sub_zero, hqe] at e2
  have hF : (joinN p i q).length ≤ p.length + (joinN p i q).length := by omega
  obtain ⟨F, hFd⟩ : ∃ F, F = p.length + (joinN p i q).length + q.length := ⟨_, rfl⟩
  have gS : growT p F i = some S := by rw [hFd, Nat.add_assoc]; exact grow_up p i S _ hg _
  have gQ : growT (joinN p i q) F i = some Q' := by
    rw [hFd, Nat.add_comm]; exact grow_up _ i Q' _ e1 _
  obtain ⟨T'', k1, k2, k3, _⟩ := grow_swap (fnOf s) gS rfl hl hr gQ e2 (by rw [e3, ← hwq, hq, hpa]) (by omega) p.length 0 T (by omega) (treeN_some ht).2.1 (by omega) (by rw [(treeN_some ht).2.2.1]; exact hi)
  have k4 := (treeN_some hT').2.1
  rw [growT_fuel _ (joinN p i q).length F 0 (by omega) (by omega), k1] at k4
  cases k4
  rw [widO_some hs hT', k3, ← hw]
end Go.Proofs.YtfpbhedophlnkaaGreatDoor
namespace Go.Proofs.YtfpbhedophlnkaaGreatDoor
open Go.RowKit
set_option linter.unusedSimpArgs false
set_option linter.unusedVariables false

set_option maxHeartbeats 800000 in
theorem eqByteS_any (a b : Option Addr) (c d : Nat) (l m : List Int) (w : World) (h : Rd w .u8 a l) (k : Rd w .u8 b m) (hn : l.length ≤ maxLen) (hm : m.length ≤ maxLen) :
    Calls Tryz.prog 61 #[.slice a l.length c, .slice b m.length d] w fun e w' => e = .returned (.bool (eqL l m)) ∧ Below w.heap.size w w' := by
  unfold maxLen at hn hm
  by_cases hlen : l.length = m.length
  · have hne : ((l.length : Int) != (m.length : Int)) = false := by simp [hlen]
    have HL := Lib.hid hlen; clear hlen
    rcases h with rfl | ⟨b1, o1, rfl, hc⟩
    · have hm0 : m = [] := List.eq_nil_of_length_eq_zero HL.out.symm
      subst hm0
      clear hne
      go_enter Tryz.func61, Tryz.ntmps61
      go_wp2
      refine wp_loop_rounds 1 ?_; rw [rounds_succ]; go_wp2
      go_ret
      exact ⟨rfl, Below.refl _ _⟩
    · rcases k with rfl | ⟨b2, o2, rfl, kc⟩
      · have hl0 : l = [] := List.eq_nil_of_length_eq_zero HL.out
        subst hl0
        clear hne hc
        go_enter Tryz.func61, Tryz.ntmps61
        go_wp2
        refine wp_loop_rounds 1 ?_; rw [rounds_succ]; go_wp2
        go_ret
        exact ⟨rfl, Below.refl _ _⟩
      · have HC := Lib.hid hc; have KC := Lib.hid kc; clear hc kc
        go_enter Tryz.func61, Tryz.ntmps61
        go_wp2
        go_loopw [5] (fun i wr => ∃ j q : Nat, j ≤ l.length ∧ i = .int .i64 j ∧ l.take j = m.take j ∧ wr = w.drewN q) (fun i _ => l.length - (intOf i).toNat)
        case atStart => exact ⟨0, 0, Nat.zero_le _, rfl, rfl, rfl⟩
        case round =>
          obtain ⟨j, q, hj, rfl, ht, rfl⟩ := hrel
          have HT := Lib.hid ht; clear ht
          by_cases hlt : j < l.length
          · have hlt2 : j < m.length := by have := HL.out; omega
            obtain ⟨x, _, hx, hcx, htx⟩ := Rd.at_ HC.out hlt
            obtain ⟨y, _, hy, hcy, hty⟩ := Rd.at_ KC.out hlt2
            have X := Lib.hid hx; have Y := Lib.hid hy; have TX := Lib.hid htx; have TY := Lib.hid hty
            clear hx hy htx hty
            have i1 : (j : Int) < (l.length : Int) := by omega
            have i2 : (j : Int) < (m.length : Int) := by omega
            by_cases hxy : x = y
            · subst hxy
              have hb : (x != x) = false := by simp
              go_wp2
              go_quiet (fail)
              go_wp2
              go_roundw
              case rel => exact ⟨j + 1, _, by omega, by go_num, by rw [TX.out, TY.out, HT.out], by first | rfl | rw [World.drewN_drewN]⟩
              case measure => simp [intOf]; omega
            · have hb : (x != y) = true := by simp [hxy]
              have HF := Lib.hid (eqL_no hxy X.out Y.out)
              clear hxy
              go_wp2
              go_quiet (fail)
              go_wp2
              go_ret
              exact ⟨ret_bool HF.out.symm, by first | exact below_drewN (Below.refl _ _) _ | exact below_drewN (below_drewN (Below.refl _ _) _) _⟩
          · go_wp2
            go_ret
            exact ⟨ret_bool (eqL_yes HL.out (by omega) HT.out).symm, below_drewN (Below.refl _ _) _⟩
  · have hne : ((l.length : Int) != (m.length : Int)) = true := by simp; omega
    have HF : Hid (eqL l m = false) := by
      show eqL l m = false
      unfold eqL; simp; rintro rfl; exact hlen rfl
    go_enter Tryz.func61, Tryz.ntmps61
    go_wp2
    go_ret
    exact ⟨ret_bool HF.out.symm, Below.refl _ _⟩

theorem Tryz.infoU8 : (Tryz.prog.info? 5).map (fun i => (i.zero, i.size, i.bytes)) = some (some (.int .u8 0), 1, 1) := by kernel_rfl
set_option maxHeartbeats 800000 in
theorem toByteS_any (a : Option Addr) (c : Nat) (l : List Int) (w : World) (h : Rd w .u8 a l) (hn : l.length ≤ 281474976710656) :
    Calls Tryz.prog 59 #[.slice a l.length c] w (Made w 5 .u8 l) := by
  obtain ⟨i0, hi, hz0, hz1, hz2⟩ := info_parts Tryz.infoU8
  have H := Lib.hid h; clear h
  rcases H.out with rfl | ⟨b, off, rfl, _⟩
  · go_enter Tryz.func59, Tryz.ntmps59
    go_wp2_with (at_make; refine wpList_make_full _ rfl (.tmp 6) (.tmp 6) 22 rfl w.heap.size 5 i0 (.int .u8 0) 1 Tryz.underlying22 hi hz0 hz1 .i64 .i64 _ _ 0 rfl rfl rfl rfl (by omega) (by unfold maxLen; omega) (Nat.le_refl _) ?_; intro w1 hown hgrow)
    refine wp_loop_rounds 1 ?_; rw [rounds_succ]; go_wp2
    go_ret
    rw [made_ints] at hown
    exact ⟨_, _, rfl, hown, below_of_grown hgrow (Nat.le_refl _) (by intro g hg; cases hg)⟩
  · go_enter Tryz.func59, Tryz.ntmps59
    go_wp2_with (at_make; refine wpList_make_full _ rfl (.tmp 6) (.tmp 6) 22 rfl w.heap.size 5 i0 (.int .u8 0) 1 Tryz.underlying22 hi hz0 hz1 .i64 .i64 _ _ l.length rfl rfl rfl rfl (by rw [hz2]; omega) (by unfold maxLen; omega) (Nat.le_refl _) ?_; intro w1 hown hgrow)
    rw [made_ints, ← fillL_zero] at hown
    have hbel : Below w.heap.size w w1 := below_of_grown hgrow (Nat.le_refl _) (by intro g hg; cases hg)
    clear hgrow hi hz0 hz1 hz2
    go_loopw [4] (fun i wr => ∃ j : Nat, j ≤ l.length ∧ i = .int .i64 j ∧ wr.ownsRow w.heap.size 5 1 (.slice (some ⟨w.heap.size, 0, none⟩) l.length l.length) l.length ((fillL l j).map (Value.int .u8)) ∧ Below w.heap.size w wr) (fun i _ => l.length - (intOf i).toNat)
    case atStart => exact ⟨0, Nat.zero_le _, rfl, hown, hbel⟩
    case round =>
      clear hown hbel
      obtain ⟨j, hj, rfl, ho, hb⟩ := hrel
      by_cases hlt : j < l.length
      · obtain ⟨b', off', heq, hc⟩ : ∃ b' off', (some ⟨b, off, none⟩ : Option Addr) = some ⟨b', off', none⟩ ∧ ∀ i, i < l.length → wr.cell? ⟨b', off' + i, none⟩ = some (.int .u8 (l.getD i 0)) := by
          rcases H.out.below hb with rfl | h'
          · simp at hlt
          · exact h'
        simp only [Option.some.injEq, Addr.mk.injEq, and_true] at heq
        obtain ⟨rfl, rfl⟩ := heq
        obtain ⟨z, _, _, hcz, ht⟩ := Rd.at_ hc hlt
        obtain ⟨y, hy⟩ := toS_cell hlt ho
        have hf := ho.frozenAt j
        have R := Lib.hid (toS_round hlt ht (Nat.le_refl _) ho hb)
        clear ht hc ho hb
        go_wp2
        go_roundw
        case rel => exact ⟨j + 1, by omega, by go_num, R.out.1, R.out.2⟩
        case measure => simp [intOf]; omega
      · go_wp2
        go_ret
        refine ⟨_, _, rfl, ?_, hb⟩
        rw [fillL_all l j (by omega)] at ho
        exact ho

set_option maxHeartbeats 800000 in
theorem markByteS_any (base : Nat) (ao : Option Addr) (c : Nat) (l : List Int) (m : Int) (w : World) (h : Own w base 5 .u8 ao c l) (h0 : 0 ≤ m) (hm : m + l.length ≤ 4611686018427387904) :
    Calls Tryz.prog 62 #[.slice ao l.length c, .int .i64 m] w (Marked w IntKind.u8.wrap .u8 ao l.length m) := by
  rcases h.form with ⟨rfl, rfl, rfl⟩ | ⟨g, rfl, _⟩
  · go_enter Tryz.func62, Tryz.ntmps62
    go_wp2
    refine wp_loop_rounds 1 ?_; rw [rounds_succ]; go_wp2
    go_ret
    exact ⟨ret_int (by simp), .inl rfl, World.grownBy.refl _ _⟩
  · have hs : MarkRel w w base 5 .u8 IntKind.u8.wrap m g c l 0 := ⟨by have h' := h; unfold Own at h'; simpa [marksL] using h', World.grownBy.refl _ _⟩
    clear h
    go_enter Tryz.func62, Tryz.ntmps62
    go_wp2
    go_loopw [1, 5] (fun q i wr => ∃ j : Nat, j ≤ l.length ∧ i = .int .i64 j ∧ q = .int .i64 (m + j) ∧ MarkRel w wr base 5 .u8 IntKind.u8.wrap m g c l j) (fun _ i _ => l.length - (intOf i).toNat)
    case atStart => exact ⟨0, Nat.zero_le _, rfl, by simp, hs⟩
    case round =>
      clear hs
      obtain ⟨j, hj, rfl, rfl, hr⟩ := hrel
      by_cases hlt : j < l.length
      · obtain ⟨y, hy⟩ := hr.cell hlt
        have hf := hr.1.frozenAt j
        have R := Lib.hid (hr.step hlt)
        clear hr
        go_wp2
        go_roundw
        case rel => exact ⟨j + 1, by omega, by go_num, by go_num, R.out⟩
        case measure => simp [intOf]; omega
      · have e : j = l.length := by omega
        have D := Lib.hid (hr.done e)
        have G := Lib.hid hr.2
        clear hr
        subst e
        go_wp2
        go_ret
        exact ⟨rfl, D.out, G.out⟩

end Go.Proofs.YtfpbhedophlnkaaGreatDoor
namespace Go.Proofs.YtfpbhedophlnkaaGreatDoor
open Go.RowKit
set_option linter.unusedSimpArgs false
set_option linter.unusedVariables false

theorem own_slice {w : World} {base : Nat} {e : TypeId} {v : Value} {n : Nat} {xs : List Value} (h : w.ownsRow base e 1 v n xs) : ∃ ao c, v = .slice ao n c := by
  rcases h.2 with ⟨rfl, rfl⟩ | ⟨g, cap, _, rfl, _⟩
  · exact ⟨_, _, rfl⟩
  · exact ⟨_, _, rfl⟩

theorem wpList_append1 {P : Program} (w : World) {ops : Array Oper} {rest : List Oper} {o : Oper} {a : Act} {Q : Exit → Act → World → Prop} (hgd : o.guard = none) (s x : Operand) (t : TypeId)
    (ho : o.op = .call { callee := .builtin .append, args := #[s, x], argTypes := #[t, t] })
    (base : Nat) (e : TypeId) (k : IntKind) (bytes : Nat) (ht : P.underlying t = some (.slice e)) (hinfo : (P.info? e).map (fun i => (i.zero, i.size, i.bytes)) = some (some (.int k 0), 1, bytes))
    (ao : Option Addr) (c n : Nat) (l : List Int) (hs : a.eval s = .slice ao n c) (hn : n = l.length) (hown : Own w base e k ao c l)
    (g cx : Nat) (z : Int) (hx : a.eval x = .slice (some ⟨g, 0, none⟩) 1 cx) (hc : w.cell? ⟨g, 0, none⟩ = some (.int k z))
    (h63 : l.length + 1 ≤ maxLen) (hbytes : (l.length + 1) * bytes ≤ 140737488355328) (hbase : base ≤ w.heap.size)
    (h : ∀ ao' c' w', Own w' base e k ao' c' (l ++ [z]) → w.grownBy w' (ao.map (·.block)) → wpList P ops Q rest (a.put o.dst (.slice ao' (l.length + 1) c')) w') : wpList P ops Q (o :: rest) a w := by
  subst hn
  obtain ⟨i, hi, hz, hsize, hby⟩ := info_parts hinfo
  refine wpList_append_own (P := P) w hgd s x t ho base e i (.int k 0) 1 bytes ht hi hz hsize hby rfl (by decide) _ _ _ hs hown ⟨g, 0, none⟩ 1 cx [.int k z] hx rfl ?_ ?_ h63 hbytes hbase ?_
  · intro j u hj
    match j, hj with
    | 0, hj => simp at hj; subst hj; simpa [Addr.add] using hc
  · intro u hu; simp at hu; subst hu; rfl
  · intro v' w' hown' hgrow _
    obtain ⟨ao', c', rfl⟩ := own_slice hown'
    refine h ao' c' w' ?_ ?_
    · unfold Own; simpa using hown'
    · cases ao <;> exact hgrow

def enc (n : Nat) : List Int := if n < 128 then [(n : Int)] else (128 + (n : Int) % 128) :: enc (n / 128)
termination_by n
decreasing_by omega
theorem enc_lt {n : Nat} (h : n < 128) : enc n = [(n : Int)] := by rw [enc, if_pos h]
theorem enc_ge {n : Nat} (h : 128 ≤ n) : enc n = (128 + (n : Int) % 128) :: enc (n / 128) := by rw [enc, if_neg (by omega)]
theorem enc_by (n : Nat) : By (enc n) := by
  induction n using Nat.strongRecOn with
  | _ n ih =>
    by_cases h : n < 128
    · rw [enc_lt h]; exact By.one (by omega) (by omega)
    · rw [enc_ge (by omega)]
      intro z hz
      rcases List.mem_cons.1 hz with rfl | hz
      · omega
      · exact ih (n / 128) (by omega) z hz
theorem enc_len (n : Nat) (h : n ≤ 2097151) : 1 ≤ (enc n).length ∧ (enc n).length ≤ 3 := by
  by_cases h1 : n < 128
  · rw [enc_lt h1]; simp
  · rw [enc_ge (by omega)]
    by_cases h2 : n / 128 < 128
    · rw [enc_lt h2]; simp
    · rw [enc_ge (by omega), enc_lt (by omega)]; simp
def fold (x : Int) : Nat := if 0 ≤ x then (2 * x).toNat else (-2 * x - 1).toNat
def isN (x : Int) : Bool := decide (-1000000 ≤ x) && decide (x ≤ 1000000)
theorem isN_of {x : Int} (h : isN x = true) : -1000000 ≤ x ∧ x ≤ 1000000 := by unfold isN at h; simpa using h
theorem isN_mk {x : Int} (h : -1000000 ≤ x ∧ x ≤ 1000000) : isN x = true := by unfold isN; simpa using h
theorem isN_not {x : Int} (h : ¬ (-1000000 ≤ x ∧ x ≤ 1000000)) : isN x = false := by
  cases hc : isN x with
  | false => rfl
  | true => exact absurd (isN_of hc) h
theorem fold_le {x : Int} (h : -1000000 ≤ x ∧ x ≤ 1000000) : fold x ≤ 2000000 := by unfold fold; split <;> omega
def putN (x : Int) : List Int := if isN x then enc (fold x) else []
theorem putN_by (x : Int) : By (putN x) := by unfold putN; split; exact enc_by _; exact By.nil
theorem putN_len (x : Int) : (putN x).length ≤ 3 := by
  unfold putN; split
  · rename_i h; exact (enc_len _ (by have := fold_le (isN_of h); omega)).2
  · simp

theorem l01Number_t (x : Int) (w : World) (h : -1000000 ≤ x ∧ x ≤ 1000000) : Calls Tryz.prog 188 #[.int .i64 x] w fun e w' => e = .returned (.bool true) ∧ w = w' := by
  go_enter Tryz.func188, Tryz.ntmps188
  go_wp2
  go_ret
  exact ⟨rfl, rfl⟩
theorem l01Number_f (x : Int) (w : World) (h : ¬ (-1000000 ≤ x ∧ x ≤ 1000000)) : Calls Tryz.prog 188 #[.int .i64 x] w fun e w' => e = .returned (.bool false) ∧ w = w' := by
  by_cases h1 : -1000000 ≤ x
  · have h2 : ¬ x ≤ 1000000 := by omega
    go_enter Tryz.func188, Tryz.ntmps188
    go_wp2
    go_ret
    exact ⟨rfl, rfl⟩
  · have h3 : decide (-1000000 ≤ x) = false := by simp; omega
    go_enter Tryz.func188, Tryz.ntmps188
    go_wp2
    go_ret
    exact ⟨rfl, rfl⟩
end Go.Proofs.YtfpbhedophlnkaaGreatDoor
