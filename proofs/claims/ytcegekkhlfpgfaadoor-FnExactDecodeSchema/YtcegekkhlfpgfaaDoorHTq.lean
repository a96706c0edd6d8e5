/-
  Contracts of eqTable and eqTableS. For every two slices of tables.
-/
import Derived.Test.YtcegekkhlfpgfaaDoorHTb
namespace Go.Proofs.YtcegekkhlfpgfaaDoor
open Go.RowKit
set_option linter.unusedSimpArgs false
set_option linter.unusedVariables false

/-- Whether two tables are the same. -/
def eqTb (x y : Tb) : Bool := (x.name.toList == y.name.toList) && (x.width == y.width)
theorem eqTb_refl (x : Tb) : eqTb x x = true := by simp [eqTb]
set_option maxHeartbeats 1000000 in
theorem eqTable_any (x y : Tb) (w : World) :
    Calls Tryd.prog 56 #[.agg #[.string x.name, .int .i64 x.width], .agg #[.string y.name, .int .i64 y.width]] w fun e w' => e = .returned (.bool (eqTb x y)) ∧ Below w.heap.size w w' := by
  have B0 := Lib.hid (fun o1 o2 => ((Below.refl w.heap.size w).alloc (Nat.le_refl _) o1).alloc (by simp) o2)
  cases hn : (x.name.toList == y.name.toList) with
  | false =>
    have E := Lib.hid (show eqTb x y = false by unfold eqTb; rw [hn]; rfl)
    have hn' : (x.name.toList != y.name.toList) = true := by simp [bne, hn]
    go_enter Tryd.func56, Tryd.ntmps56
    go_wp2_with fail
    go_ret
    rw [E.out]
    exact ⟨rfl, B0.out _ _⟩
  | true =>
    have hn' : (x.name.toList != y.name.toList) = false := by simp [bne, hn]
    cases hi : (x.width == y.width) with
    | false =>
      have E := Lib.hid (show eqTb x y = false by unfold eqTb; rw [hn, hi]; rfl)
      have hi' : (x.width != y.width) = true := by simp [bne, hi]
      go_enter Tryd.func56, Tryd.ntmps56
      go_wp2_with fail
      go_ret
      rw [E.out]
      exact ⟨rfl, B0.out _ _⟩
    | true =>
      have E := Lib.hid (show eqTb x y = true by unfold eqTb; rw [hn, hi]; rfl)
      have hi' : (x.width != y.width) = false := by simp [bne, hi]
      go_enter Tryd.func56, Tryd.ntmps56
      go_wp2_with fail
      go_ret
      rw [E.out]
      exact ⟨rfl, B0.out _ _⟩

/-- Whether two lists of tables are the same. -/
def eqTs : List Tb → List Tb → Bool
  | [], [] => true
  | n :: l, m :: k => eqTb n m && eqTs l k
  | _, _ => false
theorem eqTs_refl : ∀ l : List Tb, eqTs l l = true
  | [] => rfl
  | n :: l => by simp [eqTs, eqTb_refl, eqTs_refl l]
theorem eqTs_len : ∀ l m : List Tb, l.length ≠ m.length → eqTs l m = false
  | [], [], h => absurd rfl h
  | [], _ :: _, _ => rfl
  | _ :: _, [], _ => rfl
  | n :: l, m :: k, h => by simp only [eqTs]; rw [eqTs_len l k (by simpa using h)]; simp
theorem eqTs_no : ∀ (l m : List Tb) (j : Nat) (x y : Tb), l[j]? = some x → m[j]? = some y → eqTb x y = false → eqTs l m = false
  | [], _, j, x, y, h, _, _ => by simp at h
  | _ :: _, [], j, x, y, _, h, _ => by simp at h
  | n :: l, m :: k, 0, x, y, hx, hy, h => by simp at hx hy; subst hx hy; simp [eqTs, h]
  | n :: l, m :: k, j + 1, x, y, hx, hy, h => by simp at hx hy; simp [eqTs, eqTs_no l k j x y hx hy h]
theorem eqTs_yes : ∀ (l m : List Tb), l.length = m.length → (∀ (j : Nat) (x y : Tb), l[j]? = some x → m[j]? = some y → eqTb x y = true) → eqTs l m = true
  | [], [], _, _ => rfl
  | [], _ :: _, h, _ => by simp at h
  | _ :: _, [], h, _ => by simp at h
  | n :: l, m :: k, h, hh => by
    simp only [eqTs]
    rw [hh 0 n m rfl rfl, eqTs_yes l k (by simpa using h) fun j x y hx hy => hh (j + 1) x y hx hy]; rfl

set_option maxRecDepth 100000 in
set_option maxHeartbeats 1600000 in
theorem eqTableS_any (a b : Option Addr) (c d : Nat) (l m : List Tb) (w : World) (h : RdT w a l) (k : RdT w b m) (hn : l.length ≤ maxLen) (hm : m.length ≤ maxLen) :
    Calls Tryd.prog 17 #[.slice a l.length c, .slice b m.length d] w fun e w' => e = .returned (.bool (eqTs l m)) ∧ Below w.heap.size w w' := by
  unfold maxLen at hn hm
  have H := Lib.hid h; clear h
  have K := Lib.hid k; clear k
  by_cases hlen : l.length = m.length
  · have hne : ((l.length : Int) != (m.length : Int)) = false := by simp [hlen]
    have HL := Lib.hid hlen; clear hlen
    go_enter Tryd.func17, Tryd.ntmps17
    go_wp2_with fail
    go_loopw [5] (fun i wr => ∃ j : Nat, j ≤ l.length ∧ i = .int .i64 j ∧ (∀ i x y, i < j → l[i]? = some x → m[i]? = some y → eqTb x y = true) ∧ Below w.heap.size w wr) (fun i _ => l.length - (intOf i).toNat)
    case atStart => exact ⟨0, Nat.zero_le _, rfl, fun i x y hi => absurd hi (Nat.not_lt_zero _), Below.refl _ _⟩
    case round =>
      obtain ⟨j, hj, rfl, ht, hb⟩ := hrel
      have HT := Lib.hid ht; clear ht
      by_cases hlt : j < l.length
      · have hlt2 : j < m.length := by have := HL.out; omega
        obtain ⟨b1, o1, x, rfl, hx, hat⟩ := (H.out.below hb).at_ hlt
        obtain ⟨b2, o2, y, rfl, hy, hay⟩ := (K.out.below hb).at_ hlt2
        have X := Lib.hid hx; have Y := Lib.hid hy; have HB := Lib.hid hb
        clear hx hy hb
        obtain ⟨c0, c1, nm⟩ := hat
        obtain ⟨d0, d1, nm'⟩ := hay
        have E := Lib.hid (fun W => eqTable_any x y W)
        clear nm nm'
        have i1 : (j : Int) < (l.length : Int) := by omega
        have i2 : (j : Int) < (m.length : Int) := by omega
        cases hxy : eqTb x y with
        | true =>
          have Q := Lib.hid hxy; clear hxy
          go_wp2_with fail
          go_region_with (go_at_call 56; refine (E.out _).mono ?_; rintro e w1 ⟨rfl, b1⟩; rw [Q.out]; have T1 := Lib.hid (below_step HB.out.drew (Nat.le_refl _) b1); clear b1)
          all_goals
            go_wp2_with fail
            go_roundw
            case rel => exact ⟨j + 1, by omega, by go_num, fun i x' y' hi hx' hy' => by
              by_cases hij : i = j
              · subst hij; rw [X.out] at hx'; rw [Y.out] at hy'; cases hx'; cases hy'; exact Q.out
              · exact HT.out i x' y' (by omega) hx' hy', T1.out⟩
            case measure => simp [intOf]; omega
        | false =>
          have Q := Lib.hid hxy; clear hxy
          have F := Lib.hid (eqTs_no l m j x y X.out Y.out Q.out)
          go_wp2_with fail
          go_region_with (go_at_call 56; refine (E.out _).mono ?_; rintro e w1 ⟨rfl, b1⟩; rw [Q.out]; have T1 := Lib.hid (below_step HB.out.drew (Nat.le_refl _) b1); clear b1)
          all_goals
            go_wp2_with fail
            go_ret
            exact ⟨ret_bool F.out.symm, T1.out⟩
      · have HB := Lib.hid hb; clear hb
        go_wp2_with fail
        go_ret
        refine ⟨ret_bool (eqTs_yes l m HL.out fun i x y hx hy => HT.out i x y ?_ hx hy).symm, HB.out⟩
        have : i < l.length := by
          rcases Nat.lt_or_ge i l.length with h1 | h1
          · exact h1
          · rw [List.getElem?_eq_none h1] at hx; cases hx
        omega
  · have hne : ((l.length : Int) != (m.length : Int)) = true := by simp; omega
    have HF := Lib.hid (eqTs_len l m hlen)
    go_enter Tryd.func17, Tryd.ntmps17
    go_wp2_with fail
    go_ret
    exact ⟨ret_bool HF.out.symm, Below.refl _ _⟩
end Go.Proofs.YtcegekkhlfpgfaaDoor
