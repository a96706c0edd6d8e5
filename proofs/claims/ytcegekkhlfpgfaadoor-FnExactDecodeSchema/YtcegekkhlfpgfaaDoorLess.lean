/-
  Texts by their bytes: plain facts, and the contract of spec.l01Less. For every two texts.
-/
import Derived.Test.YtcegekkhlfpgfaaDoorStrs
import Derived.Deep.RegionWith
import Derived.Deep.QuietTactic
import Derived.BigQuiet
namespace Go.Proofs.YtcegekkhlfpgfaaDoor
open Go.RowKit
set_option linter.unusedSimpArgs false
set_option linter.unusedVariables false

theorem less_at {x y : UInt8} : ∀ (j : Nat) (a b : List UInt8), a.take j = b.take j → a[j]? = some x → b[j]? = some y → x ≠ y → (a < b ↔ x < y)
  | 0, [], _, _, h, _, _ => by simp at h
  | 0, _ :: _, [], _, _, h, _ => by simp at h
  | 0, u :: a, v :: b, _, hx, hy, hxy => by
    simp at hx hy; subst hx hy
    rw [List.cons_lt_cons_iff]
    constructor
    · rintro (h | ⟨h, _⟩)
      · exact h
      · exact absurd h hxy
    · exact fun h => .inl h
  | j + 1, [], _, _, h, _, _ => by simp at h
  | j + 1, _ :: _, [], _, _, h, _ => by simp at h
  | j + 1, u :: a, v :: b, ht, hx, hy, hxy => by
    simp only [List.take_succ_cons, List.cons.injEq] at ht
    obtain ⟨rfl, ht⟩ := ht
    simp only [List.getElem?_cons_succ] at hx hy
    rw [List.cons_lt_cons_iff, ← less_at j a b ht hx hy hxy]
    constructor
    · rintro (h | ⟨_, h⟩)
      · exact absurd h (UInt8.lt_irrefl _)
      · exact h
    · exact fun h => .inr ⟨rfl, h⟩
theorem less_end : ∀ (j : Nat) (a b : List UInt8), a.take j = b.take j → (a.length = j ∧ j ≤ b.length ∨ j ≤ a.length ∧ b.length = j) → (a < b ↔ a.length < b.length)
  | 0, [], [], _, _ => by simp
  | 0, [], _ :: _, _, _ => by simp
  | 0, _ :: _, [], _, _ => by simp
  | 0, _ :: _, _ :: _, _, h => by simp at h
  | j + 1, [], b, _, h => by simp at h
  | j + 1, u :: a, [], _, h => by simp at h
  | j + 1, u :: a, v :: b, ht, h => by
    simp only [List.take_succ_cons, List.cons.injEq] at ht
    obtain ⟨rfl, ht⟩ := ht
    simp only [List.length_cons] at h ⊢
    rw [List.cons_lt_cons_iff]
    have := less_end j a b ht (by omega)
    constructor
    · rintro (h | ⟨_, h⟩)
      · exact absurd h (UInt8.lt_irrefl _)
      · have := this.1 h; omega
    · exact fun h => .inr ⟨rfl, this.2 (by omega)⟩

/-- Whether a text is before another. -/
def lessS (a b : ByteArray) : Bool := decide (a.data.toList < b.data.toList)

set_option maxRecDepth 100000 in
set_option maxHeartbeats 1600000 in
theorem l01Less_any (a b : ByteArray) (w : World) (ha : a.size ≤ maxLen) (hb : b.size ≤ maxLen) :
    Calls Tryd.prog 84 #[.string a, .string b] w fun e w' => e = .returned (.bool (lessS a b)) ∧ ∃ m, w' = w.drewN m := by
  unfold maxLen at ha hb
  have la : a.data.toList.length = a.size := by rw [Array.length_toList]; rfl
  have lb : b.data.toList.length = b.size := by rw [Array.length_toList]; rfl
  have LA := Lib.hid la; have LB := Lib.hid lb; clear la lb
  go_enter Tryd.func84, Tryd.ntmps84
  go_wp2_with fail
  go_loopw [5] (fun i wr => ∃ k q : Nat, k ≤ a.size ∧ k ≤ b.size ∧ i = .int .i64 k ∧ a.data.toList.take k = b.data.toList.take k ∧ wr = w.drewN q) (fun i _ => a.size - (intOf i).toNat)
  case atStart => exact ⟨0, 0, Nat.zero_le _, Nat.zero_le _, rfl, rfl, rfl⟩
  case round =>
    obtain ⟨k, q, h1, h2, rfl, ht, rfl⟩ := hrel
    have HT := Lib.hid ht; clear ht
    by_cases k1 : k < a.size
    · by_cases k2 : k < b.size
      · have X := Lib.hid (show a.data.toList[k]? = some a[k] by rw [Array.getElem?_toList, Array.getElem?_eq_getElem (show k < a.data.size from k1)]; rfl)
        have Y := Lib.hid (show b.data.toList[k]? = some b[k] by rw [Array.getElem?_toList, Array.getElem?_eq_getElem (show k < b.data.size from k2)]; rfl)
        have TA := Lib.hid (show a.data.toList.take (k + 1) = a.data.toList.take k ++ [a[k]] by rw [List.take_add_one, X.out]; rfl)
        have TB := Lib.hid (show b.data.toList.take (k + 1) = b.data.toList.take k ++ [b[k]] by rw [List.take_add_one, Y.out]; rfl)
        by_cases hxy : a[k] = b[k]
        · have E := Lib.hid hxy
          have hb0 : ((a[k].toNat : Int) != (b[k].toNat : Int)) = false := by simp [hxy]
          clear hxy
          go_wp2_with fail
          go_quiet (fail)
          go_wp2_with fail
          go_roundw
          case rel => exact ⟨k + 1, _, by omega, by omega, by go_num, by rw [TA.out, TB.out, HT.out, E.out], by first | rfl | rw [World.drewN_drewN]⟩
          case measure => simp [intOf]; omega
        · have hne : a[k].toNat ≠ b[k].toNat := fun h => hxy (UInt8.toNat_inj.1 h)
          have hb0 : ((a[k].toNat : Int) != (b[k].toNat : Int)) = true := by simp; omega
          have F := Lib.hid (less_at k _ _ HT.out X.out Y.out hxy)
          clear hxy
          go_wp2_with fail
          go_quiet (fail)
          go_wp2_with fail
          go_quiet (fail)
          go_wp2_with fail
          go_ret
          refine ⟨ret_bool ?_, _, by rw [World.drewN_drewN, World.drewN_drewN]⟩
          unfold lessS
          exact decide_eq_decide.2 (UInt8.lt_iff_toNat_lt.symm.trans F.out.symm)
      · go_wp2_with fail
        go_ret
        refine ⟨ret_bool ?_, _, rfl⟩
        have := less_end k _ _ HT.out (by rw [LA.out, LB.out]; omega)
        rw [LA.out, LB.out] at this
        unfold lessS
        rw [decide_eq_decide.2 this]
    · go_wp2_with fail
      go_ret
      refine ⟨ret_bool ?_, _, rfl⟩
      have := less_end k _ _ HT.out (by rw [LA.out, LB.out]; omega)
      rw [LA.out, LB.out] at this
      unfold lessS
      rw [decide_eq_decide.2 this]
theorem l01Less_is {a b : ByteArray} {v : Bool} (h : lessS a b = v) (w : World) (ha : a.size ≤ maxLen) (hb : b.size ≤ maxLen) :
    Calls Tryd.prog 84 #[.string a, .string b] w fun e w' => e = .returned (.bool v) ∧ ∃ m, w' = w.drewN m := by
  rw [← h]; exact l01Less_any a b w ha hb
end Go.Proofs.YtcegekkhlfpgfaaDoor
