/-
  Contract of impl.sorted at rows: whatever comes one by one, sorted, those of which none is less in their order.
-/
import Derived.Test.YtfbgflmolkgopaaIStab
import Derived.Test.YtfbgflmolkgopaaIVal
import Derived.Test.YtfbgflmolkgopaaRowP
import Derived.Lib.OwnBridge
namespace Go.Proofs.Ytfbgflmolkgopaa
open Go.RowKit Go.Shelf Go.Lib Go.Sort
set_option linter.unusedSimpArgs false
set_option linter.unusedVariables false

theorem lessL_asym : ∀ a b : List Int, lessL a b = true → lessL b a = false
  | [], [], _ => rfl
  | [], _ :: _, _ => rfl
  | _ :: _, [], h => by cases h
  | x :: a, y :: b, h => by
    unfold lessL at h ⊢
    by_cases e : x = y
    · subst e; simp at h ⊢; exact lessL_asym a b h
    · rw [if_neg e] at h; rw [if_neg (fun h' => e h'.symm)]
      have := of_decide_eq_true h
      exact decide_eq_false (by omega)
theorem lessL_ntrans : ∀ a b c : List Int, lessL b a = false → lessL c b = false → lessL c a = false
  | [], _, [], _, _ => rfl
  | [], _, _ :: _, _, _ => rfl
  | _ :: _, [], _, h, _ => by cases h
  | _ :: _, _ :: _, [], _, h => by cases h
  | x :: a, y :: b, z :: c, h, k => by
    unfold lessL at h k ⊢
    by_cases e1 : y = x
    · subst e1
      rw [if_pos rfl] at h
      by_cases e2 : z = y
      · subst e2; rw [if_pos rfl] at k ⊢; exact lessL_ntrans a b c h k
      · rw [if_neg e2] at k ⊢; exact k
    · rw [if_neg e1] at h
      have h1 := of_decide_eq_false h
      by_cases e2 : z = y
      · subst e2; rw [if_neg e1]; exact h
      · rw [if_neg e2] at k
        have k1 := of_decide_eq_false k
        rw [if_neg (by omega)]
        exact decide_eq_false (by omega)
theorem wkL : Wk lessL := ⟨lessL_asym, lessL_ntrans⟩
theorem wkOf {α β : Type} {lt : β → β → Bool} (h : Wk lt) (f : α → β) : Wk fun x y => lt (f x) (f y) := ⟨fun x y => h.asym _ _, fun x y z => h.trans _ _ _⟩

/-- How the function that compares answers. -/
def cfOf {α : Type} (lt : α → α → Bool) (x y : α) : Int := if lt x y then -1 else if lt y x then 1 else 0
theorem ltOf_cfOf {α : Type} (lt : α → α → Bool) : ltOf (cfOf lt) = lt := by
  funext x y
  unfold ltOf cfOf
  cases lt x y
  · simp; cases lt y x <;> simp
  · simp

set_option maxHeartbeats 1000000 in
theorem sortedCmp_any {wb : World} (lt : Els wb → Els wb → Bool) (f Bl : Nat) (lb : Array Value) (W : World) (ef : ∀ args w, (callFunc f args).run Try.prog w = .ok (.enter f args) w) (hcell : W.cell? ⟨Bl, 0, none⟩ = some (.func (.func f) #[] lb))
    (hless : ∀ x y : Els wb, Calls Try.prog f (#[encE x, encE y] ++ lb) W fun e w' => e = .returned (.bool (lt x y)) ∧ w' = W) (x y : Els wb) :
    Calls Try.prog 77 #[encE x, encE y, .pointer (some ⟨Bl, 0, none⟩)] W fun e w' => e = .returned (.int .i64 (cfOf lt x y)) ∧ w' = W := by
  have h1 := hless x y
  have h2 := hless y x
  clear hless
  have hcf : Hid (cfOf lt x y = if lt x y then -1 else if lt y x then 1 else 0) := rfl
  generalize cfOf lt x y = z at hcf ⊢
  unfold encE at h1 h2 ⊢
  cases e1 : lt x y with
  | true =>
    rw [e1] at h1
    have E1 : Hid _ := e1
    clear e1 h2
    go_enter Try.func77, Try.ntmps77
    go_wp2_with (go_at_fn f; refine h1.mono ?_; clear h1; rintro e w' ⟨rfl, rfl⟩)
    go_ret
    exact ⟨ret_int (by rw [hcf.out, E1.out]; rfl), rfl⟩
  | false =>
    rw [e1] at h1
    have E1 : Hid _ := e1
    clear e1
    cases e2 : lt y x with
    | true =>
      rw [e2] at h2
      have E2 : Hid _ := e2
      clear e2
      go_enter Try.func77, Try.ntmps77
      go_wp2_with (go_at_fn f; refine h1.mono ?_; clear h1; rintro e w' ⟨rfl, rfl⟩)
      go_wp2_with (go_at_fn f; refine h2.mono ?_; clear h2; rintro e w' ⟨rfl, rfl⟩)
      go_ret
      exact ⟨ret_int (by rw [hcf.out, E1.out, E2.out]; rfl), rfl⟩
    | false =>
      rw [e2] at h2
      have E2 : Hid _ := e2
      clear e2
      go_enter Try.func77, Try.ntmps77
      go_wp2_with (go_at_fn f; refine h1.mono ?_; clear h1; rintro e w' ⟨rfl, rfl⟩)
      go_wp2_with (go_at_fn f; refine h2.mono ?_; clear h2; rintro e w' ⟨rfl, rfl⟩)
      go_ret
      exact ⟨ret_int (by rw [hcf.out, E1.out, E2.out]; rfl), rfl⟩
end Go.Proofs.Ytfbgflmolkgopaa
