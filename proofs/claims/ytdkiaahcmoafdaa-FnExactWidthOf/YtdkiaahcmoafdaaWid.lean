/-
  Contracts of WidthOf and TypedOk, of the model and of the program. For every slice of tables and every slice of nodes.
-/
import Derived.Test.YtdkiaahcmoafdaaSWid
import Derived.Test.YtdkiaahcmoafdaaSPlan
namespace Go.Proofs.Ytdkiaahcmoafdaa
open Go.RowKit Go.Maps
set_option linter.unusedSimpArgs false
set_option linter.unusedVariables false

/-- What WidthOf answers. -/
def widO (s : List Tb) (p : List Nd) : Int := if schemaB s = true then (match treeN p with | some T => widT (fnOf s) T | none => -1) else -1
theorem treeN_at {p : List Nd} {T : Tr} (h : treeN p = some T) : growT p p.length 0 = some T := (treeN_some h).2.1
theorem widO_no {s : List Tb} (h : schemaB s = false) (p : List Nd) : widO s p = -1 := by unfold widO; rw [if_neg (by rw [h]; simp)]
theorem widO_none {s : List Tb} {p : List Nd} (h : treeN p = none) : widO s p = -1 := by unfold widO; rw [h]; split <;> rfl
theorem widO_some {s : List Tb} {p : List Nd} {T : Tr} (hs : schemaB s = true) (h : treeN p = some T) : widO s p = widT (fnOf s) T := by unfold widO; rw [if_pos hs, h]

set_option maxRecDepth 100000 in
set_option maxHeartbeats 1600000 in
theorem specWidth_any (sa : Option Addr) (cs : Nat) (s : List Tb) (ao : Option Addr) (c : Nat) (p : List Nd) (w : World) (hsr : RdT w sa s) (hpr : RdN w ao p) (hsl : s.length ≤ 1048576) (hp : p.length ≤ 1048576) :
    Calls Try.prog 40 #[.slice sa s.length cs, .slice ao p.length c] w fun e w' => e = .returned (.int .i64 (widO s p)) ∧ Below w.heap.size w w' := by
  have HS := Lib.hid hsr; have HP := Lib.hid hpr; clear hsr hpr
  have SC := Lib.hid (fun W (h : RdT W sa s) => specSchema_any sa cs s W h (by omega))
  have SP := Lib.hid (fun W (h : RdN W ao p) => specPlanOk_any ao c p W h hp)
  cases hs : schemaB s with
  | false =>
    have E := Lib.hid (widO_no hs p); have HB := Lib.hid hs; clear hs
    go_enter Try.func40, Try.ntmps40
    go_wp2_with (go_at_call 36; refine (SC.out _ HS.out).mono ?_; rintro e w1 ⟨rfl, b1⟩; rw [HB.out]; have B1 := Lib.hid b1; clear b1)
    go_ret
    rw [E.out]
    exact ⟨rfl, B1.out⟩
  | true =>
    have HB := Lib.hid hs
    cases ht : treeN p with
    | none =>
      have E := Lib.hid (widO_none (s := s) ht)
      have PB := Lib.hid (show planB p = false by unfold planB; rw [ht]; rfl)
      clear hs ht
      go_enter Try.func40, Try.ntmps40
      go_wp2_with (first | (go_at_call 36; refine (SC.out _ HS.out).mono ?_; rintro e w1 ⟨rfl, b1⟩; rw [HB.out]; have B1 := Lib.hid b1; clear b1) | (go_at_call 14; refine (SP.out _ (HP.out.below B1.out)).mono ?_; rintro e w2 ⟨rfl, b2⟩; rw [PB.out]; have B2 := Lib.hid (below_step B1.out (Nat.le_refl _) b2); clear b2))
      go_ret
      rw [E.out]
      exact ⟨rfl, B2.out⟩
    | some T =>
      have E := Lib.hid (widO_some hs ht)
      have PB := Lib.hid (show planB p = true by unfold planB; rw [ht]; rfl)
      have WD := Lib.hid (show ∀ W, RdT W sa s → RdN W ao p → Calls Try.prog 83 #[.slice sa s.length cs, .slice ao p.length c, .int .i64 0] W fun e w' => e = .returned (.int .i64 (widT (fnOf s) T)) ∧ Below W.heap.size W w' from fun W h1 h2 => l03Width_any sa cs s ao c p T hs hsl hp ht T 0 W h1 h2 (treeN_at ht) (treeN_some ht).2.2.2)
      generalize widT (fnOf s) T = res at WD E
      clear hs ht
      go_enter Try.func40, Try.ntmps40
      go_wp2_with (first | (go_at_call 36; refine (SC.out _ HS.out).mono ?_; rintro e w1 ⟨rfl, b1⟩; rw [HB.out]; have B1 := Lib.hid b1; clear b1) | (go_at_call 14; refine (SP.out _ (HP.out.below B1.out)).mono ?_; rintro e w2 ⟨rfl, b2⟩; rw [PB.out]; have B2 := Lib.hid (below_step B1.out (Nat.le_refl _) b2); clear b2) | (go_at_call 83; refine (WD.out _ (HS.out.below B2.out) (HP.out.below B2.out)).mono ?_; rintro e w3 ⟨rfl, b3⟩; have B3 := Lib.hid (below_step B2.out (Nat.le_refl _) b3); clear b3))
      go_ret
      rw [E.out]
      exact ⟨rfl, B3.out⟩

set_option maxHeartbeats 1000000 in
theorem widthNil_any (m : Option Nat) (w : World) : Calls Try.prog 84 #[.pointer none, .map m] w fun e w' => e = .returned (.int .i64 (-1)) ∧ w = w' := by
  go_enter Try.func84, Try.ntmps84
  go_wp2_with fail
  go_ret
  exact ⟨rfl, rfl⟩

set_option maxRecDepth 100000 in
set_option maxHeartbeats 1600000 in
theorem implWidth_any (sa : Option Addr) (cs : Nat) (s : List Tb) (ao : Option Addr) (c : Nat) (p : List Nd) (w : World) (hsr : RdT w sa s) (hpr : RdN w ao p) (hsl : s.length ≤ 1048576) (hp : Small p) :
    Calls Try.prog 41 #[.slice sa s.length cs, .slice ao p.length c] w fun e w' => e = .returned (.int .i64 (widO s p)) ∧ Below w.heap.size w w' := by
  have HS := Lib.hid hsr; have HP := Lib.hid hpr; clear hsr hpr
  cases hs : schemaB s with
  | false =>
    have E := Lib.hid (widO_no hs p); have HB := Lib.hid hs; clear hs
    go_enter Try.func41, Try.ntmps41
    go_wp2_with fail
    refine (widthsIn_any sa cs s _ HS.out hsl).mono ?_
    rintro e w1 ⟨b1, hpo⟩
    rw [HB.out] at hpo
    obtain ⟨m, rfl⟩ := hpo
    have B1 := Lib.hid b1; clear b1
    go_wp2_with fail
    go_ret
    rw [E.out]
    exact ⟨rfl, B1.out⟩
  | true =>
    have HB := Lib.hid hs
    have FO := Lib.hid (fnOk_schema hs)
    cases ht : treeN p with
    | none =>
      have E := Lib.hid (widO_none (s := s) ht); have HT := Lib.hid ht
      clear hs ht
      go_enter Try.func41, Try.ntmps41
      go_wp2_with fail
      refine (widthsIn_any sa cs s _ HS.out hsl).mono ?_
      rintro e w1 ⟨b1, hpo⟩
      rw [HB.out] at hpo
      obtain ⟨bm, hbm, rfl, om⟩ := hpo
      have B1 := Lib.hid b1; clear b1 om
      go_wp2_with fail
      refine (treeOfQ_any ao c p hp _ (HP.out.below B1.out)).mono ?_
      intro e w2 hpost
      rw [HT.out] at hpost
      obtain ⟨rfl, b2⟩ := hpost
      have B2 := Lib.hid (below_step B1.out (Nat.le_refl _) b2); clear b2
      go_wp2_with fail
      refine (widthNil_any _ _).mono ?_
      rintro e w' ⟨rfl, rfl⟩
      go_wp2_with fail
      go_ret
      rw [E.out]
      exact ⟨rfl, B2.out⟩
    | some T =>
      have E := Lib.hid (widO_some hs ht); have HT := Lib.hid ht
      have ND := Lib.hid (growT_nodes p _ _ _ (treeN_at ht))
      clear hs ht
      go_enter Try.func41, Try.ntmps41
      go_wp2_with fail
      refine (widthsIn_any sa cs s _ HS.out hsl).mono ?_
      rintro e w1 ⟨b1, hpo⟩
      rw [HB.out] at hpo
      obtain ⟨bm, hbm, rfl, om⟩ := hpo
      have B1 := Lib.hid b1; have OM := Lib.hid om; clear b1 om
      go_wp2_with fail
      refine (treeOfQ_any ao c p hp _ (HP.out.below B1.out)).mono ?_
      intro e w2 hpost
      rw [HT.out] at hpost
      obtain ⟨b, rfl, tr, b2⟩ := hpost
      have B2 := Lib.hid (below_step B1.out (Nat.le_refl _) b2)
      have OM2 := Lib.hid (OM.out.below b2)
      have WT := Lib.hid (width_any w1 (fnOf s) FO.out bm 8 T w2 _ _ b tr (Nat.le_refl _) b2 OM2.out ND.out)
      clear b2 tr
      generalize widT (fnOf s) T = res at WT E
      go_wp2_with fail
      refine WT.out.mono ?_
      rintro e w3 ⟨rfl, b3⟩
      have B3 := Lib.hid (below_step B2.out (Nat.le_refl _) b3); clear b3
      go_wp2_with fail
      go_ret
      rw [E.out]
      exact ⟨rfl, B3.out⟩

/-- What TypedOk answers. -/
def typB (s : List Tb) (p : List Nd) : Bool := widO s p != -1
set_option maxHeartbeats 1000000 in
theorem specTyped_any (sa : Option Addr) (cs : Nat) (s : List Tb) (ao : Option Addr) (c : Nat) (p : List Nd) (w : World) (hsr : RdT w sa s) (hpr : RdN w ao p) (hsl : s.length ≤ 1048576) (hp : p.length ≤ 1048576) :
    Calls Try.prog 42 #[.slice sa s.length cs, .slice ao p.length c] w fun e w' => e = .returned (.bool (typB s p)) ∧ Below w.heap.size w w' := by
  have W := Lib.hid (specWidth_any sa cs s ao c p w hsr hpr hsl hp)
  have E := Lib.hid (show typB s p = (widO s p != -1) from rfl)
  generalize widO s p = x at W E
  clear hsr hpr
  go_enter Try.func42, Try.ntmps42
  go_wp2_with fail
  refine W.out.mono ?_
  rintro e w1 ⟨rfl, b1⟩
  have B1 := Lib.hid b1; clear b1
  go_wp2_with fail
  go_ret
  rw [E.out]
  exact ⟨ret_bool (by first | rfl | simp [bne]), B1.out⟩
set_option maxHeartbeats 1000000 in
theorem implTyped_any (sa : Option Addr) (cs : Nat) (s : List Tb) (ao : Option Addr) (c : Nat) (p : List Nd) (w : World) (hsr : RdT w sa s) (hpr : RdN w ao p) (hsl : s.length ≤ 1048576) (hp : Small p) :
    Calls Try.prog 43 #[.slice sa s.length cs, .slice ao p.length c] w fun e w' => e = .returned (.bool (typB s p)) ∧ Below w.heap.size w w' := by
  have W := Lib.hid (implWidth_any sa cs s ao c p w hsr hpr hsl hp)
  have E := Lib.hid (show typB s p = (widO s p != -1) from rfl)
  generalize widO s p = x at W E
  clear hsr hpr
  go_enter Try.func43, Try.ntmps43
  go_wp2_with fail
  refine W.out.mono ?_
  rintro e w1 ⟨rfl, b1⟩
  have B1 := Lib.hid b1; clear b1
  go_wp2_with fail
  go_ret
  rw [E.out]
  exact ⟨ret_bool (by first | rfl | simp [bne]), B1.out⟩
end Go.Proofs.Ytdkiaahcmoafdaa
