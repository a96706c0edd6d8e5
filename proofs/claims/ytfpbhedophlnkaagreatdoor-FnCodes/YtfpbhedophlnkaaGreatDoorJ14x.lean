/-
  How many nodes, and each of them, read out of bytes: plain lists. No program, no walk. A node, a plan and a schema as bytes, as plain lists. No program, no walk. A plan's bytes, as plain lists. No program, no walk. What is in a frame: how long, and of bytes. No program, no walk.
-/
import Derived.Test.YtfpbhedophlnkaaGreatDoorJ13x
import Derived.Test.YtfpbhedophlnkaaGreatDoorJ11x
import Derived.Test.YtfpbhedophlnkaaGreatDoorJ6x
import Derived.Test.YtfpbhedophlnkaaGreatDoorJ7x
namespace Go.Proofs.YtfpbhedophlnkaaGreatDoor
open Go.RowKit
set_option linter.unusedSimpArgs false
set_option linter.unusedVariables false

/-- The first k nodes behind place p, and the place behind them; none where one is missing. -/
def nodsK (l : List Int) (p : Int) : Nat → Option (List Nd × Int)
  | 0 => some ([], p)
  | k + 1 => match nodsK l p k with
    | none => none
    | some (acc, q) => match (nodeR l (some q)).2 with
      | none => none
      | some q' => some (acc ++ [(nodeR l (some q)).1], q')
def countNd (l : List Int) (s : Option Int) (most : Int) : Option (List Nd × Int) :=
  match (numR l s).2 with
  | none => none
  | some p => if 0 ≤ (numR l s).1 ∧ (numR l s).1 ≤ most then nodsK l p (numR l s).1.toNat else none
theorem nodsK_yes {l : List Int} {p q q' : Int} {k : Nat} {acc : List Nd} {t : Nd} (h : nodsK l p k = some (acc, q)) (ht : nodeR l (some q) = (t, some q')) : nodsK l p (k + 1) = some (acc ++ [t], q') := by
  simp only [nodsK, h, ht]
theorem nodsK_no {l : List Int} {p q : Int} {k : Nat} {acc : List Nd} {t : Nd} (h : nodsK l p k = some (acc, q)) (ht : nodeR l (some q) = (t, none)) : nodsK l p (k + 1) = none := by
  simp only [nodsK, h, ht]
theorem nodsK_stays {l : List Int} {p : Int} {k : Nat} (h : nodsK l p k = none) : ∀ m, k ≤ m → nodsK l p m = none := by
  intro m hm
  induction m with
  | zero => obtain rfl : k = 0 := by omega
            exact h
  | succ m ih =>
    rcases Nat.lt_or_ge k (m + 1) with h1 | h1
    · simp only [nodsK, ih (by omega)]
    · obtain rfl : k = m + 1 := by omega
      exact h
theorem nodsK_len {l : List Int} {p : Int} : ∀ {k : Nat} {acc : List Nd} {q : Int}, nodsK l p k = some (acc, q) → acc.length = k := by
  intro k
  induction k with
  | zero => intro acc q h; simp only [nodsK, Option.some.injEq, Prod.mk.injEq] at h; rw [← h.1]; rfl
  | succ k ih =>
    intro acc q h
    simp only [nodsK] at h
    cases hk : nodsK l p k with
    | none => rw [hk] at h; cases h
    | some x =>
      obtain ⟨a, r⟩ := x
      rw [hk] at h
      simp only at h
      cases ht : (nodeR l (some r)).2 with
      | none => rw [ht] at h; cases h
      | some r' =>
        rw [ht] at h
        simp only [Option.some.injEq, Prod.mk.injEq] at h
        rw [← h.1, List.length_append, ih hk]; rfl
theorem countNd_40 {l : List Int} {s : Option Int} {acc : List Nd} {q : Int} (h : countNd l s 40 = some (acc, q)) : acc.length ≤ 40 := by
  unfold countNd at h
  split at h
  · cases h
  · split at h
    · rename_i hc
      have := nodsK_len h
      omega
    · cases h
/-- A plan out of bytes, and how the reading ended. -/
def decP (l : List Int) : List Nd × Int :=
  match unfL l with
  | none => ([], 1)
  | some m => match countNd m (some 0) 40 with
    | none => ([], 2)
    | some (acc, q) => if q ≠ m.length then ([], 4) else if planB acc = true then (acc, 0) else ([], 3)
theorem nodeR_cols {l : List Int} (hl : By l) (s : Option Int) : (nodeR l s).1.cols.length ≤ 300 := fieldR_cols hl _ _
theorem nodsK_cols {l : List Int} (hl : By l) {p : Int} : ∀ {k : Nat} {acc : List Nd} {q : Int}, nodsK l p k = some (acc, q) → ∀ n ∈ acc, n.cols.length ≤ 300 := by
  intro k
  induction k with
  | zero => intro acc q h; simp only [nodsK, Option.some.injEq, Prod.mk.injEq] at h; rw [← h.1]; simp
  | succ k ih =>
    intro acc q h
    simp only [nodsK] at h
    cases hk : nodsK l p k with
    | none => rw [hk] at h; cases h
    | some x =>
      obtain ⟨a, r⟩ := x
      rw [hk] at h
      simp only at h
      cases ht : (nodeR l (some r)).2 with
      | none => rw [ht] at h; cases h
      | some r' =>
        rw [ht] at h
        simp only [Option.some.injEq, Prod.mk.injEq] at h
        rw [← h.1]
        intro n hn
        rcases List.mem_append.1 hn with h1 | h1
        · exact ih hk n h1
        · simp at h1; subst h1; exact nodeR_cols hl _
theorem countNd_cols {l : List Int} (hl : By l) {s : Option Int} {acc : List Nd} {q : Int} (h : countNd l s 40 = some (acc, q)) : ∀ n ∈ acc, n.cols.length ≤ 300 := by
  unfold countNd at h
  split at h
  · cases h
  · split at h
    · exact nodsK_cols hl h
    · cases h
end Go.Proofs.YtfpbhedophlnkaaGreatDoor
namespace Go.Proofs.YtfpbhedophlnkaaGreatDoor
open Go.RowKit
set_option linter.unusedSimpArgs false
set_option linter.unusedVariables false

def flagI (b : Bool) : Int := if b then 1 else 0
theorem flagI_bd (b : Bool) : 0 ≤ flagI b ∧ flagI b ≤ 1 := by cases b <;> simp [flagI]
/-- What stands behind a node's kind. -/
def fieldL (n : Nd) : List Int :=
  if n.kind = 0 then putW n.name
  else if n.kind = 1 then [n.col, n.op, flagI n.slot, n.num].flatMap putN
  else if n.kind = 2 then putNs n.cols
  else if n.kind = 3 then [n.col, n.num].flatMap putN
  else if n.kind = 5 then [n.col].flatMap putN
  else if n.kind = 6 then [flagI n.slot, n.num].flatMap putN
  else []
def putNd (n : Nd) : List Int := if nodeB n then putN n.kind ++ fieldL n else []

theorem fieldL_by (n : Nd) : By (fieldL n) := by
  unfold fieldL
  split
  · exact putW_by _
  split
  · exact flat_by _
  split
  · exact putNs_by _
  split
  · exact flat_by _
  split
  · exact flat_by _
  split
  · exact flat_by _
  exact By.nil
theorem putNd_by (n : Nd) : By (putNd n) := by
  unfold putNd; split
  · exact (putN_by _).app (fieldL_by _)
  · exact By.nil
theorem cols_of_nodeC {n : Nd} (h : nodeB n = true) : n.cols.length ≤ 6 := by
  obtain ⟨k, name, col, op, num, slot, cols⟩ := n
  have hk := kind_of_nodeB h
  have hc : k = 0 ∨ k = 1 ∨ k = 2 ∨ k = 3 ∨ k = 4 ∨ k = 5 ∨ k = 6 ∨ k = 7 := by simp only at hk; omega
  rcases hc with rfl | rfl | rfl | rfl | rfl | rfl | rfl | rfl
  all_goals simp [nodeB] at h
  all_goals first | (simp_all; done) | (simp only; omega)
theorem putNs_len' {l : List Int} (h : l.length ≤ 6) : (putNs l).length ≤ 21 := by
  unfold putNs; split
  · have h1 := putN_len l.length
    have h2 := flat_len (l.take l.length)
    have h3 : (l.take l.length).length ≤ l.length := by simp
    simp only [preN, List.length_append]; omega
  · simp
theorem fieldL_len {n : Nd} (h : n.cols.length ≤ 6) : (fieldL n).length ≤ 21 := by
  unfold fieldL
  split
  · have := putW_len n.name; omega
  split
  · have := flat_len [n.col, n.op, flagI n.slot, n.num]; simp only [List.length_cons, List.length_nil] at this; omega
  split
  · exact putNs_len' h
  split
  · have := flat_len [n.col, n.num]; simp only [List.length_cons, List.length_nil] at this; omega
  split
  · have := flat_len [n.col]; simp only [List.length_cons, List.length_nil] at this; omega
  split
  · have := flat_len [flagI n.slot, n.num]; simp only [List.length_cons, List.length_nil] at this; omega
  simp
theorem putNd_len (n : Nd) : (putNd n).length ≤ 24 := by
  unfold putNd; split
  · rename_i h
    have h1 := putN_len n.kind
    have h2 := fieldL_len (cols_of_nodeC h)
    simp only [List.length_append]; omega
  · simp
theorem putNd_no {n : Nd} (h : nodeB n = false) : putNd n = [] := by unfold putNd; rw [h]; rfl
theorem putNd_yes {n : Nd} (h : nodeB n = true) : putNd n = putN n.kind ++ fieldL n := by unfold putNd; rw [h]; rfl

/-- A plan's nodes, one behind the other, behind their number. -/
def preP (p : List Nd) (j : Nat) : List Int := putN p.length ++ (p.take j).flatMap putNd
theorem preP_zero (p : List Nd) : preP p 0 = putN p.length := by simp [preP]
theorem preP_succ {p : List Nd} {j : Nat} {n : Nd} (h : p[j]? = some n) : preP p (j + 1) = preP p j ++ putNd n := by
  simp [preP, List.take_add_one, h, List.flatMap_append]
theorem flatP_len : ∀ p : List Nd, (p.flatMap putNd).length ≤ 24 * p.length
  | [] => by simp
  | n :: p => by
    have := flatP_len p
    have := putNd_len n
    simp only [List.flatMap_cons, List.length_append, List.length_cons]; omega
theorem flatP_by : ∀ p : List Nd, By (p.flatMap putNd)
  | [] => by simp [By.nil]
  | n :: p => by rw [List.flatMap_cons]; exact (putNd_by n).app (flatP_by p)
theorem preP_by (p : List Nd) (j : Nat) : By (preP p j) := (putN_by _).app (flatP_by _)
theorem preP_len {p : List Nd} (j : Nat) (h : p.length ≤ 40) : (preP p j).length ≤ 963 := by
  have h1 := putN_len p.length
  have h2 := flatP_len (p.take j)
  have h3 : (p.take j).length ≤ p.length := by simp; omega
  simp only [preP, List.length_append]; omega
end Go.Proofs.YtfpbhedophlnkaaGreatDoor
namespace Go.Proofs.YtfpbhedophlnkaaGreatDoor
open Go.RowKit
set_option linter.unusedSimpArgs false
set_option linter.unusedVariables false

def encP (p : List Nd) : List Int := if planB p then frameL (preP p p.length) else []
def sumP (p : List Nd) : Int := if planB p then chk (encP p) else -1
theorem encP_yes {p : List Nd} (h : planB p = true) : encP p = frameL (preP p p.length) := by unfold encP; rw [if_pos h]
theorem encP_no {p : List Nd} (h : planB p = false) : encP p = [] := by unfold encP; rw [if_neg (by simp [h])]
theorem encP_by (p : List Nd) : By (encP p) := by
  unfold encP; split
  · exact frameL_by (preP_by _ _)
  · exact By.nil
theorem encP_len (p : List Nd) : (encP p).length ≤ 4008 := by
  unfold encP; split
  · exact frameL_len _
  · simp
theorem sumP_yes {p : List Nd} (h : planB p = true) : sumP p = chk (encP p) := by unfold sumP; rw [if_pos h]
theorem sumP_no {p : List Nd} (h : planB p = false) : sumP p = -1 := by unfold sumP; rw [if_neg (by simp [h])]
theorem planB_l40 {p : List Nd} (h : planB p = true) : p.length ≤ 40 := by
  cases ht : treeN p with
  | none => simp [planB, ht] at h
  | some T => exact (treeN_some ht).1
end Go.Proofs.YtfpbhedophlnkaaGreatDoor
namespace Go.Proofs.YtfpbhedophlnkaaGreatDoor
open Go.RowKit
set_option linter.unusedSimpArgs false
set_option linter.unusedVariables false

theorem unfL_4000 {l m : List Int} (h : unfL l = some m) : m.length ≤ 4000 := by
  unfold unfL unfT at h
  split at h
  · split at h
    · cases h
    · split at h
      · injection h with h; rw [← h]; simp; omega
      · cases h
  · cases h
theorem unfL_by {l m : List Int} (hl : By l) (h : unfL l = some m) : By m := by
  unfold unfL unfT at h
  split at h
  · split at h
    · cases h
    · split at h
      · injection h with h; rw [← h]; exact hl.take_drop _ _
      · cases h
  · cases h
end Go.Proofs.YtfpbhedophlnkaaGreatDoor
