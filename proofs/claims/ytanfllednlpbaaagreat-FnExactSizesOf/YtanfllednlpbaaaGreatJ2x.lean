/-
  Nodes and plans as plain data: which node is one, where a tree of a list ends, how deep it is, the tree itself and what is found in it. No program, no walk. Words for slices of nodes in memory: what a node's seven cells read as, what a slice of nodes reads as, what of it the call itself owns. No program, no walk. Plain facts on rows of integers that are compared, filled and marked. No walk.
-/
import Derived.Test.YtanfllednlpbaaaGreatJ1x
import Derived.Test.YtanfllednlpbaaaGreatRows
import Derived.WalkKit
import Derived.WalkSpells
import Derived.WalkLawsBesides
import Derived.Deep.QuietTactic
import Derived.BigQuiet
namespace Go.Proofs.YtanfllednlpbaaaGreat
set_option linter.unusedSimpArgs false
set_option linter.unusedVariables false

/-- A node, as data. -/
structure Nd where
  kind : Int
  name : ByteArray
  col : Int
  op : Int
  num : Int
  slot : Bool
  cols : List Int

def colB (x : Int) : Bool := decide (0 ≤ x) && decide (x ≤ 63)
theorem colB_t {x : Int} (h0 : 0 ≤ x) (h1 : x ≤ 63) : colB x = true := by simp [colB, h0, h1]
theorem colB_f {x : Int} (h : x < 0 ∨ 63 < x) : colB x = false := by simp [colB]; omega
theorem colB_iff {x : Int} : colB x = true ↔ 0 ≤ x ∧ x ≤ 63 := by simp [colB]

/-- Whether a node is one. -/
def nodeB (n : Nd) : Bool :=
  if n.kind = 0 then wordB n.name.data.toList && decide (n.col = 0 ∧ n.op = 0 ∧ n.num = 0 ∧ n.slot = false ∧ n.cols = [])
  else if n.kind = 1 then decide (n.name.data.toList = [] ∧ (0 ≤ n.col ∧ n.col ≤ 63) ∧ (0 ≤ n.op ∧ n.op ≤ 3) ∧ (-1000000 ≤ n.num ∧ n.num ≤ 1000000) ∧ (n.op = 3 → n.num = 0 ∧ n.slot = false) ∧ (n.slot = true → 0 ≤ n.num ∧ n.num ≤ 39) ∧ n.cols = [])
  else if n.kind = 2 then decide (n.name.data.toList = [] ∧ n.col = 0 ∧ n.op = 0 ∧ n.num = 0 ∧ n.slot = false ∧ 1 ≤ n.cols.length ∧ n.cols.length ≤ 6) && n.cols.all colB
  else if n.kind = 3 then decide (n.name.data.toList = [] ∧ (0 ≤ n.col ∧ n.col ≤ 63) ∧ n.op = 0 ∧ (0 ≤ n.num ∧ n.num ≤ 63) ∧ n.slot = false ∧ n.cols = [])
  else if n.kind = 4 then decide (n.name.data.toList = [] ∧ n.col = 0 ∧ n.op = 0 ∧ n.num = 0 ∧ n.slot = false ∧ n.cols = [])
  else if n.kind = 5 then decide (n.name.data.toList = [] ∧ (0 ≤ n.col ∧ n.col ≤ 63) ∧ n.op = 0 ∧ n.num = 0 ∧ n.slot = false ∧ n.cols = [])
  else if n.kind = 6 then decide (n.name.data.toList = [] ∧ n.col = 0 ∧ n.op = 0 ∧ (0 ≤ n.num ∧ n.num ≤ 1000000) ∧ (n.slot = true → n.num ≤ 39) ∧ n.cols = [])
  else if n.kind = 7 then decide (n.name.data.toList = [] ∧ n.col = 0 ∧ n.op = 0 ∧ n.num = 0 ∧ n.slot = false ∧ n.cols = [])
  else false

/-- How many children a kind has, -1 for none that is one. -/
def arity (k : Int) : Int :=
  if k = 0 then 0 else if k = 3 ∨ k = 4 then 2 else if k = 1 ∨ k = 2 ∨ k = 5 ∨ k = 6 ∨ k = 7 then 1 else -1

theorem arity_cases (k : Int) : arity k = -1 ∨ arity k = 0 ∨ arity k = 1 ∨ arity k = 2 := by
  unfold arity; split
  · simp
  · split
    · simp
    · split <;> simp
theorem kind_of_nodeB {n : Nd} (h : nodeB n = true) : 0 ≤ n.kind ∧ n.kind ≤ 7 := by
  unfold nodeB at h
  repeat' split at h
  all_goals first | omega | cases h
theorem arity_of_nodeB {n : Nd} (h : nodeB n = true) : arity n.kind = 0 ∨ arity n.kind = 1 ∨ arity n.kind = 2 := by
  have := kind_of_nodeB h
  have hc : n.kind = 0 ∨ n.kind = 1 ∨ n.kind = 2 ∨ n.kind = 3 ∨ n.kind = 4 ∨ n.kind = 5 ∨ n.kind = 6 ∨ n.kind = 7 := by omega
  rcases hc with h | h | h | h | h | h | h | h <;> simp [arity, h]

/-- Where the tree that begins at k ends, and how deep it is, within a room. -/
def endN (p : List Nd) : Nat → Nat → Option (Nat × Nat)
  | 0, _ => none
  | r + 1, k =>
    match p[k]? with
    | none => none
    | some n =>
      if arity n.kind = 1 then
        match endN p r (k + 1) with
        | none => none
        | some (e, d) => some (e, d + 1)
      else if arity n.kind = 2 then
        match endN p r (k + 1) with
        | none => none
        | some (e, d) =>
          match endN p r e with
          | none => none
          | some (e', d') => some (e', (if d < d' then d' else d) + 1)
      else some (k + 1, 1)

inductive Tr where
  | t0 (n : Nd) (pl en : Nat)
  | t1 (n : Nd) (pl en : Nat) (c : Tr)
  | t2 (n : Nd) (pl en : Nat) (c d : Tr)

namespace Tr
def nd : Tr → Nd
  | t0 n _ _ => n
  | t1 n _ _ _ => n
  | t2 n _ _ _ _ => n
def pl : Tr → Nat
  | t0 _ p _ => p
  | t1 _ p _ _ => p
  | t2 _ p _ _ _ => p
def en : Tr → Nat
  | t0 _ _ e => e
  | t1 _ _ e _ => e
  | t2 _ _ e _ _ => e
def depth : Tr → Nat
  | t0 _ _ _ => 1
  | t1 _ _ _ c => c.depth + 1
  | t2 _ _ _ c d => max c.depth d.depth + 1
def kids : Tr → List Tr
  | t0 _ _ _ => []
  | t1 _ _ _ c => [c]
  | t2 _ _ _ c d => [c, d]
def find (k : Nat) : Tr → Option Tr
  | t0 n p e => if k < p ∨ e ≤ k then none else some (t0 n p e)
  | t1 n p e c => if k < p ∨ e ≤ k then none else
    match c.find k with
    | some s => some s
    | none => some (t1 n p e c)
  | t2 n p e c d => if k < p ∨ e ≤ k then none else
    match c.find k with
    | some s => some s
    | none =>
      match d.find k with
      | some s => some s
      | none => some (t2 n p e c d)
/-- The names of its scans, from left to right. -/
def tabs : Tr → List ByteArray
  | t0 n _ _ => [n.name]
  | t1 _ _ _ c => c.tabs
  | t2 _ _ _ c d => c.tabs ++ d.tabs
theorem en0 (n : Nd) (p e : Nat) : (t0 n p e).en = e := rfl
theorem en1 (n : Nd) (p e : Nat) (c : Tr) : (t1 n p e c).en = e := rfl
theorem en2 (n : Nd) (p e : Nat) (c d : Tr) : (t2 n p e c d).en = e := rfl
end Tr

/-- The tree that begins at k, all its nodes being nodes. -/
def growT (p : List Nd) : Nat → Nat → Option Tr
  | 0, _ => none
  | f + 1, k =>
    match p[k]? with
    | none => none
    | some n =>
      if nodeB n = false then none
      else if arity n.kind = 1 then
        match growT p f (k + 1) with
        | none => none
        | some c => some (.t1 n k c.en c)
      else if arity n.kind = 2 then
        match growT p f (k + 1) with
        | none => none
        | some c =>
          match growT p f c.en with
          | none => none
          | some d => some (.t2 n k d.en c d)
      else some (.t0 n k (k + 1))

theorem growT_sound (p : List Nd) : ∀ (f k : Nat) (T : Tr), growT p f k = some T →
    T.pl = k ∧ k < T.en ∧ T.en ≤ p.length ∧ p[k]? = some T.nd ∧ (∀ i n, k ≤ i → i < T.en → p[i]? = some n → nodeB n = true) := by
  intro f
  induction f with
  | zero => intro k T h; cases h
  | succ f ih =>
    intro k T h
    simp only [growT] at h
    cases hp : p[k]? with
    | none => rw [hp] at h; cases h
    | some n =>
      rw [hp] at h
      simp only at h
      have hk : k < p.length := by
        rcases Nat.lt_or_ge k p.length with h1 | h1
        · exact h1
        · rw [List.getElem?_eq_none h1] at hp; cases hp
      cases hn : nodeB n with
      | false => rw [hn, if_pos rfl] at h; cases h
      | true =>
        rw [hn] at h
        simp only [Bool.true_eq_false, if_false] at h
        split at h
        · cases hc : growT p f (k + 1) with
          | none => rw [hc] at h; cases h
          | some c =>
            rw [hc] at h; simp only [Option.some.injEq] at h; subst h
            obtain ⟨h1, h2, h3, h4, h5⟩ := ih _ _ hc
            refine ⟨rfl, (show k < c.en by omega), h3, rfl, fun i m hi1 hi2 hm => ?_⟩
            by_cases he : i = k
            · subst he; rw [hp] at hm; cases hm; exact hn
            · exact h5 i m (by omega) hi2 hm
        · split at h
          · cases hc : growT p f (k + 1) with
            | none => rw [hc] at h; cases h
            | some c =>
              rw [hc] at h; simp only at h
              cases hd : growT p f c.en with
              | none => rw [hd] at h; cases h
              | some d =>
                rw [hd] at h; simp only [Option.some.injEq] at h; subst h
                obtain ⟨h1, h2, h3, h4, h5⟩ := ih _ _ hc
                obtain ⟨g1, g2, g3, g4, g5⟩ := ih _ _ hd
                refine ⟨rfl, (show k < d.en by omega), g3, rfl, fun i m hi1 hi2 hm => ?_⟩
                by_cases he : i = k
                · subst he; rw [hp] at hm; cases hm; exact hn
                · by_cases hi : i < c.en
                  · exact h5 i m (by omega) hi hm
                  · exact g5 i m (by omega) hi2 hm
          · simp only [Option.some.injEq] at h; subst h
            refine ⟨rfl, (show k < k + 1 by omega), (show k + 1 ≤ p.length by omega), rfl, fun i m hi1 hi2 hm => ?_⟩
            obtain rfl : i = k := by simp only [Tr.en0] at hi2; omega
            rw [hp] at hm; cases hm; exact hn

theorem growT_fuel (p : List Nd) : ∀ (f g k : Nat), p.length ≤ f + k → p.length ≤ g + k → growT p f k = growT p g k := by
  intro f
  induction f with
  | zero =>
    intro g k hf hg
    cases g with
    | zero => rfl
    | succ g => simp only [growT]; rw [List.getElem?_eq_none (by omega)]
  | succ f ih =>
    intro g k hf hg
    cases g with
    | zero => simp only [growT]; rw [List.getElem?_eq_none (by omega)]
    | succ g =>
      simp only [growT]
      rw [ih g (k + 1) (by omega) (by omega)]
      cases hc : growT p g (k + 1) with
      | none => rfl
      | some c =>
        have := growT_sound p _ _ _ hc
        have e := ih g c.en (by omega) (by omega)
        simp only [e]

theorem depth_pos (T : Tr) : 1 ≤ T.depth := by cases T <;> simp [Tr.depth]

/-- The end and the depth of the tree, within a room, where all nodes are nodes. -/
theorem endN_grow (p : List Nd) (hall : ∀ n ∈ p, nodeB n = true) : ∀ (f r k : Nat), p.length ≤ f + k →
    endN p r k = match growT p f k with
      | none => none
      | some T => if T.depth ≤ r then some (T.en, T.depth) else none := by
  intro f
  induction f with
  | zero =>
    intro r k hf
    cases r with
    | zero => rfl
    | succ r => simp only [endN, growT]; rw [List.getElem?_eq_none (by omega)]
  | succ f ih =>
    intro r k hf
    cases r with
    | zero =>
      simp only [endN]
      cases hg : growT p (f + 1) k with
      | none => rfl
      | some T => have := depth_pos T; simp only; rw [if_neg (by omega)]
    | succ r =>
      simp only [endN, growT]
      cases hp : p[k]? with
      | none => rfl
      | some n =>
        have hn : nodeB n = true := hall n (List.mem_of_getElem? hp)
        simp only [hn, Bool.true_eq_false, if_false]
        rw [ih r (k + 1) (by omega)]
        by_cases h1 : arity n.kind = 1
        · simp only [h1, if_true]
          cases hc : growT p f (k + 1) with
          | none => rfl
          | some c =>
            have e : (Tr.t1 n k c.en c).depth = c.depth + 1 := rfl
            by_cases hd : c.depth ≤ r
            · simp only [if_pos hd]; rw [if_pos (by rw [e]; omega)]; rfl
            · simp only [if_neg hd]; rw [if_neg (by rw [e]; omega)]
        · simp only [if_neg h1]
          by_cases h2 : arity n.kind = 2
          · simp only [h2, if_true]
            cases hc : growT p f (k + 1) with
            | none => rfl
            | some c =>
              have hs := growT_sound p _ _ _ hc
              simp only
              by_cases hd : c.depth ≤ r
              · rw [if_pos hd]
                simp only
                rw [ih r c.en (by omega)]
                cases he : growT p f c.en with
                | none => rfl
                | some d =>
                  have e : (Tr.t2 n k d.en c d).depth = max c.depth d.depth + 1 := rfl
                  by_cases hd' : d.depth ≤ r
                  · have e3 : (Tr.t2 n k d.en c d).depth ≤ r + 1 := by rw [e]; omega
                    simp only [if_pos hd', if_pos e3]
                    have e2 : (if c.depth < d.depth then d.depth else c.depth) + 1 = (Tr.t2 n k d.en c d).depth := by rw [e]; split <;> omega
                    rw [e2]; rfl
                  · simp only [if_neg hd']; rw [if_neg (by rw [e]; omega)]
              · rw [if_neg hd]
                simp only
                cases he : growT p f c.en with
                | none => rfl
                | some d =>
                  have e : (Tr.t2 n k d.en c d).depth = max c.depth d.depth + 1 := rfl
                  simp only; rw [if_neg (by rw [e]; omega)]
          · simp only [if_neg h2]
            have e : (Tr.t0 n k (k + 1)).depth = 1 := rfl
            rw [if_pos (by rw [e]; omega)]; rfl

/-- Whether a list of nodes is a plan. -/
def treeN (p : List Nd) : Option Tr :=
  if p.length ≤ 40 then
    match growT p p.length 0 with
    | none => none
    | some T => if T.en = p.length ∧ T.depth ≤ 10 then some T else none
  else none
def planB (p : List Nd) : Bool := (treeN p).isSome

theorem treeN_some {p : List Nd} {T : Tr} (h : treeN p = some T) : p.length ≤ 40 ∧ growT p p.length 0 = some T ∧ T.en = p.length ∧ T.depth ≤ 10 := by
  unfold treeN at h
  split at h
  · rename_i h40
    cases hg : growT p p.length 0 with
    | none => rw [hg] at h; cases h
    | some S =>
      rw [hg] at h; simp only at h
      split at h
      · rename_i hc; cases h; exact ⟨h40, rfl, hc.1, hc.2⟩
      · cases h
  · cases h
theorem treeN_all {p : List Nd} {T : Tr} (h : treeN p = some T) : ∀ n ∈ p, nodeB n = true := by
  obtain ⟨_, hg, he, _⟩ := treeN_some h
  have hs := growT_sound p _ _ _ hg
  intro n hn
  obtain ⟨i, hi, rfl⟩ := List.mem_iff_getElem.1 hn
  exact hs.2.2.2.2 i _ (Nat.zero_le _) (by omega) (List.getElem?_eq_getElem hi)
theorem treeN_pos {p : List Nd} {T : Tr} (h : treeN p = some T) : 1 ≤ p.length := by
  obtain ⟨_, hg, he, _⟩ := treeN_some h
  have hs := growT_sound p _ _ _ hg
  omega

/-- What the model asks of a plan. -/
theorem planB_spec (p : List Nd) (h2 : p.length ≤ 40) (hall : ∀ n ∈ p, nodeB n = true) :
    planB p = decide ((endN p 10 0).map (·.1) = some p.length) := by
  unfold planB treeN
  rw [if_pos h2, endN_grow p hall p.length 10 0 (by omega)]
  cases hg : growT p p.length 0 with
  | none => simp
  | some T =>
    by_cases hd : T.depth ≤ 10 <;> by_cases he : T.en = p.length <;> simp [hd, he]
theorem planB_len {p : List Nd} (h : p.length < 1 ∨ 40 < p.length) : planB p = false := by
  cases ht : treeN p with
  | none => simp [planB, ht]
  | some T => have := treeN_pos ht; have := treeN_some ht; omega
theorem planB_node {p : List Nd} {n : Nd} (hn : n ∈ p) (h : nodeB n = false) : planB p = false := by
  cases ht : treeN p with
  | none => simp [planB, ht]
  | some T => have := treeN_all ht n hn; rw [h] at this; cases this

theorem growT_more (p : List Nd) : ∀ (f k : Nat) (T : Tr), growT p f k = some T → growT p (f + 1) k = some T := by
  intro f
  induction f with
  | zero => intro k T h; cases h
  | succ f ih =>
    intro k T h
    rw [growT] at h ⊢
    cases hp : p[k]? with
    | none => rw [hp] at h; cases h
    | some n =>
      rw [hp] at h
      simp only at h ⊢
      split at h
      · cases h
      · rename_i hn
        rw [if_neg hn]
        split at h
        · rename_i h1
          rw [if_pos h1]
          cases hc : growT p f (k + 1) with
          | none => rw [hc] at h; cases h
          | some c => rw [hc] at h; rw [ih _ _ hc]; exact h
        · rename_i h1
          rw [if_neg h1]
          split at h
          · rename_i h2
            rw [if_pos h2]
            cases hc : growT p f (k + 1) with
            | none => rw [hc] at h; cases h
            | some c =>
              rw [hc] at h; rw [ih _ _ hc]
              simp only at h ⊢
              cases hd : growT p f c.en with
              | none => rw [hd] at h; cases h
              | some d => rw [hd] at h; rw [ih _ _ hd]; exact h
          · rename_i h2
            rw [if_neg h2]; exact h

/-- What is found at a place of a tree is the tree that begins there. -/
theorem find_grow (p : List Nd) : ∀ (f j k : Nat) (T : Tr), growT p f j = some T → j ≤ k → k < T.en →
    ∃ S, T.find k = some S ∧ growT p f k = some S ∧ S.depth ≤ T.depth ∧ S.en ≤ T.en := by
  intro f
  induction f with
  | zero => intro j k T h; cases h
  | succ f ih =>
    intro j k T h hj hk
    have hs0 := growT_sound p _ _ _ h
    have hfull := h
    simp only [growT] at h
    cases hp : p[j]? with
    | none => rw [hp] at h; cases h
    | some n =>
      rw [hp] at h
      simp only at h
      have hjl : j < p.length := by
        rcases Nat.lt_or_ge j p.length with h1 | h1
        · exact h1
        · rw [List.getElem?_eq_none h1] at hp; cases hp
      cases hn : nodeB n with
      | false => rw [hn, if_pos rfl] at h; cases h
      | true =>
        rw [hn] at h
        simp only [Bool.true_eq_false, if_false] at h
        split at h
        · cases hc : growT p f (j + 1) with
          | none => rw [hc] at h; cases h
          | some c =>
            rw [hc] at h; simp only [Option.some.injEq] at h; subst h
            have hs := growT_sound p _ _ _ hc
            simp only [Tr.en1] at hk
            by_cases he : k = j
            · subst he
              refine ⟨_, ?_, hfull, Nat.le_refl _, Nat.le_refl _⟩
              have hno : c.find k = none := by
                cases c <;> simp [Tr.find, Tr.pl] at hs ⊢ <;> omega
              simp only [Tr.find]
              rw [if_neg (by omega), hno]
            · obtain ⟨S, hS, hg, hd, hen⟩ := ih (j + 1) k c hc (by omega) hk
              refine ⟨S, ?_, ?_, by simp only [Tr.depth]; omega, hen⟩
              · simp only [Tr.find]
                rw [if_neg (by omega), hS]
              · have hS1 := growT_sound p _ _ _ hg
                exact growT_more p _ _ _ hg
        · split at h
          · cases hc : growT p f (j + 1) with
            | none => rw [hc] at h; cases h
            | some c =>
              rw [hc] at h; simp only at h
              cases hd : growT p f c.en with
              | none => rw [hd] at h; cases h
              | some d =>
                rw [hd] at h; simp only [Option.some.injEq] at h; subst h
                have hs := growT_sound p _ _ _ hc
                have hs' := growT_sound p _ _ _ hd
                simp only [Tr.en2] at hk
                by_cases he : k = j
                · subst he
                  refine ⟨_, ?_, hfull, Nat.le_refl _, Nat.le_refl _⟩
                  have hno : c.find k = none := by
                    cases c <;> simp [Tr.find, Tr.pl] at hs ⊢ <;> omega
                  have hno' : d.find k = none := by
                    cases d <;> simp [Tr.find, Tr.pl] at hs' ⊢ <;> omega
                  simp only [Tr.find]
                  rw [if_neg (by omega), hno]
                  simp only
                  rw [hno']
                · by_cases hkc : k < c.en
                  · obtain ⟨S, hS, hg, hdd, hen⟩ := ih (j + 1) k c hc (by omega) hkc
                    refine ⟨S, ?_, growT_more p _ _ _ hg, by simp only [Tr.depth]; omega, by simp only [Tr.en2]; omega⟩
                    simp only [Tr.find]
                    rw [if_neg (by omega), hS]
                  · obtain ⟨S, hS, hg, hdd, hen⟩ := ih c.en k d hd (by omega) hk
                    refine ⟨S, ?_, growT_more p _ _ _ hg, by simp only [Tr.depth]; omega, by simp only [Tr.en2]; omega⟩
                    have hno : c.find k = none := by
                      cases c <;> simp [Tr.find, Tr.en] at hkc ⊢ <;> omega
                    simp only [Tr.find]
                    rw [if_neg (by omega), hno]
                    simp only
                    rw [hS]
          · simp only [Option.some.injEq] at h; subst h
            simp only [Tr.en0] at hk
            obtain rfl : k = j := by omega
            refine ⟨_, ?_, hfull, Nat.le_refl _, Nat.le_refl _⟩
            simp only [Tr.find]
            rw [if_neg (by omega)]
end Go.Proofs.YtanfllednlpbaaaGreat
namespace Go.Proofs.YtanfllednlpbaaaGreat
open Go.RowKit
set_option linter.unusedSimpArgs false
set_option linter.unusedVariables false

/-- The seven cells at place o of block b read as the node n, its columns behind the address a. -/
structure NdAt (w : World) (b o : Nat) (n : Nd) (a : Option Addr) (c : Nat) : Prop where
  c0 : w.cell? ⟨b, o, none⟩ = some (.int .i64 n.kind)
  c1 : w.cell? ⟨b, o + 1, none⟩ = some (.string n.name)
  c2 : w.cell? ⟨b, o + 2, none⟩ = some (.int .i64 n.col)
  c3 : w.cell? ⟨b, o + 3, none⟩ = some (.int .i64 n.op)
  c4 : w.cell? ⟨b, o + 4, none⟩ = some (.int .i64 n.num)
  c5 : w.cell? ⟨b, o + 5, none⟩ = some (.bool n.slot)
  c6 : w.cell? ⟨b, o + 6, none⟩ = some (.slice a n.cols.length c)
  rd : Rd w .i64 a n.cols
  cap : n.cols.length ≤ c
  mx : c ≤ maxLen
  nm : n.name.size ≤ maxLen

/-- The slice that begins at 'ao' reads as the nodes l. -/
def RdN (w : World) (ao : Option Addr) (l : List Nd) : Prop :=
  l = [] ∨ ∃ b off, ao = some ⟨b, off, none⟩ ∧ ∀ i n, l[i]? = some n → ∃ a c, NdAt w b (off + i * 7) n a c

section
variable {w w' : World} {b o : Nat} {n : Nd} {a ao : Option Addr} {c : Nat} {l : List Nd}

theorem NdAt.lt (h : NdAt w b o n a c) : b < w.heap.size := World.block_lt_of_cell? w ⟨b, o, none⟩ h.c0
theorem NdAt.below (h : NdAt w b o n a c) (hb : Below w.heap.size w w') : NdAt w' b o n a c :=
  ⟨(hb.cell (p := ⟨b, o, none⟩) h.lt).trans h.c0, (hb.cell (p := ⟨b, o + 1, none⟩) h.lt).trans h.c1, (hb.cell (p := ⟨b, o + 2, none⟩) h.lt).trans h.c2, (hb.cell (p := ⟨b, o + 3, none⟩) h.lt).trans h.c3,
   (hb.cell (p := ⟨b, o + 4, none⟩) h.lt).trans h.c4, (hb.cell (p := ⟨b, o + 5, none⟩) h.lt).trans h.c5, (hb.cell (p := ⟨b, o + 6, none⟩) h.lt).trans h.c6, h.rd.below hb, h.cap, h.mx, h.nm⟩
theorem RdN.nil : RdN w ao [] := .inl rfl
theorem RdN.below (h : RdN w ao l) (hb : Below w.heap.size w w') : RdN w' ao l := by
  rcases h with h | ⟨b, off, rfl, hc⟩
  · exact .inl h
  · refine .inr ⟨b, off, rfl, fun i n hi => ?_⟩
    obtain ⟨a, c, hn⟩ := hc i n hi
    exact ⟨a, c, hn.below hb⟩
theorem RdN.at_ (h : RdN w ao l) {i : Nat} (hi : i < l.length) : ∃ b off n a c, ao = some ⟨b, off, none⟩ ∧ l[i]? = some n ∧ NdAt w b (off + i * 7) n a c := by
  rcases h with rfl | ⟨b, off, rfl, hc⟩
  · simp at hi
  · obtain ⟨a, c, hn⟩ := hc i _ (List.getElem?_eq_getElem hi)
    exact ⟨b, off, _, a, c, rfl, List.getElem?_eq_getElem hi, hn⟩
/-- A part of a slice of nodes. -/
theorem RdN.part {b off : Nat} (h : RdN w (some ⟨b, off, none⟩) l) (k m : Nat) : RdN w (some ⟨b, off + k * 7, none⟩) ((l.drop k).take m) := by
  rcases h with rfl | ⟨b', off', he, hc⟩
  · left; simp
  · simp only [Option.some.injEq, Addr.mk.injEq, and_true] at he
    obtain ⟨rfl, rfl⟩ := he
    refine .inr ⟨b, _, rfl, fun i n hi => ?_⟩
    rw [List.getElem?_take] at hi
    split at hi
    · rw [List.getElem?_drop] at hi
      obtain ⟨a, c, hn⟩ := hc _ _ hi
      refine ⟨a, c, ?_⟩
      rw [show off + k * 7 + i * 7 = off + (k + i) * 7 by omega]
      exact hn
    · cases hi
end
end Go.Proofs.YtanfllednlpbaaaGreat
namespace Go.Proofs.YtanfllednlpbaaaGreat
open Go.RowKit
set_option linter.unusedSimpArgs false
set_option linter.unusedVariables false

def eqL (a b : List Int) : Bool := decide (a = b)

theorem eqL_no {l m : List Int} {j : Nat} {x y : Int} (h : ¬ x = y) (hx : l[j]? = some x) (hy : m[j]? = some y) : eqL l m = false := by
  unfold eqL; simp; rintro rfl; rw [hx] at hy; exact h (by injection hy)
theorem eqL_yes {l m : List Int} {j : Nat} (h : l.length = m.length) (hj : l.length ≤ j) (ht : l.take j = m.take j) : eqL l m = true := by
  unfold eqL; simp; rw [List.take_of_length_le hj, List.take_of_length_le (by omega)] at ht; exact ht
theorem eqL_refl (l : List Int) : eqL l l = true := by unfold eqL; simp
theorem below_drewN {B : Nat} {a w : World} (h : Below B a w) (n : Nat) : Below B a (w.drewN n) := ⟨h.os, h.tape, h.output, h.size, h.block⟩

def fillL (l : List Int) (k : Nat) : List Int := l.take k ++ List.replicate (l.length - k) 0
theorem fillL_zero (l : List Int) : fillL l 0 = List.replicate l.length 0 := by simp [fillL]
theorem fillL_len (l : List Int) (k : Nat) (h : k ≤ l.length) : (fillL l k).length = l.length := by simp [fillL]; omega
theorem fillL_all (l : List Int) (k : Nat) (h : l.length ≤ k) : fillL l k = l := by
  simp [fillL, List.take_of_length_le h, Nat.sub_eq_zero_of_le h]
theorem fillL_step (l : List Int) (k : Nat) (z : Int) (h : k < l.length) (ht : l.take (k + 1) = l.take k ++ [z]) : (fillL l k).set k z = fillL l (k + 1) := by
  have e : l.length - k = (l.length - (k + 1)) + 1 := by omega
  have hk : (l.take k).length = k := by simp; omega
  simp only [fillL]
  rw [ht, e, List.replicate_succ, List.set_append_right _ _ (by omega), hk, Nat.sub_self]
  simp
theorem map_set_int (k : IntKind) (l : List Int) (i : Nat) (z : Int) : (l.map (Value.int k)).set i (.int k z) = (l.set i z).map (Value.int k) := by
  rw [List.map_set]
theorem made_ints (k : IntKind) (n : Nat) : (madeCells (Value.int k 0).cells (n * 1)).toList = (List.replicate n (0 : Int)).map (Value.int k) := by
  rw [Nat.mul_one, show (Value.int k 0).cells = #[.int k 0] from rfl, toList_madeCells_one]; simp
theorem Tryz.infoI64 : (Tryz.prog.info? 3).map (fun i => (i.zero, i.size, i.bytes)) = some (some (.int .i64 0), 1, 8) := by kernel_rfl

theorem toS_round {w wr : World} {e : TypeId} {k : IntKind} {g : Nat} {l : List Int} {j : Nat} {z : Int} (hj : j < l.length) (ht : l.take (j + 1) = l.take j ++ [z]) (hg : w.heap.size ≤ g)
    (ho : wr.ownsRow w.heap.size e 1 (.slice (some ⟨g, 0, none⟩) l.length l.length) l.length ((fillL l j).map (Value.int k))) (hb : Below w.heap.size w wr) :
    (wr.setCell ⟨g, j, none⟩ (.int k z)).ownsRow w.heap.size e 1 (.slice (some ⟨g, 0, none⟩) l.length l.length) l.length ((fillL l (j + 1)).map (Value.int k)) ∧ Below w.heap.size w (wr.setCell ⟨g, j, none⟩ (.int k z)) := by
  have h1 := (ho.stored j (.int k z)).1
  rw [map_set_int, fillL_step l j z hj ht] at h1
  exact ⟨h1, hb.setCell hg _⟩
theorem toS_cell {w wr : World} {e : TypeId} {k : IntKind} {g : Nat} {l : List Int} {j : Nat} (hj : j < l.length)
    (ho : wr.ownsRow w.heap.size e 1 (.slice (some ⟨g, 0, none⟩) l.length l.length) l.length ((fillL l j).map (Value.int k))) : ∃ y, wr.cell? ⟨g, j, none⟩ = some (.int k y) := by
  have h := ho.cellAt j (by omega)
  have hl : j < (fillL l j).length := by rw [fillL_len l j (by omega)]; exact hj
  rw [List.getElem?_map, List.getElem?_eq_getElem hl] at h
  exact ⟨_, h⟩

/-- What marking lays into n cells from the number m on. -/
def marksL (f : Int → Int) (m : Int) (n : Nat) : List Int := (List.range n).map fun (i : Nat) => f (m + (i : Int))
theorem marksL_len (f : Int → Int) (m : Int) (n : Nat) : (marksL f m n).length = n := by simp [marksL]
theorem marksL_succ (f : Int → Int) (m : Int) (n : Nat) : marksL f m (n + 1) = marksL f m n ++ [f (m + (n : Int))] := by simp [marksL, List.range_succ]
theorem marksL_get (f : Int → Int) (m : Int) (n i : Nat) (h : i < n) : (marksL f m n)[i]? = some (f (m + (i : Int))) := by simp [marksL, h]
theorem marks_step (f : Int → Int) (m : Int) (l : List Int) (j : Nat) (h : j < l.length) : (marksL f m j ++ l.drop j).set j (f (m + (j : Int))) = marksL f m (j + 1) ++ l.drop (j + 1) := by
  rw [List.set_append_right _ _ (by rw [marksL_len]; exact Nat.le_refl _), marksL_len, Nat.sub_self, marksL_succ, List.append_assoc, List.drop_eq_getElem_cons h]
  rfl
def Marked (w : World) (f : Int → Int) (k : IntKind) (ao : Option Addr) (n : Nat) (m : Int) (en : Ending) (w' : World) : Prop :=
  en = .returned (.int .i64 (m + n)) ∧ Rd w' k ao (marksL f m n) ∧ w.grownBy w' (ao.map (·.block))
def MarkRel (w wr : World) (base : Nat) (e : TypeId) (k : IntKind) (f : Int → Int) (m : Int) (g : Nat) (c : Nat) (l : List Int) (j : Nat) : Prop :=
  wr.ownsRow base e 1 (.slice (some ⟨g, 0, none⟩) l.length c) l.length ((marksL f m j ++ l.drop j).map (Value.int k)) ∧ w.grownBy wr (some g)
theorem MarkRel.cell {w wr : World} {base : Nat} {e : TypeId} {k : IntKind} {f : Int → Int} {m : Int} {g c : Nat} {l : List Int} {j : Nat} (h : MarkRel w wr base e k f m g c l j) (hj : j < l.length) :
    ∃ y, wr.cell? ⟨g, j, none⟩ = some (.int k y) := by
  have h1 := h.1.cellAt j (by omega)
  have hl : j < (marksL f m j ++ l.drop j).length := by simp [marksL_len]; omega
  rw [List.getElem?_map, List.getElem?_eq_getElem hl] at h1
  exact ⟨_, h1⟩
theorem MarkRel.step {w wr : World} {base : Nat} {e : TypeId} {k : IntKind} {f : Int → Int} {m : Int} {g c : Nat} {l : List Int} {j : Nat} (h : MarkRel w wr base e k f m g c l j) (hj : j < l.length) :
    MarkRel w (wr.setCell ⟨g, j, none⟩ (.int k (f (m + (j : Int))))) base e k f m g c l (j + 1) := by
  have h1 := h.1.stored j (.int k (f (m + (j : Int))))
  rw [map_set_int, marks_step f m l j hj] at h1
  refine ⟨h1.1, ⟨h1.2.os.trans h.2.os, h1.2.tape.trans h.2.tape, h1.2.output.trans h.2.output, Nat.le_trans h.2.size h1.2.size, fun i hi hne => (h1.2.block i (Nat.lt_of_lt_of_le hi h.2.size) hne).trans (h.2.block i hi hne)⟩⟩
theorem MarkRel.done {w wr : World} {base : Nat} {e : TypeId} {k : IntKind} {f : Int → Int} {m : Int} {g c : Nat} {l : List Int} {j : Nat} (h : MarkRel w wr base e k f m g c l j) (hj : j = l.length) :
    Rd wr k (some ⟨g, 0, none⟩) (marksL f m l.length) := by
  subst hj
  refine .inr ⟨g, 0, rfl, fun i hi => ?_⟩
  rw [marksL_len] at hi
  rw [Nat.zero_add, h.1.cellAt i (by omega), List.drop_length, List.append_nil, List.getElem?_map, List.getD_eq_getElem?_getD, marksL_get f m _ i hi]; rfl

end Go.Proofs.YtanfllednlpbaaaGreat
