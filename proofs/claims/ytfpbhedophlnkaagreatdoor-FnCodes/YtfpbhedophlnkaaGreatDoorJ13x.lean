/-
  Nodes and plans as plain data: which node is one, where a tree of a list ends, how deep it is, the tree itself and what is found in it. No program, no walk. Reading a node, a plan and a schema out of bytes, as plain lists: one thing behind the other; once something is missing nothing more is read. No program, no walk. How long what is read out of bytes can be. No program, no walk.
-/
import Derived.Test.YtfpbhedophlnkaaGreatDoorJ6x
import Derived.Test.YtfpbhedophlnkaaGreatDoorJ10x
import Derived.Test.YtfpbhedophlnkaaGreatDoorJ11x
namespace Go.Proofs.YtfpbhedophlnkaaGreatDoor
set_option linter.unusedSimpArgs false
set_option linter.unusedVariables false

/-- A node, as data. -/
structure Nd where
  kind : Int
  name : ByteArray
  col : Int
  op : Int
  num : Int
  slot : Bool
  cols : List Int

def colB (x : Int) : Bool := decide (0 ≤ x) && decide (x ≤ 63)
theorem colB_t {x : Int} (h0 : 0 ≤ x) (h1 : x ≤ 63) : colB x = true := by simp [colB, h0, h1]
theorem colB_f {x : Int} (h : x < 0 ∨ 63 < x) : colB x = false := by simp [colB]; omega
theorem colB_iff {x : Int} : colB x = true ↔ 0 ≤ x ∧ x ≤ 63 := by simp [colB]

/-- Whether a node is one. -/
def nodeB (n : Nd) : Bool :=
  if n.kind = 0 then wordB n.name.data.toList && decide (n.col = 0 ∧ n.op = 0 ∧ n.num = 0 ∧ n.slot = false ∧ n.cols = [])
  else if n.kind = 1 then decide (n.name.data.toList = [] ∧ (0 ≤ n.col ∧ n.col ≤ 63) ∧ (0 ≤ n.op ∧ n.op ≤ 3) ∧ (-1000000 ≤ n.num ∧ n.num ≤ 1000000) ∧ (n.op = 3 → n.num = 0 ∧ n.slot = false) ∧ (n.slot = true → 0 ≤ n.num ∧ n.num ≤ 39) ∧ n.cols = [])
  else if n.kind = 2 then decide (n.name.data.toList = [] ∧ n.col = 0 ∧ n.op = 0 ∧ n.num = 0 ∧ n.slot = false ∧ 1 ≤ n.cols.length ∧ n.cols.length ≤ 6) && n.cols.all colB
  else if n.kind = 3 then decide (n.name.data.toList = [] ∧ (0 ≤ n.col ∧ n.col ≤ 63) ∧ n.op = 0 ∧ (0 ≤ n.num ∧ n.num ≤ 63) ∧ n.slot = false ∧ n.cols = [])
  else if n.kind = 4 then decide (n.name.data.toList = [] ∧ n.col = 0 ∧ n.op = 0 ∧ n.num = 0 ∧ n.slot = false ∧ n.cols = [])
  else if n.kind = 5 then decide (n.name.data.toList = [] ∧ (0 ≤ n.col ∧ n.col ≤ 63) ∧ n.op = 0 ∧ n.num = 0 ∧ n.slot = false ∧ n.cols = [])
  else if n.kind = 6 then decide (n.name.data.toList = [] ∧ n.col = 0 ∧ n.op = 0 ∧ (0 ≤ n.num ∧ n.num ≤ 1000000) ∧ (n.slot = true → n.num ≤ 39) ∧ n.cols = [])
  else if n.kind = 7 then decide (n.name.data.toList = [] ∧ n.col = 0 ∧ n.op = 0 ∧ n.num = 0 ∧ n.slot = false ∧ n.cols = [])
  else false

/-- How many children a kind has, -1 for none that is one. -/
def arity (k : Int) : Int :=
  if k = 0 then 0 else if k = 3 ∨ k = 4 then 2 else if k = 1 ∨ k = 2 ∨ k = 5 ∨ k = 6 ∨ k = 7 then 1 else -1

theorem arity_cases (k : Int) : arity k = -1 ∨ arity k = 0 ∨ arity k = 1 ∨ arity k = 2 := by
  unfold arity; split
  · simp
  · split
    · simp
    · split <;> simp
theorem kind_of_nodeB {n : Nd} (h : nodeB n = true) : 0 ≤ n.kind ∧ n.kind ≤ 7 := by
  unfold nodeB at h
  repeat' split at h
  all_goals first | omega | cases h
theorem arity_of_nodeB {n : Nd} (h : nodeB n = true) : arity n.kind = 0 ∨ arity n.kind = 1 ∨ arity n.kind = 2 := by
  have := kind_of_nodeB h
  have hc : n.kind = 0 ∨ n.kind = 1 ∨ n.kind = 2 ∨ n.kind = 3 ∨ n.kind = 4 ∨ n.kind = 5 ∨ n.kind = 6 ∨ n.kind = 7 := by omega
  rcases hc with h | h | h | h | h | h | h | h <;> simp [arity, h]

/-- Where the tree that begins at k ends, and how deep it is, within a room. -/
def endN (p : List Nd) : Nat → Nat → Option (Nat × Nat)
  | 0, _ => none
  | r + 1, k =>
    match p[k]? with
    | none => none
    | some n =>
      if arity n.kind = 1 then
        match endN p r (k + 1) with
        | none => none
        | some (e, d) => some (e, d + 1)
      else if arity n.kind = 2 then
        match endN p r (k + 1) with
        | none => none
        | some (e, d) =>
          match endN p r e with
          | none => none
          | some (e', d') => some (e', (if d < d' then d' else d) + 1)
      else some (k + 1, 1)

inductive Tr where
  | t0 (n : Nd) (pl en : Nat)
  | t1 (n : Nd) (pl en : Nat) (c : Tr)
  | t2 (n : Nd) (pl en : Nat) (c d : Tr)

namespace Tr
def nd : Tr → Nd
  | t0 n _ _ => n
  | t1 n _ _ _ => n
  | t2 n _ _ _ _ => n
def pl : Tr → Nat
  | t0 _ p _ => p
  | t1 _ p _ _ => p
  | t2 _ p _ _ _ => p
def en : Tr → Nat
  | t0 _ _ e => e
  | t1 _ _ e _ => e
  | t2 _ _ e _ _ => e
def depth : Tr → Nat
  | t0 _ _ _ => 1
  | t1 _ _ _ c => c.depth + 1
  | t2 _ _ _ c d => max c.depth d.depth + 1
def kids : Tr → List Tr
  | t0 _ _ _ => []
  | t1 _ _ _ c => [c]
  | t2 _ _ _ c d => [c, d]
def find (k : Nat) : Tr → Option Tr
  | t0 n p e => if k < p ∨ e ≤ k then none else some (t0 n p e)
  | t1 n p e c => if k < p ∨ e ≤ k then none else
    match c.find k with
    | some s => some s
    | none => some (t1 n p e c)
  | t2 n p e c d => if k < p ∨ e ≤ k then none else
    match c.find k with
    | some s => some s
    | none =>
      match d.find k with
      | some s => some s
      | none => some (t2 n p e c d)
/-- The names of its scans, from left to right. -/
def tabs : Tr → List ByteArray
  | t0 n _ _ => [n.name]
  | t1 _ _ _ c => c.tabs
  | t2 _ _ _ c d => c.tabs ++ d.tabs
theorem en0 (n : Nd) (p e : Nat) : (t0 n p e).en = e := rfl
theorem en1 (n : Nd) (p e : Nat) (c : Tr) : (t1 n p e c).en = e := rfl
theorem en2 (n : Nd) (p e : Nat) (c d : Tr) : (t2 n p e c d).en = e := rfl
end Tr

/-- The tree that begins at k, all its nodes being nodes. -/
def growT (p : List Nd) : Nat → Nat → Option Tr
  | 0, _ => none
  | f + 1, k =>
    match p[k]? with
    | none => none
    | some n =>
      if nodeB n = false then none
      else if arity n.kind = 1 then
        match growT p f (k + 1) with
        | none => none
        | some c => some (.t1 n k c.en c)
      else if arity n.kind = 2 then
        match growT p f (k + 1) with
        | none => none
        | some c =>
          match growT p f c.en with
          | none => none
          | some d => some (.t2 n k d.en c d)
      else some (.t0 n k (k + 1))

theorem growT_sound (p : List Nd) : ∀ (f k : Nat) (T : Tr), growT p f k = some T →
    T.pl = k ∧ k < T.en ∧ T.en ≤ p.length ∧ p[k]? = some T.nd ∧ (∀ i n, k ≤ i → i < T.en → p[i]? = some n → nodeB n = true) := by
  intro f
  induction f with
  | zero => intro k T h; cases h
  | succ f ih =>
    intro k T h
    simp only [growT] at h
    cases hp : p[k]? with
    | none => rw [hp] at h; cases h
    | some n =>
      rw [hp] at h
      simp only at h
      have hk : k < p.length := by
        rcases Nat.lt_or_ge k p.length with h1 | h1
        · exact h1
        · rw [List.getElem?_eq_none h1] at hp; cases hp
      cases hn : nodeB n with
      | false => rw [hn, if_pos rfl] at h; cases h
      | true =>
        rw [hn] at h
        simp only [Bool.true_eq_false, if_false] at h
        split at h
        · cases hc : growT p f (k + 1) with
          | none => rw [hc] at h; cases h
          | some c =>
            rw [hc] at h; simp only [Option.some.injEq] at h; subst h
            obtain ⟨h1, h2, h3, h4, h5⟩ := ih _ _ hc
            refine ⟨rfl, (show k < c.en by omega), h3, rfl, fun i m hi1 hi2 hm => ?_⟩
            by_cases he : i = k
            · subst he; rw [hp] at hm; cases hm; exact hn
            · exact h5 i m (by omega) hi2 hm
        · split at h
          · cases hc : growT p f (k + 1) with
            | none => rw [hc] at h; cases h
            | some c =>
              rw [hc] at h; simp only at h
              cases hd : growT p f c.en with
              | none => rw [hd] at h; cases h
              | some d =>
                rw [hd] at h; simp only [Option.some.injEq] at h; subst h
                obtain ⟨h1, h2, h3, h4, h5⟩ := ih _ _ hc
                obtain ⟨g1, g2, g3, g4, g5⟩ := ih _ _ hd
                refine ⟨rfl, (show k < d.en by omega), g3, rfl, fun i m hi1 hi2 hm => ?_⟩
                by_cases he : i = k
                · subst he; rw [hp] at hm; cases hm; exact hn
                · by_cases hi : i < c.en
                  · exact h5 i m (by omega) hi hm
                  · exact g5 i m (by omega) hi2 hm
          · simp only [Option.some.injEq] at h; subst h
            refine ⟨rfl, (show k < k + 1 by omega), (show k + 1 ≤ p.length by omega), rfl, fun i m hi1 hi2 hm => ?_⟩
            obtain rfl : i = k := by simp only [Tr.en0] at hi2; omega
            rw [hp] at hm; cases hm; exact hn

theorem growT_fuel (p : List Nd) : ∀ (f g k : Nat), p.length ≤ f + k → p.length ≤ g + k → growT p f k = growT p g k := by
  intro f
  induction f with
  | zero =>
    intro g k hf hg
    cases g with
    | zero => rfl
    | succ g => simp only [growT]; rw [List.getElem?_eq_none (by omega)]
  | succ f ih =>
    intro g k hf hg
    cases g with
    | zero => simp only [growT]; rw [List.getElem?_eq_none (by omega)]
    | succ g =>
      simp only [growT]
      rw [ih g (k + 1) (by omega) (by omega)]
      cases hc : growT p g (k + 1) with
      | none => rfl
      | some c =>
        have := growT_sound p _ _ _ hc
        have e := ih g c.en (by omega) (by omega)
        simp only [e]

theorem depth_pos (T : Tr) : 1 ≤ T.depth := by cases T <;> simp [Tr.depth]

/-- The end and the depth of the tree, within a room, where all nodes are nodes. -/
theorem endN_grow (p : List Nd) (hall : ∀ n ∈ p, nodeB n = true) : ∀ (f r k : Nat), p.length ≤ f + k →
    endN p r k = match growT p f k with
      | none => none
      | some T => if T.depth ≤ r then some (T.en, T.depth) else none := by
  intro f
  induction f with
  | zero =>
    intro r k hf
    cases r with
    | zero => rfl
    | succ r => simp only [endN, growT]; rw [List.getElem?_eq_none (by omega)]
  | succ f ih =>
    intro r k hf
    cases r with
    | zero =>
      simp only [endN]
      cases hg : growT p (f + 1) k with
      | none => rfl
      | some T => have := depth_pos T; simp only; rw [if_neg (by omega)]
    | succ r =>
      simp only [endN, growT]
      cases hp : p[k]? with
      | none => rfl
      | some n =>
        have hn : nodeB n = true := hall n (List.mem_of_getElem? hp)
        simp only [hn, Bool.true_eq_false, if_false]
        rw [ih r (k + 1) (by omega)]
        by_cases h1 : arity n.kind = 1
        · simp only [h1, if_true]
          cases hc : growT p f (k + 1) with
          | none => rfl
          | some c =>
            have e : (Tr.t1 n k c.en c).depth = c.depth + 1 := rfl
            by_cases hd : c.depth ≤ r
            · simp only [if_pos hd]; rw [if_pos (by rw [e]; omega)]; rfl
            · simp only [if_neg hd]; rw [if_neg (by rw [e]; omega)]
        · simp only [if_neg h1]
          by_cases h2 : arity n.kind = 2
          · simp only [h2, if_true]
            cases hc : growT p f (k + 1) with
            | none => rfl
            | some c =>
              have hs := growT_sound p _ _ _ hc
              simp only
              by_cases hd : c.depth ≤ r
              · rw [if_pos hd]
                simp only
                rw [ih r c.en (by omega)]
                cases he : growT p f c.en with
                | none => rfl
                | some d =>
                  have e : (Tr.t2 n k d.en c d).depth = max c.depth d.depth + 1 := rfl
                  by_cases hd' : d.depth ≤ r
                  · have e3 : (Tr.t2 n k d.en c d).depth ≤ r + 1 := by rw [e]; omega
                    simp only [if_pos hd', if_pos e3]
                    have e2 : (if c.depth < d.depth then d.depth else c.depth) + 1 = (Tr.t2 n k d.en c d).depth := by rw [e]; split <;> omega
                    rw [e2]; rfl
                  · simp only [if_neg hd']; rw [if_neg (by rw [e]; omega)]
              · rw [if_neg hd]
                simp only
                cases he : growT p f c.en with
                | none => rfl
                | some d =>
                  have e : (Tr.t2 n k d.en c d).depth = max c.depth d.depth + 1 := rfl
                  simp only; rw [if_neg (by rw [e]; omega)]
          · simp only [if_neg h2]
            have e : (Tr.t0 n k (k + 1)).depth = 1 := rfl
            rw [if_pos (by rw [e]; omega)]; rfl

/-- Whether a list of nodes is a plan. -/
def treeN (p : List Nd) : Option Tr :=
  if p.length ≤ 40 then
    match growT p p.length 0 with
    | none => none
    | some T => if T.en = p.length ∧ T.depth ≤ 10 then some T else none
  else none
def planB (p : List Nd) : Bool := (treeN p).isSome

theorem treeN_some {p : List Nd} {T : Tr} (h : treeN p = some T) : p.length ≤ 40 ∧ growT p p.length 0 = some T ∧ T.en = p.length ∧ T.depth ≤ 10 := by
  unfold treeN at h
  split at h
  · rename_i h40
    cases hg : growT p p.length 0 with
    | none => rw [hg] at h; cases h
    | some S =>
      rw [hg] at h; simp only at h
      split at h
      · rename_i hc; cases h; exact ⟨h40, rfl, hc.1, hc.2⟩
      · cases h
  · cases h
theorem treeN_all {p : List Nd} {T : Tr} (h : treeN p = some T) : ∀ n ∈ p, nodeB n = true := by
  obtain ⟨_, hg, he, _⟩ := treeN_some h
  have hs := growT_sound p _ _ _ hg
  intro n hn
  obtain ⟨i, hi, rfl⟩ := List.mem_iff_getElem.1 hn
  exact hs.2.2.2.2 i _ (Nat.zero_le _) (by omega) (List.getElem?_eq_getElem hi)
theorem treeN_pos {p : List Nd} {T : Tr} (h : treeN p = some T) : 1 ≤ p.length := by
  obtain ⟨_, hg, he, _⟩ := treeN_some h
  have hs := growT_sound p _ _ _ hg
  omega

/-- What the model asks of a plan. -/
theorem planB_spec (p : List Nd) (h2 : p.length ≤ 40) (hall : ∀ n ∈ p, nodeB n = true) :
    planB p = decide ((endN p 10 0).map (·.1) = some p.length) := by
  unfold planB treeN
  rw [if_pos h2, endN_grow p hall p.length 10 0 (by omega)]
  cases hg : growT p p.length 0 with
  | none => simp
  | some T =>
    by_cases hd : T.depth ≤ 10 <;> by_cases he : T.en = p.length <;> simp [hd, he]
theorem planB_len {p : List Nd} (h : p.length < 1 ∨ 40 < p.length) : planB p = false := by
  cases ht : treeN p with
  | none => simp [planB, ht]
  | some T => have := treeN_pos ht; have := treeN_some ht; omega
theorem planB_node {p : List Nd} {n : Nd} (hn : n ∈ p) (h : nodeB n = false) : planB p = false := by
  cases ht : treeN p with
  | none => simp [planB, ht]
  | some T => have := treeN_all ht n hn; rw [h] at this; cases this

theorem growT_more (p : List Nd) : ∀ (f k : Nat) (T : Tr), growT p f k = some T → growT p (f + 1) k = some T := by
  intro f
  induction f with
  | zero => intro k T h; cases h
  | succ f ih =>
    intro k T h
    rw [growT] at h ⊢
    cases hp : p[k]? with
    | none => rw [hp] at h; cases h
    | some n =>
      rw [hp] at h
      simp only at h ⊢
      split at h
      · cases h
      · rename_i hn
        rw [if_neg hn]
        split at h
        · rename_i h1
          rw [if_pos h1]
          cases hc : growT p f (k + 1) with
          | none => rw [hc] at h; cases h
          | some c => rw [hc] at h; rw [ih _ _ hc]; exact h
        · rename_i h1
          rw [if_neg h1]
          split at h
          · rename_i h2
            rw [if_pos h2]
            cases hc : growT p f (k + 1) with
            | none => rw [hc] at h; cases h
            | some c =>
              rw [hc] at h; rw [ih _ _ hc]
              simp only at h ⊢
              cases hd : growT p f c.en with
              | none => rw [hd] at h; cases h
              | some d => rw [hd] at h; rw [ih _ _ hd]; exact h
          · rename_i h2
            rw [if_neg h2]; exact h

/-- What is found at a place of a tree is the tree that begins there. -/
theorem find_grow (p : List Nd) : ∀ (f j k : Nat) (T : Tr), growT p f j = some T → j ≤ k → k < T.en →
    ∃ S, T.find k = some S ∧ growT p f k = some S ∧ S.depth ≤ T.depth ∧ S.en ≤ T.en := by
  intro f
  induction f with
  | zero => intro j k T h; cases h
  | succ f ih =>
    intro j k T h hj hk
    have hs0 := growT_sound p _ _ _ h
    have hfull := h
    simp only [growT] at h
    cases hp : p[j]? with
    | none => rw [hp] at h; cases h
    | some n =>
      rw [hp] at h
      simp only at h
      have hjl : j < p.length := by
        rcases Nat.lt_or_ge j p.length with h1 | h1
        · exact h1
        · rw [List.getElem?_eq_none h1] at hp; cases hp
      cases hn : nodeB n with
      | false => rw [hn, if_pos rfl] at h; cases h
      | true =>
        rw [hn] at h
        simp only [Bool.true_eq_false, if_false] at h
        split at h
        · cases hc : growT p f (j + 1) with
          | none => rw [hc] at h; cases h
          | some c =>
            rw [hc] at h; simp only [Option.some.injEq] at h; subst h
            have hs := growT_sound p _ _ _ hc
            simp only [Tr.en1] at hk
            by_cases he : k = j
            · subst he
              refine ⟨_, ?_, hfull, Nat.le_refl _, Nat.le_refl _⟩
              have hno : c.find k = none := by
                cases c <;> simp [Tr.find, Tr.pl] at hs ⊢ <;> omega
              simp only [Tr.find]
              rw [if_neg (by omega), hno]
            · obtain ⟨S, hS, hg, hd, hen⟩ := ih (j + 1) k c hc (by omega) hk
              refine ⟨S, ?_, ?_, by simp only [Tr.depth]; omega, hen⟩
              · simp only [Tr.find]
                rw [if_neg (by omega), hS]
              · have hS1 := growT_sound p _ _ _ hg
                exact growT_more p _ _ _ hg
        · split at h
          · cases hc : growT p f (j + 1) with
            | none => rw [hc] at h; cases h
            | some c =>
              rw [hc] at h; simp only at h
              cases hd : growT p f c.en with
              | none => rw [hd] at h; cases h
              | some d =>
                rw [hd] at h; simp only [Option.some.injEq] at h; subst h
                have hs := growT_sound p _ _ _ hc
                have hs' := growT_sound p _ _ _ hd
                simp only [Tr.en2] at hk
                by_cases he : k = j
                · subst he
                  refine ⟨_, ?_, hfull, Nat.le_refl _, Nat.le_refl _⟩
                  have hno : c.find k = none := by
                    cases c <;> simp [Tr.find, Tr.pl] at hs ⊢ <;> omega
                  have hno' : d.find k = none := by
                    cases d <;> simp [Tr.find, Tr.pl] at hs' ⊢ <;> omega
                  simp only [Tr.find]
                  rw [if_neg (by omega), hno]
                  simp only
                  rw [hno']
                · by_cases hkc : k < c.en
                  · obtain ⟨S, hS, hg, hdd, hen⟩ := ih (j + 1) k c hc (by omega) hkc
                    refine ⟨S, ?_, growT_more p _ _ _ hg, by simp only [Tr.depth]; omega, by simp only [Tr.en2]; omega⟩
                    simp only [Tr.find]
                    rw [if_neg (by omega), hS]
                  · obtain ⟨S, hS, hg, hdd, hen⟩ := ih c.en k d hd (by omega) hk
                    refine ⟨S, ?_, growT_more p _ _ _ hg, by simp only [Tr.depth]; omega, by simp only [Tr.en2]; omega⟩
                    have hno : c.find k = none := by
                      cases c <;> simp [Tr.find, Tr.en] at hkc ⊢ <;> omega
                    simp only [Tr.find]
                    rw [if_neg (by omega), hno]
                    simp only
                    rw [hS]
          · simp only [Option.some.injEq] at h; subst h
            simp only [Tr.en0] at hk
            obtain rfl : k = j := by omega
            refine ⟨_, ?_, hfull, Nat.le_refl _, Nat.le_refl _⟩
            simp only [Tr.find]
            rw [if_neg (by omega)]
end Go.Proofs.YtfpbhedophlnkaaGreatDoor
namespace Go.Proofs.YtfpbhedophlnkaaGreatDoor
open Go.RowKit
set_option linter.unusedSimpArgs false
set_option linter.unusedVariables false

/-- A number at the place that is reached; none where something was missing already. -/
def numR (l : List Int) (s : Option Int) : Int × Option Int :=
  match s with
  | none => (0, none)
  | some p => if (takeN l p).2 = -1 then (0, none) else ((takeN l p).1, some (takeN l p).2)
def wordR (l : List Int) (s : Option Int) : ByteArray × Option Int :=
  match s with
  | none => (⟨#[]⟩, none)
  | some p => if (takeW l p).2 = -1 then (⟨#[]⟩, none) else ((takeW l p).1, some (takeW l p).2)
def listR (l : List Int) (s : Option Int) : List Int × Option Int :=
  match s with
  | none => ([], none)
  | some p => if (takeNs l p).2 = -1 then ([], none) else ((takeNs l p).1, some (takeNs l p).2)
def flagR (l : List Int) (s : Option Int) : Bool × Option Int :=
  ((numR l s).1 == 1, if (numR l s).1 = 0 ∨ (numR l s).1 = 1 then (numR l s).2 else none)
/-- What stands behind a node's kind. -/
def fieldR (l : List Int) (k : Int) (s : Option Int) : Nd × Option Int :=
  if k = 0 then (⟨0, (wordR l s).1, 0, 0, 0, false, []⟩, (wordR l s).2)
  else if k = 1 then
    (⟨1, ⟨#[]⟩, (numR l s).1, (numR l (numR l s).2).1, (numR l (flagR l (numR l (numR l s).2).2).2).1, (flagR l (numR l (numR l s).2).2).1, []⟩, (numR l (flagR l (numR l (numR l s).2).2).2).2)
  else if k = 2 then (⟨2, ⟨#[]⟩, 0, 0, 0, false, (listR l s).1⟩, (listR l s).2)
  else if k = 3 then (⟨3, ⟨#[]⟩, (numR l s).1, 0, (numR l (numR l s).2).1, false, []⟩, (numR l (numR l s).2).2)
  else if k = 5 then (⟨5, ⟨#[]⟩, (numR l s).1, 0, 0, false, []⟩, (numR l s).2)
  else if k = 6 then (⟨6, ⟨#[]⟩, 0, 0, (numR l (flagR l s).2).1, (flagR l s).1, []⟩, (numR l (flagR l s).2).2)
  else (⟨k, ⟨#[]⟩, 0, 0, 0, false, []⟩, s)
/-- A node, whether it is one or not, and the place behind it; none where something is missing or it is none. -/
def nodeR (l : List Int) (s : Option Int) : Nd × Option Int :=
  ((fieldR l (numR l s).1 (numR l s).2).1, if nodeB (fieldR l (numR l s).1 (numR l s).2).1 then (fieldR l (numR l s).1 (numR l s).2).2 else none)
def zeroNd : Nd := ⟨0, ⟨#[]⟩, 0, 0, 0, false, []⟩
def takeNd (l : List Int) (p : Int) : Nd × Int :=
  match (nodeR l (some p)).2 with
  | none => (zeroNd, -1)
  | some q => ((nodeR l (some p)).1, q)

theorem numR_none (l : List Int) : numR l none = (0, none) := rfl
theorem wordR_none (l : List Int) : wordR l none = (⟨#[]⟩, none) := rfl
theorem listR_none (l : List Int) : listR l none = ([], none) := rfl
theorem flagR_none (l : List Int) : flagR l none = (false, none) := rfl
theorem fieldR_none (l : List Int) (k : Int) : (fieldR l k none).2 = none := by
  unfold fieldR
  repeat' split
  all_goals first | rfl | simp [numR_none, flagR_none]

theorem takeW_pl {l : List Int} (hl : By l) (p : Int) : (takeW l p).2 = -1 ∨ (0 ≤ (takeW l p).2 ∧ (takeW l p).2 ≤ l.length) := by
  unfold takeW
  have := takeN_bd hl p
  repeat' split
  all_goals first | (left; rfl) | (right; simp only; omega) | (simp only; omega)
theorem takeW_12 (l : List Int) (p : Int) : (takeW l p).1.size ≤ 12 := by
  unfold takeW
  repeat' split
  · exact Nat.zero_le _
  · rw [strOf_size]; simp; omega
  · exact Nat.zero_le _
/-- A place of the bytes. -/
def Pl (l : List Int) (s : Option Int) : Prop := ∀ p, s = some p → 0 ≤ p ∧ p ≤ l.length
theorem Pl.none_ {l : List Int} : Pl l none := by intro p h; cases h
theorem numR_pl {l : List Int} (hl : By l) (s : Option Int) : Pl l (numR l s).2 := by
  unfold numR
  split
  · exact Pl.none_
  · split
    · exact Pl.none_
    · rename_i p h
      intro q hq
      injection hq with hq
      have := takeN_bd hl p
      omega
theorem numR_bd {l : List Int} (hl : By l) (s : Option Int) : -1000000 ≤ (numR l s).1 ∧ (numR l s).1 ≤ 1000000 := by
  unfold numR
  split
  · exact ⟨by decide, by decide⟩
  · split
    · exact ⟨by decide, by decide⟩
    · rename_i p h
      have := takeN_bd hl p
      omega
theorem flagR_pl {l : List Int} (hl : By l) (s : Option Int) : Pl l (flagR l s).2 := by
  unfold flagR
  simp only
  split
  · exact numR_pl hl s
  · exact Pl.none_
end Go.Proofs.YtfpbhedophlnkaaGreatDoor
namespace Go.Proofs.YtfpbhedophlnkaaGreatDoor
open Go.RowKit
set_option linter.unusedSimpArgs false
set_option linter.unusedVariables false

theorem takeNs_300 {l : List Int} (hl : By l) (p : Int) : (takeNs l p).1.length ≤ 300 := by
  unfold takeNs
  have bd := takeN_bd hl p
  split
  · simp
  · rename_i h
    rcases hk : rdN l (takeN l p).2 (takeN l p).1.toNat with _ | ⟨acc, q⟩
    · simp
    · have := (rdN_bd hl (by omega) (by omega) _ _ _ hk).1
      simp; omega
theorem listR_300 {l : List Int} (hl : By l) (s : Option Int) : (listR l s).1.length ≤ 300 := by
  unfold listR; repeat' split
  · simp
  · simp
  · exact takeNs_300 hl _
theorem wordR_12 (l : List Int) (s : Option Int) : (wordR l s).1.size ≤ 12 := by
  unfold wordR; repeat' split
  · exact Nat.zero_le _
  · exact Nat.zero_le _
  · exact takeW_12 _ _
theorem fieldR_cols {l : List Int} (hl : By l) (k : Int) (s : Option Int) : (fieldR l k s).1.cols.length ≤ 300 := by
  unfold fieldR; repeat' split
  all_goals first | exact listR_300 hl _ | simp
theorem fieldR_name (l : List Int) (k : Int) (s : Option Int) : (fieldR l k s).1.name.size ≤ 12 := by
  unfold fieldR; repeat' split
  all_goals first | exact wordR_12 l _ | exact Nat.zero_le _
theorem wordR_pl {l : List Int} (hl : By l) (s : Option Int) : Pl l (wordR l s).2 := by
  unfold wordR
  split
  · exact Pl.none_
  · split
    · exact Pl.none_
    · rename_i p h
      intro q hq
      injection hq with hq
      have := takeW_pl hl p
      omega
theorem takeNs_pl {l : List Int} (hl : By l) (p : Int) : (takeNs l p).2 = -1 ∨ (0 ≤ (takeNs l p).2 ∧ (takeNs l p).2 ≤ l.length) := by
  unfold takeNs
  have bd := takeN_bd hl p
  split
  · left; rfl
  · rename_i h
    rcases hk : rdN l (takeN l p).2 (takeN l p).1.toNat with _ | ⟨acc, q⟩
    · left; rfl
    · right
      have := (rdN_bd hl (by omega) (by omega) _ _ _ hk).2
      simpa using this
theorem listR_pl {l : List Int} (hl : By l) (s : Option Int) : Pl l (listR l s).2 := by
  unfold listR
  split
  · exact Pl.none_
  · split
    · exact Pl.none_
    · rename_i p h
      intro q hq
      injection hq with hq
      have := takeNs_pl hl p
      omega
theorem fieldR_pl {l : List Int} (hl : By l) (k : Int) {s : Option Int} (hs : Pl l s) : Pl l (fieldR l k s).2 := by
  unfold fieldR
  repeat' split
  all_goals first | exact wordR_pl hl _ | exact numR_pl hl _ | exact listR_pl hl _ | exact hs
theorem nodeR_pl {l : List Int} (hl : By l) (s : Option Int) : Pl l (nodeR l s).2 := by
  unfold nodeR
  split
  · exact fieldR_pl hl _ (numR_pl hl s)
  · exact Pl.none_
end Go.Proofs.YtfpbhedophlnkaaGreatDoor
