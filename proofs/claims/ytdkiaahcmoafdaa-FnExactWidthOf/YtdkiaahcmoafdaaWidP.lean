/-
  The width of a tree under a map of names to widths. Plain facts; no walk.
-/
import Derived.Test.YtdkiaahcmoafdaaTbP
import Derived.Test.YtdkiaahcmoafdaaNodes
namespace Go.Proofs.Ytdkiaahcmoafdaa
set_option linter.unusedSimpArgs false
set_option linter.unusedVariables false

/-- What a node of one child gives over a child of width w. -/
def over1 (n : Nd) (w : Int) : Int :=
  if n.kind = 1 ∨ n.kind = 5 then (if w ≤ n.col then -1 else w)
  else if n.kind = 2 then (if n.cols.all (fun x => decide (x < w)) = true then (n.cols.length : Int) else -1)
  else w
/-- What a node of two children gives. -/
def over2 (n : Nd) (w v : Int) : Int :=
  if n.kind = 3 then (if w ≤ n.col ∨ v ≤ n.num ∨ 64 < w + v then -1 else w + v)
  else (if w = v then w else -1)
def widT (f : Fn) : Tr → Int
  | .t0 n _ _ => (f n.name.data.toList).getD (-1)
  | .t1 n _ _ c => if widT f c = -1 then -1 else over1 n (widT f c)
  | .t2 n _ _ c d => if widT f c = -1 then -1 else if widT f d = -1 then -1 else over2 n (widT f c) (widT f d)
/-- The widths of a schema's tables may be. -/
def FnOk (f : Fn) : Prop := ∀ k v, f k = some v → 1 ≤ v ∧ v ≤ 6
theorem fnOk_schema {l : List Tb} (h : schemaB l = true) : FnOk (fnOf l) := by
  obtain ⟨_, h2, h3⟩ := schemaB_iff.1 h
  intro k v hv
  obtain ⟨t, ht, _, rfl⟩ := ((told_self l h3).2 k v).1 hv
  have := h2 t ht
  unfold tableB at this
  rw [Bool.and_eq_true, decide_eq_true_eq] at this
  exact this.2
/-- All its nodes are nodes. -/
def Tr.nodes : Tr → Prop
  | t0 n _ _ => nodeB n = true ∧ n.kind = 0
  | t1 n _ _ c => (nodeB n = true ∧ arity n.kind = 1) ∧ c.nodes
  | t2 n _ _ c d => (nodeB n = true ∧ arity n.kind = 2) ∧ c.nodes ∧ d.nodes
theorem cols_of_nodeB {n : Nd} (h : nodeB n = true) (hk : n.kind = 2) : 1 ≤ n.cols.length ∧ n.cols.length ≤ 6 := by
  unfold nodeB at h
  rw [if_neg (by omega), if_neg (by omega), if_pos hk, Bool.and_eq_true, decide_eq_true_eq] at h
  exact ⟨h.1.2.2.2.2.2.1, h.1.2.2.2.2.2.2⟩
theorem over1_wide {n : Nd} {w : Int} (h : nodeB n = true) (h1 : 1 ≤ w) (h2 : w ≤ 64) : over1 n w = -1 ∨ (1 ≤ over1 n w ∧ over1 n w ≤ 64) := by
  unfold over1
  split
  · split
    · exact .inl rfl
    · exact .inr ⟨h1, h2⟩
  · split
    · rename_i hk
      have := cols_of_nodeB h hk
      split
      · right; omega
      · exact .inl rfl
    · exact .inr ⟨h1, h2⟩
theorem over2_wide {n : Nd} {w v : Int} (h1 : 1 ≤ w) (h2 : w ≤ 64) (h3 : 1 ≤ v) : over2 n w v = -1 ∨ (1 ≤ over2 n w v ∧ over2 n w v ≤ 64) := by
  unfold over2
  split
  · split
    · exact .inl rfl
    · right; omega
  · split
    · exact .inr ⟨h1, h2⟩
    · exact .inl rfl
theorem widT_wide {f : Fn} (hf : FnOk f) : ∀ T : Tr, T.nodes → widT f T = -1 ∨ (1 ≤ widT f T ∧ widT f T ≤ 64) := by
  intro T
  induction T with
  | t0 n pl en =>
    intro _
    unfold widT
    cases hv : f n.name.data.toList with
    | none => exact .inl rfl
    | some v => have := hf _ _ hv; right; simp only [Option.getD_some]; omega
  | t1 n pl en c ih =>
    intro h
    unfold widT
    split
    · exact .inl rfl
    · rename_i hc
      rcases ih h.2 with h1 | ⟨h1, h2⟩
      · exact absurd h1 hc
      · exact over1_wide h.1.1 h1 h2
  | t2 n pl en c d ihc ihd =>
    intro h
    unfold widT
    split
    · exact .inl rfl
    · rename_i hc
      split
      · exact .inl rfl
      · rename_i hd
        rcases ihc h.2.1 with h1 | ⟨h1, h2⟩
        · exact absurd h1 hc
        rcases ihd h.2.2 with h3 | ⟨h3, h4⟩
        · exact absurd h3 hd
        exact over2_wide h1 h2 h3
end Go.Proofs.Ytdkiaahcmoafdaa
