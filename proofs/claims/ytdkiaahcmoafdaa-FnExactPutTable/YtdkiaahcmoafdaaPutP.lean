/-
  A table put into its place, as the model puts it. Plain facts; no walk.
-/
import Derived.Test.YtdkiaahcmoafdaaTbP
namespace Go.Proofs.Ytdkiaahcmoafdaa
set_option linter.unusedSimpArgs false
set_option linter.unusedVariables false

/-- One round of the loop that puts it. -/
def putR (t : Tb) (S : List Tb × Bool) (s : Tb) : List Tb × Bool :=
  if S.2 = true then (if s.key = t.key then S else (S.1 ++ [s], true))
  else if s.key = t.key then (S.1 ++ [t], true)
  else if t.key < s.key then (S.1 ++ [t] ++ [s], true)
  else (S.1 ++ [s], false)
def putS (t : Tb) (l : List Tb) : List Tb × Bool := l.foldl (putR t) ([], false)
def putT (t : Tb) (l : List Tb) : List Tb := if (putS t l).2 = true then (putS t l).1 else (putS t l).1 ++ [t]
theorem putS_take {t : Tb} {l : List Tb} {j : Nat} {s : Tb} (h : l[j]? = some s) : putS t (l.take (j + 1)) = putR t (putS t (l.take j)) s := by
  unfold putS; rw [List.take_add_one, h, List.foldl_append]; rfl
theorem putR_len (t : Tb) (S : List Tb × Bool) (s : Tb) : (putR t S s).1.length + (if (putR t S s).2 = true then 0 else 1) ≤ S.1.length + (if S.2 = true then 0 else 1) + 1 := by
  unfold putR
  by_cases h1 : S.2 = true
  · rw [if_pos h1]
    split
    · simp [h1]
    · simp [h1]
  · rw [if_neg h1]
    split
    · simp [h1]
    · split
      · simp [h1]
      · simp [h1]
theorem putS_len (t : Tb) (l : List Tb) : ∀ j, j ≤ l.length → (putS t (l.take j)).1.length + (if (putS t (l.take j)).2 = true then 0 else 1) ≤ j + 1
  | 0, _ => by simp [putS]
  | j + 1, hj => by
    have ih := putS_len t l j (by omega)
    rw [putS_take (List.getElem?_eq_getElem (show j < l.length by omega))]
    have := putR_len t (putS t (l.take j)) (l[j]'(by omega))
    omega
theorem putT_len (t : Tb) (l : List Tb) : (putT t l).length ≤ l.length + 1 := by
  have := putS_len t l l.length (Nat.le_refl _)
  rw [List.take_length] at this
  unfold putT
  split
  · rename_i h; rw [if_pos h] at this; omega
  · rename_i h; rw [if_neg h] at this; simp; omega

/-- What the rounds keep to, where the list ascends. -/
def PutInv (t : Tb) (l : List Tb) (j : Nat) (S : List Tb × Bool) : Prop :=
  AscT S.1 ∧ (∀ x, x ∈ S.1 ↔ (S.2 = true ∧ x = t) ∨ (x ∈ l.take j ∧ x.key ≠ t.key)) ∧ (S.2 = false → ∀ x ∈ l.take j, x.key < t.key) ∧ (S.2 = true → ∃ x ∈ l.take j, ¬ x.key < t.key)
theorem asc_snoc {l : List Tb} {t : Tb} (h : AscT l) (ht : ∀ x ∈ l, x.key < t.key) : AscT (l ++ [t]) :=
  List.pairwise_append.2 ⟨h, by simp, fun a ha b hb => by rw [List.mem_singleton.1 hb]; exact ht a ha⟩
theorem mem_take_succ {l : List Tb} {j : Nat} {s : Tb} (h : l[j]? = some s) (x : Tb) : x ∈ l.take (j + 1) ↔ x ∈ l.take j ∨ x = s := by
  rw [List.take_add_one, h]; simp
theorem putInv (t : Tb) (l : List Tb) (ha : AscT l) : ∀ j, j ≤ l.length → PutInv t l j (putS t (l.take j))
  | 0, _ => by
    refine ⟨List.Pairwise.nil, fun x => ?_, fun _ x hx => by simp at hx, fun h => by simp [putS] at h⟩
    simp [putS]
  | j + 1, hj => by
    have hjl : j < l.length := by omega
    obtain ⟨i1, i2, i3, i4⟩ := putInv t l ha j (by omega)
    have hs : l[j]? = some l[j] := List.getElem?_eq_getElem hjl
    rw [putS_take hs]
    generalize putS t (l.take j) = S at i1 i2 i3 i4
    have hlt : ∀ x ∈ l.take j, x.key < (l[j]).key := by
      intro x hx
      obtain ⟨i, hi, rfl⟩ := List.mem_iff_getElem.1 hx
      have hi' : i < j := by simp at hi; omega
      rw [List.getElem_take]
      exact List.pairwise_iff_getElem.1 ha i j (by omega) hjl hi'
    have hm := mem_take_succ hs
    generalize l[j] = s at hs hlt hm
    obtain ⟨O, P⟩ := S
    cases P with
    | true =>
      obtain ⟨x0, hx0, hn0⟩ := i4 rfl
      have hts : t.key < s.key := by
        rcases Std.lt_trichotomy (a := t.key) (b := x0.key) with h | h | h
        · exact List.lt_trans h (hlt x0 hx0)
        · rw [h]; exact hlt x0 hx0
        · exact absurd h hn0
      have hne : s.key ≠ t.key := by intro e; rw [e] at hts; exact klt_irrefl _ hts
      have e : putR t (O, true) s = (O ++ [s], true) := by unfold putR; simp [hne]
      rw [e]
      refine ⟨asc_snoc i1 fun x hx => ?_, fun x => ?_, fun h => (by cases h), fun _ => ⟨x0, (hm x0).2 (.inl hx0), hn0⟩⟩
      · rcases (i2 x).1 hx with ⟨_, rfl⟩ | ⟨h1, _⟩
        · exact hts
        · exact hlt x h1
      · rw [List.mem_append, List.mem_singleton, i2 x, hm x]
        constructor
        · rintro ((h | ⟨h1, h2⟩) | rfl)
          · exact .inl h
          · exact .inr ⟨.inl h1, h2⟩
          · exact .inr ⟨.inr rfl, hne⟩
        · rintro (h | ⟨h1 | rfl, h2⟩)
          · exact .inl (.inl h)
          · exact .inl (.inr ⟨h1, h2⟩)
          · exact .inr rfl
    | false =>
      have i3 := i3 rfl
      have hO : ∀ x, x ∈ O ↔ x ∈ l.take j := by
        intro x
        rw [i2 x]
        constructor
        · rintro (⟨h, _⟩ | ⟨h, _⟩)
          · cases h
          · exact h
        · intro h
          refine .inr ⟨h, fun e => ?_⟩
          have := i3 x h
          rw [e] at this; exact klt_irrefl _ this
      by_cases he : s.key = t.key
      · have e : putR t (O, false) s = (O ++ [t], true) := by unfold putR; simp [he]
        rw [e]
        refine ⟨asc_snoc i1 fun x hx => i3 x ((hO x).1 hx), fun x => ?_, fun h => (by cases h), fun _ => ⟨s, (hm s).2 (.inr rfl), by rw [he]; exact klt_irrefl _⟩⟩
        rw [List.mem_append, List.mem_singleton, hO x, hm x]
        constructor
        · rintro (h | rfl)
          · exact .inr ⟨.inl h, fun e => by have := i3 x h; rw [e] at this; exact klt_irrefl _ this⟩
          · exact .inl ⟨rfl, rfl⟩
        · rintro (⟨_, rfl⟩ | ⟨h1 | rfl, h2⟩)
          · exact .inr rfl
          · exact .inl h1
          · exact absurd he h2
      · by_cases hl : t.key < s.key
        · have e : putR t (O, false) s = (O ++ [t] ++ [s], true) := by unfold putR; simp [he, hl]
          rw [e]
          refine ⟨asc_snoc (asc_snoc i1 fun x hx => i3 x ((hO x).1 hx)) fun x hx => ?_, fun x => ?_, fun h => (by cases h), fun _ => ⟨s, (hm s).2 (.inr rfl), fun h => klt_irrefl _ (List.lt_trans h hl)⟩⟩
          · rcases List.mem_append.1 hx with h | h
            · exact hlt x ((hO x).1 h)
            · rw [List.mem_singleton.1 h]; exact hl
          · rw [List.mem_append, List.mem_append, List.mem_singleton, List.mem_singleton, hO x, hm x]
            constructor
            · rintro ((h | rfl) | rfl)
              · exact .inr ⟨.inl h, fun e => by have := i3 x h; rw [e] at this; exact klt_irrefl _ this⟩
              · exact .inl ⟨rfl, rfl⟩
              · exact .inr ⟨.inr rfl, he⟩
            · rintro (⟨_, rfl⟩ | ⟨h1 | rfl, h2⟩)
              · exact .inl (.inr rfl)
              · exact .inl (.inl h1)
              · exact .inr rfl
        · have hst : s.key < t.key := by
            rcases Std.lt_trichotomy (a := s.key) (b := t.key) with h | h | h
            · exact h
            · exact absurd h he
            · exact absurd h hl
          have e : putR t (O, false) s = (O ++ [s], false) := by unfold putR; simp [he, hl]
          rw [e]
          refine ⟨asc_snoc i1 fun x hx => hlt x ((hO x).1 hx), fun x => ?_, fun _ x hx => ?_, fun h => (by cases h)⟩
          · rw [List.mem_append, List.mem_singleton, hO x, hm x]
            constructor
            · rintro (h | rfl)
              · exact .inr ⟨.inl h, fun e => by have := i3 x h; rw [e] at this; exact klt_irrefl _ this⟩
              · exact .inr ⟨.inr rfl, he⟩
            · rintro (⟨h, _⟩ | ⟨h1 | rfl, h2⟩)
              · cases h
              · exact .inl h1
              · exact .inr rfl
          · rcases (hm x).1 hx with h | rfl
            · exact i3 x h
            · exact hst
/-- A table put into a list that ascends: what its map tells. -/
theorem putT_told (t : Tb) (l : List Tb) (ha : AscT l) : Told (upd (fnOf l) t.key t.width) (putT t l) := by
  obtain ⟨i1, i2, i3, i4⟩ := putInv t l ha l.length (Nat.le_refl _)
  rw [List.take_length] at i1 i2 i3 i4
  have key : AscT (putT t l) ∧ ∀ x, x ∈ putT t l ↔ x = t ∨ (x ∈ l ∧ x.key ≠ t.key) := by
    unfold putT
    cases hp : (putS t l).2 with
    | true =>
      rw [if_pos rfl]
      refine ⟨i1, fun x => ?_⟩
      rw [i2 x, hp]; simp
    | false =>
      rw [if_neg (by simp)]
      refine ⟨asc_snoc i1 fun x hx => ?_, fun x => ?_⟩
      · rcases (i2 x).1 hx with ⟨h, _⟩ | ⟨h, _⟩
        · rw [hp] at h; cases h
        · exact i3 hp x h
      · rw [List.mem_append, List.mem_singleton, i2 x, hp]
        constructor
        · rintro ((⟨h, _⟩ | h) | h)
          · cases h
          · exact .inr h
          · exact .inl h
        · rintro (h | h)
          · exact .inr h
          · exact .inl (.inr h)
  refine ⟨key.1, fun k v => ?_⟩
  have hs := (told_self l ha).2 k v
  unfold upd
  by_cases e : k = t.key
  · rw [if_pos e]
    constructor
    · intro h; injection h with h; exact ⟨t, (key.2 t).2 (.inl rfl), e.symm, h⟩
    · rintro ⟨x, hx, h1, h2⟩
      rcases (key.2 x).1 hx with rfl | ⟨_, h3⟩
      · rw [h2]
      · exact absurd (h1.trans e) h3
  · rw [if_neg e, hs]
    constructor
    · rintro ⟨x, hx, h1, h2⟩; exact ⟨x, (key.2 x).2 (.inr ⟨hx, fun h => e (h1.symm.trans h)⟩), h1, h2⟩
    · rintro ⟨x, hx, h1, h2⟩
      rcases (key.2 x).1 hx with rfl | ⟨h3, _⟩
      · exact absurd h1.symm e
      · exact ⟨x, h3, h1, h2⟩

/-- What PutTable answers. -/
def putB (t : Tb) (l : List Tb) : Bool := schemaB l && schemaB (putT t l)
def putO (t : Tb) (l : List Tb) : List Tb := if putB t l = true then putT t l else l
end Go.Proofs.Ytdkiaahcmoafdaa
