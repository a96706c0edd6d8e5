/-
  Reading a plan's words, as plain functions: what is read and the place behind it, or the place of the first word that cannot stand there. No program, no walk.
-/
import Derived.Test.YtfpbhedophlnkaaGreatDoorWordsP
import Derived.Test.YtfpbhedophlnkaaGreatDoorKX
namespace Go.Proofs.YtfpbhedophlnkaaGreatDoor
open Go.RowKit
set_option linter.unusedSimpArgs false
set_option linter.unusedVariables false

open Classical in
/-- The number that a text is, if it is one. -/
noncomputable def readN (s : ByteArray) : Option Int := if h : ∃ y : Int, (-1000000 ≤ y ∧ y ≤ 1000000) ∧ s = numT y then some (Classical.choose h) else none
theorem readN_yes {s : ByteArray} {x : Int} (inj : ∀ a b : Int, numT a = numT b → a = b) (h : s = numT x) (h0 : -1000000 ≤ x) (h1 : x ≤ 1000000) : readN s = some x := by
  have hex : ∃ y : Int, (-1000000 ≤ y ∧ y ≤ 1000000) ∧ s = numT y := ⟨x, ⟨h0, h1⟩, h⟩
  unfold readN
  rw [dif_pos hex]
  have hs := Classical.choose_spec hex
  exact congrArg some (inj _ _ (hs.2.symm.trans h))
theorem readN_no {s : ByteArray} (h : ∀ y : Int, -1000000 ≤ y → y ≤ 1000000 → s ≠ numT y) : readN s = none := by
  unfold readN
  rw [dif_neg]
  rintro ⟨y, ⟨h0, h1⟩, hy⟩
  exact h y h0 h1 hy
theorem readN_bd {s : ByteArray} {x : Int} (h : readN s = some x) : -1000000 ≤ x ∧ x ≤ 1000000 ∧ s = numT x := by
  unfold readN at h
  split at h
  · rename_i hex
    have hs := Classical.choose_spec hex
    injection h with h
    rw [← h]; exact ⟨hs.1.1, hs.1.2, hs.2⟩
  · cases h
/-- A word without its mark, where one may stand; and whether it had one. -/
def cutM (slot : Bool) (s : ByteArray) : ByteArray × Bool := if slot = true ∧ s.data.toList.head? = some 36 then (s.extract 1 s.size, true) else (s, false)
noncomputable def litQ (slot : Bool) (s : ByteArray) : Option (Int × Bool) :=
  match readN (cutM slot s).1 with
  | none => none
  | some x => if (cutM slot s).2 = true ∧ x < 0 then none else some (x, (cutM slot s).2)
noncomputable def intQ (slot : Bool) (ws : List ByteArray) (p : Nat) : Option (Int × Bool) :=
  match ws[p]? with
  | none => none
  | some s => litQ slot s
def findB : List ByteArray → ByteArray → Int
  | [], _ => -1
  | x :: r, s => if x = s then 0 else if findB r s = -1 then -1 else findB r s + 1
def verbsB : List ByteArray := [⟨#[115, 99, 97, 110]⟩, ⟨#[102, 105, 108, 116, 101, 114]⟩, ⟨#[107, 101, 101, 112]⟩, ⟨#[106, 111, 105, 110]⟩, ⟨#[98, 111, 116, 104]⟩, ⟨#[115, 111, 114, 116]⟩, ⟨#[108, 105, 109, 105, 116]⟩, ⟨#[111, 110, 99, 101]⟩]
def opsB : List ByteArray := [⟨#[61]⟩, ⟨#[60]⟩, ⟨#[62]⟩, ⟨#[110, 111, 110, 101]⟩]
/-- So many numbers, one behind the other. -/
noncomputable def colsQ (ws : List ByteArray) (p : Nat) : Nat → Nat ⊕ List Int
  | 0 => .inr []
  | k + 1 => match colsQ ws p k with
    | .inl q => .inl q
    | .inr l => match intQ false ws (p + k) with
      | none => .inl (p + k)
      | some x => .inr (l ++ [x.1])
def emptyB : ByteArray := ⟨#[]⟩
/-- What stands behind a node's first word. -/
noncomputable def restQ (ws : List ByteArray) (k : Int) (p : Nat) : Nat ⊕ (Nd × Nat) :=
  if k = 0 then match ws[p]? with
    | none => .inl p
    | some s => if wordB s.data.toList = true then .inr (⟨0, s, 0, 0, 0, false, []⟩, p + 1) else .inl p
  else if k = 1 then match intQ false ws p with
    | none => .inl p
    | some c => match ws[p + 1]? with
      | none => .inl (p + 1)
      | some o => if findB opsB o = -1 then .inl (p + 1)
        else if findB opsB o = 3 then .inr (⟨1, emptyB, c.1, 3, 0, false, []⟩, p + 2)
        else match intQ true ws (p + 2) with
          | none => .inl (p + 2)
          | some x => .inr (⟨1, emptyB, c.1, findB opsB o, x.1, x.2, []⟩, p + 3)
  else if k = 2 then match intQ false ws p with
    | none => .inl p
    | some m => if 1 ≤ m.1 ∧ m.1 ≤ 6 then match colsQ ws (p + 1) m.1.toNat with
        | .inl q => .inl q
        | .inr l => .inr (⟨2, emptyB, 0, 0, 0, false, l⟩, p + 1 + m.1.toNat)
      else .inl p
  else if k = 3 then match intQ false ws p with
    | none => .inl p
    | some c => match intQ false ws (p + 1) with
      | none => .inl (p + 1)
      | some d => .inr (⟨3, emptyB, c.1, 0, d.1, false, []⟩, p + 2)
  else if k = 5 then match intQ false ws p with
    | none => .inl p
    | some c => .inr (⟨5, emptyB, c.1, 0, 0, false, []⟩, p + 1)
  else if k = 6 then match intQ true ws p with
    | none => .inl p
    | some x => .inr (⟨6, emptyB, 0, 0, x.1, x.2, []⟩, p + 1)
  else .inr (⟨k, emptyB, 0, 0, 0, false, []⟩, p)
noncomputable def nodeQ (ws : List ByteArray) (p : Nat) : Nat ⊕ (Nd × Nat) :=
  match ws[p]? with
  | none => .inl p
  | some s => if findB verbsB s = -1 then .inl p else restQ ws (findB verbsB s) (p + 1)
def arI (k : Int) : Int := if k = 0 then 0 else if k = 3 ∨ k = 4 then 2 else 1
/-- Node behind node, as long as one is wanted. -/
noncomputable def goQ (ws : List ByteArray) : Nat → List Nd → Int → Nat → Nat ⊕ (List Nd × Nat)
  | 0, _, _, p => .inl p
  | f + 1, acc, need, p => if need ≤ 0 then .inr (acc, p) else match nodeQ ws p with
    | .inl q => .inl q
    | .inr x => goQ ws f (acc ++ [x.1]) (need + arI x.1.kind - 1) x.2
/-- ParsePlan's answer. -/
noncomputable def parseQ (ws : List ByteArray) : List Nd × Int :=
  match goQ ws (ws.length + 2) [] 1 0 with
  | .inl q => ([], q)
  | .inr x => if x.2 < ws.length then ([], x.2) else if planB x.1 = true then (x.1, -1) else ([], ws.length)
noncomputable def parseO (s : ByteArray) : List Nd × Int := if 2000 < s.size then ([], 0) else parseQ (wordsO s)

theorem findB_bd (l : List ByteArray) (s : ByteArray) : findB l s = -1 ∨ (0 ≤ findB l s ∧ findB l s < l.length) := by
  induction l with
  | nil => left; rfl
  | cons x r ih =>
    unfold findB
    split
    · right; simp only [List.length_cons]; omega
    · split
      · left; rfl
      · right; simp only [List.length_cons]; omega
theorem colsQ_len {ws : List ByteArray} {p : Nat} : ∀ {k : Nat} {l : List Int}, colsQ ws p k = .inr l → l.length = k ∧ p + k ≤ max p ws.length := by
  intro k
  induction k with
  | zero => intro l h; simp only [colsQ, Sum.inr.injEq] at h; subst h; exact ⟨rfl, by omega⟩
  | succ k ih =>
    intro l h
    simp only [colsQ] at h
    cases hk : colsQ ws p k with
    | inl q => rw [hk] at h; cases h
    | inr a =>
      rw [hk] at h
      simp only at h
      cases hi : intQ false ws (p + k) with
      | none => rw [hi] at h; cases h
      | some x =>
        rw [hi] at h
        simp only [Sum.inr.injEq] at h
        subst h
        have hlt : p + k < ws.length := by
          unfold intQ at hi
          cases hw : ws[p + k]? with
          | none => rw [hw] at hi; cases hi
          | some y => exact (List.getElem?_eq_some_iff.1 hw).1
        exact ⟨by simp [(ih hk).1], by omega⟩
theorem colsQ_stays {ws : List ByteArray} {p q : Nat} {k : Nat} (h : colsQ ws p k = .inl q) : ∀ m, k ≤ m → colsQ ws p m = .inl q := by
  intro m hm
  induction m with
  | zero => obtain rfl : k = 0 := by omega
            exact h
  | succ m ih =>
    rcases Nat.lt_or_ge k (m + 1) with h1 | h1
    · simp only [colsQ, ih (by omega)]
    · obtain rfl : k = m + 1 := by omega
      exact h
theorem colsQ_no {ws : List ByteArray} {p k : Nat} {l : List Int} (h : colsQ ws p k = .inr l) (hi : intQ false ws (p + k) = none) : colsQ ws p (k + 1) = .inl (p + k) := by
  simp only [colsQ, h, hi]
theorem colsQ_yes {ws : List ByteArray} {p k : Nat} {l : List Int} {x : Int × Bool} (h : colsQ ws p k = .inr l) (hi : intQ false ws (p + k) = some x) : colsQ ws p (k + 1) = .inr (l ++ [x.1]) := by
  simp only [colsQ, h, hi]
theorem intQ_lt {slot : Bool} {ws : List ByteArray} {p : Nat} {x : Int × Bool} (h : intQ slot ws p = some x) : p < ws.length := by
  unfold intQ at h
  cases hw : ws[p]? with
  | none => rw [hw] at h; cases h
  | some y => exact (List.getElem?_eq_some_iff.1 hw).1
/-- A node that is read takes at least its first word; its place is one of the words or behind them; it has at most six columns. -/
theorem restQ_bd {ws : List ByteArray} {k : Int} {p q : Nat} {n : Nd} (hp : p ≤ ws.length) (h : restQ ws k p = .inr (n, q)) : p ≤ q ∧ q ≤ ws.length ∧ n.cols.length ≤ 6 ∧ n.kind = k ∧ n.name.size ≤ 12 := by
  unfold restQ at h
  have h12 : ∀ s : ByteArray, wordB s.data.toList = true → s.size ≤ 12 := fun s hs => by
    have : s.data.toList.length = s.size := by rw [Array.length_toList]; rfl
    unfold wordB at hs
    simp at hs
    have := hs.1
    omega
  have he : emptyB.size ≤ 12 := by decide
  split at h
  · rename_i hk0
    split at h
    · cases h
    · rename_i s hs
      have hl := (List.getElem?_eq_some_iff.1 hs).1
      split at h
      · rename_i hw
        simp only [Sum.inr.injEq, Prod.mk.injEq] at h
        obtain ⟨rfl, rfl⟩ := h
        exact ⟨by omega, by omega, by simp, hk0.symm, h12 s hw⟩
      · cases h
  split at h
  · rename_i _ hk0
    split at h
    · cases h
    · split at h
      · cases h
      · rename_i hs
        have hl := (List.getElem?_eq_some_iff.1 hs).1
        split at h
        · cases h
        · split at h
          · simp only [Sum.inr.injEq, Prod.mk.injEq] at h
            obtain ⟨rfl, rfl⟩ := h
            exact ⟨by omega, by omega, by simp, hk0.symm, he⟩
          · split at h
            · cases h
            · rename_i hi
              have := intQ_lt hi
              simp only [Sum.inr.injEq, Prod.mk.injEq] at h
              obtain ⟨rfl, rfl⟩ := h
              exact ⟨by omega, by omega, by simp, hk0.symm, he⟩
  split at h
  · rename_i _ _ hk0
    split at h
    · cases h
    · rename_i hi
      have := intQ_lt hi
      split at h
      · split at h
        · cases h
        · rename_i hc
          have := colsQ_len hc
          simp only [Sum.inr.injEq, Prod.mk.injEq] at h
          obtain ⟨rfl, rfl⟩ := h
          exact ⟨by omega, by omega, by simp only; omega, hk0.symm, he⟩
      · cases h
  split at h
  · rename_i _ _ _ hk0
    split at h
    · cases h
    · split at h
      · cases h
      · rename_i hi
        have := intQ_lt hi
        simp only [Sum.inr.injEq, Prod.mk.injEq] at h
        obtain ⟨rfl, rfl⟩ := h
        exact ⟨by omega, by omega, by simp, hk0.symm, he⟩
  split at h
  · rename_i _ _ _ _ hk0
    split at h
    · cases h
    · rename_i hi
      have := intQ_lt hi
      simp only [Sum.inr.injEq, Prod.mk.injEq] at h
      obtain ⟨rfl, rfl⟩ := h
      exact ⟨by omega, by omega, by simp, hk0.symm, he⟩
  split at h
  · rename_i _ _ _ _ _ hk0
    split at h
    · cases h
    · rename_i hi
      have := intQ_lt hi
      simp only [Sum.inr.injEq, Prod.mk.injEq] at h
      obtain ⟨rfl, rfl⟩ := h
      exact ⟨by omega, by omega, by simp, hk0.symm, he⟩
  · simp only [Sum.inr.injEq, Prod.mk.injEq] at h
    obtain ⟨rfl, rfl⟩ := h
    exact ⟨Nat.le_refl _, hp, by simp, rfl, he⟩
theorem nodeQ_bd {ws : List ByteArray} {p q : Nat} {n : Nd} (h : nodeQ ws p = .inr (n, q)) : p < q ∧ q ≤ ws.length ∧ n.cols.length ≤ 6 ∧ (0 ≤ n.kind ∧ n.kind ≤ 7) ∧ n.name.size ≤ 12 := by
  unfold nodeQ at h
  cases hw : ws[p]? with
  | none => rw [hw] at h; cases h
  | some s =>
    have hl := (List.getElem?_eq_some_iff.1 hw).1
    rw [hw] at h
    simp only at h
    split at h
    · cases h
    · rename_i hf
      have hb := findB_bd verbsB s
      have h8 : (verbsB.length : Int) = 8 := rfl
      have := restQ_bd (by omega) h
      exact ⟨by omega, this.2.1, this.2.2.1, by omega, this.2.2.2.2⟩
end Go.Proofs.YtfpbhedophlnkaaGreatDoor
