/-
  Plain facts on merging two sorted neighbours by turning the middle, and on sorted blocks. No program, no walk.
-/
import Derived.Test.YtfbgflmolkgopaaSwP
namespace Go.Proofs.Ytfbgflmolkgopaa
open Go.Sort
set_option linter.unusedSimpArgs false
set_option linter.unusedVariables false

section
variable {α : Type} {lt : α → α → Bool}
theorem Asc.at_ {l : List α} (h : Asc lt l) {i j : Nat} {x y : α} (hi : l[i]? = some x) (hj : l[j]? = some y) (hw : Wk lt) (hij : i ≤ j) : lt y x = false := by
  rcases Nat.lt_or_eq_of_le hij with h1 | h1
  · obtain ⟨h2, e2⟩ := List.getElem?_eq_some_iff.1 hj
    obtain ⟨h3, e3⟩ := List.getElem?_eq_some_iff.1 hi
    have := (List.pairwise_iff_getElem.1 h) i j h3 h2 h1
    rw [e2, e3] at this; exact this
  · subst h1; rw [hi] at hj; cases hj; exact hw.irr x
theorem mem_take_at {l : List α} {k : Nat} {x : α} (h : x ∈ l.take k) : ∃ i, i < k ∧ l[i]? = some x := by
  obtain ⟨i, hi⟩ := List.mem_iff_getElem?.1 h
  rw [List.getElem?_take] at hi
  split at hi
  · exact ⟨i, by assumption, hi⟩
  · cases hi
theorem mem_drop_at {l : List α} {k : Nat} {x : α} (h : x ∈ l.drop k) : ∃ i, k ≤ i ∧ l[i]? = some x := by
  obtain ⟨i, hi⟩ := List.mem_iff_getElem?.1 h
  rw [List.getElem?_drop] at hi
  exact ⟨k + i, by omega, hi⟩
/-- All up to a place are below what the place is below. -/
theorem lt_take (hw : Wk lt) {V : List α} (hV : Asc lt V) {k : Nat} {v u : α} (hk : V[k]? = some v) (h : lt v u = true) : ∀ y ∈ V.take (k + 1), lt y u = true := by
  intro y hy
  obtain ⟨i, hi, e⟩ := mem_take_at hy
  have h1 := hV.at_ e hk hw (by omega)
  cases hx : lt y u with
  | true => rfl
  | false => have := hw.trans u y v hx h1; rw [h] at this; cases this
theorem lt_drop (hw : Wk lt) {U : List α} (hU : Asc lt U) {k : Nat} {v u : α} (hk : U[k]? = some u) (h : lt v u = true) : ∀ x ∈ U.drop k, lt v x = true := by
  intro x hx
  obtain ⟨i, hi, e⟩ := mem_drop_at hx
  have h1 := hU.at_ hk e hw hi
  cases hx : lt v x with
  | true => rfl
  | false => have := hw.trans u x v h1 hx; rw [h] at this; cases this
theorem ge_take (hw : Wk lt) {U : List α} (hU : Asc lt U) {k : Nat} {v u : α} (hk : U[k]? = some u) (h : lt v u = false) : ∀ x ∈ U.take (k + 1), lt v x = false := by
  intro x hx
  obtain ⟨i, hi, e⟩ := mem_take_at hx
  exact hw.trans x u v (hU.at_ e hk hw (by omega)) h
theorem ge_drop (hw : Wk lt) {V : List α} (hV : Asc lt V) {k : Nat} {v u : α} (hk : V[k]? = some v) (h : lt v u = false) : ∀ y ∈ V.drop k, lt y u = false := by
  intro y hy
  obtain ⟨i, hi, e⟩ := mem_drop_at hy
  exact hw.trans u v y h (hV.at_ hk e hw hi)

/-- One ahead of a sorted row is put in its place. -/
theorem st_one_left (hw : Wk lt) (u : α) {V1 V2 : List α} (hV : Asc lt (V1 ++ V2)) (h1 : ∀ y ∈ V1, lt y u = true) (h2 : ∀ y ∈ V2, lt y u = false) : St lt (V1 ++ u :: V2) ([u] ++ (V1 ++ V2)) := by
  refine ⟨?_, ?_, ?_⟩
  · refine Asc.app hV.left (List.pairwise_cons.2 ⟨fun y hy => h2 y hy, hV.right⟩) fun x hx y hy => ?_
    rcases List.mem_cons.1 hy with rfl | hy
    · exact hw.asym _ _ (h1 x hx)
    · exact hV.cross hx hy
  · have := (SE.swap (lt := lt) hw (X := [u]) (Y := V1) fun x hx y hy => by simp at hx; subst hx; exact h1 y hy).symm.app (SE.refl (lt := lt) V2)
    simpa using this
  · exact List.perm_middle
/-- One behind a sorted row is put in its place. -/
theorem st_one_right (hw : Wk lt) (v : α) {U1 U2 : List α} (hU : Asc lt (U1 ++ U2)) (h1 : ∀ x ∈ U1, lt v x = false) (h2 : ∀ x ∈ U2, lt v x = true) : St lt (U1 ++ v :: U2) (U1 ++ U2 ++ [v]) := by
  refine ⟨?_, ?_, ?_⟩
  · refine Asc.app hU.left (List.pairwise_cons.2 ⟨fun y hy => hw.asym _ _ (h2 y hy), hU.right⟩) fun x hx y hy => ?_
    rcases List.mem_cons.1 hy with rfl | hy
    · exact h1 x hx
    · exact hU.cross hx hy
  · have := (SE.ins (lt := lt) hw (U := U1) (V := U2) (x := v) h2).symm
    simpa using this
  · rw [List.append_assoc]
    refine List.Perm.append_left U1 ?_
    exact (List.perm_append_comm (l₁ := [v]) (l₂ := U2))
theorem St.refl {L : List α} (h : Asc lt L) : St lt L L := ⟨h, SE.refl L, List.Perm.refl L⟩
/-- The two halves of a merge. -/
theorem st_merge (hw : Wk lt) {X1 X2 Y1 Y2 Z1 Z2 : List α} (hX : Asc lt (X1 ++ X2)) (hY : Asc lt (Y1 ++ Y2)) (h1 : ∀ x ∈ X2, ∀ y ∈ Y1, lt y x = true) (h2 : ∀ x ∈ X1, ∀ y ∈ Y2, lt y x = false)
    (a1 : St lt Z1 (X1 ++ Y1)) (a2 : St lt Z2 (X2 ++ Y2)) : St lt (Z1 ++ Z2) (X1 ++ X2 ++ (Y1 ++ Y2)) := by
  have := merge_parts hw hX hY h1 h2 a1.1 a2.1 a1.2.1 a2.2.1
  refine ⟨this.1, this.2, (a1.2.2.append a2.2.2).trans ?_⟩
  rw [List.append_assoc, List.append_assoc]
  refine List.Perm.append_left X1 ?_
  rw [← List.append_assoc, ← List.append_assoc]
  exact List.Perm.append_right Y2 List.perm_append_comm
end

section
variable {α : Type} [Inhabited α] {lt : α → α → Bool}
/-- What lies at a place of the first, and of the second neighbour. -/
theorem at_left (P U V R : List α) {i : Nat} (h0 : P.length ≤ i) (h1 : i < P.length + U.length) : U[i - P.length]? = some (P ++ U ++ V ++ R).toArray[i]! := by
  have : (P ++ U ++ V ++ R)[i]? = U[i - P.length]? := by
    rw [List.append_assoc, List.append_assoc, List.getElem?_append_right h0, List.getElem?_append_left (by omega)]
  rw [← this]
  have hl : i < (P ++ U ++ V ++ R).length := by simp; omega
  rw [List.getElem?_eq_getElem hl, Option.some.injEq]
  generalize P ++ U ++ V ++ R = L at hl ⊢
  have : L.toArray[i]! = L[i] := by rw [getElem!_pos L.toArray i (by simpa using hl)]; simp
  exact this.symm
theorem at_right (P U V R : List α) {i : Nat} (h0 : P.length + U.length ≤ i) (h1 : i < P.length + U.length + V.length) : V[i - (P.length + U.length)]? = some (P ++ U ++ V ++ R).toArray[i]! := by
  have := at_left (P ++ U) V R [] (i := i) (by simp; omega) (by simp; omega)
  simpa using this
/-- The search's ends. -/
def loOf (a m b : Nat) : Nat := if (a + b) / 2 < m then (a + b) / 2 + m - b else a
def hiOf (a m b : Nat) : Nat := if (a + b) / 2 < m then (a + b) / 2 else m
def CutAt (lt : α → α → Bool) (d : Array α) (a m b s r : Nat) : Prop :=
  loOf a m b ≤ s ∧ s ≤ r ∧ r ≤ hiOf a m b ∧ (s = loOf a m b ∨ lt d[(a + b) / 2 + m - 1 - (s - 1)]! d[s - 1]! = false) ∧ (r = hiOf a m b ∨ lt d[(a + b) / 2 + m - 1 - r]! d[r]! = true)
theorem cut_parts (hw : Wk lt) (P U V R : List α) {a m b s : Nat} (ha : a = P.length) (hm : m = P.length + U.length) (hb : b = P.length + U.length + V.length) (hU : Asc lt U) (hV : Asc lt V) (h : CutAt lt (P ++ U ++ V ++ R).toArray a m b s s) (hu1 : 0 < U.length) (hv1 : 0 < V.length) :
    a ≤ s ∧ s ≤ m ∧ m ≤ (a + b) / 2 + m - s ∧ (a + b) / 2 + m - s ≤ b ∧ s ≤ (a + b) / 2 ∧ (∀ x ∈ U.drop (s - a), ∀ y ∈ V.take ((a + b) / 2 + m - s - m), lt y x = true) ∧ (∀ x ∈ U.take (s - a), ∀ y ∈ V.drop ((a + b) / 2 + m - s - m), lt y x = false) := by
  obtain ⟨h1, _, h2, h3, h4⟩ := h
  generalize hmid : (a + b) / 2 = mid at *
  have q1 : a + b = 2 * mid ∨ a + b = 2 * mid + 1 := by omega
  have bnd : a ≤ s ∧ s ≤ m ∧ s ≤ mid ∧ mid + m - s ≤ b := by
    unfold loOf at h1
    unfold hiOf at h2
    rw [hmid] at h1 h2
    split at h1 <;> split at h2 <;> omega
  refine ⟨bnd.1, bnd.2.1, by omega, bnd.2.2.2, bnd.2.2.1, ?_, ?_⟩
  · rcases h4 with h4 | h4
    · unfold hiOf at h4; rw [hmid] at h4
      split at h4
      · intro x _ y hy
        rw [show mid + m - s - m = 0 by omega] at hy; simp at hy
      · intro x hx
        rw [show s - a = U.length by omega] at hx; simp at hx
    · by_cases hs : s = hiOf a m b
      · unfold hiOf at hs; rw [hmid] at hs
        split at hs
        · intro x _ y hy
          rw [show mid + m - s - m = 0 by omega] at hy; simp at hy
        · intro x hx
          rw [show s - a = U.length by omega] at hx; simp at hx
      · have hs' : s < m ∧ s < mid := by
          unfold hiOf at h2 hs; rw [hmid] at h2 hs
          split at h2 <;> split at hs <;> omega
        have e1 := at_left P U V R (i := s) (by omega) (by omega)
        have e2 := at_right P U V R (i := mid + m - 1 - s) (by omega) (by omega)
        rw [← ha] at e1
        rw [← hm] at e2
        intro x hx y hy
        have g1 := lt_drop hw hU e1 h4 x hx
        have g2 := lt_take hw hV e2 g1
        refine g2 y ?_
        rw [show mid + m - 1 - s - m + 1 = mid + m - s - m by omega]; exact hy
  · rcases h3 with h3 | h3
    · unfold loOf at h3; rw [hmid] at h3
      split at h3
      · intro x _ y hy
        rw [show mid + m - s - m = V.length by omega] at hy; simp at hy
      · intro x hx
        rw [show s - a = 0 by omega] at hx; simp at hx
    · by_cases hs : s = loOf a m b
      · unfold loOf at hs; rw [hmid] at hs
        split at hs
        · intro x _ y hy
          rw [show mid + m - s - m = V.length by omega] at hy; simp at hy
        · intro x hx
          rw [show s - a = 0 by omega] at hx; simp at hx
      · have hs' : a < s ∧ mid + m - s < b := by
          unfold loOf at h1 hs; rw [hmid] at h1 hs
          split at h1 <;> split at hs <;> omega
        have e1 := at_left P U V R (i := s - 1) (by omega) (by omega)
        have e2 := at_right P U V R (i := mid + m - 1 - (s - 1)) (by omega) (by omega)
        rw [← ha] at e1
        rw [← hm] at e2
        intro x hx y hy
        have g1 := ge_drop hw hV e2 h3 y (by rw [show mid + m - 1 - (s - 1) - m = mid + m - s - m by omega]; exact hy)
        have g2 := ge_take hw hU e1 g1
        refine g2 x ?_
        rw [show s - 1 - a + 1 = s - a by omega]; exact hx

end
end Go.Proofs.Ytfbgflmolkgopaa
