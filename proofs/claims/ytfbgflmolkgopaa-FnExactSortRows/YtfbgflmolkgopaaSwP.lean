/-
  Plain facts on exchanging places of an array that is given as a list, and on merging by turning the middle. No program, no walk.
-/
import Derived.Test.YtfbgflmolkgopaaStab
import Derived.Sort.WalkA
namespace Go.Proofs.Ytfbgflmolkgopaa
open Go.Sort
set_option linter.unusedSimpArgs false
set_option linter.unusedVariables false

theorem set_at {α : Type} (A : List α) (x y : α) (C : List α) {i : Nat} (h : i = A.length) : (A ++ x :: C).set i y = A ++ y :: C := by
  subst h; simp
theorem take_snoc {α : Type} {l : List α} {i : Nat} (h : i < l.length) : ∃ x, l.drop i = x :: l.drop (i + 1) ∧ l.take (i + 1) = l.take i ++ [x] ∧ l[i]? = some x :=
  ⟨l[i], List.drop_eq_getElem_cons h, List.take_succ_eq_append_getElem h, List.getElem?_eq_getElem h⟩
theorem set_in {α : Type} (A : List α) (x : α) (B : List α) (y z : α) (C : List α) {j : Nat} (hj : j = A.length + 1 + B.length) : (A ++ x :: (B ++ y :: C)).set j z = A ++ x :: (B ++ z :: C) := by
  have := set_at (A ++ x :: B) y z C (i := j) (by simp; omega)
  simpa using this
/-- i places of two ranges have been exchanged. -/
def swR {α : Type} (P U Q V R : List α) (i : Nat) : List α := P ++ V.take i ++ (U.drop i ++ (Q ++ U.take i) ++ (V.drop i ++ R))
theorem swR_zero {α : Type} (P U Q V R : List α) : swR P U Q V R 0 = P ++ U ++ Q ++ V ++ R := by simp [swR]
theorem swR_all {α : Type} (P U Q V R : List α) {n : Nat} (hu : U.length = n) (hv : V.length = n) : swR P U Q V R n = P ++ V ++ Q ++ U ++ R := by
  unfold swR
  rw [List.take_of_length_le (by omega), List.take_of_length_le (by omega), List.drop_of_length_le (by omega), List.drop_of_length_le (by omega)]; simp
theorem swR_len {α : Type} (P U Q V R : List α) (i : Nat) (h : U.length = V.length) : (swR P U Q V R i).length = (P ++ U ++ Q ++ V ++ R).length := by
  simp [swR]; omega
/-- Between two rounds of a turn of two neighbours: i and j places are left on the two sides of m. -/
def RotAt {α : Type} (P U V R : List α) (i j : Nat) (d : List α) : Prop :=
  ∃ D1 U' V' D2 : List α, d = P ++ D1 ++ U' ++ V' ++ D2 ++ R ∧ P.length + D1.length + i = P.length + U.length ∧ U'.length = i ∧ V'.length = j ∧ D1 ++ V' ++ U' ++ D2 = V ++ U
theorem RotAt.start {α : Type} (P U V R : List α) : RotAt P U V R U.length V.length (P ++ U ++ V ++ R) := ⟨[], U, V, [], by simp, by simp, rfl, rfl, by simp⟩
def St {α : Type} (lt : α → α → Bool) (Z L : List α) : Prop := Asc lt Z ∧ SE lt Z L ∧ Z.Perm L
theorem St.len {α : Type} {lt : α → α → Bool} {Z L : List α} (h : St lt Z L) : Z.length = L.length := h.2.2.length_eq

section
variable {α : Type} [Inhabited α] {lt : α → α → Bool}
theorem get_at (A : List α) (x : α) (C : List α) {i : Nat} (h : i = A.length) : (A ++ x :: C).toArray[i]! = x := by
  subst h; simp
theorem get_in (A : List α) (x : α) (B : List α) (y : α) (C : List α) {j : Nat} (hj : j = A.length + 1 + B.length) : (A ++ x :: (B ++ y :: C)).toArray[j]! = y := by
  have := get_at (A ++ x :: B) y C (i := j) (by simp; omega)
  simpa using this
theorem swp_mid (A : List α) (x : α) (B : List α) (y : α) (C : List α) {i j : Nat} (hi : i = A.length) (hj : j = A.length + 1 + B.length) :
    swp (A ++ x :: (B ++ y :: C)).toArray i j = (A ++ y :: (B ++ x :: C)).toArray := by
  unfold swp
  rw [get_at A x _ hi, get_in A x B y C hj, List.setIfInBounds_toArray, List.setIfInBounds_toArray, set_at A x y _ hi, set_in A y B y x C hj]
theorem swp_dim (A : List α) (x : α) (B : List α) (y : α) (C : List α) {i j : Nat} (hi : i = A.length) (hj : j = A.length + 1 + B.length) :
    swp (A ++ x :: (B ++ y :: C)).toArray j i = (A ++ y :: (B ++ x :: C)).toArray := by
  unfold swp
  rw [get_at A x _ hi, get_in A x B y C hj, List.setIfInBounds_toArray, List.setIfInBounds_toArray, set_in A x B y x C hj, set_at A x y _ hi]

theorem swR_step (P U Q V R : List α) {n i a b : Nat} (hu : U.length = n) (hv : V.length = n) (ha : a = P.length) (hb : b = P.length + n + Q.length) (hi : i < n) :
    swp (swR P U Q V R i).toArray (a + i) (b + i) = (swR P U Q V R (i + 1)).toArray := by
  obtain ⟨u, u1, u2, _⟩ := take_snoc (l := U) (i := i) (by omega)
  obtain ⟨v, v1, v2, _⟩ := take_snoc (l := V) (i := i) (by omega)
  unfold swR
  rw [u1, v1, u2, v2]
  have := swp_mid (P ++ V.take i) u (U.drop (i + 1) ++ (Q ++ U.take i)) v (V.drop (i + 1) ++ R) (i := a + i) (j := b + i) (by simp; omega) (by simp; omega)
  simpa using this

/-- One step of insertion, from the right. -/
theorem insInner_at (P : List α) (x : α) (W : List α) : ∀ (k : Nat) (U : List α), U.length = k → Asc lt U → ∃ U1 U2, U = U1 ++ U2 ∧ insInner lt P.length (P.length + k) (P ++ U ++ x :: W).toArray = (P ++ U1 ++ x :: (U2 ++ W)).toArray ∧ (∀ u ∈ U2, lt x u = true) ∧ (U1 = [] ∨ ∃ U' u, U1 = U' ++ [u] ∧ lt x u = false) := by
  intro k
  induction k generalizing W with
  | zero =>
    intro U hU _
    obtain rfl := List.eq_nil_of_length_eq_zero hU
    exact ⟨[], [], rfl, by rw [insInner_stop _ _ _ _ (.inl (by omega))]; simp, by simp, .inl rfl⟩
  | succ k ih =>
    intro U hU hA
    obtain ⟨U', u, rfl⟩ : ∃ U' u, U = U' ++ [u] := by
      rcases List.eq_nil_or_concat U with rfl | ⟨U', u, rfl⟩
      · cases hU
      · exact ⟨U', u, by simp⟩
    have hk : U'.length = k := by simp at hU; omega
    have g1 : (P ++ (U' ++ [u]) ++ x :: W).toArray[P.length + (k + 1)]! = x := get_at _ _ _ (by simp; omega)
    have g2 : (P ++ (U' ++ [u]) ++ x :: W).toArray[P.length + (k + 1) - 1]! = u := by
      have := get_at (P ++ U') u (x :: W) (i := P.length + (k + 1) - 1) (by simp; omega)
      simpa using this
    cases hl : lt x u with
    | true =>
      have sw : swp (P ++ (U' ++ [u]) ++ x :: W).toArray (P.length + (k + 1)) (P.length + (k + 1) - 1) = (P ++ U' ++ x :: (u :: W)).toArray := by
        have := swp_dim (P ++ U') u [] x W (i := P.length + (k + 1) - 1) (j := P.length + (k + 1)) (by simp; omega) (by simp; omega)
        simpa using this
      obtain ⟨U1, U2, e1, e2, e3, e4⟩ := ih (u :: W) U' hk hA.left
      refine ⟨U1, U2 ++ [u], by simp [e1], ?_, ?_, e4⟩
      · rw [insInner_go _ _ _ _ (by omega) (by rw [g1, g2]; exact hl), sw, show P.length + (k + 1) - 1 = P.length + k by omega, e2]; simp
      · intro z hz
        rcases List.mem_append.1 hz with h | h
        · exact e3 z h
        · simp at h; subst h; exact hl
    | false =>
      refine ⟨U' ++ [u], [], by simp, ?_, by simp, .inr ⟨U', u, rfl, hl⟩⟩
      rw [insInner_stop _ _ _ _ (.inr (by rw [g1, g2]; exact hl))]; simp
theorem insOuter_at (hw : Wk lt) (P R : List α) : ∀ (k : Nat) (D T : List α), T.length = k → Asc lt D → D.length ≠ 0 → ∃ Z, insOuter lt P.length (P.length + (D.length + T.length)) (P.length + D.length) (P ++ D ++ (T ++ R)).toArray = (P ++ Z ++ R).toArray ∧ St lt Z (D ++ T) := by
  intro k
  induction k with
  | zero =>
    intro D T hT hD _
    obtain rfl := List.eq_nil_of_length_eq_zero hT
    refine ⟨D, ?_, hD, by simpa using SE.refl D, by simp⟩
    rw [insOuter_stop _ _ _ _ _ (by simp)]; simp
  | succ k ih =>
    intro D T hT hD h0
    match T, hT with
    | t :: T, hT =>
      obtain ⟨U1, U2, e1, e2, e3, e4⟩ := insInner_at P t (T ++ R) D.length D rfl hD
      have hA : Asc lt (U1 ++ [t] ++ U2) := Asc.ins hw (by rw [← e1]; exact hD) e3 e4
      have hS : SE lt (D ++ [t]) (U1 ++ [t] ++ U2) := by rw [e1]; exact SE.ins hw e3
      obtain ⟨Z, z1, z2, z3, z4⟩ := ih (U1 ++ [t] ++ U2) T (by simpa using hT) hA (by simp)
      have hlen : (U1 ++ [t] ++ U2).length = D.length + 1 := by rw [e1]; simp; omega
      refine ⟨Z, ?_, z2, ?_, ?_⟩
      · rw [insOuter_go _ _ _ _ _ (by simp)]
        have : P ++ D ++ (t :: T ++ R) = P ++ D ++ t :: (T ++ R) := by simp
        rw [this, e2]
        rw [hlen] at z1
        have e5 : P ++ U1 ++ t :: (U2 ++ (T ++ R)) = P ++ (U1 ++ [t] ++ U2) ++ (T ++ R) := by simp
        rw [e5, List.length_cons, show P.length + (D.length + (T.length + 1)) = P.length + (D.length + 1 + T.length) by omega]
        exact z1
      · have := hS.app (SE.refl (lt := lt) T)
        refine z3.trans ?_
        have t2 := this.symm
        simpa using t2
      · refine z4.trans ?_
        rw [e1]
        have : (U1 ++ [t] ++ U2 ++ T).Perm (U1 ++ U2 ++ [t] ++ T) := by
          refine List.Perm.append_right T ?_
          rw [List.append_assoc, List.append_assoc]
          exact List.Perm.append_left U1 List.perm_append_comm
        simpa using this
/-- A range that is sorted by insertion. -/
theorem insertion_at (hw : Wk lt) (P L R : List α) {a b : Nat} (ha : a = P.length) (hb : b = P.length + L.length) : ∃ Z, insertionSort lt (P ++ L ++ R).toArray a b = (P ++ Z ++ R).toArray ∧ St lt Z L := by
  subst ha hb
  match L with
  | [] => exact ⟨[], by unfold insertionSort; rw [insOuter_stop _ _ _ _ _ (by simp)], Asc.nil, SE.refl _, List.Perm.refl _⟩
  | x :: L =>
    obtain ⟨Z, h1, h2⟩ := insOuter_at hw P R L.length [x] L rfl (Asc.one x) (by simp)
    refine ⟨Z, ?_, by simpa using h2⟩
    unfold insertionSort
    simpa [Nat.add_comm, Nat.add_left_comm] using h1
end
end Go.Proofs.Ytfbgflmolkgopaa
