/-
  Plain facts on exchanging places of an array that is given as a list, and on merging by turning the middle. No program, no walk. Plain facts on merging two sorted neighbours by turning the middle, and on sorted blocks. No program, no walk. Contracts of slices.swapRangeCmpFunc and slices.rotateCmpFunc at rows: two ranges are exchanged, two neighbours are turned.
-/
import Derived.Test.YtfpbhedophlnkaaGreatDoorJR10x
import Derived.Sort.WalkA
import Derived.Test.YtfpbhedophlnkaaGreatDoorRows
import Derived.Shelf.SlSortCmp.Kit1
import Derived.Sort.WalkB2
import Derived.Sort.WalkB12
import Derived.Deep.LoopGhost
namespace Go.Proofs.YtfpbhedophlnkaaGreatDoor
open Go.Sort
set_option linter.unusedSimpArgs false
set_option linter.unusedVariables false

theorem set_at {α : Type} (A : List α) (x y : α) (C : List α) {i : Nat} (h : i = A.length) : (A ++ x :: C).set i y = A ++ y :: C := by
  subst h; simp
theorem take_snoc {α : Type} {l : List α} {i : Nat} (h : i < l.length) : ∃ x, l.drop i = x :: l.drop (i + 1) ∧ l.take (i + 1) = l.take i ++ [x] ∧ l[i]? = some x :=
  ⟨l[i], List.drop_eq_getElem_cons h, List.take_succ_eq_append_getElem h, List.getElem?_eq_getElem h⟩
theorem set_in {α : Type} (A : List α) (x : α) (B : List α) (y z : α) (C : List α) {j : Nat} (hj : j = A.length + 1 + B.length) : (A ++ x :: (B ++ y :: C)).set j z = A ++ x :: (B ++ z :: C) := by
  have := set_at (A ++ x :: B) y z C (i := j) (by simp; omega)
  simpa using this
/-- i places of two ranges have been exchanged. -/
def swR {α : Type} (P U Q V R : List α) (i : Nat) : List α := P ++ V.take i ++ (U.drop i ++ (Q ++ U.take i) ++ (V.drop i ++ R))
theorem swR_zero {α : Type} (P U Q V R : List α) : swR P U Q V R 0 = P ++ U ++ Q ++ V ++ R := by simp [swR]
theorem swR_all {α : Type} (P U Q V R : List α) {n : Nat} (hu : U.length = n) (hv : V.length = n) : swR P U Q V R n = P ++ V ++ Q ++ U ++ R := by
  unfold swR
  rw [List.take_of_length_le (by omega), List.take_of_length_le (by omega), List.drop_of_length_le (by omega), List.drop_of_length_le (by omega)]; simp
theorem swR_len {α : Type} (P U Q V R : List α) (i : Nat) (h : U.length = V.length) : (swR P U Q V R i).length = (P ++ U ++ Q ++ V ++ R).length := by
  simp [swR]; omega
/-- Between two rounds of a turn of two neighbours: i and j places are left on the two sides of m. -/
def RotAt {α : Type} (P U V R : List α) (i j : Nat) (d : List α) : Prop :=
  ∃ D1 U' V' D2 : List α, d = P ++ D1 ++ U' ++ V' ++ D2 ++ R ∧ P.length + D1.length + i = P.length + U.length ∧ U'.length = i ∧ V'.length = j ∧ D1 ++ V' ++ U' ++ D2 = V ++ U
theorem RotAt.start {α : Type} (P U V R : List α) : RotAt P U V R U.length V.length (P ++ U ++ V ++ R) := ⟨[], U, V, [], by simp, by simp, rfl, rfl, by simp⟩
def St {α : Type} (lt : α → α → Bool) (Z L : List α) : Prop := Asc lt Z ∧ SE lt Z L ∧ Z.Perm L
theorem St.len {α : Type} {lt : α → α → Bool} {Z L : List α} (h : St lt Z L) : Z.length = L.length := h.2.2.length_eq

section
variable {α : Type} [Inhabited α] {lt : α → α → Bool}
theorem get_at (A : List α) (x : α) (C : List α) {i : Nat} (h : i = A.length) : (A ++ x :: C).toArray[i]! = x := by
  subst h; simp
theorem get_in (A : List α) (x : α) (B : List α) (y : α) (C : List α) {j : Nat} (hj : j = A.length + 1 + B.length) : (A ++ x :: (B ++ y :: C)).toArray[j]! = y := by
  have := get_at (A ++ x :: B) y C (i := j) (by simp; omega)
  simpa using this
theorem swp_mid (A : List α) (x : α) (B : List α) (y : α) (C : List α) {i j : Nat} (hi : i = A.length) (hj : j = A.length + 1 + B.length) :
    swp (A ++ x :: (B ++ y :: C)).toArray i j = (A ++ y :: (B ++ x :: C)).toArray := by
  unfold swp
  rw [get_at A x _ hi, get_in A x B y C hj, List.setIfInBounds_toArray, List.setIfInBounds_toArray, set_at A x y _ hi, set_in A y B y x C hj]
theorem swp_dim (A : List α) (x : α) (B : List α) (y : α) (C : List α) {i j : Nat} (hi : i = A.length) (hj : j = A.length + 1 + B.length) :
    swp (A ++ x :: (B ++ y :: C)).toArray j i = (A ++ y :: (B ++ x :: C)).toArray := by
  unfold swp
  rw [get_at A x _ hi, get_in A x B y C hj, List.setIfInBounds_toArray, List.setIfInBounds_toArray, set_in A x B y x C hj, set_at A x y _ hi]

theorem swR_step (P U Q V R : List α) {n i a b : Nat} (hu : U.length = n) (hv : V.length = n) (ha : a = P.length) (hb : b = P.length + n + Q.length) (hi : i < n) :
    swp (swR P U Q V R i).toArray (a + i) (b + i) = (swR P U Q V R (i + 1)).toArray := by
  obtain ⟨u, u1, u2, _⟩ := take_snoc (l := U) (i := i) (by omega)
  obtain ⟨v, v1, v2, _⟩ := take_snoc (l := V) (i := i) (by omega)
  unfold swR
  rw [u1, v1, u2, v2]
  have := swp_mid (P ++ V.take i) u (U.drop (i + 1) ++ (Q ++ U.take i)) v (V.drop (i + 1) ++ R) (i := a + i) (j := b + i) (by simp; omega) (by simp; omega)
  simpa using this

/-- One step of insertion, from the right. -/
theorem insInner_at (P : List α) (x : α) (W : List α) : ∀ (k : Nat) (U : List α), U.length = k → Asc lt U → ∃ U1 U2, U = U1 ++ U2 ∧ insInner lt P.length (P.length + k) (P ++ U ++ x :: W).toArray = (P ++ U1 ++ x :: (U2 ++ W)).toArray ∧ (∀ u ∈ U2, lt x u = true) ∧ (U1 = [] ∨ ∃ U' u, U1 = U' ++ [u] ∧ lt x u = false) := by
  intro k
  induction k generalizing W with
  | zero =>
    intro U hU _
    obtain rfl := List.eq_nil_of_length_eq_zero hU
    exact ⟨[], [], rfl, by rw [insInner_stop _ _ _ _ (.inl (by omega))]; simp, by simp, .inl rfl⟩
  | succ k ih =>
    intro U hU hA
    obtain ⟨U', u, rfl⟩ : ∃ U' u, U = U' ++ [u] := by
      rcases List.eq_nil_or_concat U with rfl | ⟨U', u, rfl⟩
      · cases hU
      · exact ⟨U', u, by simp⟩
    have hk : U'.length = k := by simp at hU; omega
    have g1 : (P ++ (U' ++ [u]) ++ x :: W).toArray[P.length + (k + 1)]! = x := get_at _ _ _ (by simp; omega)
    have g2 : (P ++ (U' ++ [u]) ++ x :: W).toArray[P.length + (k + 1) - 1]! = u := by
      have := get_at (P ++ U') u (x :: W) (i := P.length + (k + 1) - 1) (by simp; omega)
      simpa using this
    cases hl : lt x u with
    | true =>
      have sw : swp (P ++ (U' ++ [u]) ++ x :: W).toArray (P.length + (k + 1)) (P.length + (k + 1) - 1) = (P ++ U' ++ x :: (u :: W)).toArray := by
        have := swp_dim (P ++ U') u [] x W (i := P.length + (k + 1) - 1) (j := P.length + (k + 1)) (by simp; omega) (by simp; omega)
        simpa using this
      obtain ⟨U1, U2, e1, e2, e3, e4⟩ := ih (u :: W) U' hk hA.left
      refine ⟨U1, U2 ++ [u], by simp [e1], ?_, ?_, e4⟩
      · rw [insInner_go _ _ _ _ (by omega) (by rw [g1, g2]; exact hl), sw, show P.length + (k + 1) - 1 = P.length + k by omega, e2]; simp
      · intro z hz
        rcases List.mem_append.1 hz with h | h
        · exact e3 z h
        · simp at h; subst h; exact hl
    | false =>
      refine ⟨U' ++ [u], [], by simp, ?_, by simp, .inr ⟨U', u, rfl, hl⟩⟩
      rw [insInner_stop _ _ _ _ (.inr (by rw [g1, g2]; exact hl))]; simp
theorem insOuter_at (hw : Wk lt) (P R : List α) : ∀ (k : Nat) (D T : List α), T.length = k → Asc lt D → D.length ≠ 0 → ∃ Z, insOuter lt P.length (P.length + (D.length + T.length)) (P.length + D.length) (P ++ D ++ (T ++ R)).toArray = (P ++ Z ++ R).toArray ∧ St lt Z (D ++ T) := by
  intro k
  induction k with
  | zero =>
    intro D T hT hD _
    obtain rfl := List.eq_nil_of_length_eq_zero hT
    refine ⟨D, ?_, hD, by simpa using SE.refl D, by simp⟩
    rw [insOuter_stop _ _ _ _ _ (by simp)]; simp
  | succ k ih =>
    intro D T hT hD h0
    match T, hT with
    | t :: T, hT =>
      obtain ⟨U1, U2, e1, e2, e3, e4⟩ := insInner_at P t (T ++ R) D.length D rfl hD
      have hA : Asc lt (U1 ++ [t] ++ U2) := Asc.ins hw (by rw [← e1]; exact hD) e3 e4
      have hS : SE lt (D ++ [t]) (U1 ++ [t] ++ U2) := by rw [e1]; exact SE.ins hw e3
      obtain ⟨Z, z1, z2, z3, z4⟩ := ih (U1 ++ [t] ++ U2) T (by simpa using hT) hA (by simp)
      have hlen : (U1 ++ [t] ++ U2).length = D.length + 1 := by rw [e1]; simp; omega
      refine ⟨Z, ?_, z2, ?_, ?_⟩
      · rw [insOuter_go _ _ _ _ _ (by simp)]
        have : P ++ D ++ (t :: T ++ R) = P ++ D ++ t :: (T ++ R) := by simp
        rw [this, e2]
        rw [hlen] at z1
        have e5 : P ++ U1 ++ t :: (U2 ++ (T ++ R)) = P ++ (U1 ++ [t] ++ U2) ++ (T ++ R) := by simp
        rw [e5, List.length_cons, show P.length + (D.length + (T.length + 1)) = P.length + (D.length + 1 + T.length) by omega]
        exact z1
      · have := hS.app (SE.refl (lt := lt) T)
        refine z3.trans ?_
        have t2 := this.symm
        simpa using t2
      · refine z4.trans ?_
        rw [e1]
        have : (U1 ++ [t] ++ U2 ++ T).Perm (U1 ++ U2 ++ [t] ++ T) := by
          refine List.Perm.append_right T ?_
          rw [List.append_assoc, List.append_assoc]
          exact List.Perm.append_left U1 List.perm_append_comm
        simpa using this
/-- A range that is sorted by insertion. -/
theorem insertion_at (hw : Wk lt) (P L R : List α) {a b : Nat} (ha : a = P.length) (hb : b = P.length + L.length) : ∃ Z, insertionSort lt (P ++ L ++ R).toArray a b = (P ++ Z ++ R).toArray ∧ St lt Z L := by
  subst ha hb
  match L with
  | [] => exact ⟨[], by unfold insertionSort; rw [insOuter_stop _ _ _ _ _ (by simp)], Asc.nil, SE.refl _, List.Perm.refl _⟩
  | x :: L =>
    obtain ⟨Z, h1, h2⟩ := insOuter_at hw P R L.length [x] L rfl (Asc.one x) (by simp)
    refine ⟨Z, ?_, by simpa using h2⟩
    unfold insertionSort
    simpa [Nat.add_comm, Nat.add_left_comm] using h1
end
end Go.Proofs.YtfpbhedophlnkaaGreatDoor
namespace Go.Proofs.YtfpbhedophlnkaaGreatDoor
open Go.Sort
set_option linter.unusedSimpArgs false
set_option linter.unusedVariables false

section
variable {α : Type} {lt : α → α → Bool}
theorem Asc.at_ {l : List α} (h : Asc lt l) {i j : Nat} {x y : α} (hi : l[i]? = some x) (hj : l[j]? = some y) (hw : Wk lt) (hij : i ≤ j) : lt y x = false := by
  rcases Nat.lt_or_eq_of_le hij with h1 | h1
  · obtain ⟨h2, e2⟩ := List.getElem?_eq_some_iff.1 hj
    obtain ⟨h3, e3⟩ := List.getElem?_eq_some_iff.1 hi
    have := (List.pairwise_iff_getElem.1 h) i j h3 h2 h1
    rw [e2, e3] at this; exact this
  · subst h1; rw [hi] at hj; cases hj; exact hw.irr x
theorem mem_take_at {l : List α} {k : Nat} {x : α} (h : x ∈ l.take k) : ∃ i, i < k ∧ l[i]? = some x := by
  obtain ⟨i, hi⟩ := List.mem_iff_getElem?.1 h
  rw [List.getElem?_take] at hi
  split at hi
  · exact ⟨i, by assumption, hi⟩
  · cases hi
theorem mem_drop_at {l : List α} {k : Nat} {x : α} (h : x ∈ l.drop k) : ∃ i, k ≤ i ∧ l[i]? = some x := by
  obtain ⟨i, hi⟩ := List.mem_iff_getElem?.1 h
  rw [List.getElem?_drop] at hi
  exact ⟨k + i, by omega, hi⟩
/-- All up to a place are below what the place is below. -/
theorem lt_take (hw : Wk lt) {V : List α} (hV : Asc lt V) {k : Nat} {v u : α} (hk : V[k]? = some v) (h : lt v u = true) : ∀ y ∈ V.take (k + 1), lt y u = true := by
  intro y hy
  obtain ⟨i, hi, e⟩ := mem_take_at hy
  have h1 := hV.at_ e hk hw (by omega)
  cases hx : lt y u with
  | true => rfl
  | false => have := hw.trans u y v hx h1; rw [h] at this; cases this
theorem lt_drop (hw : Wk lt) {U : List α} (hU : Asc lt U) {k : Nat} {v u : α} (hk : U[k]? = some u) (h : lt v u = true) : ∀ x ∈ U.drop k, lt v x = true := by
  intro x hx
  obtain ⟨i, hi, e⟩ := mem_drop_at hx
  have h1 := hU.at_ hk e hw hi
  cases hx : lt v x with
  | true => rfl
  | false => have := hw.trans u x v h1 hx; rw [h] at this; cases this
theorem ge_take (hw : Wk lt) {U : List α} (hU : Asc lt U) {k : Nat} {v u : α} (hk : U[k]? = some u) (h : lt v u = false) : ∀ x ∈ U.take (k + 1), lt v x = false := by
  intro x hx
  obtain ⟨i, hi, e⟩ := mem_take_at hx
  exact hw.trans x u v (hU.at_ e hk hw (by omega)) h
theorem ge_drop (hw : Wk lt) {V : List α} (hV : Asc lt V) {k : Nat} {v u : α} (hk : V[k]? = some v) (h : lt v u = false) : ∀ y ∈ V.drop k, lt y u = false := by
  intro y hy
  obtain ⟨i, hi, e⟩ := mem_drop_at hy
  exact hw.trans u v y h (hV.at_ hk e hw hi)

/-- One ahead of a sorted row is put in its place. -/
theorem st_one_left (hw : Wk lt) (u : α) {V1 V2 : List α} (hV : Asc lt (V1 ++ V2)) (h1 : ∀ y ∈ V1, lt y u = true) (h2 : ∀ y ∈ V2, lt y u = false) : St lt (V1 ++ u :: V2) ([u] ++ (V1 ++ V2)) := by
  refine ⟨?_, ?_, ?_⟩
  · refine Asc.app hV.left (List.pairwise_cons.2 ⟨fun y hy => h2 y hy, hV.right⟩) fun x hx y hy => ?_
    rcases List.mem_cons.1 hy with rfl | hy
    · exact hw.asym _ _ (h1 x hx)
    · exact hV.cross hx hy
  · have := (SE.swap (lt := lt) hw (X := [u]) (Y := V1) fun x hx y hy => by simp at hx; subst hx; exact h1 y hy).symm.app (SE.refl (lt := lt) V2)
    simpa using this
  · exact List.perm_middle
/-- One behind a sorted row is put in its place. -/
theorem st_one_right (hw : Wk lt) (v : α) {U1 U2 : List α} (hU : Asc lt (U1 ++ U2)) (h1 : ∀ x ∈ U1, lt v x = false) (h2 : ∀ x ∈ U2, lt v x = true) : St lt (U1 ++ v :: U2) (U1 ++ U2 ++ [v]) := by
  refine ⟨?_, ?_, ?_⟩
  · refine Asc.app hU.left (List.pairwise_cons.2 ⟨fun y hy => hw.asym _ _ (h2 y hy), hU.right⟩) fun x hx y hy => ?_
    rcases List.mem_cons.1 hy with rfl | hy
    · exact h1 x hx
    · exact hU.cross hx hy
  · have := (SE.ins (lt := lt) hw (U := U1) (V := U2) (x := v) h2).symm
    simpa using this
  · rw [List.append_assoc]
    refine List.Perm.append_left U1 ?_
    exact (List.perm_append_comm (l₁ := [v]) (l₂ := U2))
theorem St.refl {L : List α} (h : Asc lt L) : St lt L L := ⟨h, SE.refl L, List.Perm.refl L⟩
/-- The two halves of a merge. -/
theorem st_merge (hw : Wk lt) {X1 X2 Y1 Y2 Z1 Z2 : List α} (hX : Asc lt (X1 ++ X2)) (hY : Asc lt (Y1 ++ Y2)) (h1 : ∀ x ∈ X2, ∀ y ∈ Y1, lt y x = true) (h2 : ∀ x ∈ X1, ∀ y ∈ Y2, lt y x = false)
    (a1 : St lt Z1 (X1 ++ Y1)) (a2 : St lt Z2 (X2 ++ Y2)) : St lt (Z1 ++ Z2) (X1 ++ X2 ++ (Y1 ++ Y2)) := by
  have := merge_parts hw hX hY h1 h2 a1.1 a2.1 a1.2.1 a2.2.1
  refine ⟨this.1, this.2, (a1.2.2.append a2.2.2).trans ?_⟩
  rw [List.append_assoc, List.append_assoc]
  refine List.Perm.append_left X1 ?_
  rw [← List.append_assoc, ← List.append_assoc]
  exact List.Perm.append_right Y2 List.perm_append_comm
end

section
variable {α : Type} [Inhabited α] {lt : α → α → Bool}
/-- What lies at a place of the first, and of the second neighbour. -/
theorem at_left (P U V R : List α) {i : Nat} (h0 : P.length ≤ i) (h1 : i < P.length + U.length) : U[i - P.length]? = some (P ++ U ++ V ++ R).toArray[i]! := by
  have : (P ++ U ++ V ++ R)[i]? = U[i - P.length]? := by
    rw [List.append_assoc, List.append_assoc, List.getElem?_append_right h0, List.getElem?_append_left (by omega)]
  rw [← this]
  have hl : i < (P ++ U ++ V ++ R).length := by simp; omega
  rw [List.getElem?_eq_getElem hl, Option.some.injEq]
  generalize P ++ U ++ V ++ R = L at hl ⊢
  have : L.toArray[i]! = L[i] := by rw [getElem!_pos L.toArray i (by simpa using hl)]; simp
  exact this.symm
theorem at_right (P U V R : List α) {i : Nat} (h0 : P.length + U.length ≤ i) (h1 : i < P.length + U.length + V.length) : V[i - (P.length + U.length)]? = some (P ++ U ++ V ++ R).toArray[i]! := by
  have := at_left (P ++ U) V R [] (i := i) (by simp; omega) (by simp; omega)
  simpa using this
/-- The search's ends. -/
def loOf (a m b : Nat) : Nat := if (a + b) / 2 < m then (a + b) / 2 + m - b else a
def hiOf (a m b : Nat) : Nat := if (a + b) / 2 < m then (a + b) / 2 else m
def CutAt (lt : α → α → Bool) (d : Array α) (a m b s r : Nat) : Prop :=
  loOf a m b ≤ s ∧ s ≤ r ∧ r ≤ hiOf a m b ∧ (s = loOf a m b ∨ lt d[(a + b) / 2 + m - 1 - (s - 1)]! d[s - 1]! = false) ∧ (r = hiOf a m b ∨ lt d[(a + b) / 2 + m - 1 - r]! d[r]! = true)
theorem cut_parts (hw : Wk lt) (P U V R : List α) {a m b s : Nat} (ha : a = P.length) (hm : m = P.length + U.length) (hb : b = P.length + U.length + V.length) (hU : Asc lt U) (hV : Asc lt V) (h : CutAt lt (P ++ U ++ V ++ R).toArray a m b s s) (hu1 : 0 < U.length) (hv1 : 0 < V.length) :
    a ≤ s ∧ s ≤ m ∧ m ≤ (a + b) / 2 + m - s ∧ (a + b) / 2 + m - s ≤ b ∧ s ≤ (a + b) / 2 ∧ (∀ x ∈ U.drop (s - a), ∀ y ∈ V.take ((a + b) / 2 + m - s - m), lt y x = true) ∧ (∀ x ∈ U.take (s - a), ∀ y ∈ V.drop ((a + b) / 2 + m - s - m), lt y x = false) := by
  obtain ⟨h1, _, h2, h3, h4⟩ := h
  generalize hmid : (a + b) / 2 = mid at *
  have q1 : a + b = 2 * mid ∨ a + b = 2 * mid + 1 := by omega
  have bnd : a ≤ s ∧ s ≤ m ∧ s ≤ mid ∧ mid + m - s ≤ b := by
    unfold loOf at h1
    unfold hiOf at h2
    rw [hmid] at h1 h2
    split at h1 <;> split at h2 <;> omega
  refine ⟨bnd.1, bnd.2.1, by omega, bnd.2.2.2, bnd.2.2.1, ?_, ?_⟩
  · rcases h4 with h4 | h4
    · unfold hiOf at h4; rw [hmid] at h4
      split at h4
      · intro x _ y hy
        rw [show mid + m - s - m = 0 by omega] at hy; simp at hy
      · intro x hx
        rw [show s - a = U.length by omega] at hx; simp at hx
    · by_cases hs : s = hiOf a m b
      · unfold hiOf at hs; rw [hmid] at hs
        split at hs
        · intro x _ y hy
          rw [show mid + m - s - m = 0 by omega] at hy; simp at hy
        · intro x hx
          rw [show s - a = U.length by omega] at hx; simp at hx
      · have hs' : s < m ∧ s < mid := by
          unfold hiOf at h2 hs; rw [hmid] at h2 hs
          split at h2 <;> split at hs <;> omega
        have e1 := at_left P U V R (i := s) (by omega) (by omega)
        have e2 := at_right P U V R (i := mid + m - 1 - s) (by omega) (by omega)
        rw [← ha] at e1
        rw [← hm] at e2
        intro x hx y hy
        have g1 := lt_drop hw hU e1 h4 x hx
        have g2 := lt_take hw hV e2 g1
        refine g2 y ?_
        rw [show mid + m - 1 - s - m + 1 = mid + m - s - m by omega]; exact hy
  · rcases h3 with h3 | h3
    · unfold loOf at h3; rw [hmid] at h3
      split at h3
      · intro x _ y hy
        rw [show mid + m - s - m = V.length by omega] at hy; simp at hy
      · intro x hx
        rw [show s - a = 0 by omega] at hx; simp at hx
    · by_cases hs : s = loOf a m b
      · unfold loOf at hs; rw [hmid] at hs
        split at hs
        · intro x _ y hy
          rw [show mid + m - s - m = V.length by omega] at hy; simp at hy
        · intro x hx
          rw [show s - a = 0 by omega] at hx; simp at hx
      · have hs' : a < s ∧ mid + m - s < b := by
          unfold loOf at h1 hs; rw [hmid] at h1 hs
          split at h1 <;> split at hs <;> omega
        have e1 := at_left P U V R (i := s - 1) (by omega) (by omega)
        have e2 := at_right P U V R (i := mid + m - 1 - (s - 1)) (by omega) (by omega)
        rw [← ha] at e1
        rw [← hm] at e2
        intro x hx y hy
        have g1 := ge_drop hw hV e2 h3 y (by rw [show mid + m - 1 - (s - 1) - m = mid + m - s - m by omega]; exact hy)
        have g2 := ge_take hw hU e1 g1
        refine g2 x ?_
        rw [show s - 1 - a + 1 = s - a by omega]; exact hx

end
end Go.Proofs.YtfpbhedophlnkaaGreatDoor
namespace Go.Proofs.YtfpbhedophlnkaaGreatDoor
open Go.Shelf Go.RowKit Go.Lib Go.Sort
set_option linter.unusedSimpArgs false
set_option linter.unusedVariables false

section
variable {α : Type} [Inhabited α]
set_option maxHeartbeats 4000000 in
set_option maxRecDepth 1000000 in
theorem swapRange_s (enc : α → Value) (g : Nat) (cb : Array Value) (blk off cap n : Nat) (d0 : Array α) (w0 w : World) (L U Q V T : List α)
    (R : Row1 enc w0 blk off d0) (hs : d0.size = (L ++ U ++ Q ++ V ++ T).length) (S : SW enc w0 blk off (L ++ U ++ Q ++ V ++ T).toArray w) (hu : U.length = n) (hv : V.length = n) (a b : Nat) (ha : a = L.length) (hb : b = L.length + n + Q.length) (hsz : d0.size ≤ 1048576) :
    Calls Tryz.prog 334 #[.slice (some ⟨blk, off, none⟩) d0.size cap, .int .i64 a, .int .i64 b, .int .i64 n, .func (.func g) #[] cb] w fun e w' => e = .returned (.tuple #[]) ∧ SW enc w0 blk off (L ++ V ++ Q ++ U ++ T).toArray w' := by
  have hcl0 := R.hO.cells
  simp only [Value.cells] at hcl0
  have hst := R.hO.store Tryz.prog
  have mixed : Tryz.prog.follows .mixedOrders = true := by kernel_rfl
  have hn : a + n ≤ b ∧ b + n ≤ d0.size := by rw [hs]; simp; omega
  have EA : Hid (a = L.length) := ha
  have EB : Hid (b = L.length + n + Q.length) := hb
  have HU : Hid (U.length = n) := hu
  have HV : Hid (V.length = n) := hv
  have HS : Hid (d0.size = (L ++ U ++ Q ++ V ++ T).length) := hs
  have S0 : Aside (SW enc w0 blk off (swR L U Q V T 0).toArray w) := by rw [swR_zero]; exact S
  have hds : ∀ i, (swR L U Q V T i).toArray.size = d0.size := fun i => by rw [List.size_toArray, swR_len _ _ _ _ _ _ (by omega), hs]
  clear S ha hb hu hv hs
  obtain ⟨hn1, hn2⟩ := hn
  go_enter Tryz.func334, Tryz.ntmps334
  go_wp2
  go_loopg [10] n (fun kx s wr => ∃ (i : Nat), s = .int .i64 i ∧ i ≤ n ∧ n - i ≤ kx ∧ Aside (SW enc w0 blk off (swR L U Q V T i).toArray wr))
  case atStart => exact ⟨0, rfl, Nat.zero_le _, by omega, S0⟩
  case round =>
    clear S0
    obtain ⟨i, rfl, hin, hkx, S1⟩ := hrel
    by_cases hlt : i < n
    · have hltz : (i : Int) < (n : Int) := by omega
      have hd := hds i
      have ST : Aside _ := swR_step L U Q V T (n := n) (i := i) (a := a) (b := b) HU.out HV.out EA.out EB.out hlt
      generalize hdk : (swR L U Q V T i).toArray = dk at S1 ST hd
      clear hdk
      go_wp2_with fail
      obtain ⟨iN, hiN⟩ : ∃ q, q = a + i := ⟨_, rfl⟩
      obtain ⟨jN, hjN⟩ : ∃ q, q = b + i := ⟨_, rfl⟩
      have ea : ((a : Int) + (i : Int)).toNat = iN := by omega
      have pa : (0 : Int) ≤ (a : Int) + (i : Int) := by omega
      have ba : (a : Int) + (i : Int) < (d0.size : Int) := by omega
      have ra : IntKind.i64.wrap ((a : Int) + (i : Int)) = (a : Int) + (i : Int) := by rw [IntKind.wrap_i64]; omega
      have ec : ((b : Int) + (i : Int)).toNat = jN := by omega
      have pc : (0 : Int) ≤ (b : Int) + (i : Int) := by omega
      have bc : (b : Int) + (i : Int) < (d0.size : Int) := by omega
      have rc : IntKind.i64.wrap ((b : Int) + (i : Int)) = (b : Int) + (i : Int) := by rw [IntKind.wrap_i64]; omega
      obtain ⟨x, hx⟩ : ∃ x, x = dk[a + i]! := ⟨_, rfl⟩
      obtain ⟨y, hy⟩ : ∃ x, x = dk[b + i]! := ⟨_, rfl⟩
      have S2 : Aside (SW enc w0 blk off (swp dk (a + i) (b + i)) ((wr.setCell ⟨blk, off + iN, none⟩ (enc y)).setCell ⟨blk, off + jN, none⟩ (enc x)).drew) := by rw [hiN, hjN, hx, hy]; exact S1.out.swapped R (a + i) (b + i) (by omega) (by omega)
      have ca := S1.out.c1 R (by omega) (a + i) (by omega)
      have cc := S1.out.c1 R (by omega) (b + i) (by omega)
      have fa := S1.out.f1 R (by omega) (a + i) (by omega)
      have fb := S1.out.f1 R (by omega) (b + i) (by omega)
      obtain ⟨u, cd⟩ := S1.out.c2 R (by omega) (a + i) (b + i) (by omega) (by omega) (enc y)
      rw [← hjN, ← hiN] at cd
      rw [← hx, ← hiN] at ca
      rw [← hy, ← hjN] at cc
      rw [← hiN] at fa
      rw [← hjN] at fb
      rw [ST.out] at S2
      clear S1 hx hy hiN hjN ST hd
      go_wp2_with fail
      go_big_region_o
      clear ca cc cd fa fb
      generalize ((wr.setCell ⟨blk, off + iN, none⟩ (enc y)).setCell ⟨blk, off + jN, none⟩ (enc x)).drew = w2 at S2 ⊢
      clear ea ec
      go_wp2
      go_roundg (n - (i + 1))
      case measure => omega
      case rel => exact ⟨i + 1, by go_num, by omega, Nat.le_refl _, S2⟩
    · have e : i = n := by omega
      subst e
      go_wp2
      go_end0
      refine ⟨rfl, ?_⟩
      rw [← swR_all L U Q V T HU.out HV.out]
      exact S1.out
end
end Go.Proofs.YtfpbhedophlnkaaGreatDoor
