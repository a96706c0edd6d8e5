/-
  Plain facts on stable sorting: lists that are sorted and hold each class of equals in the same order are the same list. No program, no walk.
-/
import Derived.Test.YtfbgflmolkgopaaMem
namespace Go.Proofs.Ytfbgflmolkgopaa
set_option linter.unusedSimpArgs false
set_option linter.unusedVariables false

/-- A strict weak order, by its test. -/
structure Wk {α : Type} (lt : α → α → Bool) : Prop where
  asym : ∀ x y, lt x y = true → lt y x = false
  trans : ∀ x y z, lt y x = false → lt z y = false → lt z x = false

section
variable {α : Type} {lt : α → α → Bool}
def eqv (lt : α → α → Bool) (x y : α) : Bool := !lt x y && !lt y x
/-- Each class of equals in the same order. -/
def SE (lt : α → α → Bool) (l m : List α) : Prop := ∀ x, l.filter (eqv lt x) = m.filter (eqv lt x)
/-- None stands before one that is less. -/
def Asc (lt : α → α → Bool) (l : List α) : Prop := l.Pairwise fun x y => lt y x = false

theorem Wk.irr (h : Wk lt) (x : α) : lt x x = false := by
  cases hx : lt x x with
  | false => rfl
  | true => have := h.asym x x hx; rw [hx] at this; exact this
theorem Wk.eqv_refl (h : Wk lt) (x : α) : eqv lt x x = true := by simp [eqv, h.irr]
theorem SE.refl (l : List α) : SE lt l l := fun _ => rfl
theorem SE.symm {l m : List α} (h : SE lt l m) : SE lt m l := fun x => (h x).symm
theorem SE.trans {l m n : List α} (h : SE lt l m) (k : SE lt m n) : SE lt l n := fun x => (h x).trans (k x)
theorem SE.app {a b c d : List α} (h : SE lt a b) (k : SE lt c d) : SE lt (a ++ c) (b ++ d) := fun x => by rw [List.filter_append, List.filter_append, h x, k x]
theorem SE.mem (hw : Wk lt) {l m : List α} (h : SE lt l m) {x : α} (hx : x ∈ l) : x ∈ m := by
  have h1 : x ∈ l.filter (eqv lt x) := List.mem_filter.2 ⟨hx, hw.eqv_refl x⟩
  rw [h x] at h1
  exact (List.mem_filter.1 h1).1
theorem SE.swap (hw : Wk lt) {X Y : List α} (h : ∀ x ∈ X, ∀ y ∈ Y, lt y x = true) : SE lt (X ++ Y) (Y ++ X) := by
  intro z
  rw [List.filter_append, List.filter_append]
  by_cases hX : X.filter (eqv lt z) = []
  · rw [hX]; simp
  · obtain ⟨x, hx⟩ := List.exists_mem_of_ne_nil _ hX
    have hx' := List.mem_filter.1 hx
    have hY : Y.filter (eqv lt z) = [] := by
      rw [List.filter_eq_nil_iff]
      intro y hy he
      have h1 := h x hx'.1 y hy
      have ex := hx'.2
      simp only [eqv, Bool.and_eq_true, Bool.not_eq_true'] at ex he
      have : lt y x = false := hw.trans x z y ex.1 he.2
      rw [h1] at this; cases this
    rw [hY]; simp
/-- Two that are sorted, with each class in the same order, are the same. -/
theorem Asc.uniq (hw : Wk lt) : ∀ {l m : List α}, Asc lt l → Asc lt m → SE lt l m → l = m
  | [], [], _, _, _ => rfl
  | [], y :: m, _, _, h => by have := h.symm.mem hw (x := y) (by simp); cases this
  | x :: l, [], _, _, h => by have := h.mem hw (x := x) (by simp); cases this
  | x :: l, y :: m, hl, hm, h => by
    have hl' := List.pairwise_cons.1 hl
    have hm' := List.pairwise_cons.1 hm
    have h1 : lt x y = false := by
      rcases List.mem_cons.1 (h.mem hw (x := x) (by simp)) with rfl | hx
      · exact hw.irr _
      · exact hm'.1 x hx
    have h2 : lt y x = false := by
      rcases List.mem_cons.1 (h.symm.mem hw (x := y) (by simp)) with rfl | hy
      · exact hw.irr _
      · exact hl'.1 y hy
    have hh := h x
    have ex : eqv lt x x = true := hw.eqv_refl x
    have ey : eqv lt x y = true := by simp [eqv, h1, h2]
    rw [List.filter_cons_of_pos ex, List.filter_cons_of_pos ey, List.cons.injEq] at hh
    obtain ⟨rfl, _⟩ := hh
    have ht : SE lt l m := by
      intro z
      have hz := h z
      rw [List.filter_cons, List.filter_cons] at hz
      split at hz
      · exact (List.cons.inj hz).2
      · exact hz
    rw [Asc.uniq hw hl'.2 hm'.2 ht]

theorem Asc.nil : Asc lt ([] : List α) := List.Pairwise.nil
theorem Asc.one (x : α) : Asc lt [x] := by simp [Asc]
/-- Two sorted ones, all of the first not above all of the second. -/
theorem Asc.app {l m : List α} (hl : Asc lt l) (hm : Asc lt m) (h : ∀ x ∈ l, ∀ y ∈ m, lt y x = false) : Asc lt (l ++ m) := List.pairwise_append.2 ⟨hl, hm, h⟩
theorem Asc.left {l m : List α} (h : Asc lt (l ++ m)) : Asc lt l := (List.pairwise_append.1 h).1
theorem Asc.right {l m : List α} (h : Asc lt (l ++ m)) : Asc lt m := (List.pairwise_append.1 h).2.1
theorem Asc.cross {l m : List α} (h : Asc lt (l ++ m)) {x y : α} (hx : x ∈ l) (hy : y ∈ m) : lt y x = false := (List.pairwise_append.1 h).2.2 x hx y hy
/-- One that is put behind all that are not above it. -/
theorem Asc.ins (hw : Wk lt) {U V : List α} {x : α} (h : Asc lt (U ++ V)) (hV : ∀ v ∈ V, lt x v = true) (hU : U = [] ∨ ∃ U' u, U = U' ++ [u] ∧ lt x u = false) : Asc lt (U ++ [x] ++ V) := by
  have hUx : ∀ u ∈ U, lt x u = false := by
    rcases hU with rfl | ⟨U', u, rfl, hu⟩
    · intro u h; cases h
    · intro v hv
      rcases List.mem_append.1 hv with h1 | h1
      · have h2 : lt u v = false := (h.left).cross h1 (by simp)
        exact hw.trans v u x h2 hu
      · simp at h1; subst h1; exact hu
  refine Asc.app (Asc.app h.left (Asc.one x) fun a ha y hy => ?_) h.right fun a ha v hv => ?_
  · simp at hy; subst hy; exact hUx a ha
  · rcases List.mem_append.1 ha with h1 | h1
    · exact h.cross h1 hv
    · simp at h1; subst h1; exact hw.asym _ _ (hV v hv)
theorem SE.ins (hw : Wk lt) {U V : List α} {x : α} (hV : ∀ v ∈ V, lt x v = true) : SE lt (U ++ V ++ [x]) (U ++ [x] ++ V) := by
  rw [List.append_assoc, List.append_assoc]
  exact SE.app (SE.refl U) (SE.swap hw fun v hv y hy => by simp at hy; subst hy; exact hV v hv)
/-- The two halves of a merge that goes by turning the middle. -/
theorem merge_parts (hw : Wk lt) {X1 X2 Y1 Y2 Z1 Z2 : List α} (hX : Asc lt (X1 ++ X2)) (hY : Asc lt (Y1 ++ Y2)) (h1 : ∀ x ∈ X2, ∀ y ∈ Y1, lt y x = true) (h2 : ∀ x ∈ X1, ∀ y ∈ Y2, lt y x = false)
    (a1 : Asc lt Z1) (a2 : Asc lt Z2) (e1 : SE lt Z1 (X1 ++ Y1)) (e2 : SE lt Z2 (X2 ++ Y2)) : Asc lt (Z1 ++ Z2) ∧ SE lt (Z1 ++ Z2) (X1 ++ X2 ++ (Y1 ++ Y2)) := by
  constructor
  · refine Asc.app a1 a2 fun x hx y hy => ?_
    rcases List.mem_append.1 (e1.mem hw hx) with k1 | k1 <;> rcases List.mem_append.1 (e2.mem hw hy) with k2 | k2
    · exact hX.cross k1 k2
    · exact h2 x k1 y k2
    · exact hw.asym _ _ (h1 y k2 x k1)
    · exact hY.cross k1 k2
  · refine (e1.app e2).trans ?_
    have := (SE.refl (lt := lt) X1).app ((SE.swap hw h1).symm.app (SE.refl Y2))
    simpa [List.append_assoc] using this
end

/-- Rows by their order. -/
def insL {α : Type} (lt : α → α → Bool) (x : α) : List α → List α
  | [] => [x]
  | y :: l => if lt x y then x :: y :: l else y :: insL lt x l
theorem insL_parts {α : Type} {lt : α → α → Bool} (x : α) : ∀ l : List α, ∃ U V, l = U ++ V ∧ insL lt x l = U ++ [x] ++ V ∧ (∀ u ∈ U, lt x u = false) ∧ (V = [] ∨ ∃ v V', V = v :: V' ∧ lt x v = true)
  | [] => ⟨[], [], rfl, rfl, (fun u h => by cases h), .inl rfl⟩
  | y :: l => by
    unfold insL
    split
    · exact ⟨[], y :: l, rfl, rfl, fun u h => (by cases h), .inr ⟨y, l, rfl, by assumption⟩⟩
    · obtain ⟨U, V, h1, h2, h3, h4⟩ := insL_parts (lt := lt) x l
      refine ⟨y :: U, V, by simp [h1], by simp [h2], fun u hu => ?_, h4⟩
      rcases List.mem_cons.1 hu with rfl | hu
      · simpa using ‹¬ lt x u = true›
      · exact h3 u hu
def sortL {α : Type} (lt : α → α → Bool) (l : List α) : List α := l.foldl (fun out x => insL lt x out) []
theorem insL_asc {α : Type} {lt : α → α → Bool} (hw : Wk lt) (x : α) (l : List α) (h : Asc lt l) : Asc lt (insL lt x l) ∧ SE lt (insL lt x l) (l ++ [x]) := by
  obtain ⟨U, V, rfl, h2, h3, h4⟩ := insL_parts (lt := lt) x l
  rw [h2]
  have hV : ∀ v ∈ V, lt x v = true := by
    rcases h4 with rfl | ⟨v, V', rfl, hv⟩
    · intro v h; cases h
    · intro u hu
      rcases List.mem_cons.1 hu with rfl | hu
      · exact hv
      · cases hx : lt x u with
        | true => rfl
        | false =>
          have h5 : lt u v = false := (List.pairwise_cons.1 h.right).1 u hu
          have := hw.trans v u x h5 hx
          rw [hv] at this; cases this
  refine ⟨h.ins hw hV ?_, (SE.ins hw hV).symm⟩
  rcases List.eq_nil_or_concat U with rfl | ⟨U', u, rfl⟩
  · exact .inl rfl
  · exact .inr ⟨U', u, by simp, h3 u (by simp)⟩
theorem sortL_asc {α : Type} {lt : α → α → Bool} (hw : Wk lt) (l : List α) : Asc lt (sortL lt l) ∧ SE lt (sortL lt l) l := by
  unfold sortL
  have key : ∀ (l acc : List α), Asc lt acc → Asc lt (l.foldl (fun out x => insL lt x out) acc) ∧ SE lt (l.foldl (fun out x => insL lt x out) acc) (acc ++ l) := by
    intro l
    induction l with
    | nil => intro acc h; exact ⟨h, by simp [SE]⟩
    | cons x l ih =>
      intro acc h
      have h1 := insL_asc hw x acc h
      have h2 := ih _ h1.1
      refine ⟨h2.1, h2.2.trans ?_⟩
      have := h1.2.app (SE.refl (lt := lt) l)
      simpa using this
  simpa using key l [] Asc.nil
theorem sortL_uniq {α : Type} {lt : α → α → Bool} (hw : Wk lt) {l m : List α} (h : Asc lt m) (k : SE lt m l) : m = sortL lt l :=
  Asc.uniq hw h (sortL_asc hw l).1 (k.trans (sortL_asc hw l).2.symm)
theorem sortL_len {α : Type} (lt : α → α → Bool) (l : List α) : (sortL lt l).length = l.length := by
  have hi : ∀ (x : α) (l : List α), (insL lt x l).length = l.length + 1 := by
    intro x l
    induction l with
    | nil => rfl
    | cons y l ih => unfold insL; split <;> simp [ih]
  have key : ∀ (l acc : List α), (l.foldl (fun out x => insL lt x out) acc).length = acc.length + l.length := by
    intro l
    induction l with
    | nil => intro acc; simp
    | cons x l ih => intro acc; rw [List.foldl_cons, ih, hi]; simp; omega
  have := key l []
  unfold sortL
  simpa using this
end Go.Proofs.Ytfbgflmolkgopaa
