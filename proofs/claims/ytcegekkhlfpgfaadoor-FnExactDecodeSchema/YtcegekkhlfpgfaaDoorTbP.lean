/-
  Schemas as plain data: which list of tables is one, what a map of names to widths tells, in which order. No program, no walk.
-/
import Derived.Test.YtcegekkhlfpgfaaDoorTb
import Derived.Test.YtcegekkhlfpgfaaDoorLess
namespace Go.Proofs.YtcegekkhlfpgfaaDoor
set_option linter.unusedSimpArgs false
set_option linter.unusedVariables false

abbrev Key := List UInt8
def Tb.key (t : Tb) : Key := t.name.data.toList
theorem key_inj {s t : Tb} (h : s.key = t.key) (hw : s.width = t.width) : s = t := by
  cases s; cases t
  simp only [Tb.key] at h hw
  have : ∀ {x y : ByteArray}, x.data.toList = y.data.toList → x = y := fun h => by apply ByteArray.ext; exact Array.toList_inj.1 h
  rw [this h, hw]
/-- The tables ascend by their names. -/
def AscT (l : List Tb) : Prop := l.Pairwise fun s t => s.key < t.key
instance (l : List Tb) : Decidable (AscT l) := inferInstanceAs (Decidable (l.Pairwise _))
def tableB (t : Tb) : Bool := wordB t.key && decide (1 ≤ t.width ∧ t.width ≤ 6)
/-- Whether a list of tables is a schema. -/
def schemaB (l : List Tb) : Bool := decide (l.length ≤ 8 ∧ (∀ t ∈ l, tableB t = true) ∧ AscT l)
theorem schemaB_iff {l : List Tb} : schemaB l = true ↔ l.length ≤ 8 ∧ (∀ t ∈ l, tableB t = true) ∧ AscT l := by simp only [schemaB, decide_eq_true_eq]
theorem schemaB_no {l : List Tb} (h : ¬ (l.length ≤ 8 ∧ (∀ t ∈ l, tableB t = true) ∧ AscT l)) : schemaB l = false := by simp only [schemaB, decide_eq_false_iff_not]; exact h
theorem klt_irrefl (a : Key) : ¬ a < a := List.lt_irrefl a

theorem ascT_take {l : List Tb} (h : AscT l) (j : Nat) : AscT (l.take j) := List.Pairwise.sublist (List.take_sublist _ _) h
/-- One table more. -/
theorem ascT_succ {l : List Tb} {j : Nat} {t : Tb} (h : AscT (l.take j)) (ht : l[j]? = some t) (hp : ∀ s, 0 < j → l[j - 1]? = some s → s.key < t.key) : AscT (l.take (j + 1)) := by
  rw [List.take_add_one, ht]
  refine List.pairwise_append.2 ⟨h, by simp, fun a ha b hb => ?_⟩
  obtain rfl : b = t := by simpa using hb
  cases j with
  | zero => simp at ha
  | succ j =>
    have hjl : j < l.length := by
      rcases Nat.lt_or_ge (j + 1) l.length with h1 | h1
      · omega
      · rw [List.getElem?_eq_none h1] at ht; cases ht
    have hs := hp l[j] (by omega) (by simp [List.getElem?_eq_getElem hjl])
    rw [List.take_succ_eq_append_getElem hjl] at h ha
    rcases List.mem_append.1 ha with h1 | h1
    · exact List.lt_trans ((List.pairwise_append.1 h).2.2 a h1 l[j] (by simp)) hs
    · simp at h1; subst h1; exact hs
theorem ascT_neigh {l : List Tb} (h : AscT l) {j : Nat} {s t : Tb} (hs : l[j]? = some s) (ht : l[j + 1]? = some t) : s.key < t.key := by
  obtain ⟨h1, rfl⟩ := List.getElem?_eq_some_iff.1 hs
  obtain ⟨h2, rfl⟩ := List.getElem?_eq_some_iff.1 ht
  exact List.pairwise_iff_getElem.1 h j (j + 1) h1 h2 (by omega)

/-! ### A map of names to widths -/
abbrev Fn := Key → Option Int
def upd (f : Fn) (k : Key) (v : Int) : Fn := fun x => if x = k then some v else f x
def fnOf (l : List Tb) : Fn := l.foldl (fun f t => upd f t.key t.width) (fun _ => none)
theorem fnOf_snoc (l : List Tb) (t : Tb) : fnOf (l ++ [t]) = upd (fnOf l) t.key t.width := by simp [fnOf, List.foldl_append]
theorem fnOf_take {l : List Tb} {j : Nat} {t : Tb} (h : l[j]? = some t) : fnOf (l.take (j + 1)) = upd (fnOf (l.take j)) t.key t.width := by
  rw [List.take_add_one, h]; exact fnOf_snoc _ _

/-- The list tells what the map has, by the names. -/
def ToldM (f : Fn) (l : List Tb) : Prop := AscT l ∧ ∀ k v, f k = some v ↔ ∃ t ∈ l, t.key = k ∧ t.width = v

theorem told_one : ∀ (l m : List Tb), AscT l → AscT m → (∀ k v, (∃ t ∈ l, t.key = k ∧ t.width = v) ↔ ∃ t ∈ m, t.key = k ∧ t.width = v) → l = m
  | [], [], _, _, _ => rfl
  | [], y :: m, _, _, h => by
    obtain ⟨t, ht, _⟩ := (h y.key y.width).2 ⟨y, by simp, rfl, rfl⟩; cases ht
  | x :: l, [], _, _, h => by
    obtain ⟨t, ht, _⟩ := (h x.key x.width).1 ⟨x, by simp, rfl, rfl⟩; cases ht
  | x :: l, y :: m, hl, hm, h => by
    have hl' := List.pairwise_cons.1 hl
    have hm' := List.pairwise_cons.1 hm
    have e : x = y := by
      obtain ⟨t, ht, h1, h2⟩ := (h x.key x.width).1 ⟨x, by simp, rfl, rfl⟩
      obtain ⟨u, hu, h3, h4⟩ := (h y.key y.width).2 ⟨y, by simp, rfl, rfl⟩
      rcases List.mem_cons.1 ht with ht | ht
      · subst ht; exact (key_inj h1 h2).symm
      rcases List.mem_cons.1 hu with hu | hu
      · subst hu; exact key_inj h3 h4
      have q1 := hm'.1 t ht
      have q2 := hl'.1 u hu
      rw [h1] at q1; rw [h3] at q2
      exact absurd (List.lt_trans q1 q2) (klt_irrefl _)
    subst e
    rw [told_one l m hl'.2 hm'.2 ?_]
    intro k v
    constructor
    · rintro ⟨t, ht, h1, h2⟩
      obtain ⟨u, hu, h3, h4⟩ := (h k v).1 ⟨t, List.mem_cons_of_mem _ ht, h1, h2⟩
      rcases List.mem_cons.1 hu with hu | hu
      · subst hu; have := hl'.1 t ht; rw [h1, h3] at this; exact absurd this (klt_irrefl _)
      · exact ⟨u, hu, h3, h4⟩
    · rintro ⟨t, ht, h1, h2⟩
      obtain ⟨u, hu, h3, h4⟩ := (h k v).2 ⟨t, List.mem_cons_of_mem _ ht, h1, h2⟩
      rcases List.mem_cons.1 hu with hu | hu
      · subst hu; have := hm'.1 t ht; rw [h1, h3] at this; exact absurd this (klt_irrefl _)
      · exact ⟨u, hu, h3, h4⟩
theorem ToldM.uniq {f : Fn} {l m : List Tb} (h : ToldM f l) (k : ToldM f m) : l = m :=
  told_one l m h.1 k.1 fun x v => (h.2 x v).symm.trans (k.2 x v)
/-- A list that ascends tells its own map. -/
theorem told_snoc {l : List Tb} {t : Tb} (h : AscT (l ++ [t])) (ih : ToldM (fnOf l) l) : ToldM (fnOf (l ++ [t])) (l ++ [t]) := by
  refine ⟨h, fun k v => ?_⟩
  obtain ⟨h1, _, h2⟩ := List.pairwise_append.1 h
  have ih := ih.2
  rw [fnOf_snoc]
  unfold upd
  by_cases e : k = t.key
  · rw [if_pos e]
    constructor
    · intro hv; injection hv with hv; exact ⟨t, by simp, e.symm, hv⟩
    · rintro ⟨s, hs, h3, h4⟩
      rcases List.mem_append.1 hs with hs | hs
      · have := h2 s hs t (by simp); rw [h3, e] at this; exact absurd this (klt_irrefl _)
      · simp at hs; subst hs; rw [h4]
  · rw [if_neg e, ih]
    constructor
    · rintro ⟨s, hs, h3, h4⟩; exact ⟨s, by simp [hs], h3, h4⟩
    · rintro ⟨s, hs, h3, h4⟩
      rcases List.mem_append.1 hs with hs | hs
      · exact ⟨s, hs, h3, h4⟩
      · simp at hs; subst hs; exact absurd h3.symm e
theorem told_take (l : List Tb) (h : AscT l) : ∀ j, j ≤ l.length → ToldM (fnOf (l.take j)) (l.take j)
  | 0, _ => ⟨List.Pairwise.nil, fun k v => by simp [fnOf]⟩
  | j + 1, hj => by
    have e : l.take (j + 1) = l.take j ++ [l[j]] := List.take_succ_eq_append_getElem (by omega)
    have h' := ascT_take h (j + 1)
    rw [e] at h' ⊢
    exact told_snoc h' (told_take l h j (by omega))
theorem told_self (l : List Tb) (h : AscT l) : ToldM (fnOf l) l := by
  have := told_take l h l.length (Nat.le_refl _)
  rwa [List.take_length] at this
/-- What is told of a list's own map is the list, just if it ascends. -/
theorem told_same {l m : List Tb} (h : ToldM (fnOf l) m) : m = l ↔ AscT l :=
  ⟨fun e => e ▸ h.1, fun ha => h.uniq (told_self l ha)⟩
end Go.Proofs.YtcegekkhlfpgfaaDoor
