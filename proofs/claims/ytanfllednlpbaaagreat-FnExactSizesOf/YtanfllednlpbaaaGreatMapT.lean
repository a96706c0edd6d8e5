/-
  A map of names to widths in memory: what it reads as, key by key; the step of a loop over it. No walk.
-/
import Derived.Test.YtanfllednlpbaaaGreatJ6x
import Derived.Maps.RangeWalk
import Derived.Maps.OwnSet
import Derived.Maps.OwnOps
namespace Go.Proofs.YtanfllednlpbaaaGreat
open Go.RowKit Go.Maps
set_option linter.unusedSimpArgs false
set_option linter.unusedVariables false

abbrev DW := DataW Unit
theorem Tryz.keyed : Keyed Tryz.prog 9 := string_keyed Tryz.underlying9
/-- The datum has at each name what f says. -/
def FnD (D : DW) (f : Fn) : Prop := IsMap D ∧ ∀ k : Key, has D (.string k) = (f k).isSome ∧ ∀ v, f k = some v → ∀ z, D.atKey (.string k) z = .lit (.int .i64 v)
theorem FnD.empty : FnD (.map []) (fun _ => none) := ⟨isMap_empty, fun k => ⟨rfl, fun v h => by cases h⟩⟩
theorem FnD.put {D : DW} {f : Fn} (h : FnD D f) (k : Key) (v : Int) : FnD (D.put (.string k) (.lit (.int .i64 v))) (upd f k v) := by
  refine ⟨h.1.put _ _, fun x => ?_⟩
  unfold upd
  by_cases e : x = k
  · subst e
    rw [if_pos rfl]
    refine ⟨has_put_same (k := .string x) h.1 trivial _, fun u hu z => ?_⟩
    injection hu with hu; subst hu
    exact atKey_put_same (k := .string x) h.1 trivial _ _
  · rw [if_neg e]
    have hne : (Lit.string x) ≠ .string k := fun h => e (by injection h)
    exact ⟨(has_put_other hne _).trans (h.2 x).1, fun u hu z => (atKey_put_other hne _ _).trans ((h.2 x).2 u hu z)⟩
/-- The map in block b, with at most n entries. -/
def OwnM (w : World) (b n : Nat) (f : Fn) : Prop := ∃ D : DW, w.ownsMap Tryz.prog 9 (plainElem Tryz.prog 3) b n D ∧ FnD D f
theorem OwnM.lt {w : World} {b n : Nat} {f : Fn} (h : OwnM w b n f) : b < w.heap.size := by obtain ⟨D, h1, _⟩ := h; exact h1.lt
theorem OwnM.below {w w' : World} {b n : Nat} {f : Fn} (h : OwnM w b n f) (hb : Below w.heap.size w w') : OwnM w' b n f := by
  have hl := h.lt
  obtain ⟨D, ⟨es, clock, h1, h2⟩, h3⟩ := h
  exact ⟨D, ⟨es, clock, (hb.block b hl).trans h1, h2⟩, h3⟩
theorem owns_size {w : World} {b n : Nat} {D : DW} (h : w.ownsMap Tryz.prog 9 (plainElem Tryz.prog 3) b n D) : size D ≤ n := by
  obtain ⟨es, clock, _, _, hs, rfl⟩ := h
  rw [size_eq, length_sorted, List.length_map]; simpa using hs

/-- Those entries that are no longer to come are in the list, each once. -/
def Col (f : Fn) (left : Lit → Bool) (l : List Tb) : Prop :=
  l.Pairwise (fun s t => s.key ≠ t.key) ∧ ∀ k v, (f k = some v ∧ left (.string k) = false) ↔ ∃ t ∈ l, t.key = k ∧ t.width = v
theorem col_start {D : DW} {f : Fn} (h : FnD D f) : Col f (has D) [] :=
  ⟨List.Pairwise.nil, fun k v => ⟨fun ⟨h1, h2⟩ => (by rw [(h.2 k).1, h1] at h2; cases h2), fun ⟨t, ht, _⟩ => (by cases ht)⟩⟩
theorem col_step {D : DW} {f : Fn} {left : Lit → Bool} {l : List Tb} {t : Tb} (hD : FnD D f) (h : Col f left l) (hl : left (.string t.key) = true) (hat : ∀ zd, D.atKey (.string t.key) zd = .lit (.int .i64 t.width)) :
    Col f (fun z => left z && !z.sameKey (.string t.key)) (l ++ [t]) := by
  have hf : f t.key = some t.width := by
    cases hv : f t.key with
    | none =>
      have h1 : has D (.string t.key) = false := by rw [(hD.2 t.key).1, hv]; rfl
      have := hat .nil
      rw [atKey_of_not_has h1] at this; cases this
    | some v =>
      have := (hD.2 t.key).2 v hv .nil
      rw [hat .nil] at this
      injection this with this; injection this with _ this; rw [this]
  have hne : ∀ s ∈ l, s.key ≠ t.key := by
    intro s hs e
    have := ((h.2 s.key s.width).2 ⟨s, hs, rfl, rfl⟩).2
    rw [e, hl] at this; cases this
  refine ⟨List.pairwise_append.2 ⟨h.1, by simp, fun a ha b hb => (by rw [show b = t from (by simpa using hb)]; exact hne a ha)⟩, fun k v => ?_⟩
  by_cases e : k = t.key
  · subst e
    have hs : (Lit.string t.key).sameKey (.string t.key) = true := WideAt.sameKey_self trivial
    constructor
    · rintro ⟨h1, _⟩
      rw [hf] at h1; injection h1 with h1
      exact ⟨t, by simp, rfl, h1⟩
    · rintro ⟨s, hs', h1, h2⟩
      refine ⟨?_, by simp [hs]⟩
      rcases List.mem_append.1 hs' with h3 | h3
      · exact absurd h1 (hne s h3)
      · simp at h3; subst h3; rw [hf, h2]
  · have hs : (Lit.string k).sameKey (.string t.key) = false := sameKey_ne fun h => e (by injection h)
    simp only [hs, Bool.not_false, Bool.and_true]
    rw [h.2 k v]
    constructor
    · rintro ⟨s, h1, h2, h3⟩; exact ⟨s, by simp [h1], h2, h3⟩
    · rintro ⟨s, h1, h2, h3⟩
      rcases List.mem_append.1 h1 with h1 | h1
      · exact ⟨s, h1, h2, h3⟩
      · simp at h1; subst h1; exact absurd h2.symm e
/-- What is collected and sorted by the names is told. -/
theorem col_told {f : Fn} {left : Lit → Bool} {l m : List Tb} (h : Col f left l) (hl : ∀ kl, left kl = false) (hp : m.Perm l) (hs : m.Pairwise (fun s t => ¬ t.key < s.key)) : ToldM f m := by
  have hn : m.Pairwise (fun s t => s.key ≠ t.key) := (hp.pairwise_iff (fun {a b} (h : a.key ≠ b.key) => h.symm)).2 h.1
  refine ⟨?_, fun k v => ?_⟩
  · refine (hs.and hn).imp ?_
    rintro s t ⟨h1, h2⟩
    rcases Std.lt_trichotomy (a := s.key) (b := t.key) with h3 | h3 | h3
    · exact h3
    · exact absurd h3 h2
    · exact absurd h3 h1
  · have := h.2 k v
    rw [hl] at this
    simp only [and_true] at this
    rw [this]
    constructor
    · rintro ⟨t, h1, h2⟩; exact ⟨t, hp.mem_iff.2 h1, h2⟩
    · rintro ⟨t, h1, h2⟩; exact ⟨t, hp.mem_iff.1 h1, h2⟩

/-- 'for name, width := range w': one step. -/
theorem wpList_next_si {P : Program} (w : World) {ops : Array Oper} {rest : List Oper} {o : Oper} {a : Act} {Q : Exit → Act → World → Prop} (hg : o.guard = none) (it : Operand) (hop : o.op = Op.next it false) (k e : TypeId) (K : Keyed P k) (hk : P.underlying k = some .string) (he : P.underlying e = some (.int .i64))
    (b r n : Nat) (D : DW) (left : Lit → Bool) (cnt : Nat) (hit : a.eval it = .pointer (some ⟨r, 0, none⟩)) (h : w.ranges P k (plainElem P e) b r n D left cnt)
    (hDone : cnt = 0 → (∀ kl, left kl = false) → wpList P ops Q rest (a.put o.dst (.tuple #[.bool false])) w)
    (hMore : ∀ (x : ByteArray) (c : Int) (w' : World) (cnt' : Nat), x.size ≤ maxLen → left (.string x.data.toList) = true → (∀ zd, D.atKey (.string x.data.toList) zd = .lit (.int .i64 c)) → w'.ranges P k (plainElem P e) b r n D (fun z => left z && !z.sameKey (.string x.data.toList)) cnt' → cnt' < cnt →
      w.grownBy w' (some r) → w'.heap.size = w.heap.size → (Instr.entry (.pointer (some ⟨r, 0, none⟩))).run P w' = .ok (.tuple #[.string x, .int .i64 c]) w' → wpList P ops Q rest (a.put o.dst (.tuple #[.bool true, .string x, .int .i64 c])) w') :
    wpList P ops Q (o :: rest) a w :=
  wpList_next_ranges w hg it hop k K (plainElem P e) Value.string (Value.int .i64) (fun key kl hkey => by obtain ⟨x, rfl, _⟩ := WideMaps.string_of_keyOf hk hkey; exact ⟨x, rfl⟩) (fun v y hv => by obtain ⟨c, rfl, _⟩ := plainElem_int_inv he hv; exact ⟨c, rfl⟩)
    b r n D left cnt hit h hDone (fun x c kl y w' cnt' hkey hlk hv hat hrg hlt hgr hsz hen => by
      obtain ⟨x', ex, rfl, hwx⟩ := WideMaps.string_of_keyOf hk hkey
      cases ex
      obtain ⟨c', ec, rfl, hwc⟩ := plainElem_int_inv he hv
      cases ec
      exact hMore x c w' cnt' hwx hlk hat hrg hlt hgr hsz hen)
end Go.Proofs.YtanfllednlpbaaaGreat
