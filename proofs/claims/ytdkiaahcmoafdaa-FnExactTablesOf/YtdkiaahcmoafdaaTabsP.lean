/-
  The names of a tree's scans are those of its nodes; what is sorted and freed of repeats is what the model puts in. Plain facts; no walk.
-/
import Derived.Test.YtdkiaahcmoafdaaTabs
import Derived.Test.YtdkiaahcmoafdaaITabs
import Derived.Lib.SlicesCompact
import Derived.Sort.EncStr
namespace Go.Proofs.Ytdkiaahcmoafdaa
open Go.RowKit
set_option linter.unusedSimpArgs false
set_option linter.unusedVariables false

/-- The nodes of a list from k on, till e. -/
def seg (p : List Nd) (k e : Nat) : List Nd := (p.take e).drop k
theorem seg_cons {p : List Nd} {k e : Nat} {n : Nd} (h : p[k]? = some n) (he : k < e) : seg p k e = n :: seg p (k + 1) e := by
  unfold seg
  have h1 : (p.take e)[k]? = some n := by rw [List.getElem?_take_of_lt he]; exact h
  obtain ⟨hk, hn⟩ := List.getElem?_eq_some_iff.1 h1
  rw [List.drop_eq_getElem_cons hk, hn]
theorem seg_app {p : List Nd} {k e e' : Nat} (h1 : k ≤ e) (h2 : e ≤ e') (h3 : e' ≤ p.length) : seg p k e ++ seg p e e' = seg p k e' := by
  unfold seg
  have h : p.take e' = p.take e ++ (p.take e').drop e := by
    have := List.take_append_drop e (p.take e')
    rw [List.take_take, Nat.min_eq_left h2] at this
    exact this.symm
  conv => rhs; rw [h]
  rw [List.drop_append_of_le_length (by rw [List.length_take]; omega)]
theorem seg_self (p : List Nd) (k : Nat) : seg p k k = [] := by
  unfold seg; rw [List.drop_eq_nil_iff]; simp; omega
theorem scans_app (a b : List Nd) : scans (a ++ b) = scans a ++ scans b := by simp [scans]
theorem scans_cons_no {n : Nd} (h : n.kind ≠ 0) (l : List Nd) : scans (n :: l) = scans l := by simp [scans, h]
theorem scans_cons_yes {n : Nd} (h : n.kind = 0) (l : List Nd) : scans (n :: l) = n.name :: scans l := by simp [scans, h]
theorem arity_zero {n : Nd} (h : nodeB n = true) (h1 : arity n.kind ≠ 1) (h2 : arity n.kind ≠ 2) : n.kind = 0 := by
  have := kind_of_nodeB h
  have hc : n.kind = 0 ∨ n.kind = 1 ∨ n.kind = 2 ∨ n.kind = 3 ∨ n.kind = 4 ∨ n.kind = 5 ∨ n.kind = 6 ∨ n.kind = 7 := by omega
  rcases hc with h | h | h | h | h | h | h | h
  · exact h
  all_goals (exfalso; rw [h] at h1 h2; revert h1 h2; decide)
theorem arity_pos {n : Nd} (h : nodeB n = true) (h1 : arity n.kind = 1 ∨ arity n.kind = 2) : 1 ≤ n.kind ∧ n.kind ≤ 7 := by
  have := kind_of_nodeB h
  by_cases h0 : n.kind = 0
  · rw [h0] at h1; exact absurd h1 (by decide)
  · omega

theorem growT_tabs (p : List Nd) : ∀ (f k : Nat) (T : Tr), growT p f k = some T → T.ok ∧ T.tabs = scans (seg p k T.en) := by
  intro f
  induction f with
  | zero => intro k T h; cases h
  | succ f ih =>
    intro k T h
    simp only [growT] at h
    cases hp : p[k]? with
    | none => rw [hp] at h; cases h
    | some n =>
      rw [hp] at h
      simp only at h
      cases hn : nodeB n with
      | false => rw [hn, if_pos rfl] at h; cases h
      | true =>
        rw [hn] at h
        simp only [Bool.true_eq_false, if_false] at h
        split at h
        · rename_i ha
          cases hc : growT p f (k + 1) with
          | none => rw [hc] at h; cases h
          | some c =>
            rw [hc] at h; simp only [Option.some.injEq] at h; subst h
            obtain ⟨h1, h2⟩ := ih _ _ hc
            have hs := growT_sound p _ _ _ hc
            have hk := arity_pos hn (.inl ha)
            refine ⟨⟨hk, h1⟩, ?_⟩
            show c.tabs = scans (seg p k c.en)
            rw [seg_cons hp (by omega), scans_cons_no (by omega), h2]
        · split at h
          · rename_i ha
            cases hc : growT p f (k + 1) with
            | none => rw [hc] at h; cases h
            | some c =>
              rw [hc] at h; simp only at h
              cases hd : growT p f c.en with
              | none => rw [hd] at h; cases h
              | some d =>
                rw [hd] at h; simp only [Option.some.injEq] at h; subst h
                obtain ⟨h1, h2⟩ := ih _ _ hc
                obtain ⟨g1, g2⟩ := ih _ _ hd
                have hs := growT_sound p _ _ _ hc
                have hs' := growT_sound p _ _ _ hd
                have hk := arity_pos hn (.inr ha)
                refine ⟨⟨hk, h1, g1⟩, ?_⟩
                show c.tabs ++ d.tabs = scans (seg p k d.en)
                rw [seg_cons hp (by omega), scans_cons_no (by omega), h2, g2, ← scans_app, seg_app (by omega) (by omega) (by omega)]
          · rename_i ha hb
            simp only [Option.some.injEq] at h; subst h
            have hk := arity_zero hn ha hb
            refine ⟨hk, ?_⟩
            show [n.name] = scans (seg p k (k + 1))
            rw [seg_cons hp (Nat.lt_succ_self _), seg_self, scans_cons_yes hk]; rfl
theorem treeN_tabs {p : List Nd} {T : Tr} (h : treeN p = some T) : T.ok ∧ T.tabs = scans p := by
  obtain ⟨_, h2, h3, _⟩ := treeN_some h
  obtain ⟨h4, h5⟩ := growT_tabs p _ _ _ h2
  refine ⟨h4, ?_⟩
  rw [h5, h3]; unfold seg; rw [List.take_length]; rfl

/-! ### Ascending lists -/
def Asc (l : List (List UInt8)) : Prop := l.Pairwise (· < ·)
theorem lt_irrefl' (a : List UInt8) : ¬ a < a := List.lt_irrefl a
theorem asc_eq : ∀ (l m : List (List UInt8)), Asc l → Asc m → (∀ z, z ∈ l ↔ z ∈ m) → l = m
  | [], [], _, _, _ => rfl
  | [], y :: m, _, _, h => by have := (h y).2 (by simp); cases this
  | x :: l, [], _, _, h => by have := (h x).1 (by simp); cases this
  | x :: l, y :: m, hl, hm, h => by
    have hl' := List.pairwise_cons.1 hl
    have hm' := List.pairwise_cons.1 hm
    have e : x = y := by
      have h1 := (h x).1 (by simp)
      have h2 := (h y).2 (by simp)
      rcases List.mem_cons.1 h1 with h1 | h1
      · exact h1
      rcases List.mem_cons.1 h2 with h2 | h2
      · exact h2.symm
      exact absurd (List.lt_trans (hm'.1 _ h1) (hl'.1 _ h2)) (lt_irrefl' _)
    subst e
    rw [asc_eq l m hl'.2 hm'.2 ?_]
    intro z
    constructor
    · intro hz
      rcases List.mem_cons.1 ((h z).1 (List.mem_cons_of_mem _ hz)) with h1 | h1
      · subst h1; exact absurd (hl'.1 _ hz) (lt_irrefl' _)
      · exact h1
    · intro hz
      rcases List.mem_cons.1 ((h z).2 (List.mem_cons_of_mem _ hz)) with h1 | h1
      · subst h1; exact absurd (hm'.1 _ hz) (lt_irrefl' _)
      · exact h1

/-- The bytes of texts. -/
def bytesS (l : List ByteArray) : List (List UInt8) := l.map fun x => x.data.toList
theorem bytes_inj {x y : ByteArray} (h : x.data.toList = y.data.toList) : x = y := by
  apply ByteArray.ext; exact Array.toList_inj.1 h
theorem bytesS_inj : ∀ {l m : List ByteArray}, bytesS l = bytesS m → l = m
  | [], [], _ => rfl
  | [], y :: m, h => by simp [bytesS] at h
  | x :: l, [], h => by simp [bytesS] at h
  | x :: l, y :: m, h => by
    simp only [bytesS, List.map_cons, List.cons.injEq] at h
    rw [bytes_inj h.1, bytesS_inj (l := l) (m := m) h.2]
theorem insS_asc (x : ByteArray) : ∀ l, Asc (bytesS l) → Asc (bytesS (insS x l))
  | [], _ => by simp [insS, bytesS, Asc]
  | y :: l, h => by
    have h' := List.pairwise_cons.1 (show ((y.data.toList) :: bytesS l).Pairwise (· < ·) from h)
    unfold insS
    split
    · exact h
    · rename_i hne
      split
      · rename_i hlt
        have hlt : x.data.toList < y.data.toList := by simpa [lessS] using hlt
        refine List.pairwise_cons.2 ⟨fun z hz => ?_, h⟩
        rcases List.mem_cons.1 (show z ∈ (y.data.toList) :: bytesS l from hz) with rfl | hz
        · exact hlt
        · exact List.lt_trans hlt (h'.1 _ hz)
      · rename_i hlt
        have hlt : ¬ x.data.toList < y.data.toList := by simpa [lessS] using hlt
        have hgt : y.data.toList < x.data.toList := by
          rcases Std.lt_trichotomy (a := y.data.toList) (b := x.data.toList) with h | h | h
          · exact h
          · exact absurd (bytes_inj h.symm) hne
          · exact absurd h hlt
        refine List.pairwise_cons.2 ⟨fun z hz => ?_, insS_asc x l h'.2⟩
        obtain ⟨u, hu, rfl⟩ := List.mem_map.1 hz
        rcases (insS_mem x l u).1 hu with rfl | hu
        · exact hgt
        · exact h'.1 _ (List.mem_map_of_mem hu)
theorem tabsOf_asc (l : List ByteArray) : ∀ (out : List ByteArray), Asc (bytesS out) → Asc (bytesS (l.foldl (fun out x => insS x out) out)) := by
  induction l with
  | nil => intro out h; exact h
  | cons x l ih => intro out h; exact ih _ (insS_asc x out h)

/-- What is freed of repeats in a list that does not descend ascends. -/
theorem compactUpTo_asc (d : Array (List UInt8)) (hs : ∀ i j, i < j → j < d.size → d[i]! ≤ d[j]!) : ∀ m, m ≤ d.size → Asc (Lib.compactUpTo d m) ∧ (∀ z, z ∈ Lib.compactUpTo d m ↔ ∃ j, j < m ∧ d[j]! = z)
  | 0, _ => by simp [Lib.compactUpTo, Asc]
  | m + 1, hm => by
    obtain ⟨h1, h2⟩ := compactUpTo_asc d hs m (by omega)
    rw [Lib.compactUpTo_succ]
    by_cases hk : Lib.keeps d m = true
    · rw [if_pos hk]
      constructor
      · refine List.pairwise_append.2 ⟨h1, by simp, fun a ha b hb => ?_⟩
        obtain rfl : b = d[m]! := by simpa using hb
        obtain ⟨j, hj, rfl⟩ := (h2 a).1 ha
        have hm0 : m ≠ 0 := by omega
        have hne : d[m]! ≠ d[m - 1]! := by simpa [Lib.keeps, hm0] using hk
        have hle : d[m - 1]! ≤ d[m]! := hs _ _ (by omega) (by omega)
        have hlt : d[m - 1]! < d[m]! := Std.lt_of_le_of_ne hle (Ne.symm hne)
        by_cases he : j = m - 1
        · subst he; exact hlt
        · exact Std.lt_of_le_of_lt (hs j (m - 1) (by omega) (by omega)) hlt
      · intro z
        rw [List.mem_append, h2]
        constructor
        · rintro (⟨j, hj, rfl⟩ | hz)
          · exact ⟨j, by omega, rfl⟩
          · exact ⟨m, by omega, (List.mem_singleton.1 hz).symm⟩
        · rintro ⟨j, hj, rfl⟩
          by_cases he : j = m
          · subst he; right; simp
          · exact .inl ⟨j, by omega, rfl⟩
    · rw [if_neg hk, List.append_nil]
      refine ⟨h1, fun z => ?_⟩
      rw [h2]
      have hm0 : m ≠ 0 := by intro e; subst e; exact hk (by simp [Lib.keeps])
      have he : d[m]! = d[m - 1]! := by
        apply Classical.byContradiction; intro hne
        exact hk (Lib.keeps_pos hne)
      constructor
      · rintro ⟨j, hj, rfl⟩; exact ⟨j, by omega, rfl⟩
      · rintro ⟨j, hj, rfl⟩
        by_cases hjm : j = m
        · subst hjm; exact ⟨j - 1, by omega, he.symm⟩
        · exact ⟨j, by omega, rfl⟩

theorem compact_sorted (l : List ByteArray) : Lib.compact ((bytesS l).mergeSort fun x y => decide (x ≤ y)) = bytesS (tabsOf l) := by
  have hsort : ((bytesS l).mergeSort fun x y => decide (x ≤ y)).Pairwise (fun x y => decide (x ≤ y) = true) :=
    List.pairwise_mergeSort (fun a b c h1 h2 => by simp only [decide_eq_true_eq] at *; exact Std.le_trans h1 h2) (fun a b => by
      rcases Std.le_total (a := a) (b := b) with h | h <;> simp [h]) _
  have hperm := List.mergeSort_perm (bytesS l) (fun x y => decide (x ≤ y))
  generalize (bytesS l).mergeSort (fun x y => decide (x ≤ y)) = s at hsort hperm ⊢
  have hs : ∀ i j, i < j → j < s.toArray.size → s.toArray[i]! ≤ s.toArray[j]! := by
    intro i j hij hj
    have hj' : j < s.length := by simpa using hj
    have := List.pairwise_iff_getElem.1 hsort i j (by omega) hj' hij
    rw [getElem!_pos _ i (by simp; omega), getElem!_pos _ j hj]
    simpa using this
  obtain ⟨h1, h2⟩ := compactUpTo_asc s.toArray hs s.toArray.size (Nat.le_refl _)
  have hsz : s.toArray.size = s.length := by simp
  rw [hsz] at h1 h2
  refine asc_eq _ _ h1 (tabsOf_asc l [] (by simp [bytesS, Asc])) fun z => ?_
  show z ∈ Lib.compactUpTo s.toArray s.length ↔ _
  rw [h2]
  have hm : z ∈ s ↔ z ∈ bytesS l := hperm.mem_iff
  constructor
  · rintro ⟨j, hj, rfl⟩
    have : s.toArray[j]! ∈ s := by rw [getElem!_pos _ j (by simpa using hj)]; simp
    obtain ⟨u, hu, e⟩ := List.mem_map.1 ((hperm.mem_iff).1 this)
    rw [← e]
    exact List.mem_map_of_mem ((tabsOf_mem l [] u).2 (.inl hu))
  · intro hz
    obtain ⟨u, hu, rfl⟩ := List.mem_map.1 hz
    rcases (tabsOf_mem l [] u).1 hu with hu | hu
    · have : u.data.toList ∈ s := (hperm.mem_iff).2 (List.mem_map_of_mem hu)
      obtain ⟨j, hj, e⟩ := List.mem_iff_getElem.1 this
      exact ⟨j, hj, by rw [getElem!_pos _ j (by simpa using hj)]; simpa using e⟩
    · cases hu
end Go.Proofs.Ytdkiaahcmoafdaa
