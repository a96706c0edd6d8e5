/-
  Tables as data and in memory: what a slice of tables reads as, what of it the call itself owns, and append of one table. No walk. Texts by their bytes: plain facts, and the contract of spec.l01Less. For every two texts. Schemas as plain data: which list of tables is one, what a map of names to widths tells, in which order. No program, no walk. The width of a tree under a map of names to widths. Plain facts; no walk. A tree of the program in memory, its columns where the plan has them; contract of impl.grow in these words. For every slice of nodes and every place.
-/
import Derived.Test.YtfpbhedophlnkaaDoorStrs
import Derived.Maps.AppendAt
import Derived.OwnWalk
import Derived.Deep.RegionWith
import Derived.Deep.QuietTactic
import Derived.BigQuiet
import Derived.Test.YtfpbhedophlnkaaDoorNodes
import Derived.Test.YtfpbhedophlnkaaDoorKT5
namespace Go.Proofs.YtfpbhedophlnkaaDoor
open Go.RowKit
set_option linter.unusedSimpArgs false
set_option linter.unusedVariables false

/-- A table, as data. -/
structure Tb where
  name : ByteArray
  width : Int

/-- The cells of a list of tables. -/
def tbC : List Tb → List Value
  | [] => []
  | t :: l => .string t.name :: .int .i64 t.width :: tbC l
theorem tbC_len : ∀ l : List Tb, (tbC l).length = l.length * 2
  | [] => rfl
  | t :: l => by simp only [tbC, List.length_cons, tbC_len l]; omega
theorem tbC_app : ∀ l m : List Tb, tbC (l ++ m) = tbC l ++ tbC m
  | [], _ => rfl
  | t :: l, m => by simp [tbC, tbC_app l m]
theorem tbC_one : ∀ (l : List Tb), ∀ u ∈ tbC l, u.oneCell' = true
  | [], u, h => by cases h
  | t :: l, u, h => by
    simp only [tbC, List.mem_cons] at h
    rcases h with rfl | rfl | h
    · rfl
    · rfl
    · exact tbC_one l u h
theorem tbC_get0 : ∀ (l : List Tb) (i : Nat) (t : Tb), l[i]? = some t → (tbC l)[i * 2]? = some (.string t.name)
  | [], i, t, h => by simp at h
  | s :: l, 0, t, h => by simp at h; subst h; rfl
  | s :: l, i + 1, t, h => by
    simp only [List.getElem?_cons_succ] at h
    rw [show (i + 1) * 2 = i * 2 + 1 + 1 by omega]
    simp only [tbC, List.getElem?_cons_succ]
    exact tbC_get0 l i t h
theorem tbC_get1 : ∀ (l : List Tb) (i : Nat) (t : Tb), l[i]? = some t → (tbC l)[i * 2 + 1]? = some (.int .i64 t.width)
  | [], i, t, h => by simp at h
  | s :: l, 0, t, h => by simp at h; subst h; rfl
  | s :: l, i + 1, t, h => by
    simp only [List.getElem?_cons_succ] at h
    rw [show (i + 1) * 2 + 1 = i * 2 + 1 + 1 + 1 by omega]
    simp only [tbC, List.getElem?_cons_succ]
    exact tbC_get1 l i t h

/-- The two cells at place o of block b read as the table t. -/
structure TbAt (w : World) (b o : Nat) (t : Tb) : Prop where
  c0 : w.cell? ⟨b, o, none⟩ = some (.string t.name)
  c1 : w.cell? ⟨b, o + 1, none⟩ = some (.int .i64 t.width)
  nm : t.name.size ≤ maxLen

/-- The slice that begins at 'ao' reads as the tables l. -/
def RdT (w : World) (ao : Option Addr) (l : List Tb) : Prop :=
  l = [] ∨ ∃ b off, ao = some ⟨b, off, none⟩ ∧ ∀ i t, l[i]? = some t → TbAt w b (off + i * 2) t

section
variable {w w' : World} {base b o : Nat} {t : Tb} {ao : Option Addr} {c : Nat} {l : List Tb}

theorem TbAt.lt (h : TbAt w b o t) : b < w.heap.size := World.block_lt_of_cell? w ⟨b, o, none⟩ h.c0
theorem TbAt.below (h : TbAt w b o t) (hb : Below w.heap.size w w') : TbAt w' b o t :=
  ⟨(hb.cell (p := ⟨b, o, none⟩) h.lt).trans h.c0, (hb.cell (p := ⟨b, o + 1, none⟩) h.lt).trans h.c1, h.nm⟩
theorem RdT.nil : RdT w ao [] := .inl rfl
theorem RdT.below (h : RdT w ao l) (hb : Below w.heap.size w w') : RdT w' ao l := by
  rcases h with h | ⟨b, off, rfl, hc⟩
  · exact .inl h
  · exact .inr ⟨b, off, rfl, fun i n hi => (hc i n hi).below hb⟩
theorem RdT.at_ (h : RdT w ao l) {i : Nat} (hi : i < l.length) : ∃ b off t, ao = some ⟨b, off, none⟩ ∧ l[i]? = some t ∧ TbAt w b (off + i * 2) t := by
  rcases h with rfl | ⟨b, off, rfl, hc⟩
  · simp at hi
  · exact ⟨b, off, _, rfl, List.getElem?_eq_getElem hi, hc i _ (List.getElem?_eq_getElem hi)⟩
theorem RdT.name (h : RdT w ao l) {t : Tb} (ht : t ∈ l) : t.name.size ≤ maxLen := by
  obtain ⟨i, hi, rfl⟩ := List.mem_iff_getElem.1 ht
  obtain ⟨b, off, t', rfl, hx, hat⟩ := h.at_ hi
  rw [List.getElem?_eq_getElem hi] at hx; cases hx
  exact hat.nm

end

end Go.Proofs.YtfpbhedophlnkaaDoor
namespace Go.Proofs.YtfpbhedophlnkaaDoor
open Go.RowKit
set_option linter.unusedSimpArgs false
set_option linter.unusedVariables false

theorem less_at {x y : UInt8} : ∀ (j : Nat) (a b : List UInt8), a.take j = b.take j → a[j]? = some x → b[j]? = some y → x ≠ y → (a < b ↔ x < y)
  | 0, [], _, _, h, _, _ => by simp at h
  | 0, _ :: _, [], _, _, h, _ => by simp at h
  | 0, u :: a, v :: b, _, hx, hy, hxy => by
    simp at hx hy; subst hx hy
    rw [List.cons_lt_cons_iff]
    constructor
    · rintro (h | ⟨h, _⟩)
      · exact h
      · exact absurd h hxy
    · exact fun h => .inl h
  | j + 1, [], _, _, h, _, _ => by simp at h
  | j + 1, _ :: _, [], _, _, h, _ => by simp at h
  | j + 1, u :: a, v :: b, ht, hx, hy, hxy => by
    simp only [List.take_succ_cons, List.cons.injEq] at ht
    obtain ⟨rfl, ht⟩ := ht
    simp only [List.getElem?_cons_succ] at hx hy
    rw [List.cons_lt_cons_iff, ← less_at j a b ht hx hy hxy]
    constructor
    · rintro (h | ⟨_, h⟩)
      · exact absurd h (UInt8.lt_irrefl _)
      · exact h
    · exact fun h => .inr ⟨rfl, h⟩
theorem less_end : ∀ (j : Nat) (a b : List UInt8), a.take j = b.take j → (a.length = j ∧ j ≤ b.length ∨ j ≤ a.length ∧ b.length = j) → (a < b ↔ a.length < b.length)
  | 0, [], [], _, _ => by simp
  | 0, [], _ :: _, _, _ => by simp
  | 0, _ :: _, [], _, _ => by simp
  | 0, _ :: _, _ :: _, _, h => by simp at h
  | j + 1, [], b, _, h => by simp at h
  | j + 1, u :: a, [], _, h => by simp at h
  | j + 1, u :: a, v :: b, ht, h => by
    simp only [List.take_succ_cons, List.cons.injEq] at ht
    obtain ⟨rfl, ht⟩ := ht
    simp only [List.length_cons] at h ⊢
    rw [List.cons_lt_cons_iff]
    have := less_end j a b ht (by omega)
    constructor
    · rintro (h | ⟨_, h⟩)
      · exact absurd h (UInt8.lt_irrefl _)
      · have := this.1 h; omega
    · exact fun h => .inr ⟨rfl, this.2 (by omega)⟩

/-- Whether a text is before another. -/
def lessS (a b : ByteArray) : Bool := decide (a.data.toList < b.data.toList)

end Go.Proofs.YtfpbhedophlnkaaDoor
namespace Go.Proofs.YtfpbhedophlnkaaDoor
set_option linter.unusedSimpArgs false
set_option linter.unusedVariables false

abbrev Key := List UInt8
def Tb.key (t : Tb) : Key := t.name.data.toList
theorem key_inj {s t : Tb} (h : s.key = t.key) (hw : s.width = t.width) : s = t := by
  cases s; cases t
  simp only [Tb.key] at h hw
  have : ∀ {x y : ByteArray}, x.data.toList = y.data.toList → x = y := fun h => by apply ByteArray.ext; exact Array.toList_inj.1 h
  rw [this h, hw]
/-- The tables ascend by their names. -/
def AscT (l : List Tb) : Prop := l.Pairwise fun s t => s.key < t.key
instance (l : List Tb) : Decidable (AscT l) := inferInstanceAs (Decidable (l.Pairwise _))
def tableB (t : Tb) : Bool := wordB t.key && decide (1 ≤ t.width ∧ t.width ≤ 6)
/-- Whether a list of tables is a schema. -/
def schemaB (l : List Tb) : Bool := decide (l.length ≤ 8 ∧ (∀ t ∈ l, tableB t = true) ∧ AscT l)
theorem schemaB_iff {l : List Tb} : schemaB l = true ↔ l.length ≤ 8 ∧ (∀ t ∈ l, tableB t = true) ∧ AscT l := by simp only [schemaB, decide_eq_true_eq]
theorem schemaB_no {l : List Tb} (h : ¬ (l.length ≤ 8 ∧ (∀ t ∈ l, tableB t = true) ∧ AscT l)) : schemaB l = false := by simp only [schemaB, decide_eq_false_iff_not]; exact h
theorem klt_irrefl (a : Key) : ¬ a < a := List.lt_irrefl a

theorem ascT_take {l : List Tb} (h : AscT l) (j : Nat) : AscT (l.take j) := List.Pairwise.sublist (List.take_sublist _ _) h
/-- One table more. -/
theorem ascT_succ {l : List Tb} {j : Nat} {t : Tb} (h : AscT (l.take j)) (ht : l[j]? = some t) (hp : ∀ s, 0 < j → l[j - 1]? = some s → s.key < t.key) : AscT (l.take (j + 1)) := by
  rw [List.take_add_one, ht]
  refine List.pairwise_append.2 ⟨h, by simp, fun a ha b hb => ?_⟩
  obtain rfl : b = t := by simpa using hb
  cases j with
  | zero => simp at ha
  | succ j =>
    have hjl : j < l.length := by
      rcases Nat.lt_or_ge (j + 1) l.length with h1 | h1
      · omega
      · rw [List.getElem?_eq_none h1] at ht; cases ht
    have hs := hp l[j] (by omega) (by simp [List.getElem?_eq_getElem hjl])
    rw [List.take_succ_eq_append_getElem hjl] at h ha
    rcases List.mem_append.1 ha with h1 | h1
    · exact List.lt_trans ((List.pairwise_append.1 h).2.2 a h1 l[j] (by simp)) hs
    · simp at h1; subst h1; exact hs
theorem ascT_neigh {l : List Tb} (h : AscT l) {j : Nat} {s t : Tb} (hs : l[j]? = some s) (ht : l[j + 1]? = some t) : s.key < t.key := by
  obtain ⟨h1, rfl⟩ := List.getElem?_eq_some_iff.1 hs
  obtain ⟨h2, rfl⟩ := List.getElem?_eq_some_iff.1 ht
  exact List.pairwise_iff_getElem.1 h j (j + 1) h1 h2 (by omega)

/-! ### A map of names to widths -/
abbrev Fn := Key → Option Int
def upd (f : Fn) (k : Key) (v : Int) : Fn := fun x => if x = k then some v else f x
def fnOf (l : List Tb) : Fn := l.foldl (fun f t => upd f t.key t.width) (fun _ => none)
theorem fnOf_snoc (l : List Tb) (t : Tb) : fnOf (l ++ [t]) = upd (fnOf l) t.key t.width := by simp [fnOf, List.foldl_append]
theorem fnOf_take {l : List Tb} {j : Nat} {t : Tb} (h : l[j]? = some t) : fnOf (l.take (j + 1)) = upd (fnOf (l.take j)) t.key t.width := by
  rw [List.take_add_one, h]; exact fnOf_snoc _ _

/-- The list tells what the map has, by the names. -/
def ToldM (f : Fn) (l : List Tb) : Prop := AscT l ∧ ∀ k v, f k = some v ↔ ∃ t ∈ l, t.key = k ∧ t.width = v

theorem told_one : ∀ (l m : List Tb), AscT l → AscT m → (∀ k v, (∃ t ∈ l, t.key = k ∧ t.width = v) ↔ ∃ t ∈ m, t.key = k ∧ t.width = v) → l = m
  | [], [], _, _, _ => rfl
  | [], y :: m, _, _, h => by
    obtain ⟨t, ht, _⟩ := (h y.key y.width).2 ⟨y, by simp, rfl, rfl⟩; cases ht
  | x :: l, [], _, _, h => by
    obtain ⟨t, ht, _⟩ := (h x.key x.width).1 ⟨x, by simp, rfl, rfl⟩; cases ht
  | x :: l, y :: m, hl, hm, h => by
    have hl' := List.pairwise_cons.1 hl
    have hm' := List.pairwise_cons.1 hm
    have e : x = y := by
      obtain ⟨t, ht, h1, h2⟩ := (h x.key x.width).1 ⟨x, by simp, rfl, rfl⟩
      obtain ⟨u, hu, h3, h4⟩ := (h y.key y.width).2 ⟨y, by simp, rfl, rfl⟩
      rcases List.mem_cons.1 ht with ht | ht
      · subst ht; exact (key_inj h1 h2).symm
      rcases List.mem_cons.1 hu with hu | hu
      · subst hu; exact key_inj h3 h4
      have q1 := hm'.1 t ht
      have q2 := hl'.1 u hu
      rw [h1] at q1; rw [h3] at q2
      exact absurd (List.lt_trans q1 q2) (klt_irrefl _)
    subst e
    rw [told_one l m hl'.2 hm'.2 ?_]
    intro k v
    constructor
    · rintro ⟨t, ht, h1, h2⟩
      obtain ⟨u, hu, h3, h4⟩ := (h k v).1 ⟨t, List.mem_cons_of_mem _ ht, h1, h2⟩
      rcases List.mem_cons.1 hu with hu | hu
      · subst hu; have := hl'.1 t ht; rw [h1, h3] at this; exact absurd this (klt_irrefl _)
      · exact ⟨u, hu, h3, h4⟩
    · rintro ⟨t, ht, h1, h2⟩
      obtain ⟨u, hu, h3, h4⟩ := (h k v).2 ⟨t, List.mem_cons_of_mem _ ht, h1, h2⟩
      rcases List.mem_cons.1 hu with hu | hu
      · subst hu; have := hm'.1 t ht; rw [h1, h3] at this; exact absurd this (klt_irrefl _)
      · exact ⟨u, hu, h3, h4⟩
theorem ToldM.uniq {f : Fn} {l m : List Tb} (h : ToldM f l) (k : ToldM f m) : l = m :=
  told_one l m h.1 k.1 fun x v => (h.2 x v).symm.trans (k.2 x v)
/-- A list that ascends tells its own map. -/
theorem told_snoc {l : List Tb} {t : Tb} (h : AscT (l ++ [t])) (ih : ToldM (fnOf l) l) : ToldM (fnOf (l ++ [t])) (l ++ [t]) := by
  refine ⟨h, fun k v => ?_⟩
  obtain ⟨h1, _, h2⟩ := List.pairwise_append.1 h
  have ih := ih.2
  rw [fnOf_snoc]
  unfold upd
  by_cases e : k = t.key
  · rw [if_pos e]
    constructor
    · intro hv; injection hv with hv; exact ⟨t, by simp, e.symm, hv⟩
    · rintro ⟨s, hs, h3, h4⟩
      rcases List.mem_append.1 hs with hs | hs
      · have := h2 s hs t (by simp); rw [h3, e] at this; exact absurd this (klt_irrefl _)
      · simp at hs; subst hs; rw [h4]
  · rw [if_neg e, ih]
    constructor
    · rintro ⟨s, hs, h3, h4⟩; exact ⟨s, by simp [hs], h3, h4⟩
    · rintro ⟨s, hs, h3, h4⟩
      rcases List.mem_append.1 hs with hs | hs
      · exact ⟨s, hs, h3, h4⟩
      · simp at hs; subst hs; exact absurd h3.symm e
theorem told_take (l : List Tb) (h : AscT l) : ∀ j, j ≤ l.length → ToldM (fnOf (l.take j)) (l.take j)
  | 0, _ => ⟨List.Pairwise.nil, fun k v => by simp [fnOf]⟩
  | j + 1, hj => by
    have e : l.take (j + 1) = l.take j ++ [l[j]] := List.take_succ_eq_append_getElem (by omega)
    have h' := ascT_take h (j + 1)
    rw [e] at h' ⊢
    exact told_snoc h' (told_take l h j (by omega))
theorem told_self (l : List Tb) (h : AscT l) : ToldM (fnOf l) l := by
  have := told_take l h l.length (Nat.le_refl _)
  rwa [List.take_length] at this
/-- What is told of a list's own map is the list, just if it ascends. -/
theorem told_same {l m : List Tb} (h : ToldM (fnOf l) m) : m = l ↔ AscT l :=
  ⟨fun e => e ▸ h.1, fun ha => h.uniq (told_self l ha)⟩
end Go.Proofs.YtfpbhedophlnkaaDoor
namespace Go.Proofs.YtfpbhedophlnkaaDoor
set_option linter.unusedSimpArgs false
set_option linter.unusedVariables false

/-- What a node of one child gives over a child of width w. -/
def over1 (n : Nd) (w : Int) : Int :=
  if n.kind = 1 ∨ n.kind = 5 then (if w ≤ n.col then -1 else w)
  else if n.kind = 2 then (if n.cols.all (fun x => decide (x < w)) = true then (n.cols.length : Int) else -1)
  else w
/-- What a node of two children gives. -/
def over2 (n : Nd) (w v : Int) : Int :=
  if n.kind = 3 then (if w ≤ n.col ∨ v ≤ n.num ∨ 64 < w + v then -1 else w + v)
  else (if w = v then w else -1)
def widT (f : Fn) : Tr → Int
  | .t0 n _ _ => (f n.name.data.toList).getD (-1)
  | .t1 n _ _ c => if widT f c = -1 then -1 else over1 n (widT f c)
  | .t2 n _ _ c d => if widT f c = -1 then -1 else if widT f d = -1 then -1 else over2 n (widT f c) (widT f d)
/-- The widths of a schema's tables may be. -/
def FnOk (f : Fn) : Prop := ∀ k v, f k = some v → 1 ≤ v ∧ v ≤ 6
theorem fnOk_schema {l : List Tb} (h : schemaB l = true) : FnOk (fnOf l) := by
  obtain ⟨_, h2, h3⟩ := schemaB_iff.1 h
  intro k v hv
  obtain ⟨t, ht, _, rfl⟩ := ((told_self l h3).2 k v).1 hv
  have := h2 t ht
  unfold tableB at this
  rw [Bool.and_eq_true, decide_eq_true_eq] at this
  exact this.2
/-- All its nodes are nodes. -/
def Tr.nodes : Tr → Prop
  | t0 n _ _ => nodeB n = true ∧ n.kind = 0
  | t1 n _ _ c => (nodeB n = true ∧ arity n.kind = 1) ∧ c.nodes
  | t2 n _ _ c d => (nodeB n = true ∧ arity n.kind = 2) ∧ c.nodes ∧ d.nodes
theorem cols_of_nodeB {n : Nd} (h : nodeB n = true) (hk : n.kind = 2) : 1 ≤ n.cols.length ∧ n.cols.length ≤ 6 := by
  unfold nodeB at h
  rw [if_neg (by omega), if_neg (by omega), if_pos hk, Bool.and_eq_true, decide_eq_true_eq] at h
  exact ⟨h.1.2.2.2.2.2.1, h.1.2.2.2.2.2.2⟩
theorem over1_wide {n : Nd} {w : Int} (h : nodeB n = true) (h1 : 1 ≤ w) (h2 : w ≤ 64) : over1 n w = -1 ∨ (1 ≤ over1 n w ∧ over1 n w ≤ 64) := by
  unfold over1
  split
  · split
    · exact .inl rfl
    · exact .inr ⟨h1, h2⟩
  · split
    · rename_i hk
      have := cols_of_nodeB h hk
      split
      · right; omega
      · exact .inl rfl
    · exact .inr ⟨h1, h2⟩
theorem over2_wide {n : Nd} {w v : Int} (h1 : 1 ≤ w) (h2 : w ≤ 64) (h3 : 1 ≤ v) : over2 n w v = -1 ∨ (1 ≤ over2 n w v ∧ over2 n w v ≤ 64) := by
  unfold over2
  split
  · split
    · exact .inl rfl
    · right; omega
  · split
    · exact .inr ⟨h1, h2⟩
    · exact .inl rfl
theorem widT_wide {f : Fn} (hf : FnOk f) : ∀ T : Tr, T.nodes → widT f T = -1 ∨ (1 ≤ widT f T ∧ widT f T ≤ 64) := by
  intro T
  induction T with
  | t0 n pl en =>
    intro _
    unfold widT
    cases hv : f n.name.data.toList with
    | none => exact .inl rfl
    | some v => have := hf _ _ hv; right; simp only [Option.getD_some]; omega
  | t1 n pl en c ih =>
    intro h
    unfold widT
    split
    · exact .inl rfl
    · rename_i hc
      rcases ih h.2 with h1 | ⟨h1, h2⟩
      · exact absurd h1 hc
      · exact over1_wide h.1.1 h1 h2
  | t2 n pl en c d ihc ihd =>
    intro h
    unfold widT
    split
    · exact .inl rfl
    · rename_i hc
      split
      · exact .inl rfl
      · rename_i hd
        rcases ihc h.2.1 with h1 | ⟨h1, h2⟩
        · exact absurd h1 hc
        rcases ihd h.2.2 with h3 | ⟨h3, h4⟩
        · exact absurd h3 hd
        exact over2_wide h1 h2 h3
end Go.Proofs.YtfpbhedophlnkaaDoor
namespace Go.Proofs.YtfpbhedophlnkaaDoor
open Go.RowKit
set_option linter.unusedSimpArgs false
set_option linter.unusedVariables false

/-- The four cells of a tree's node. -/
def HdQ (w0 w : World) (lo hi b : Nat) (n : Nd) (pl en : Nat) (below : Value) : Prop :=
  lo ≤ b ∧ b < hi ∧ ∃ a c, w.cell? ⟨b, 0, none⟩ = some (kindV n a c) ∧ w.cell? ⟨b, 1, none⟩ = some (.int .i64 pl) ∧ w.cell? ⟨b, 2, none⟩ = some (.int .i64 en) ∧ w.cell? ⟨b, 3, none⟩ = some below ∧ (Rd w0 .i64 a n.cols ∧ n.cols.length ≤ maxLen)

/-- The tree T lies at block b, all of it between lo and hi. -/
def TrQ (w0 w : World) (lo hi : Nat) : Tr → Nat → Prop
  | .t0 n pl en, b => HdQ w0 w lo hi b n pl en (.slice none 0 0)
  | .t1 n pl en c, b => ∃ g cap bc, HdQ w0 w lo hi b n pl en (.slice (some ⟨g, 0, none⟩) 1 cap) ∧ (lo ≤ g ∧ g < hi) ∧ w.cell? ⟨g, 0, none⟩ = some (.pointer (some ⟨bc, 0, none⟩)) ∧ TrQ w0 w lo hi c bc
  | .t2 n pl en c d, b => ∃ g cap bc bd, HdQ w0 w lo hi b n pl en (.slice (some ⟨g, 0, none⟩) 2 cap) ∧ (lo ≤ g ∧ g < hi) ∧ w.cell? ⟨g, 0, none⟩ = some (.pointer (some ⟨bc, 0, none⟩)) ∧ w.cell? ⟨g, 1, none⟩ = some (.pointer (some ⟨bd, 0, none⟩)) ∧ TrQ w0 w lo hi c bc ∧ TrQ w0 w lo hi d bd

theorem HdQ.keep {w0 w w' : World} {lo hi b : Nat} {n : Nd} {pl en : Nat} {v : Value} (h : HdQ w0 w lo hi b n pl en v) (hk : ∀ p : Addr, lo ≤ p.block → p.block < hi → w'.cell? p = w.cell? p) : HdQ w0 w' lo hi b n pl en v := by
  obtain ⟨h1, h2, a, c, c0, c1, c2, c3, q⟩ := h
  exact ⟨h1, h2, a, c, (hk _ h1 h2).trans c0, (hk _ h1 h2).trans c1, (hk _ h1 h2).trans c2, (hk _ h1 h2).trans c3, q⟩
theorem TrQ.keep {w0 w w' : World} {lo hi : Nat} (hk : ∀ p : Addr, lo ≤ p.block → p.block < hi → w'.cell? p = w.cell? p) : ∀ (T : Tr) (b : Nat), TrQ w0 w lo hi T b → TrQ w0 w' lo hi T b
  | .t0 n pl en, b, h => HdQ.keep h hk
  | .t1 n pl en c, b, ⟨g, cap, bc, h1, h2, h3, h4⟩ => ⟨g, cap, bc, h1.keep hk, h2, (hk _ h2.1 h2.2).trans h3, TrQ.keep hk c bc h4⟩
  | .t2 n pl en c d, b, ⟨g, cap, bc, bd, h1, h2, h3, h4, h5, h6⟩ => ⟨g, cap, bc, bd, h1.keep hk, h2, (hk _ h2.1 h2.2).trans h3, (hk _ h2.1 h2.2).trans h4, TrQ.keep hk c bc h5, TrQ.keep hk d bd h6⟩
theorem HdQ.wide {w0 w : World} {lo hi lo' hi' b : Nat} {n : Nd} {pl en : Nat} {v : Value} (h : HdQ w0 w lo hi b n pl en v) (h1 : lo' ≤ lo) (h2 : hi ≤ hi') : HdQ w0 w lo' hi' b n pl en v :=
  ⟨Nat.le_trans h1 h.1, Nat.lt_of_lt_of_le h.2.1 h2, h.2.2⟩
theorem TrQ.wide {w0 w : World} {lo hi lo' hi' : Nat} (h1 : lo' ≤ lo) (h2 : hi ≤ hi') : ∀ (T : Tr) (b : Nat), TrQ w0 w lo hi T b → TrQ w0 w lo' hi' T b
  | .t0 n pl en, b, h => HdQ.wide h h1 h2
  | .t1 n pl en c, b, ⟨g, cap, bc, k1, k2, k3, k4⟩ => ⟨g, cap, bc, k1.wide h1 h2, ⟨Nat.le_trans h1 k2.1, Nat.lt_of_lt_of_le k2.2 h2⟩, k3, TrQ.wide h1 h2 c bc k4⟩
  | .t2 n pl en c d, b, ⟨g, cap, bc, bd, k1, k2, k3, k4, k5, k6⟩ => ⟨g, cap, bc, bd, k1.wide h1 h2, ⟨Nat.le_trans h1 k2.1, Nat.lt_of_lt_of_le k2.2 h2⟩, k3, k4, TrQ.wide h1 h2 c bc k5, TrQ.wide h1 h2 d bd k6⟩
theorem TrQ.below {w0 w w' : World} {lo hi : Nat} {T : Tr} {b : Nat} (h : TrQ w0 w lo hi T b) (hh : hi ≤ w.heap.size) (hb : Below w.heap.size w w') : TrQ w0 w' lo hi T b :=
  TrQ.keep (fun _ _ hp => hb.cell (Nat.lt_of_lt_of_le hp hh)) T b h
theorem TrQ.head {w0 w : World} {lo hi : Nat} {T : Tr} {b : Nat} (h : TrQ w0 w lo hi T b) : ∃ v, HdQ w0 w lo hi b T.nd T.pl T.en v := by
  cases T with
  | t0 n pl en => exact ⟨_, h⟩
  | t1 n pl en c => obtain ⟨g, cap, bc, h1, _⟩ := h; exact ⟨_, h1⟩
  | t2 n pl en c d => obtain ⟨g, cap, bc, bd, h1, _⟩ := h; exact ⟨_, h1⟩
theorem TrQ.lt {w0 w : World} {lo hi : Nat} {T : Tr} {b : Nat} (h : TrQ w0 w lo hi T b) : lo ≤ b ∧ b < hi := by
  obtain ⟨v, h1, h2, _⟩ := h.head; exact ⟨h1, h2⟩

/-- What growing answers. -/
def GrowPostQ (w0 w : World) : Option Tr → Ending → World → Prop
  | none, e, w' => e = .returned (.pointer none) ∧ Below w.heap.size w w'
  | some T, e, w' => ∃ b, e = .returned (.pointer (some ⟨b, 0, none⟩)) ∧ TrQ w0 w' w.heap.size w'.heap.size T b ∧ Below w.heap.size w w'

theorem TrQ.tr {w0 w : World} {lo hi : Nat} : ∀ (T : Tr) (b : Nat), TrQ w0 w lo hi T b → TrAt w lo hi T b
  | .t0 n pl en, b, ⟨h1, h2, a, c, c0, c1, c2, c3, _⟩ => ⟨h1, h2, a, c, c0, c1, c2, c3⟩
  | .t1 n pl en c, b, ⟨g, cap, bc, ⟨h1, h2, a, c', c0, c1, c2, c3, _⟩, k2, k3, k4⟩ => ⟨g, cap, bc, ⟨h1, h2, a, c', c0, c1, c2, c3⟩, k2, k3, TrQ.tr c bc k4⟩
  | .t2 n pl en c d, b, ⟨g, cap, bc, bd, ⟨h1, h2, a, c', c0, c1, c2, c3, _⟩, k2, k3, k4, k5, k6⟩ => ⟨g, cap, bc, bd, ⟨h1, h2, a, c', c0, c1, c2, c3⟩, k2, k3, k4, TrQ.tr c bc k5, TrQ.tr d bd k6⟩
theorem put2_hdQ {w0 w : World} {lo tb : Nat} {v3 x3 : Value} {x2 : Value} {n : Nd} {a : Option Addr} {c : Nat} {pl en : Nat} (h0 : w.cell? ⟨tb, 0, none⟩ = some (kindV n a c)) (h1 : w.cell? ⟨tb, 1, none⟩ = some (.int .i64 pl))
    (h2 : w.cell? ⟨tb, 2, none⟩ = some x2) (h3 : w.cell? ⟨tb, 3, none⟩ = some x3) (hlo : lo ≤ tb) (q : Rd w0 .i64 a n.cols ∧ n.cols.length ≤ maxLen) : HdQ w0 (put2 w tb v3 (.int .i64 en)) lo w.heap.size tb n pl en v3 := by
  have hlt : tb < w.heap.size := World.block_lt_of_cell? w ⟨tb, 0, none⟩ h0
  refine ⟨hlo, hlt, a, c, ?_, ?_, ?_, ?_, q⟩
  · unfold put2; rw [World.cell?_setCell_other _ _ _ _ (by simp), World.cell?_setCell_other _ _ _ _ (by simp)]; exact h0
  · unfold put2; rw [World.cell?_setCell_other _ _ _ _ (by simp), World.cell?_setCell_other _ _ _ _ (by simp)]; exact h1
  · unfold put2
    exact World.cell?_setCell_same _ _ _ ((World.cell?_setCell_other _ _ _ _ (by simp)).trans h2)
  · unfold put2; rw [World.cell?_setCell_other _ _ _ _ (by simp)]
    exact World.cell?_setCell_same _ _ _ h3

theorem growT_nodes (p : List Nd) : ∀ (f k : Nat) (T : Tr), growT p f k = some T → T.nodes := by
  intro f
  induction f with
  | zero => intro k T h; cases h
  | succ f ih =>
    intro k T h
    simp only [growT] at h
    cases hp : p[k]? with
    | none => rw [hp] at h; cases h
    | some n =>
      rw [hp] at h
      simp only at h
      cases hn : nodeB n with
      | false => rw [hn, if_pos rfl] at h; cases h
      | true =>
        rw [hn] at h
        simp only [Bool.true_eq_false, if_false] at h
        split at h
        · rename_i ha
          cases hc : growT p f (k + 1) with
          | none => rw [hc] at h; cases h
          | some c =>
            rw [hc] at h; simp only [Option.some.injEq] at h; subst h
            exact ⟨⟨hn, ha⟩, ih _ _ hc⟩
        · split at h
          · rename_i ha
            cases hc : growT p f (k + 1) with
            | none => rw [hc] at h; cases h
            | some c =>
              rw [hc] at h; simp only at h
              cases hd : growT p f c.en with
              | none => rw [hd] at h; cases h
              | some d =>
                rw [hd] at h; simp only [Option.some.injEq] at h; subst h
                exact ⟨⟨hn, ha⟩, ih _ _ hc, ih _ _ hd⟩
          · rename_i h1 h2
            simp only [Option.some.injEq] at h; subst h
            refine ⟨hn, ?_⟩
            have := arity_of_nodeB hn
            have hk := kind_of_nodeB hn
            rcases this with h3 | h3 | h3
            · have hc : n.kind = 0 ∨ n.kind = 1 ∨ n.kind = 2 ∨ n.kind = 3 ∨ n.kind = 4 ∨ n.kind = 5 ∨ n.kind = 6 ∨ n.kind = 7 := by omega
              rcases hc with h | h | h | h | h | h | h | h
              · exact h
              all_goals (exfalso; rw [h] at h3; revert h3; decide)
            · exact absurd h3 h1
            · exact absurd h3 h2

set_option maxRecDepth 100000 in
set_option maxHeartbeats 4000000 in
theorem growQ_any (w0 : World) (ao : Option Addr) (c : Nat) (p : List Nd) (hp : Small p) (h0 : RdN w0 ao p) : ∀ (f : Nat) (k : Int) (w : World), Below w0.heap.size w0 w → 0 ≤ k → k ≤ 1048576 → (p.length : Int) ≤ f + k →
    Calls Tryd.prog 45 #[.slice ao p.length c, .int .i64 k] w (GrowPostQ w0 w (growT p f k.toNat)) := by
  have hpl := hp.1
  have HP := Lib.hid hp.2
  have HH0 := Lib.hid h0
  clear hp h0
  intro f
  induction f with
  | zero =>
    intro k w h hk0 hk1 hf
    have hk : (p.length : Int) ≤ k := by omega
    go_enter Tryd.func45, Tryd.ntmps45
    go_wp2_with fail
    go_ret
    exact ⟨rfl, Below.refl _ _⟩
  | succ f ih =>
    intro k w h hk0 hk1 hf
    have IH := Lib.hid ih; clear ih
    by_cases hk : (p.length : Int) ≤ k
    · rw [growT_out (show p.length ≤ k.toNat by omega)]
      go_enter Tryd.func45, Tryd.ntmps45
      go_wp2_with fail
      go_ret
      exact ⟨rfl, Below.refl _ _⟩
    have hk' : k < (p.length : Int) := by omega
    obtain ⟨b, off, n, a, c', rfl, hn, hat00⟩ := HH0.out.at_ (i := k.toNat) (by omega)
    have QQ := Lib.hid (show Rd w0 .i64 a n.cols ∧ n.cols.length ≤ maxLen from ⟨hat00.rd, Nat.le_trans hat00.cap hat00.mx⟩)
    have hat := hat00.below h
    clear hat00
    have H := Lib.hid h; clear h
    have HN := Lib.hid hn
    have hcl := HP.out n (List.mem_of_getElem? hn)
    clear hn hk
    have hat0 := Lib.hid hat
    obtain ⟨c0, c1, c2, c3, c4, c5, c6, rd, cap, mx, nm⟩ := hat
    have RD := Lib.hid rd
    have NK := Lib.hid (fun w => implNodeOk_any n a c' w)
    clear rd cap mx
    cases hnb : nodeB n with
    | false =>
      have HB := Lib.hid hnb; clear hnb
      rw [growT_no HN.out HB.out]
      go_enter Tryd.func45, Tryd.ntmps45
      go_wp2_with fail
      refine (NK.out _ RD.out (by omega) nm).mono ?_
      rintro e w1 ⟨rfl, b1⟩
      rw [HB.out]
      go_wp2_with fail
      go_ret
      exact ⟨rfl, b1⟩
    | true =>
      have HB := Lib.hid hnb; clear hnb
      obtain ⟨t, v, hkv⟩ := kindV_iface HB.out a c'
      have KV := Lib.hid hkv
      have AR := Lib.hid (show ∀ w, Calls Tryd.prog 55 #[.iface t v] w fun e w' => e = .returned (.int .i64 (arity n.kind)) ∧ w = w' from fun w => hkv ▸ arityOf_any n a c' w)
      clear hkv
      have ha := arity_of_nodeB HB.out
      generalize hres : growT p (f + 1) k.toNat = res
      have RES := Lib.hid hres; clear hres
      go_enter Tryd.func45, Tryd.ntmps45
      go_wp2_with fail
      refine (NK.out _ RD.out (by omega) nm).mono ?_
      rintro e w1 ⟨rfl, b1⟩
      rw [HB.out]
      obtain ⟨d0, d1, d2, d3, d4, d5, d6, _⟩ := hat0.out.below b1
      have B1 := Lib.hid b1
      clear b1 c0 c1 c2 c3 c4 c5 c6
      go_wp2_with fail
      refine (kindOf_any n a c' _).mono ?_
      rintro e w2 ⟨rfl, b2⟩
      rw [KV.out]
      have B2 := Lib.hid (below_step B1.out (Nat.le_refl _) b2)
      clear b2 d0 d1 d2 d3 d4 d5 d6
      go_wp2_with fail
      refine (AR.out _).mono ?_
      rintro e w' ⟨rfl, rfl⟩
      have B3 := Lib.hid (show Below w.heap.size w (w2.alloc (.cells #[.iface t v, .int .i64 k, .int .i64 (k + 1), .slice none 0 0] 90)) from B2.out.alloc B2.out.size _)
      have R3 := Lib.hid (below_step H.out (Nat.le_refl _) B3.out)
      rcases ha with ha | ha | ha
      · have HA := Lib.hid ha; clear ha
        rw [HA.out]
        go_wp2_with fail
        refine wp_loop_rounds 1 ?_; rw [rounds_succ]
        go_wp2_with fail
        go_ret
        have e1 : res = some (.t0 n k.toNat (k.toNat + 1)) := RES.out.symm.trans (growT_0 HN.out HB.out (by rw [HA.out]; decide) (by rw [HA.out]; decide))
        rw [e1]
        refine ⟨w2.heap.size, rfl, ⟨B2.out.size, by simp, a, c', ?_, ?_, ?_, ?_, QQ.out⟩, B3.out⟩
        · rw [KV.out]; simp
        · simp; omega
        · simp; omega
        · simp
      · have HA := Lib.hid ha; clear ha
        rw [HA.out]
        go_wp2_with fail
        refine wp_loop_rounds 2 ?_; rw [rounds_succ]
        go_wp2_with fail
        refine (IH.out (k + 1) _ R3.out (by omega) (by omega) (by omega)).mono ?_
        rw [show (k + 1).toNat = k.toNat + 1 from by omega]
        intro e w4 hpost
        cases hc : growT p f (k.toNat + 1) with
        | none =>
          rw [hc] at hpost
          obtain ⟨rfl, b4⟩ := hpost
          have e1 := Lib.hid (RES.out.symm.trans (growT_1n HN.out HA.out hc))
          clear hc
          have T4 := Lib.hid (below_step B3.out (Nat.le_refl _) b4)
          clear b4
          go_wp2_with fail
          go_ret
          rw [e1.out]
          exact ⟨rfl, T4.out⟩
        | some ch =>
          rw [hc] at hpost
          obtain ⟨bc, rfl, tr, b4⟩ := hpost
          have e1 := Lib.hid (RES.out.symm.trans (growT_1s HN.out HB.out HA.out hc))
          clear hc
          have hc4 := fun o => b4.cell (p := ⟨w2.heap.size, o, none⟩) (by simp)
          have hf4 := fun o => b4.frozen (p := ⟨w2.heap.size, o, none⟩) (by simp)
          have hz4 : w2.heap.size < w4.heap.size := by have := b4.size; simp at this; omega
          have T4 := Lib.hid (below_step B3.out (Nat.le_refl _) b4)
          have TR := Lib.hid tr
          have hbc : w2.heap.size < bc := by have := tr.lt.1; simp at this; omega
          have hbc4 : bc < w4.heap.size := tr.lt.2
          obtain ⟨_, _, _, _, _, _, _, hce, _⟩ := tr.head
          clear tr b4
          go_wp2_with (at_builtin; refine wpList_appendV _ rfl (.tmp 48) (.tmp 50) 88 rfl w.heap.size 52 (.pointer none) 8 Tryd.underlying88 Tryd.infoPtr rfl none 0 0 [] rfl rfl OwnV.none_ w4.heap.size 1 (.pointer (some ⟨bc, 0, none⟩)) rfl (cell_one _ _ _) rfl (by simp [maxLen]) (by simp) (by have := T4.out.size; simp; omega) ?_; intro ao' c6 w6 o6 g6 l6; obtain rfl : ao' = some ⟨w4.heap.size + 1, 0, none⟩ := new_row o6 l6; have b6 := below_of_grown g6 (Nat.le_refl _) (by intro g hg; cases hg); have hc6 := fun o => b6.cell (p := ⟨w2.heap.size, o, none⟩) (by simp; omega); have hf6 := fun o => b6.frozen (p := ⟨w2.heap.size, o, none⟩) (by simp; omega); have hd6 := fun o => b6.cell (p := ⟨bc, o, none⟩) (by simp; omega); have O6 := Lib.hid o6; have B6 := Lib.hid b6; clear o6 g6 l6 b6)
          rw [rounds_succ]
          go_wp2_with fail
          go_ret
          rw [e1.out]
          have z6 : w4.heap.size + 1 < (put2 w6 w2.heap.size (.slice (some ⟨w4.heap.size + 1, 0, none⟩) 1 c6) (.int .i64 ch.en)).heap.size := by
            rw [put2_size]; exact ((O6.out.lt _ rfl).2)
          have k0 : w6.cell? ⟨w2.heap.size, 0, none⟩ = some (kindV n a c') := by rw [hc6, World.cell?_alloc_lt _ _ _ (by simp; omega), hc4, KV.out]; simp
          have k1 : w6.cell? ⟨w2.heap.size, 1, none⟩ = some (.int .i64 (k.toNat : Int)) := by rw [hc6, World.cell?_alloc_lt _ _ _ (by simp; omega), hc4]; simp; omega
          have k2 : w6.cell? ⟨w2.heap.size, 2, none⟩ = some (.int .i64 (k + 1)) := by rw [hc6, World.cell?_alloc_lt _ _ _ (by simp; omega), hc4]; simp
          have k3 : w6.cell? ⟨w2.heap.size, 3, none⟩ = some (.slice none 0 0) := by rw [hc6, World.cell?_alloc_lt _ _ _ (by simp; omega), hc4]; simp
          have t6 := (((TR.out.below (Nat.le_refl _) ((Below.refl _ w4).alloc (Nat.le_refl _) _)).below (by simp) B6.out))
          refine ⟨w2.heap.size, rfl, ⟨w4.heap.size + 1, c6, bc, ?_, ⟨?_, z6⟩, ?_, ?_⟩, ?_⟩
          · exact (put2_hdQ k0 k1 k2 k3 B2.out.size QQ.out).wide (Nat.le_refl _) (by rw [← put2_size (v3 := .slice (some ⟨w4.heap.size + 1, 0, none⟩) 1 c6) (v2 := .int .i64 ch.en)]; exact Nat.le_refl _)
          · have := T4.out.size; omega
          · exact (put2_far (by simp; omega)).trans (O6.out.cell 0 (by simp))
          · refine TrQ.wide (lo := w2.heap.size + 1) (hi := w4.heap.size) (by have := B2.out.size; omega) (Nat.le_of_lt (Nat.lt_trans (Nat.lt_succ_self _) z6)) _ _ (TrQ.keep (w := w6) (fun q h1 h2 => put2_far (by omega)) _ _ ?_)
            simpa using t6
          · exact put2_below (below_step (T4.out.alloc T4.out.size _) (Nat.le_refl _) B6.out) B2.out.size
      · have HA := Lib.hid ha; clear ha
        rw [HA.out]
        go_wp2_with fail
        refine wp_loop_rounds 3 ?_; rw [rounds_succ]
        go_wp2_with fail
        refine (IH.out (k + 1) _ R3.out (by omega) (by omega) (by omega)).mono ?_
        rw [show (k + 1).toNat = k.toNat + 1 from by omega]
        intro e w4 hpost
        cases hc : growT p f (k.toNat + 1) with
        | none =>
          rw [hc] at hpost
          obtain ⟨rfl, b4⟩ := hpost
          have e1 := Lib.hid (RES.out.symm.trans (growT_2n HN.out HA.out hc))
          clear hc
          have T4 := Lib.hid (below_step B3.out (Nat.le_refl _) b4)
          clear b4
          go_wp2_with fail
          go_ret
          rw [e1.out]
          exact ⟨rfl, T4.out⟩
        | some ch =>
          rw [hc] at hpost
          obtain ⟨bc, rfl, tr, b4⟩ := hpost
          have HC := Lib.hid hc
          obtain ⟨_, s2, s3, _⟩ := growT_sound p _ _ _ hc
          clear hc
          have hc4 := fun o => b4.cell (p := ⟨w2.heap.size, o, none⟩) (by simp)
          have hf4 := fun o => b4.frozen (p := ⟨w2.heap.size, o, none⟩) (by simp)
          have hz4 : w2.heap.size < w4.heap.size := by have := b4.size; simp at this; omega
          have T4 := Lib.hid (below_step B3.out (Nat.le_refl _) b4)
          have TR := Lib.hid tr
          have hbc : w2.heap.size < bc := by have := tr.lt.1; simp at this; omega
          have hbc4 : bc < w4.heap.size := tr.lt.2
          obtain ⟨_, _, _, _, _, _, _, hce, _⟩ := tr.head
          clear tr b4
          go_wp2_with (at_builtin; refine wpList_appendV _ rfl (.tmp 48) (.tmp 50) 88 rfl w.heap.size 52 (.pointer none) 8 Tryd.underlying88 Tryd.infoPtr rfl none 0 0 [] rfl rfl OwnV.none_ w4.heap.size 1 (.pointer (some ⟨bc, 0, none⟩)) rfl (cell_one _ _ _) rfl (by simp [maxLen]) (by simp) (by have := T4.out.size; simp; omega) ?_; intro ao' c6 w6 o6 g6 l6; obtain rfl : ao' = some ⟨w4.heap.size + 1, 0, none⟩ := new_row o6 l6; have b6 := below_of_grown g6 (Nat.le_refl _) (by intro g hg; cases hg); have hc6 := fun o => b6.cell (p := ⟨w2.heap.size, o, none⟩) (by simp; omega); have hf6 := fun o => b6.frozen (p := ⟨w2.heap.size, o, none⟩) (by simp; omega); have hd6 := fun o => b6.cell (p := ⟨bc, o, none⟩) (by simp; omega); have O6 := Lib.hid o6; have B6 := Lib.hid b6; clear o6 g6 l6 b6)
          rw [rounds_succ]
          go_wp2_with fail
          have k0 : (put2 w6 w2.heap.size (.slice (some ⟨w4.heap.size + 1, 0, none⟩) 1 c6) (.int .i64 ch.en)).cell? ⟨w2.heap.size, 0, none⟩ = some (.iface t v) := by
            unfold put2; rw [World.cell?_setCell_other _ _ _ _ (by simp), World.cell?_setCell_other _ _ _ _ (by simp), hc6, World.cell?_alloc_lt _ _ _ (by simp; omega), hc4]; simp
          have k1 : (put2 w6 w2.heap.size (.slice (some ⟨w4.heap.size + 1, 0, none⟩) 1 c6) (.int .i64 ch.en)).cell? ⟨w2.heap.size, 1, none⟩ = some (.int .i64 k) := by
            unfold put2; rw [World.cell?_setCell_other _ _ _ _ (by simp), World.cell?_setCell_other _ _ _ _ (by simp), hc6, World.cell?_alloc_lt _ _ _ (by simp; omega), hc4]; simp
          have j2 : w6.cell? ⟨w2.heap.size, 2, none⟩ = some (.int .i64 (k + 1)) := by rw [hc6, World.cell?_alloc_lt _ _ _ (by simp; omega), hc4]; simp
          have j3 : w6.cell? ⟨w2.heap.size, 3, none⟩ = some (.slice none 0 0) := by rw [hc6, World.cell?_alloc_lt _ _ _ (by simp; omega), hc4]; simp
          have k2 : (put2 w6 w2.heap.size (.slice (some ⟨w4.heap.size + 1, 0, none⟩) 1 c6) (.int .i64 ch.en)).cell? ⟨w2.heap.size, 2, none⟩ = some (.int .i64 ch.en) := by
            unfold put2; exact World.cell?_setCell_same _ _ _ ((World.cell?_setCell_other _ _ _ _ (by simp)).trans j2)
          have k3 : (put2 w6 w2.heap.size (.slice (some ⟨w4.heap.size + 1, 0, none⟩) 1 c6) (.int .i64 ch.en)).cell? ⟨w2.heap.size, 3, none⟩ = some (.slice (some ⟨w4.heap.size + 1, 0, none⟩) 1 c6) := by
            unfold put2; rw [World.cell?_setCell_other _ _ _ _ (by simp)]; exact World.cell?_setCell_same _ _ _ j3
          have kf : ∀ o, (put2 w6 w2.heap.size (.slice (some ⟨w4.heap.size + 1, 0, none⟩) 1 c6) (.int .i64 ch.en)).frozen? ⟨w2.heap.size, o, none⟩ = false := fun o => by
            unfold put2; go_simp
          have O7 := Lib.hid (show OwnV (put2 w6 w2.heap.size (.slice (some ⟨w4.heap.size + 1, 0, none⟩) 1 c6) (.int .i64 ch.en)) w.heap.size 52 (some ⟨w4.heap.size + 1, 0, none⟩) c6 [.pointer (some ⟨bc, 0, none⟩)] from O6.out.keep fun x hx _ => put2_block (by cases hx; simp; omega))
          have T7 := Lib.hid (put2_below (tb := w2.heap.size) (v3 := .slice (some ⟨w4.heap.size + 1, 0, none⟩) 1 c6) (v2 := .int .i64 ch.en) (below_step (T4.out.alloc T4.out.size _) (Nat.le_refl _) B6.out) B2.out.size)
          have TR7 := Lib.hid (show TrQ w0 (put2 w6 w2.heap.size (.slice (some ⟨w4.heap.size + 1, 0, none⟩) 1 c6) (.int .i64 ch.en)) (w2.heap.size + 1) w4.heap.size ch bc from TrQ.keep (w := w6) (fun q h1 h2 => put2_far (by omega)) _ _ (by simpa using ((TR.out.below (Nat.le_refl _) ((Below.refl _ w4).alloc (Nat.le_refl _) _)).below (by simp) B6.out)))
          have z7 : w4.heap.size + 1 < (put2 w6 w2.heap.size (.slice (some ⟨w4.heap.size + 1, 0, none⟩) 1 c6) (.int .i64 ch.en)).heap.size := by rw [put2_size]; exact ((O6.out.lt _ rfl).2)
          clear hc4 hf4 hc6 hf6 hd6 j2 j3 hce O6 B6 TR T4
          change Calls Tryd.prog 45 _ (put2 w6 w2.heap.size (.slice (some ⟨w4.heap.size + 1, 0, none⟩) 1 c6) (.int .i64 ch.en)) _
          generalize (put2 w6 w2.heap.size (.slice (some ⟨w4.heap.size + 1, 0, none⟩) 1 c6) (.int .i64 ch.en)) = w7 at k0 k1 k2 k3 kf O7 T7 TR7 z7 ⊢
          refine (IH.out (ch.en : Int) _ (below_step H.out (Nat.le_refl _) T7.out) (by omega) (by omega) (by omega)).mono ?_
          rw [Int.toNat_natCast]
          intro e w8 hpost
          cases hd : growT p f ch.en with
          | none =>
            rw [hd] at hpost
            obtain ⟨rfl, b8⟩ := hpost
            have e1 := Lib.hid (RES.out.symm.trans (growT_2sn HN.out HA.out HC.out hd))
            clear hd
            have T8 := Lib.hid (below_step T7.out (Nat.le_refl _) b8)
            clear b8
            go_wp2_with fail
            go_ret
            rw [e1.out]
            exact ⟨rfl, T8.out⟩
          | some dh =>
            rw [hd] at hpost
            obtain ⟨bd, rfl, tr, b8⟩ := hpost
            have e1 := Lib.hid (RES.out.symm.trans (growT_2ss HN.out HB.out HA.out HC.out hd))
            clear hd
            have hc8 := fun o => b8.cell (p := ⟨w2.heap.size, o, none⟩) (by simp; omega)
            have hf8 := fun o => b8.frozen (p := ⟨w2.heap.size, o, none⟩) (by simp; omega)
            have hz8 : w7.heap.size ≤ w8.heap.size := b8.size
            have hz28 : w2.heap.size < w8.heap.size := by omega
            have hz2d : w2.heap.size < bd := by have := tr.lt.1; omega
            have hz2d' : bd ≠ w2.heap.size := by omega
            have T8 := Lib.hid (below_step T7.out (Nat.le_refl _) b8)
            have O8 := Lib.hid (O7.out.below b8)
            have TR8 := Lib.hid (TR7.out.below (by omega) b8)
            have TD := Lib.hid tr
            have hbd : w7.heap.size ≤ bd := tr.lt.1
            have hbd8 : bd < w8.heap.size := tr.lt.2
            obtain ⟨_, _, _, _, _, _, _, hde, _⟩ := tr.head
            clear tr b8
            go_wp2_with (at_builtin; refine wpList_appendV _ rfl (.tmp 48) (.tmp 50) 88 rfl w.heap.size 52 (.pointer none) 8 Tryd.underlying88 Tryd.infoPtr rfl (some ⟨w4.heap.size + 1, 0, none⟩) c6 1 [.pointer (some ⟨bc, 0, none⟩)] rfl rfl (O8.out.alloc _) w8.heap.size 1 (.pointer (some ⟨bd, 0, none⟩)) rfl (cell_one _ _ _) rfl (by simp [maxLen]) (by simp) (by have := T8.out.size; simp; omega) ?_; intro ao' c10 w10 o10 g10 l10; obtain ⟨g', rfl, hg'⟩ := row_of l10; have b10 := below_of_grown (B := w4.heap.size + 1) g10 (by simp; omega) (by intro g hg; simp at hg; omega); have hc10 := fun o => b10.cell (p := ⟨w2.heap.size, o, none⟩) (by simp; omega); have hf10 := fun o => b10.frozen (p := ⟨w2.heap.size, o, none⟩) (by simp; omega); have hd10 := fun o => World.cell?_of_block (a := ⟨bd, o, none⟩) (g10.block bd (by simp; omega) (by simp; omega)); have O10 := Lib.hid o10; have B10 := Lib.hid b10; have G10 := Lib.hid g10; clear o10 g10 l10 b10)
            rw [rounds_succ]
            go_wp2_with fail
            go_ret
            rw [e1.out]
            have g10b := O10.out.lt _ rfl
            simp only at g10b
            have z8 : w8.heap.size < w10.heap.size := by have := G10.out.size; simp at this; omega
            have q0 : w10.cell? ⟨w2.heap.size, 0, none⟩ = some (kindV n a c') := by rw [hc10, World.cell?_alloc_lt _ _ _ (by simp; omega), hc8, k0, KV.out]
            have q1 : w10.cell? ⟨w2.heap.size, 1, none⟩ = some (.int .i64 (k.toNat : Int)) := by rw [hc10, World.cell?_alloc_lt _ _ _ (by simp; omega), hc8, k1]; simp; omega
            have q2 : w10.cell? ⟨w2.heap.size, 2, none⟩ = some (.int .i64 ch.en) := by rw [hc10, World.cell?_alloc_lt _ _ _ (by simp; omega), hc8, k2]
            have q3 : w10.cell? ⟨w2.heap.size, 3, none⟩ = some (.slice (some ⟨w4.heap.size + 1, 0, none⟩) 1 c6) := by rw [hc10, World.cell?_alloc_lt _ _ _ (by simp; omega), hc8, k3]
            have hsz : (put2 w10 w2.heap.size (.slice (some ⟨g', 0, none⟩) 2 c10) (.int .i64 dh.en)).heap.size = w10.heap.size := put2_size
            have tc : TrQ w0 w10 (w2.heap.size + 1) w4.heap.size ch bc := TrQ.keep (w := w8.alloc (.cells #[.pointer (some ⟨bd, 0, none⟩)] 52)) (fun q h1 h2 => B10.out.cell (by omega)) _ _ (TR8.out.below (by omega) ((Below.refl _ w8).alloc (Nat.le_refl _) _))
            have td : TrQ w0 w10 w7.heap.size w8.heap.size dh bd := TrQ.keep (w := w8.alloc (.cells #[.pointer (some ⟨bd, 0, none⟩)] 52)) (fun q h1 h2 => World.cell?_of_block (G10.out.block q.block (by simp; omega) (by simp; omega))) _ _ (TD.out.below (Nat.le_refl _) ((Below.refl _ w8).alloc (Nat.le_refl _) _))
            have hlo := B2.out.size
            have hne : g' ≠ w2.heap.size := by omega
            refine ⟨w2.heap.size, rfl, ⟨g', c10, bc, bd, ?_, ⟨g10b.1, ?_⟩, ?_, ?_, ?_, ?_⟩, ?_⟩
            · exact (put2_hdQ q0 q1 q2 q3 hlo QQ.out).wide (Nat.le_refl _) (Nat.le_of_eq hsz.symm)
            · exact Nat.lt_of_lt_of_le g10b.2 (Nat.le_of_eq hsz.symm)
            · exact (put2_far hne).trans (O10.out.cell 0 (by simp))
            · exact (put2_far hne).trans (O10.out.cell 1 (by simp))
            · exact TrQ.wide (by omega) (Nat.le_trans (show w4.heap.size ≤ w10.heap.size by omega) (Nat.le_of_eq hsz.symm)) _ _ (TrQ.keep (w := w10) (fun q h1 h2 => put2_far (by omega)) _ _ tc)
            · exact TrQ.wide (by omega) (Nat.le_trans (show w8.heap.size ≤ w10.heap.size by omega) (Nat.le_of_eq hsz.symm)) _ _ (TrQ.keep (w := w10) (fun q h1 h2 => put2_far (by omega)) _ _ td)
            · refine put2_below ?_ hlo
              exact (T8.out.alloc T8.out.size _).grown G10.out (by have := T8.out.size; simp; omega) (by intro g hg; simp at hg; omega)
set_option maxHeartbeats 1600000 in
theorem treeOfQ_any (ao : Option Addr) (c : Nat) (p : List Nd) (hp : Small p) (w : World) (h : RdN w ao p) :
    Calls Tryd.prog 33 #[.slice ao p.length c] w (GrowPostQ w w (treeN p)) := by
  have H := Lib.hid h; clear h
  have hpl := hp.1
  have SM := Lib.hid hp; clear hp
  by_cases h40 : 40 < p.length
  · have E : treeN p = none := by unfold treeN; rw [if_neg (by omega)]
    rw [E]
    have h4 : (40 : Int) < p.length := by omega
    go_enter Tryd.func33, Tryd.ntmps33
    go_wp2_with fail
    go_ret
    exact ⟨rfl, Below.refl _ _⟩
  · have h4 : (p.length : Int) ≤ 40 := by omega
    generalize hres : treeN p = res
    have RES := Lib.hid hres; clear hres
    go_enter Tryd.func33, Tryd.ntmps33
    go_wp2_with fail
    refine (growQ_any w ao c p SM.out H.out p.length 0 _ (Below.refl _ _) (by omega) (by omega) (by omega)).mono ?_
    rw [show (0 : Int).toNat = 0 from rfl]
    intro e w1 hpost
    cases hg : growT p p.length 0 with
    | none =>
      rw [hg] at hpost
      obtain ⟨rfl, b1⟩ := hpost
      have E := Lib.hid (RES.out.symm.trans (show treeN p = none by unfold treeN; rw [if_pos (by omega), hg]))
      clear hg
      go_wp2_with fail
      go_ret
      rw [E.out]
      exact ⟨rfl, b1⟩
    | some T =>
      rw [hg] at hpost
      obtain ⟨b, rfl, tr, b1⟩ := hpost
      have TR := Lib.hid tr
      have DE := Lib.hid (depth_any T w1 _ _ b (TrQ.tr _ _ tr) (by have := depth_le p _ _ _ hg; omega))
      obtain ⟨v, _, _, a, c', c0, c1, c2, c3, _⟩ := tr.head
      have B1 := Lib.hid b1
      clear tr b1
      have HG := Lib.hid hg; clear hg
      by_cases he : T.en = p.length
      · have he1 : ((T.en : Int) != (p.length : Int)) = false := by simp [he]
        by_cases hd : T.depth ≤ 10
        · have hd1 : (T.depth : Int) ≤ 10 := by omega
          have E := Lib.hid (RES.out.symm.trans (show treeN p = some T by unfold treeN; rw [if_pos (by omega), HG.out]; simp only; rw [if_pos ⟨he, hd⟩]))
          clear he hd
          go_wp2_with (go_at_call 46; refine DE.out.mono ?_; rintro e w' ⟨rfl, rfl⟩)
          go_ret
          rw [E.out]
          exact ⟨b, rfl, TR.out, B1.out⟩
        · have hd1 : (10 : Int) < T.depth := by omega
          have E := Lib.hid (RES.out.symm.trans (show treeN p = none by unfold treeN; rw [if_pos (by omega), HG.out]; simp only; rw [if_neg (by omega)]))
          clear he hd
          go_wp2_with (go_at_call 46; refine DE.out.mono ?_; rintro e w' ⟨rfl, rfl⟩)
          go_ret
          rw [E.out]
          exact ⟨rfl, B1.out⟩
      · have he1 : ((T.en : Int) != (p.length : Int)) = true := by simp; omega
        have E := Lib.hid (RES.out.symm.trans (show treeN p = none by unfold treeN; rw [if_pos (by omega), HG.out]; simp only; rw [if_neg (by omega)]))
        clear he
        go_wp2_with fail
        go_ret
        rw [E.out]
        exact ⟨rfl, B1.out⟩
end Go.Proofs.YtfpbhedophlnkaaDoor
