/-
  Rows of numbers that are handed on as they lie: slices as values, and a row of them that is copied one by one. No walk.
-/
import Derived.Test.YtfpbhedophlnkaaGreatDoorJR7x
import Derived.Test.YtfpbhedophlnkaaGreatDoorJR3x
namespace Go.Proofs.YtfpbhedophlnkaaGreatDoor
open Go.RowKit
set_option linter.unusedSimpArgs false
set_option linter.unusedVariables false

/-- What they read as. -/
def rowsE {w : World} (zs : List (Els w)) : List (List Int) := zs.map fun x => x.1.r
theorem RdR.els {w : World} {ao : Option Addr} {l : List (List Int)} (h : RdR w ao l) (c : Nat) : ∃ zs : List (Els w), rowsE zs = l ∧ Lies w.heap.size w (.slice ao l.length c) zs := by
  rcases h with rfl | ⟨b, off, rfl, hc⟩
  · exact ⟨[], rfl, .inl ⟨_, _, rfl, rfl⟩⟩
  · obtain ⟨zs, hl, hz⟩ := rows_of (fun (i : Nat) (x : Els w) => l[i]? = some x.1.r ∧ w.cell? ⟨b, off + i, none⟩ = some (encE x)) l.length (fun i hi => by
      obtain ⟨a, c, h1, h2, h3, h4⟩ := hc i _ (List.getElem?_eq_getElem hi)
      exact ⟨⟨⟨a, l[i], c⟩, h2, h3, h4⟩, List.getElem?_eq_getElem hi, h1⟩)
    have he : rowsE zs = l := by
      apply List.ext_getElem?
      intro i
      unfold rowsE
      rw [List.getElem?_map]
      rcases Nat.lt_or_ge i zs.length with h1 | h1
      · rw [List.getElem?_eq_getElem h1]
        exact ((hz i _ (List.getElem?_eq_getElem h1)).1).symm
      · rw [List.getElem?_eq_none h1, List.getElem?_eq_none (by omega)]; rfl
    refine ⟨zs, he, ?_⟩
    by_cases h0 : l = []
    · subst h0
      exact .inl ⟨_, _, rfl, List.eq_nil_of_length_eq_zero hl⟩
    · have hpos : 0 < l.length := List.length_pos_iff.2 h0
      obtain ⟨a, c', h1, _⟩ := hc 0 _ (List.getElem?_eq_getElem hpos)
      exact .inr ⟨b, off, c, by rw [hl], World.block_lt_of_cell? w ⟨b, off + 0, none⟩ h1, fun j x hj => (hz j x hj).2⟩
theorem rowsE_len {w : World} (zs : List (Els w)) : (rowsE zs).length = zs.length := by simp [rowsE]
theorem rowsE_at {w : World} {zs : List (Els w)} {i : Nat} {x : Els w} (h : zs[i]? = some x) : (rowsE zs)[i]? = some x.1.r := by unfold rowsE; rw [List.getElem?_map, h]; rfl

/-- A row of such slices, read as rows. -/
theorem owns_rdR {wb W : World} {base : Nat} {v : Value} {zs : List (Els wb)} {ao : Option Addr} {n c : Nat} (h : W.ownsRow base 47 1 (.slice ao n c) n (zs.map encE)) (hb : Below wb.heap.size wb W) : RdR W ao (rowsE zs) := by
  rcases h.2 with ⟨_, h0⟩ | ⟨g, cap, cur, e, _⟩
  · left
    have : zs.length = 0 := by have := h.1; simp at this; omega
    rw [List.eq_nil_of_length_eq_zero this]; rfl
  · right
    simp only [Value.slice.injEq] at e
    obtain ⟨rfl, -, rfl⟩ := e
    refine ⟨g, 0, rfl, fun i r hr => ?_⟩
    have hlen : zs.length = n := by have := h.1; simp at this; omega
    have hi : i < zs.length := by have := lt_of_get hr; rw [rowsE_len] at this; exact this
    have hx := rowsE_at (List.getElem?_eq_getElem hi)
    rw [hr, Option.some.injEq] at hx
    subst hx
    refine ⟨zs[i].1.a, zs[i].1.c, ?_, zs[i].2.1.below hb, zs[i].2.2⟩
    rw [Nat.zero_add, World.ownsRow.cellAt h i (by omega), List.getElem?_map, List.getElem?_eq_getElem hi]
    rfl

/-- A row more is appended behind those that lie there. -/
theorem PartR.push {w w1 w4 : World} {base g c j : Nat} {l : List (List Int)} {xs : List Value} {A : Nat → Option Addr} {C : Nat → Nat} (h : PartR w base g c j l j xs A C) {r : List Int} {a1 : Option Addr} {c1 c' : Nat} {ao' : Option Addr} (hn : l[j]? = some r) (hb : Below w.heap.size w w1)
    (ho : Own w1 w.heap.size 3 .i64 a1 c1 r) (hbase : base ≤ w.heap.size) (ho4 : OwnV w4 base 47 ao' c' (xs ++ [.slice a1 r.length c1])) (hg4 : w1.grownBy w4 (some g)) (hao : ao' = some ⟨g, 0, none⟩ ∨ ao' = some ⟨w1.heap.size, 0, none⟩) :
    ∃ g', ao' = some ⟨g', 0, none⟩ ∧ PartR w4 base g' c' (j + 1) l (j + 1) (xs ++ [.slice a1 r.length c1]) (fun i => if i = j then a1 else A i) (fun i => if i = j then c1 else C i) := by
  have hg := (owns_block h.own).2
  have h1 := h.below hb
  have hlen : xs.length = j := by have := h.own.1; omega
  have hblk : ∀ i, i < w1.heap.size → i ≠ g → w4.heap[i]? = w1.heap[i]? := fun i hi hne => hg4.block i hi (by simpa using hne)
  have key : ∀ i x, i < j → i < l.length → A i = some x → x.block < w.heap.size ∧ x.block ≠ g := fun i x hi hil hx => ⟨((h.cols i _ hi (List.getElem?_eq_getElem hil)).lt x hx).2, h.row i x hi hil hx⟩
  have kn : ∀ x, a1 = some x → w.heap.size ≤ x.block ∧ x.block < w1.heap.size ∧ x.block ≠ g := fun x hx => ⟨(ho.lt x hx).1, (ho.lt x hx).2, by have := (ho.lt x hx).1; omega⟩
  have hs := hb.size
  obtain ⟨g', rfl, hg'⟩ : ∃ g', ao' = some ⟨g', 0, none⟩ ∧ (g' = g ∨ g' = w1.heap.size) := by
    rcases hao with rfl | rfl
    · exact ⟨g, rfl, .inl rfl⟩
    · exact ⟨_, rfl, .inr rfl⟩
  refine ⟨g', rfl, ?_, ?_, ?_, ?_, ?_⟩
  · have := ho4
    unfold OwnV at this
    rw [show (xs ++ [Value.slice a1 r.length c1]).length = j + 1 by simp [hlen]] at this
    exact this
  · intro i n' hi hn'
    by_cases hij : i = j
    · subst hij
      rw [hn] at hn'; cases hn'
      simp only [if_true]
      rw [List.getElem?_append_right (by omega), hlen, Nat.sub_self]; rfl
    · simp only [if_neg hij]
      rw [List.getElem?_append_left (by omega)]
      exact h.cells i n' (by omega) hn'
  · intro i n' hi hn'
    by_cases hij : i = j
    · subst hij
      rw [hn] at hn'; cases hn'
      simp only [if_true]
      exact (ho.keep fun x hx _ => hblk _ (kn x hx).2.1 (kn x hx).2.2).base_le hbase
    · simp only [if_neg hij]
      exact (h1.cols i n' (by omega) hn').keep fun x hx _ => hblk _ (by have := (key i x (by omega) (lt_of_get hn') hx).1; omega) (key i x (by omega) (lt_of_get hn') hx).2
  · intro i x hi hil hx
    by_cases hij : i = j
    · subst hij
      simp only [if_true] at hx
      have := kn x hx; omega
    · simp only [if_neg hij] at hx
      have := key i x (by omega) hil hx; omega
  · intro i k x y hi hk hil hkl hik hx hy
    by_cases hij : i = j
    · subst hij
      simp only [if_true] at hx
      simp only [if_neg (Ne.symm hik)] at hy
      have := kn x hx
      have := key k y (by omega) hkl hy
      omega
    · simp only [if_neg hij] at hx
      by_cases hkj : k = j
      · subst hkj
        simp only [if_true] at hy
        have := kn y hy
        have := key i x (by omega) hil hx
        omega
      · simp only [if_neg hkj] at hy
        exact h.apart i k x y (by omega) (by omega) hil hkl hik hx hy
theorem PartR.start (w : World) (l : List (List Int)) : PartR (w.alloc (.cells #[] 47)) w.heap.size w.heap.size 0 0 l 0 [] (fun _ => none) (fun _ => 0) :=
  ⟨⟨rfl, .inr ⟨w.heap.size, 0, #[], rfl, Nat.le_refl _, heap_alloc_new w _, Nat.le_refl _, Nat.zero_le _, rfl, rfl⟩⟩, fun i n hi => absurd hi (Nat.not_lt_zero _), fun i n hi => absurd hi (Nat.not_lt_zero _), fun i x hi => absurd hi (Nat.not_lt_zero _), fun i k x y hi => absurd hi (Nat.not_lt_zero _)⟩
end Go.Proofs.YtfpbhedophlnkaaGreatDoor
