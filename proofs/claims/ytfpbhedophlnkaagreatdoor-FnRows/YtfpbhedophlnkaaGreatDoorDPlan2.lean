/-
  Rows of nodes joined by the draw, and what the draw leaves as it was. No walk of its own.
-/
import Derived.Test.YtfpbhedophlnkaaGreatDoorJR40x
namespace Go.Proofs.YtfpbhedophlnkaaGreatDoor
open Go.RowKit
set_option linter.unusedSimpArgs false
set_option linter.unusedVariables false

theorem joined3_at (bl : Nat) (W : World) (hbl : bl = W.heap.size) (t : TypeId) (a0 a1 a2 : Option Addr) (n0 c0 n1 c1 n2 c2 : Nat) (l0 l1 l2 : List Nd) (e0 : n0 = l0.length) (e1 : n1 = l1.length) (e2 : n2 = l2.length) (h0 : RdN W a0 l0) (h1 : RdN W a1 l1) (h2 : RdN W a2 l2) (s0 : Small l0) (s1 : Small l1) (s2 : Small l2) (J : List Nd) (hJ : l0 ++ l1 ++ l2 = J) :
    Calls Tryz.prog 160 #[.slice (some ⟨bl, 0, none⟩) 3 3] (W.alloc (.cells #[.slice a0 n0 c0, .slice a1 n1 c1, .slice a2 n2 c2] t))
      fun e w' => ∃ b c xs A C, e = .returned (.slice (some ⟨b, 0, none⟩) J.length c) ∧ PartN w' W.heap.size b c J.length J J.length xs A C ∧ Below W.heap.size W w' := by
  subst hbl
  refine (joined3_any W t a0 a1 a2 n0 c0 n1 c1 n2 c2 l0 l1 l2 e0 e1 e2 h0 h1 h2 s0 s1 s2 J hJ).mono ?_
  rintro e w' ⟨b, c, xs, A, C, he, hp, hb⟩
  exact ⟨b, c, xs, A, C, he, hp.base_le (by simp), ((Below.refl _ W).alloc (Nat.le_refl _) _).trans (hb.mono (by simp))⟩
theorem joined2_at (bl : Nat) (W : World) (hbl : bl = W.heap.size) (t : TypeId) (a0 a1 : Option Addr) (n0 c0 n1 c1 : Nat) (l0 l1 : List Nd) (e0 : n0 = l0.length) (e1 : n1 = l1.length) (h0 : RdN W a0 l0) (h1 : RdN W a1 l1) (s0 : Small l0) (s1 : Small l1) (J : List Nd) (hJ : l0 ++ l1 = J) :
    Calls Tryz.prog 160 #[.slice (some ⟨bl, 0, none⟩) 2 2] (W.alloc (.cells #[.slice a0 n0 c0, .slice a1 n1 c1] t))
      fun e w' => ∃ b c xs A C, e = .returned (.slice (some ⟨b, 0, none⟩) J.length c) ∧ PartN w' W.heap.size b c J.length J J.length xs A C ∧ Below W.heap.size W w' := by
  subst hbl
  refine (joined2_any W t a0 a1 n0 c0 n1 c1 l0 l1 e0 e1 h0 h1 s0 s1 J hJ).mono ?_
  rintro e w' ⟨b, c, xs, A, C, he, hp, hb⟩
  exact ⟨b, c, xs, A, C, he, hp.base_le (by simp), ((Below.refl _ W).alloc (Nat.le_refl _) _).trans (hb.mono (by simp))⟩
theorem rd_one_at (b : Nat) (W : World) (hb : b = W.heap.size) (n : Nd) (hc : n.cols = []) (hs : n.name.size ≤ 100) : RdN (W.alloc (.cells (ndCells n none 0).toArray 92)) (some ⟨b, 0, none⟩) [n] := by
  subst hb
  exact rd_one W n none 0 (by rw [hc]; exact .inl rfl) (by rw [hc]; simp) (by unfold maxLen; omega) (by unfold maxLen; omega)
theorem rd_keep (b bi : Nat) (W : World) (hb : b = W.heap.size + 1) (hbi : bi = W.heap.size) : RdN ((W.alloc (.cells #[.int .i64 0] 3)).alloc (.cells (ndCells ⟨2, ⟨#[]⟩, 0, 0, 0, false, [0]⟩ (some ⟨bi, 0, none⟩) 1).toArray 92)) (some ⟨b, 0, none⟩) [⟨2, ⟨#[]⟩, 0, 0, 0, false, [0]⟩] := by
  subst hb hbi
  have := rd_one (W.alloc (.cells #[.int .i64 0] 3)) ⟨2, ⟨#[]⟩, 0, 0, 0, false, [0]⟩ (some ⟨W.heap.size, 0, none⟩) 1 (.inr ⟨W.heap.size, 0, rfl, fun i hi => by
    obtain rfl : i = 0 := by simp at hi; omega
    rw [World.cell?_alloc_new]; rfl⟩) (by simp) (by unfold maxLen; omega) (by unfold maxLen; exact Nat.zero_le _)
  simpa using this
theorem small_keep : Small [⟨2, ⟨#[]⟩, 0, 0, 0, false, [0]⟩] := ⟨by simp, fun m hm => by simp at hm; subst hm; simp⟩
theorem small_cons {n : Nd} {l : List Nd} (hn : n.cols.length ≤ 3) (h : Small l) (hl : l.length ≤ 1000) : Small ([n] ++ l) := ⟨by simp; omega, fun m hm => by
  rcases List.mem_append.1 hm with hm | hm
  · simp at hm; subst hm; omega
  · exact h.2 m hm⟩
theorem small_one {n : Nd} (hc : n.cols = []) : Small [n] := ⟨by simp, fun m hm => by simp at hm; subst hm; rw [hc]; simp⟩
theorem small_plan {l : List Nd} {n : Nat} (h7 : n ≤ 7) (h1 : l.length ≤ Bn n) (h2 : ∀ m ∈ l, m.cols.length ≤ 3) : Small l := ⟨by have := (BV7 n h7).1; omega, fun m hm => by have := h2 m hm; omega⟩

theorem PartN.keep2 {w w' : World} {base b c m : Nat} {l : List Nd} {j : Nat} {xs : List Value} {A : Nat → Option Addr} {C : Nat → Nat} (h : PartN w base b c m l j xs A C) (hk : ∀ i, base ≤ i → i < w.heap.size → w'.heap[i]? = w.heap[i]?) : PartN w' base b c m l j xs A C :=
  ⟨owns_keep h.own (hk b (owns_block h.own).1 (owns_block h.own).2), h.cells, fun i n hi hn => (h.cols i n hi hn).keep (fun a ha hlt => hk a.block ((h.cols i n hi hn).lt a ha).1 hlt), h.name, h.row, h.apart⟩
/-- The blocks from B1 on, below B2, are as they were. -/
def AG (B1 B2 : Nat) (w w' : World) : Prop := ∀ i, B1 ≤ i → i < B2 → w'.heap[i]? = w.heap[i]?
theorem AG.below {B1 B2 : Nat} {w w1 w2 : World} (h : AG B1 B2 w w1) (hb : Below w1.heap.size w1 w2) (hB : B2 ≤ w1.heap.size) : AG B1 B2 w w2 := fun i h1 h2 => (hb.block i (by omega)).trans (h i h1 h2)
theorem AG.grown {B1 B2 g : Nat} {w w1 w2 : World} (h : AG B1 B2 w w1) (hg : w1.grownBy w2 (some g)) (hgB : g < B1) (hB : B2 ≤ w1.heap.size) : AG B1 B2 w w2 := fun i h1 h2 => (hg.block i (by omega) (by simp; omega)).trans (h i h1 h2)
theorem AG.set {B1 B2 nb o : Nat} {v : Value} {w w1 : World} (h : AG B1 B2 w w1) (hB : B2 ≤ nb) : AG B1 B2 w (w1.setCell ⟨nb, o, none⟩ v) := fun i h1 h2 => (Below.heap_setCell w1 ⟨nb, o, none⟩ v i (by simp; omega)).trans (h i h1 h2)
theorem drew_set {w w3 : World} {g : Nat} {xo : Option Addr} {d : Nat} {code : List Int} {nb o : Nat} {v : Value} (h0 : Cur w g xo d code) (h : Drew w g xo d code w3) (hnb : w.heap.size ≤ nb) : Drew w g xo d code (w3.setCell ⟨nb, o, none⟩ v) := by
  have hk : ∀ i, i < w.heap.size → (w3.setCell ⟨nb, o, none⟩ v).heap[i]? = w3.heap[i]? := fun i hi => Below.heap_setCell w3 ⟨nb, o, none⟩ v i (by simp; omega)
  refine ⟨h.1.keepI h0.lt h0.code_lt hk, ⟨h.2.os, h.2.tape, h.2.output, by simpa [World.setCell] using h.2.size, fun i hi hne => (hk i hi).trans (h.2.block i hi hne)⟩⟩
end Go.Proofs.YtfpbhedophlnkaaGreatDoor
