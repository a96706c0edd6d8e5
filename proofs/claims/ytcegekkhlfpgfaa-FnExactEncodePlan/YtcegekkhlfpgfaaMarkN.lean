/-
  A row of nodes of the call's own that is written into: field by field, and the columns of a node as a whole. What else stays as it was. No program, no walk.
-/
import Derived.Test.YtcegekkhlfpgfaaOwnN
import Derived.Test.YtcegekkhlfpgfaaIntS
namespace Go.Proofs.Ytcegekkhlfpgfaa
open Go.RowKit
set_option linter.unusedSimpArgs false
set_option linter.unusedVariables false

/-- Only blocks between lo and hi, and new ones, have turned. -/
structure Frame (lo hi : Nat) (w w' : World) : Prop where
  os : w'.os = w.os
  tape : w'.tape = w.tape
  output : w'.output = w.output
  size : w.heap.size ≤ w'.heap.size
  block : ∀ i, i < w.heap.size → (i < lo ∨ hi ≤ i) → w'.heap[i]? = w.heap[i]?

section
variable {w w' w'' : World} {lo hi : Nat}
theorem Frame.refl (lo hi : Nat) (w : World) : Frame lo hi w w := ⟨rfl, rfl, rfl, Nat.le_refl _, fun _ _ _ => rfl⟩
theorem Frame.trans (h : Frame lo hi w w') (k : Frame lo hi w' w'') : Frame lo hi w w'' :=
  ⟨k.os.trans h.os, k.tape.trans h.tape, k.output.trans h.output, Nat.le_trans h.size k.size, fun i hi h2 => (k.block i (Nat.lt_of_lt_of_le hi h.size) h2).trans (h.block i hi h2)⟩
theorem Frame.of_below (h : Below w.heap.size w w') : Frame lo hi w w' := ⟨h.os, h.tape, h.output, h.size, fun i hi _ => h.block i hi⟩
theorem Frame.of_grown {row : Option Nat} (h : w.grownBy w' row) (hr : ∀ g, row = some g → lo ≤ g ∧ g < hi) : Frame lo hi w w' :=
  ⟨h.os, h.tape, h.output, h.size, fun i hi h2 => h.block i hi (fun e => by have := hr i e.symm; omega)⟩
theorem Frame.setCell {p : Addr} (h1 : lo ≤ p.block) (h2 : p.block < hi) (u : Value) : Frame lo hi w (w.setCell p u) := by
  refine ⟨rfl, rfl, rfl, by simp [World.setCell], fun i _ h => Below.heap_setCell w p u i (by rintro rfl; omega)⟩
theorem Frame.below {B : Nat} {a0 : World} (h : Frame lo hi w w') (hb : Below B a0 w) (hB : B ≤ lo) (hz : B ≤ a0.heap.size) : Below B a0 w' :=
  ⟨h.os.trans hb.os, h.tape.trans hb.tape, h.output.trans hb.output, Nat.le_trans hb.size h.size, fun i hi => (h.block i (Nat.lt_of_lt_of_le hi (Nat.le_trans hz hb.size)) (.inl (Nat.lt_of_lt_of_le hi hB))).trans (hb.block i hi)⟩
end

/-- A row of nodes of the call's own, all of it below hi. -/
def OwnH (w : World) (lo hi : Nat) (ao : Option Addr) (c : Nat) (l : List Nd) : Prop :=
  l = [] ∨ ∃ g xs A C, ao = some ⟨g, 0, none⟩ ∧ PartN w lo g c l.length l l.length xs A C ∧ g < hi ∧ ∀ (i : Nat) (x : Addr), i < l.length → A i = some x → x.block < hi

theorem OwnN.hi {w : World} {base : Nat} {ao : Option Addr} {c : Nat} {l : List Nd} (h : OwnN w base ao c l) : OwnH w base w.heap.size ao c l := by
  rcases h with h | ⟨g, xs, A, C, he, hp⟩
  · exact .inl h
  · exact .inr ⟨g, xs, A, C, he, hp, (owns_block hp.own).2, fun i x hi hx => ((hp.cols i _ hi (List.getElem?_eq_getElem hi)).lt x hx).2⟩
theorem OwnH.below {w w' : World} {lo hi : Nat} {ao : Option Addr} {c : Nat} {l : List Nd} (h : OwnH w lo hi ao c l) (hb : Below w.heap.size w w') : OwnH w' lo hi ao c l := by
  rcases h with h | ⟨g, xs, A, C, he, hp, h1, h2⟩
  · exact .inl h
  · exact .inr ⟨g, xs, A, C, he, hp.below hb, h1, h2⟩
theorem OwnH.rd {w : World} {lo hi : Nat} {ao : Option Addr} {c : Nat} {l : List Nd} (h : OwnH w lo hi ao c l) : RdN w ao l := by
  rcases h with h | ⟨g, xs, A, C, he, hp, _⟩
  · exact .inl h
  · exact OwnN.rd (base := lo) (c := c) (.inr ⟨g, xs, A, C, he, hp⟩)
/-- What is done to one range leaves the rows of another. -/
theorem OwnH.frame {w w' : World} {lo hi lo' hi' : Nat} {ao : Option Addr} {c : Nat} {l : List Nd} (h : OwnH w lo hi ao c l) (hf : Frame lo' hi' w w') (hd : hi ≤ lo' ∨ hi' ≤ lo) : OwnH w' lo hi ao c l := by
  rcases h with h | ⟨g, xs, A, C, he, hp, h1, h2⟩
  · exact .inl h
  · have hg := owns_block hp.own
    refine .inr ⟨g, xs, A, C, he, ⟨owns_keep hp.own (hf.block g hg.2 (by omega)), hp.cells, fun i n hi hn => ?_, hp.name, hp.row, hp.apart⟩, h1, h2⟩
    have ho := hp.cols i n hi hn
    exact ho.keep fun x hx hlt => hf.block x.block hlt (by have := (ho.lt x hx).1; have := h2 i x hi hx; omega)
theorem Own.frame {w w' : World} {lo' hi' base : Nat} {e : TypeId} {k : IntKind} {ao : Option Addr} {c : Nat} {l : List Int} (h : Own w base e k ao c l) (hf : Frame lo' hi' w w') (hd : (∀ x, ao = some x → x.block < lo') ∨ hi' ≤ base) : Own w' base e k ao c l :=
  h.keep fun x hx hlt => hf.block x.block hlt (by
    rcases hd with hd | hd
    · exact .inl (hd x hx)
    · right; have := (h.lt x hx).1; omega)

section
variable {w w' : World} {base g c m : Nat} {l : List Nd} {j : Nat} {xs : List Value} {A : Nat → Option Addr} {C : Nat → Nat}

theorem get_set_ne' {l : List Nd} {i j : Nat} {n' : Nd} (h : i ≠ j) : (l.set j n')[i]? = l[i]? := List.getElem?_set_ne (by omega)

/-- One field of one node is stored anew. -/
theorem PartN.store (h : PartN w base g c m l j xs A C) {k t : Nat} {n n' : Nd} {v : Value} (hk : k < j) (hn : l[k]? = some n) (ht : t < 7) (hc : n'.cols = n.cols) (hs : n'.name.size ≤ maxLen)
    (hx : NdC xs (k * 7) n (A k) (C k) → NdC (xs.set (k * 7 + t) v) (k * 7) n' (A k) (C k)) :
    PartN (w.setCell ⟨g, k * 7 + t, none⟩ v) base g c m (l.set k n') j (xs.set (k * 7 + t) v) A C := by
  have hlen : (l.set k n').length = l.length := by simp
  refine ⟨(h.own.stored (k * 7 + t) v).1, ?_, ?_, ?_, ?_, ?_⟩
  · intro i m' hi hm
    by_cases hik : i = k
    · subst hik
      have hkl : i < l.length := by
        rcases Nat.lt_or_ge i l.length with h1 | h1
        · exact h1
        · rw [List.getElem?_eq_none h1] at hn; cases hn
      rw [List.getElem?_set_self hkl] at hm; cases hm
      exact hx (h.cells i n hi hn)
    · rw [get_set_ne' hik] at hm
      have hc' := h.cells i m' hi hm
      have key : ∀ s, s < 7 → (xs.set (k * 7 + t) v)[i * 7 + s]? = xs[i * 7 + s]? := fun s hs' => List.getElem?_set_ne (by omega)
      exact ⟨(key 0 (by omega)).trans hc'.c0, (key 1 (by omega)).trans hc'.c1, (key 2 (by omega)).trans hc'.c2, (key 3 (by omega)).trans hc'.c3, (key 4 (by omega)).trans hc'.c4, (key 5 (by omega)).trans hc'.c5, (key 6 (by omega)).trans hc'.c6⟩
  · intro i m' hi hm
    have hil : i < l.length := by
      rcases Nat.lt_or_ge i (l.set k n').length with h1 | h1
      · omega
      · rw [List.getElem?_eq_none h1] at hm; cases hm
    by_cases hik : i = k
    · subst hik
      rw [List.getElem?_set_self hil] at hm; cases hm
      rw [hc]
      exact (h.cols i n hi hn).far (fun x hx' => h.row i x hi hil hx') _
    · rw [get_set_ne' hik] at hm
      exact (h.cols i m' hi hm).far (fun x hx' => h.row i x hi hil hx') _
  · intro i m' hi hm
    by_cases hik : i = k
    · subst hik
      have hkl : i < l.length := by
        rcases Nat.lt_or_ge i l.length with h1 | h1
        · exact h1
        · rw [List.getElem?_eq_none h1] at hn; cases hn
      rw [List.getElem?_set_self hkl] at hm; cases hm; exact hs
    · rw [get_set_ne' hik] at hm; exact h.name i m' hi hm
  · intro i x hi hil hx'; exact h.row i x hi (by omega) hx'
  · intro i k' x y h1 h2 h3 h4; exact h.apart i k' x y h1 h2 (by omega) (by omega)

/-- The columns of one node are written anew. -/
theorem PartN.marked (h : PartN w base g c m l j xs A C) {k : Nat} {n : Nd} {zs : List Int} (hk : k < j) (hn : l[k]? = some n) (hz : zs.length = n.cols.length) (hg : w.grownBy w' ((A k).map (·.block))) (ho : Own w' base 3 .i64 (A k) (C k) zs) :
    PartN w' base g c m (l.set k { n with cols := zs }) j xs A C := by
  have hkl : k < l.length := by
    rcases Nat.lt_or_ge k l.length with h1 | h1
    · exact h1
    · rw [List.getElem?_eq_none h1] at hn; cases hn
  have hlen : (l.set k { n with cols := zs }).length = l.length := by simp
  have hne : ∀ i, i ≠ k → ∀ x, A i = some x → i < j → i < l.length → some x.block ≠ (A k).map (·.block) := by
    intro i hik x hx hi hil
    cases hA : A k with
    | none => simp
    | some y => simp; exact h.apart i k x y hi hk hil hkl hik hx hA
  refine ⟨owns_keep h.own (hg.block g (owns_block h.own).2 ?_), ?_, ?_, ?_, ?_, ?_⟩
  · cases hA : A k with
    | none => simp
    | some y => simp; exact Ne.symm (h.row k y hk hkl hA)
  · intro i m' hi hm
    by_cases hik : i = k
    · subst hik
      rw [List.getElem?_set_self hkl] at hm; cases hm
      have hc := h.cells i n hi hn
      exact ⟨hc.c0, hc.c1, hc.c2, hc.c3, hc.c4, hc.c5, by rw [hc.c6]; simp only; rw [hz]⟩
    · rw [get_set_ne' hik] at hm
      exact h.cells i m' hi hm
  · intro i m' hi hm
    have hil : i < l.length := by
      rcases Nat.lt_or_ge i (l.set k { n with cols := zs }).length with h1 | h1
      · omega
      · rw [List.getElem?_eq_none h1] at hm; cases hm
    by_cases hik : i = k
    · subst hik
      rw [List.getElem?_set_self hil] at hm; cases hm
      exact ho
    · rw [get_set_ne' hik] at hm
      exact (h.cols i m' hi hm).grown hg (fun x hx => hne i hik x hx hi hil)
  · intro i m' hi hm
    by_cases hik : i = k
    · subst hik
      rw [List.getElem?_set_self hkl] at hm; cases hm; exact h.name i n hi hn
    · rw [get_set_ne' hik] at hm; exact h.name i m' hi hm
  · intro i x hi hil hx'; exact h.row i x hi (by omega) hx'
  · intro i k' x y h1 h2 h3 h4; exact h.apart i k' x y h1 h2 (by omega) (by omega)
end

set_option maxHeartbeats 800000 in
/-- As markIntS_any, and the row stays the call's own. -/
theorem markIntS_own (base : Nat) (ao : Option Addr) (c : Nat) (l : List Int) (m : Int) (w : World) (h : Own w base 3 .i64 ao c l) (h0 : 0 ≤ m) (hm : m + l.length ≤ 4611686018427387904) :
    Calls Try.prog 45 #[.slice ao l.length c, .int .i64 m] w fun e w' => e = .returned (.int .i64 (m + l.length)) ∧ Own w' base 3 .i64 ao c (marksL id m l.length) ∧ w.grownBy w' (ao.map (·.block)) := by
  rcases h.form with ⟨rfl, rfl, rfl⟩ | ⟨g, rfl, _⟩
  · go_enter Try.func45, Try.ntmps45
    go_wp2
    refine wp_loop_rounds 1 ?_; rw [rounds_succ]; go_wp2
    go_ret
    exact ⟨ret_int (by simp), Own.none_, World.grownBy.refl _ _⟩
  · have hs : MarkRel w w base 3 .i64 id m g c l 0 := ⟨by have h' := h; unfold Own at h'; simpa [marksL] using h', World.grownBy.refl _ _⟩
    clear h
    go_enter Try.func45, Try.ntmps45
    go_wp2
    go_loopw [1, 5] (fun q i wr => ∃ j : Nat, j ≤ l.length ∧ i = .int .i64 j ∧ q = .int .i64 (m + j) ∧ MarkRel w wr base 3 .i64 id m g c l j) (fun _ i _ => l.length - (intOf i).toNat)
    case atStart => exact ⟨0, Nat.zero_le _, rfl, by simp, hs⟩
    case round =>
      clear hs
      obtain ⟨j, hj, rfl, rfl, hr⟩ := hrel
      by_cases hlt : j < l.length
      · obtain ⟨y, hy⟩ := hr.cell hlt
        have hf := hr.1.frozenAt j
        have R := Lib.hid (hr.step hlt)
        clear hr
        go_wp2
        go_roundw
        case rel => exact ⟨j + 1, by omega, by go_num, by go_num, R.out⟩
        case measure => simp [intOf]; omega
      · have e : j = l.length := by omega
        have G := Lib.hid hr.2
        have D : Hid (Own wr base 3 .i64 (some ⟨g, 0, none⟩) c (marksL id m l.length)) := by
          show Own wr base 3 .i64 (some ⟨g, 0, none⟩) c (marksL id m l.length)
          have h1 := hr.1
          subst e
          rw [List.drop_length, List.append_nil] at h1
          unfold Own
          rw [marksL_len]; exact h1
        clear hr
        subst e
        go_wp2
        go_ret
        exact ⟨rfl, D.out, G.out⟩
end Go.Proofs.Ytcegekkhlfpgfaa
