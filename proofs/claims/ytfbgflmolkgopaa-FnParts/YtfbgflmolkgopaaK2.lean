/-
  A row of nodes of the call's own whose columns lie where they lay before. No program, no walk. A row of nodes of the call's own that is written into: field by field, and the columns of a node as a whole. What else stays as it was. No program, no walk. Contract of markNodeS: it writes marks into a row of nodes of the call's own and into its columns, and into nothing else. For every such row. Some nodes in a row of the draw's own that may have been bent: words, and plain facts. No walk. Contract of spec.l02Break: it bends the plan in one place, in the plan's own memory. For every plan of the draw's own. Contracts of spec.l02DrawLoose and spec.DrawPlanOk: some nodes in memory of the draw's own. For every slice of bytes. Small contracts for the wires' law: laws.big. For every slice of bytes.
-/
import Derived.Test.YtfbgflmolkgopaaJoinN
import Derived.Test.YtfbgflmolkgopaaK1
import Derived.Test.YtfbgflmolkgopaaK4
import Derived.Test.YtfbgflmolkgopaaDDeep
import Derived.Test.YtfbgflmolkgopaaKids0
import Derived.Test.YtfbgflmolkgopaaWord
namespace Go.Proofs.Ytfbgflmolkgopaa
open Go.RowKit
set_option linter.unusedSimpArgs false
set_option linter.unusedVariables false

/-- A row of nodes of the call's own, the columns of each where they lay in w0. -/
def RowN (w0 w : World) (v : Value) (l : List Nd) : Prop :=
  ∃ A C, w.ownsRow w0.heap.size 37 7 v l.length (allCells l A C) ∧ ∀ i n, l[i]? = some n → Rd w0 .i64 (A i) n.cols ∧ n.cols.length ≤ C i ∧ C i ≤ maxLen ∧ n.name.size ≤ maxLen

theorem allCells_app : ∀ (l l2 : List Nd) (A A2 : Nat → Option Addr) (C C2 : Nat → Nat), allCells (l ++ l2) (fun i => if i < l.length then A i else A2 (i - l.length)) (fun i => if i < l.length then C i else C2 (i - l.length)) = allCells l A C ++ allCells l2 A2 C2
  | [], l2, A, A2, C, C2 => by simp [allCells]
  | n :: l, l2, A, A2, C, C2 => by
    have ih := allCells_app l l2 (fun i => A (i + 1)) A2 (fun i => C (i + 1)) C2
    simp only [List.cons_append, allCells, List.length_cons, Nat.add_lt_add_iff_right, Nat.add_sub_add_right, Nat.zero_lt_succ, if_true, List.append_assoc]
    rw [ih]
theorem rowN_app {w0 w' : World} {v' : Value} {l l2 : List Nd} {A : Nat → Option Addr} {C : Nat → Nat} {A2 : Nat → Option Addr} {C2 : Nat → Nat} {n : Nat}
    (h1 : ∀ i n, l[i]? = some n → Rd w0 .i64 (A i) n.cols ∧ n.cols.length ≤ C i ∧ C i ≤ maxLen ∧ n.name.size ≤ maxLen)
    (h2 : ∀ i n, l2[i]? = some n → Rd w0 .i64 (A2 i) n.cols ∧ n.cols.length ≤ C2 i ∧ C2 i ≤ maxLen ∧ n.name.size ≤ maxLen)
    (ho : w'.ownsRow w0.heap.size 37 7 v' n (allCells l A C ++ allCells l2 A2 C2)) (hn : n = (l ++ l2).length) : RowN w0 w' v' (l ++ l2) := by
  subst hn
  refine ⟨_, _, by rw [allCells_app]; exact ho, fun i n hi => ?_⟩
  by_cases hil : i < l.length
  · simp only [if_pos hil]
    rw [List.getElem?_append_left hil] at hi
    exact h1 i n hi
  · simp only [if_neg hil]
    rw [List.getElem?_append_right (by omega)] at hi
    exact h2 _ n hi
theorem RowN.rdN {w0 w : World} {g c : Nat} {l : List Nd} (h : RowN w0 w (.slice (some ⟨g, 0, none⟩) l.length c) l) (hb : Below w0.heap.size w0 w) : RdN w (some ⟨g, 0, none⟩) l := by
  obtain ⟨A, C, ho, hr⟩ := h
  refine .inr ⟨g, 0, rfl, fun i n hi => ⟨A i, C i, ?_⟩⟩
  have hl := some_lt hi
  obtain ⟨r1, r2, r3, r4⟩ := hr i n hi
  have key : ∀ t, t < 7 → w.cell? ⟨g, 0 + i * 7 + t, none⟩ = (ndCells n (A i) (C i))[t]? := fun t ht => by
    rw [Nat.zero_add, World.ownsRow.cellAt ho _ (by omega)]
    exact allCells_get l A C i n hi t ht
  exact ⟨key 0 (by omega), key 1 (by omega), key 2 (by omega), key 3 (by omega), key 4 (by omega), key 5 (by omega), key 6 (by omega), r1.below hb, r2, r3, r4⟩
theorem RdN.ind {w : World} {ao : Option Addr} {l : List Nd} (h : RdN w ao l) (hne : l ≠ []) : ∃ (b off : Nat) (A : Nat → Option Addr) (C : Nat → Nat), ao = some ⟨b, off, none⟩ ∧ ∀ i n, l[i]? = some n → NdAt w b (off + i * 7) n (A i) (C i) := by
  rcases h with h | ⟨b, off, rfl, hc⟩
  · exact absurd h hne
  · obtain ⟨A, C, hA⟩ := nodes_ind hc
    exact ⟨b, off, A, C, rfl, hA⟩
theorem RdN.indAt {w : World} {b off : Nat} {l : List Nd} (h : RdN w (some ⟨b, off, none⟩) l) : ∃ (A : Nat → Option Addr) (C : Nat → Nat), ∀ i n, l[i]? = some n → NdAt w b (off + i * 7) n (A i) (C i) := by
  by_cases hne : l = []
  · subst hne; exact ⟨fun _ => none, fun _ => 0, fun i n hi => by simp at hi⟩
  · obtain ⟨b', off', A, C, he, hA⟩ := h.ind hne
    cases he
    exact ⟨A, C, hA⟩
end Go.Proofs.Ytfbgflmolkgopaa
namespace Go.Proofs.Ytfbgflmolkgopaa
open Go.RowKit
set_option linter.unusedSimpArgs false
set_option linter.unusedVariables false

/-- Only blocks between lo and hi, and new ones, have turned. -/
structure Frame (lo hi : Nat) (w w' : World) : Prop where
  os : w'.os = w.os
  tape : w'.tape = w.tape
  output : w'.output = w.output
  size : w.heap.size ≤ w'.heap.size
  block : ∀ i, i < w.heap.size → (i < lo ∨ hi ≤ i) → w'.heap[i]? = w.heap[i]?

section
variable {w w' w'' : World} {lo hi : Nat}
theorem Frame.refl (lo hi : Nat) (w : World) : Frame lo hi w w := ⟨rfl, rfl, rfl, Nat.le_refl _, fun _ _ _ => rfl⟩
theorem Frame.trans (h : Frame lo hi w w') (k : Frame lo hi w' w'') : Frame lo hi w w'' :=
  ⟨k.os.trans h.os, k.tape.trans h.tape, k.output.trans h.output, Nat.le_trans h.size k.size, fun i hi h2 => (k.block i (Nat.lt_of_lt_of_le hi h.size) h2).trans (h.block i hi h2)⟩
theorem Frame.of_below (h : Below w.heap.size w w') : Frame lo hi w w' := ⟨h.os, h.tape, h.output, h.size, fun i hi _ => h.block i hi⟩
theorem Frame.of_grown {row : Option Nat} (h : w.grownBy w' row) (hr : ∀ g, row = some g → lo ≤ g ∧ g < hi) : Frame lo hi w w' :=
  ⟨h.os, h.tape, h.output, h.size, fun i hi h2 => h.block i hi (fun e => by have := hr i e.symm; omega)⟩
theorem Frame.setCell {p : Addr} (h1 : lo ≤ p.block) (h2 : p.block < hi) (u : Value) : Frame lo hi w (w.setCell p u) := by
  refine ⟨rfl, rfl, rfl, by simp [World.setCell], fun i _ h => Below.heap_setCell w p u i (by rintro rfl; omega)⟩
theorem Frame.below {B : Nat} {a0 : World} (h : Frame lo hi w w') (hb : Below B a0 w) (hB : B ≤ lo) (hz : B ≤ a0.heap.size) : Below B a0 w' :=
  ⟨h.os.trans hb.os, h.tape.trans hb.tape, h.output.trans hb.output, Nat.le_trans hb.size h.size, fun i hi => (h.block i (Nat.lt_of_lt_of_le hi (Nat.le_trans hz hb.size)) (.inl (Nat.lt_of_lt_of_le hi hB))).trans (hb.block i hi)⟩
end

/-- A row of nodes of the call's own, all of it below hi. -/
def OwnH (w : World) (lo hi : Nat) (ao : Option Addr) (c : Nat) (l : List Nd) : Prop :=
  l = [] ∨ ∃ g xs A C, ao = some ⟨g, 0, none⟩ ∧ PartN w lo g c l.length l l.length xs A C ∧ g < hi ∧ ∀ (i : Nat) (x : Addr), i < l.length → A i = some x → x.block < hi

theorem OwnN.hi {w : World} {base : Nat} {ao : Option Addr} {c : Nat} {l : List Nd} (h : OwnN w base ao c l) : OwnH w base w.heap.size ao c l := by
  rcases h with h | ⟨g, xs, A, C, he, hp⟩
  · exact .inl h
  · exact .inr ⟨g, xs, A, C, he, hp, (owns_block hp.own).2, fun i x hi hx => ((hp.cols i _ hi (List.getElem?_eq_getElem hi)).lt x hx).2⟩
theorem OwnH.below {w w' : World} {lo hi : Nat} {ao : Option Addr} {c : Nat} {l : List Nd} (h : OwnH w lo hi ao c l) (hb : Below w.heap.size w w') : OwnH w' lo hi ao c l := by
  rcases h with h | ⟨g, xs, A, C, he, hp, h1, h2⟩
  · exact .inl h
  · exact .inr ⟨g, xs, A, C, he, hp.below hb, h1, h2⟩
theorem OwnH.rd {w : World} {lo hi : Nat} {ao : Option Addr} {c : Nat} {l : List Nd} (h : OwnH w lo hi ao c l) : RdN w ao l := by
  rcases h with h | ⟨g, xs, A, C, he, hp, _⟩
  · exact .inl h
  · exact OwnN.rd (base := lo) (c := c) (.inr ⟨g, xs, A, C, he, hp⟩)
/-- What is done to one range leaves the rows of another. -/
theorem OwnH.frame {w w' : World} {lo hi lo' hi' : Nat} {ao : Option Addr} {c : Nat} {l : List Nd} (h : OwnH w lo hi ao c l) (hf : Frame lo' hi' w w') (hd : hi ≤ lo' ∨ hi' ≤ lo) : OwnH w' lo hi ao c l := by
  rcases h with h | ⟨g, xs, A, C, he, hp, h1, h2⟩
  · exact .inl h
  · have hg := owns_block hp.own
    refine .inr ⟨g, xs, A, C, he, ⟨owns_keep hp.own (hf.block g hg.2 (by omega)), hp.cells, fun i n hi hn => ?_, hp.name, hp.row, hp.apart⟩, h1, h2⟩
    have ho := hp.cols i n hi hn
    exact ho.keep fun x hx hlt => hf.block x.block hlt (by have := (ho.lt x hx).1; have := h2 i x hi hx; omega)
theorem Own.frame {w w' : World} {lo' hi' base : Nat} {e : TypeId} {k : IntKind} {ao : Option Addr} {c : Nat} {l : List Int} (h : Own w base e k ao c l) (hf : Frame lo' hi' w w') (hd : (∀ x, ao = some x → x.block < lo') ∨ hi' ≤ base) : Own w' base e k ao c l :=
  h.keep fun x hx hlt => hf.block x.block hlt (by
    rcases hd with hd | hd
    · exact .inl (hd x hx)
    · right; have := (h.lt x hx).1; omega)

section
variable {w w' : World} {base g c m : Nat} {l : List Nd} {j : Nat} {xs : List Value} {A : Nat → Option Addr} {C : Nat → Nat}

theorem get_set_ne' {l : List Nd} {i j : Nat} {n' : Nd} (h : i ≠ j) : (l.set j n')[i]? = l[i]? := List.getElem?_set_ne (by omega)

/-- One field of one node is stored anew. -/
theorem PartN.store (h : PartN w base g c m l j xs A C) {k t : Nat} {n n' : Nd} {v : Value} (hk : k < j) (hn : l[k]? = some n) (ht : t < 7) (hc : n'.cols = n.cols) (hs : n'.name.size ≤ maxLen)
    (hx : NdC xs (k * 7) n (A k) (C k) → NdC (xs.set (k * 7 + t) v) (k * 7) n' (A k) (C k)) :
    PartN (w.setCell ⟨g, k * 7 + t, none⟩ v) base g c m (l.set k n') j (xs.set (k * 7 + t) v) A C := by
  have hlen : (l.set k n').length = l.length := by simp
  refine ⟨(h.own.stored (k * 7 + t) v).1, ?_, ?_, ?_, ?_, ?_⟩
  · intro i m' hi hm
    by_cases hik : i = k
    · subst hik
      have hkl : i < l.length := by
        rcases Nat.lt_or_ge i l.length with h1 | h1
        · exact h1
        · rw [List.getElem?_eq_none h1] at hn; cases hn
      rw [List.getElem?_set_self hkl] at hm; cases hm
      exact hx (h.cells i n hi hn)
    · rw [get_set_ne' hik] at hm
      have hc' := h.cells i m' hi hm
      have key : ∀ s, s < 7 → (xs.set (k * 7 + t) v)[i * 7 + s]? = xs[i * 7 + s]? := fun s hs' => List.getElem?_set_ne (by omega)
      exact ⟨(key 0 (by omega)).trans hc'.c0, (key 1 (by omega)).trans hc'.c1, (key 2 (by omega)).trans hc'.c2, (key 3 (by omega)).trans hc'.c3, (key 4 (by omega)).trans hc'.c4, (key 5 (by omega)).trans hc'.c5, (key 6 (by omega)).trans hc'.c6⟩
  · intro i m' hi hm
    have hil : i < l.length := by
      rcases Nat.lt_or_ge i (l.set k n').length with h1 | h1
      · omega
      · rw [List.getElem?_eq_none h1] at hm; cases hm
    by_cases hik : i = k
    · subst hik
      rw [List.getElem?_set_self hil] at hm; cases hm
      rw [hc]
      exact (h.cols i n hi hn).far (fun x hx' => h.row i x hi hil hx') _
    · rw [get_set_ne' hik] at hm
      exact (h.cols i m' hi hm).far (fun x hx' => h.row i x hi hil hx') _
  · intro i m' hi hm
    by_cases hik : i = k
    · subst hik
      have hkl : i < l.length := by
        rcases Nat.lt_or_ge i l.length with h1 | h1
        · exact h1
        · rw [List.getElem?_eq_none h1] at hn; cases hn
      rw [List.getElem?_set_self hkl] at hm; cases hm; exact hs
    · rw [get_set_ne' hik] at hm; exact h.name i m' hi hm
  · intro i x hi hil hx'; exact h.row i x hi (by omega) hx'
  · intro i k' x y h1 h2 h3 h4; exact h.apart i k' x y h1 h2 (by omega) (by omega)

/-- The columns of one node are written anew. -/
theorem PartN.marked (h : PartN w base g c m l j xs A C) {k : Nat} {n : Nd} {zs : List Int} (hk : k < j) (hn : l[k]? = some n) (hz : zs.length = n.cols.length) (hg : w.grownBy w' ((A k).map (·.block))) (ho : Own w' base 3 .i64 (A k) (C k) zs) :
    PartN w' base g c m (l.set k { n with cols := zs }) j xs A C := by
  have hkl : k < l.length := by
    rcases Nat.lt_or_ge k l.length with h1 | h1
    · exact h1
    · rw [List.getElem?_eq_none h1] at hn; cases hn
  have hlen : (l.set k { n with cols := zs }).length = l.length := by simp
  have hne : ∀ i, i ≠ k → ∀ x, A i = some x → i < j → i < l.length → some x.block ≠ (A k).map (·.block) := by
    intro i hik x hx hi hil
    cases hA : A k with
    | none => simp
    | some y => simp; exact h.apart i k x y hi hk hil hkl hik hx hA
  refine ⟨owns_keep h.own (hg.block g (owns_block h.own).2 ?_), ?_, ?_, ?_, ?_, ?_⟩
  · cases hA : A k with
    | none => simp
    | some y => simp; exact Ne.symm (h.row k y hk hkl hA)
  · intro i m' hi hm
    by_cases hik : i = k
    · subst hik
      rw [List.getElem?_set_self hkl] at hm; cases hm
      have hc := h.cells i n hi hn
      exact ⟨hc.c0, hc.c1, hc.c2, hc.c3, hc.c4, hc.c5, by rw [hc.c6]; simp only; rw [hz]⟩
    · rw [get_set_ne' hik] at hm
      exact h.cells i m' hi hm
  · intro i m' hi hm
    have hil : i < l.length := by
      rcases Nat.lt_or_ge i (l.set k { n with cols := zs }).length with h1 | h1
      · omega
      · rw [List.getElem?_eq_none h1] at hm; cases hm
    by_cases hik : i = k
    · subst hik
      rw [List.getElem?_set_self hil] at hm; cases hm
      exact ho
    · rw [get_set_ne' hik] at hm
      exact (h.cols i m' hi hm).grown hg (fun x hx => hne i hik x hx hi hil)
  · intro i m' hi hm
    by_cases hik : i = k
    · subst hik
      rw [List.getElem?_set_self hkl] at hm; cases hm; exact h.name i n hi hn
    · rw [get_set_ne' hik] at hm; exact h.name i m' hi hm
  · intro i x hi hil hx'; exact h.row i x hi (by omega) hx'
  · intro i k' x y h1 h2 h3 h4; exact h.apart i k' x y h1 h2 (by omega) (by omega)
end

set_option maxHeartbeats 800000 in
/-- As markIntS_any, and the row stays the call's own. -/
theorem markIntS_own (base : Nat) (ao : Option Addr) (c : Nat) (l : List Int) (m : Int) (w : World) (h : Own w base 3 .i64 ao c l) (h0 : 0 ≤ m) (hm : m + l.length ≤ 4611686018427387904) :
    Calls Try.prog 55 #[.slice ao l.length c, .int .i64 m] w fun e w' => e = .returned (.int .i64 (m + l.length)) ∧ Own w' base 3 .i64 ao c (marksL id m l.length) ∧ w.grownBy w' (ao.map (·.block)) := by
  rcases h.form with ⟨rfl, rfl, rfl⟩ | ⟨g, rfl, _⟩
  · go_enter Try.func55, Try.ntmps55
    go_wp2
    refine wp_loop_rounds 1 ?_; rw [rounds_succ]; go_wp2
    go_ret
    exact ⟨ret_int (by simp), Own.none_, World.grownBy.refl _ _⟩
  · have hs : MarkRel w w base 3 .i64 id m g c l 0 := ⟨by have h' := h; unfold Own at h'; simpa [marksL] using h', World.grownBy.refl _ _⟩
    clear h
    go_enter Try.func55, Try.ntmps55
    go_wp2
    go_loopw [1, 5] (fun q i wr => ∃ j : Nat, j ≤ l.length ∧ i = .int .i64 j ∧ q = .int .i64 (m + j) ∧ MarkRel w wr base 3 .i64 id m g c l j) (fun _ i _ => l.length - (intOf i).toNat)
    case atStart => exact ⟨0, Nat.zero_le _, rfl, by simp, hs⟩
    case round =>
      clear hs
      obtain ⟨j, hj, rfl, rfl, hr⟩ := hrel
      by_cases hlt : j < l.length
      · obtain ⟨y, hy⟩ := hr.cell hlt
        have hf := hr.1.frozenAt j
        have R := Lib.hid (hr.step hlt)
        clear hr
        go_wp2
        go_roundw
        case rel => exact ⟨j + 1, by omega, by go_num, by go_num, R.out⟩
        case measure => simp [intOf]; omega
      · have e : j = l.length := by omega
        have G := Lib.hid hr.2
        have D : Hid (Own wr base 3 .i64 (some ⟨g, 0, none⟩) c (marksL id m l.length)) := by
          show Own wr base 3 .i64 (some ⟨g, 0, none⟩) c (marksL id m l.length)
          have h1 := hr.1
          subst e
          rw [List.drop_length, List.append_nil] at h1
          unfold Own
          rw [marksL_len]; exact h1
        clear hr
        subst e
        go_wp2
        go_ret
        exact ⟨rfl, D.out, G.out⟩
end Go.Proofs.Ytfbgflmolkgopaa
namespace Go.Proofs.Ytfbgflmolkgopaa
open Go.RowKit
set_option linter.unusedSimpArgs false
set_option linter.unusedVariables false

/-- A node with its marks from k on. -/
def mkNd (n : Nd) (k : Int) : Nd := ⟨k, mtext (k + 1), k + 1 + 1, k + 1 + 1 + 1, k + 1 + 1 + 1 + 1, (k + 1 + 1 + 1 + 1 + 1) % 3 == 0, marksL id (k + 1 + 1 + 1 + 1 + 1 + 1) n.cols.length⟩
def markL : List Nd → Int → List Nd
  | [], _ => []
  | n :: l, k => mkNd n k :: markL l (k + 6 + n.cols.length)
/-- How many marks a list of nodes takes. -/
def mlen (l : List Nd) : Int := (6 * l.length + (l.map fun n => n.cols.length).sum : Nat)
theorem mlen_nil : mlen [] = 0 := rfl
theorem mlen_cons (n : Nd) (l : List Nd) : mlen (n :: l) = 6 + n.cols.length + mlen l := by simp [mlen]; omega
theorem mlen_pos (l : List Nd) : 0 ≤ mlen l := by unfold mlen; omega
theorem mlen_app (l m : List Nd) : mlen (l ++ m) = mlen l + mlen m := by simp [mlen]; omega
theorem markL_len : ∀ (l : List Nd) (k : Int), (markL l k).length = l.length
  | [], _ => rfl
  | n :: l, k => by simp [markL, markL_len l]
theorem markL_app : ∀ (l m : List Nd) (k : Int), markL (l ++ m) k = markL l k ++ markL m (k + mlen l)
  | [], m, k => by simp [markL, mlen_nil]
  | n :: l, m, k => by
    simp only [List.cons_append, markL]
    rw [markL_app l m, mlen_cons]
    rw [show k + 6 + (n.cols.length : Int) + mlen l = k + (6 + (n.cols.length : Int) + mlen l) by omega]
/-- The list of which the first j are marked. -/
def mixL (l : List Nd) (j : Nat) (k : Int) : List Nd := markL (l.take j) k ++ l.drop j
theorem mixL_len (l : List Nd) (j : Nat) (k : Int) : (mixL l j k).length = l.length := by simp [mixL, markL_len]; omega
theorem mixL_at {l : List Nd} {j : Nat} {k : Int} {n : Nd} (h : l[j]? = some n) : (mixL l j k)[j]? = some n := by
  have hj : j < l.length := by
    rcases Nat.lt_or_ge j l.length with h1 | h1
    · exact h1
    · rw [List.getElem?_eq_none h1] at h; cases h
  unfold mixL
  rw [List.getElem?_append_right (by simp [markL_len]; omega), markL_len, List.length_take, Nat.min_eq_left (by omega), Nat.sub_self, List.getElem?_drop]; simpa using h
theorem mixL_step {l : List Nd} {j : Nat} {k : Int} {n : Nd} (h : l[j]? = some n) : (mixL l j k).set j (mkNd n (k + mlen (l.take j))) = mixL l (j + 1) k := by
  have hj : j < l.length := by
    rcases Nat.lt_or_ge j l.length with h1 | h1
    · exact h1
    · rw [List.getElem?_eq_none h1] at h; cases h
  have hn : l[j] = n := by rw [List.getElem?_eq_getElem hj] at h; injection h
  unfold mixL
  rw [List.set_append_right _ _ (by simp [markL_len]; omega), markL_len, List.length_take, Nat.min_eq_left (by omega), Nat.sub_self, List.drop_eq_getElem_cons hj, List.take_succ_eq_append_getElem hj, hn, markL_app]
  simp [markL]
theorem mlen_take {l : List Nd} {j : Nat} {n : Nd} (h : l[j]? = some n) : mlen (l.take (j + 1)) = mlen (l.take j) + 6 + n.cols.length := by
  have hj : j < l.length := by
    rcases Nat.lt_or_ge j l.length with h1 | h1
    · exact h1
    · rw [List.getElem?_eq_none h1] at h; cases h
  have hn : l[j] = n := by rw [List.getElem?_eq_getElem hj] at h; injection h
  rw [List.take_succ_eq_append_getElem hj, hn, mlen_app, mlen_cons, mlen_nil]; omega
theorem mlen_take_le (l : List Nd) (j : Nat) : mlen (l.take j) ≤ mlen l := by
  have := mlen_app (l.take j) (l.drop j)
  rw [List.take_append_drop] at this
  have := mlen_pos (l.drop j); omega

section
variable {w : World} {base g c m : Nat} {l : List Nd} {j : Nat} {xs : List Value} {A : Nat → Option Addr} {C : Nat → Nat}
theorem PartN.st0 (h : PartN w base g c m l j xs A C) {k : Nat} {n : Nd} (hk : k < j) (hn : l[k]? = some n) (hm : k < m) (v : Int) :
    PartN (w.setCell ⟨g, k * 7, none⟩ (.int .i64 v)) base g c m (l.set k { n with kind := v }) j (xs.set (k * 7) (.int .i64 v)) A C := by
  have hlen := h.own.1
  exact h.store (k := k) (t := 0) (n' := { n with kind := v }) (v := .int .i64 v) hk hn (by omega) rfl (h.name k n hk hn) (fun hc => ⟨by simp [List.getElem?_set]; omega, by rw [List.getElem?_set_ne (by omega)]; exact hc.c1, by rw [List.getElem?_set_ne (by omega)]; exact hc.c2, by rw [List.getElem?_set_ne (by omega)]; exact hc.c3, by rw [List.getElem?_set_ne (by omega)]; exact hc.c4, by rw [List.getElem?_set_ne (by omega)]; exact hc.c5, by rw [List.getElem?_set_ne (by omega)]; exact hc.c6⟩)
theorem PartN.st1 (h : PartN w base g c m l j xs A C) {k : Nat} {n : Nd} (hk : k < j) (hn : l[k]? = some n) (hm : k < m) (v : ByteArray) (hs : v.size ≤ maxLen) :
    PartN (w.setCell ⟨g, k * 7 + 1, none⟩ (.string v)) base g c m (l.set k { n with name := v }) j (xs.set (k * 7 + 1) (.string v)) A C := by
  have hlen := h.own.1
  exact h.store (k := k) (t := 1) (n' := { n with name := v }) (v := .string v) hk hn (by omega) rfl hs (fun hc => ⟨by rw [List.getElem?_set_ne (by omega)]; exact hc.c0, by simp [List.getElem?_set]; omega, by rw [List.getElem?_set_ne (by omega)]; exact hc.c2, by rw [List.getElem?_set_ne (by omega)]; exact hc.c3, by rw [List.getElem?_set_ne (by omega)]; exact hc.c4, by rw [List.getElem?_set_ne (by omega)]; exact hc.c5, by rw [List.getElem?_set_ne (by omega)]; exact hc.c6⟩)
theorem PartN.st2 (h : PartN w base g c m l j xs A C) {k : Nat} {n : Nd} (hk : k < j) (hn : l[k]? = some n) (hm : k < m) (v : Int) :
    PartN (w.setCell ⟨g, k * 7 + 2, none⟩ (.int .i64 v)) base g c m (l.set k { n with col := v }) j (xs.set (k * 7 + 2) (.int .i64 v)) A C := by
  have hlen := h.own.1
  exact h.store (k := k) (t := 2) (n' := { n with col := v }) (v := .int .i64 v) hk hn (by omega) rfl (h.name k n hk hn) (fun hc => ⟨by rw [List.getElem?_set_ne (by omega)]; exact hc.c0, by rw [List.getElem?_set_ne (by omega)]; exact hc.c1, by simp [List.getElem?_set]; omega, by rw [List.getElem?_set_ne (by omega)]; exact hc.c3, by rw [List.getElem?_set_ne (by omega)]; exact hc.c4, by rw [List.getElem?_set_ne (by omega)]; exact hc.c5, by rw [List.getElem?_set_ne (by omega)]; exact hc.c6⟩)
theorem PartN.st3 (h : PartN w base g c m l j xs A C) {k : Nat} {n : Nd} (hk : k < j) (hn : l[k]? = some n) (hm : k < m) (v : Int) :
    PartN (w.setCell ⟨g, k * 7 + 3, none⟩ (.int .i64 v)) base g c m (l.set k { n with op := v }) j (xs.set (k * 7 + 3) (.int .i64 v)) A C := by
  have hlen := h.own.1
  exact h.store (k := k) (t := 3) (n' := { n with op := v }) (v := .int .i64 v) hk hn (by omega) rfl (h.name k n hk hn) (fun hc => ⟨by rw [List.getElem?_set_ne (by omega)]; exact hc.c0, by rw [List.getElem?_set_ne (by omega)]; exact hc.c1, by rw [List.getElem?_set_ne (by omega)]; exact hc.c2, by simp [List.getElem?_set]; omega, by rw [List.getElem?_set_ne (by omega)]; exact hc.c4, by rw [List.getElem?_set_ne (by omega)]; exact hc.c5, by rw [List.getElem?_set_ne (by omega)]; exact hc.c6⟩)
theorem PartN.st4 (h : PartN w base g c m l j xs A C) {k : Nat} {n : Nd} (hk : k < j) (hn : l[k]? = some n) (hm : k < m) (v : Int) :
    PartN (w.setCell ⟨g, k * 7 + 4, none⟩ (.int .i64 v)) base g c m (l.set k { n with num := v }) j (xs.set (k * 7 + 4) (.int .i64 v)) A C := by
  have hlen := h.own.1
  exact h.store (k := k) (t := 4) (n' := { n with num := v }) (v := .int .i64 v) hk hn (by omega) rfl (h.name k n hk hn) (fun hc => ⟨by rw [List.getElem?_set_ne (by omega)]; exact hc.c0, by rw [List.getElem?_set_ne (by omega)]; exact hc.c1, by rw [List.getElem?_set_ne (by omega)]; exact hc.c2, by rw [List.getElem?_set_ne (by omega)]; exact hc.c3, by simp [List.getElem?_set]; omega, by rw [List.getElem?_set_ne (by omega)]; exact hc.c5, by rw [List.getElem?_set_ne (by omega)]; exact hc.c6⟩)
theorem PartN.st5 (h : PartN w base g c m l j xs A C) {k : Nat} {n : Nd} (hk : k < j) (hn : l[k]? = some n) (hm : k < m) (v : Bool) :
    PartN (w.setCell ⟨g, k * 7 + 5, none⟩ (.bool v)) base g c m (l.set k { n with slot := v }) j (xs.set (k * 7 + 5) (.bool v)) A C := by
  have hlen := h.own.1
  exact h.store (k := k) (t := 5) (n' := { n with slot := v }) (v := .bool v) hk hn (by omega) rfl (h.name k n hk hn) (fun hc => ⟨by rw [List.getElem?_set_ne (by omega)]; exact hc.c0, by rw [List.getElem?_set_ne (by omega)]; exact hc.c1, by rw [List.getElem?_set_ne (by omega)]; exact hc.c2, by rw [List.getElem?_set_ne (by omega)]; exact hc.c3, by rw [List.getElem?_set_ne (by omega)]; exact hc.c4, by simp [List.getElem?_set]; omega, by rw [List.getElem?_set_ne (by omega)]; exact hc.c6⟩)
end

/-- What markNodeS answers and leaves. -/
def MarkedN (w : World) (lo hi : Nat) (ao : Option Addr) (c : Nat) (l : List Nd) (k : Int) (e : Ending) (w' : World) : Prop :=
  e = .returned (.int .i64 (k + mlen l)) ∧ OwnH w' lo hi ao c (markL l k) ∧ Frame lo hi w w'

end Go.Proofs.Ytfbgflmolkgopaa
namespace Go.Proofs.Ytfbgflmolkgopaa
open Go.RowKit
set_option linter.unusedSimpArgs false
set_option linter.unusedVariables false

/-- Some nodes, they and their columns in blocks from base on. -/
structure LooseN (w : World) (base b c : Nat) (l : List Nd) : Prop where
  lt : base ≤ b
  cap : l.length ≤ c
  mx : c ≤ maxLen
  nd : ∀ (i : Nat) (n : Nd), l[i]? = some n → ∃ a d, NdAt w b (0 + i * 7) n a d ∧ ∀ x, a = some x → base ≤ x.block
section
variable {w w' : World} {base b c : Nat} {l : List Nd}
theorem LooseN.rd (h : LooseN w base b c l) : RdN w (some ⟨b, 0, none⟩) l :=
  .inr ⟨b, 0, rfl, fun i n hi => by obtain ⟨a, d, hn, _⟩ := h.nd i n hi; exact ⟨a, d, hn⟩⟩
theorem NdAt.grown {o : Nat} {n : Nd} {a : Option Addr} {d : Nat} {row : Option Nat} (h : NdAt w b o n a d) (hg : w.grownBy w' row) (h1 : some b ≠ row) (h2 : ∀ x, a = some x → some x.block ≠ row) : NdAt w' b o n a d := by
  have hk : ∀ o, w'.cell? ⟨b, o, none⟩ = w.cell? ⟨b, o, none⟩ := fun o => World.cell?_of_block (hg.block b h.lt h1)
  exact ⟨(hk _).trans h.c0, (hk _).trans h.c1, (hk _).trans h.c2, (hk _).trans h.c3, (hk _).trans h.c4, (hk _).trans h.c5, (hk _).trans h.c6, h.rd.grown hg h2, h.cap, h.mx, h.nm⟩
theorem LooseN.draw {g : Nat} (h : LooseN w base b c l) (hg : w.grownBy w' (some g)) (hlt : g < base) : LooseN w' base b c l :=
  ⟨h.lt, h.cap, h.mx, fun i n hi => by
    obtain ⟨a, d, hn, ha⟩ := h.nd i n hi
    exact ⟨a, d, hn.grown hg (by have := h.lt; simp; omega) (fun x hx => by have := ha x hx; simp; omega), ha⟩⟩
theorem LooseN.below (h : LooseN w base b c l) (hb : Below w.heap.size w w') : LooseN w' base b c l :=
  ⟨h.lt, h.cap, h.mx, fun i n hi => by
    obtain ⟨a, d, hn, ha⟩ := h.nd i n hi
    exact ⟨a, d, hn.below hb, ha⟩⟩
theorem owns_cap {e : TypeId} {size m : Nat} {xs : List Value} (h : w.ownsRow base e size (.slice (some ⟨b, 0, none⟩) m c) m xs) : m ≤ c ∧ c ≤ maxLen := by
  rcases h.2 with ⟨hv, _⟩ | ⟨g', cap, cur, hv, _, _, h1, h2, _⟩
  · simp at hv
  · simp only [Value.slice.injEq] at hv
    rw [hv.2.2]; exact ⟨h1, h2⟩
theorem LooseN.of_part {m : Nat} {xs : List Value} {A : Nat → Option Addr} {C : Nat → Nat} (h : PartN w base b c m l m xs A C) (hm : l.length = m) : LooseN w base b c l := by
  have hc := owns_cap h.own
  refine ⟨(owns_block h.own).1, by omega, hc.2, fun i n hi => ?_⟩
  have hl := some_lt hi
  exact ⟨A i, C i, h.at_ (by omega) (by omega) hi, fun x hx => ((h.cols i n (by omega) hi).lt x hx).1⟩
theorem LooseN.take (h : LooseN w base b c l) (k : Nat) : LooseN w base b c (l.take k) :=
  ⟨h.lt, by have := h.cap; simp; omega, h.mx, fun i n hi => by
    rw [List.getElem?_take] at hi
    split at hi
    · exact h.nd i n hi
    · cases hi⟩
end
/-- What a drawn plan is known to be that may have been bent. -/
def LooseP (w : World) (g : Nat) (xo : Option Addr) (d : Nat) (code : List Int) (e : Ending) (w' : World) : Prop :=
  ∃ (l : List Nd) (b c : Nat), e = .returned (.slice (some ⟨b, 0, none⟩) l.length c) ∧ l.length ≤ 82 ∧ (∀ m ∈ l, m.cols.length ≤ 4) ∧ LooseN w' w.heap.size b c l ∧ Drew w g xo d code w'
theorem loose_part {w0 w : World} {g : Nat} {xo : Option Addr} {d : Nat} {code : List Int} {b c m : Nat} {l : List Nd} {xs : List Value} {A : Nat → Option Addr} {C : Nat → Nat} {e : Ending} (hp : PartN w w0.heap.size b c m l m xs A C) (hm : l.length = m) (hd : Drew w0 g xo d code w) (h81 : m ≤ 82) (h4 : ∀ n ∈ l, n.cols.length ≤ 4) (he : e = .returned (.slice (some ⟨b, 0, none⟩) m c)) : LooseP w0 g xo d code e w :=
  ⟨l, b, c, by rw [he, hm], by omega, h4, LooseN.of_part hp hm, hd⟩
theorem set_four {l : List Nd} {i : Nat} {n n' : Nd} (h : ∀ m ∈ l, m.cols.length ≤ 3) (hn : l[i]? = some n) (hc : n'.cols = n.cols) : ∀ m ∈ l.set i n', m.cols.length ≤ 4 := by
  intro m hm
  rcases List.mem_or_eq_of_mem_set hm with hm | rfl
  · have := h m hm; omega
  · rw [hc]; have := h n (List.mem_of_getElem? hn); omega
theorem drew_once {w0 w w' : World} {g : Nat} {xo : Option Addr} {d : Nat} {code : List Int} (h : Drew w0 g xo d code w) (hc : Cur w' g xo d code) (hg : w.grownBy w' (some g)) : Drew w0 g xo d code w' := ⟨hc, grownBy_trans h.2 hg⟩
/-- A number that is picked out of a row just made. -/
theorem pick_new (g : Nat) (xo : Option Addr) (d : Nat) (code : List Int) (w : World) (hc : Cur w g xo d code) (hl : code.length ≤ 1048577) (l : List Int) (n : Nat) (hn : l.length = n) (h0 : 1 ≤ n) (h1 : n ≤ 256) (cs : Array Value) (hcs : cs = (l.map (Value.int .i64)).toArray) :
    Calls Try.prog 83 #[.pointer (some ⟨g, 0, none⟩), .slice (some ⟨w.heap.size, 0, none⟩) n n] (w.alloc (.cells cs 3)) fun e w' => ∃ z : Int, e = .returned (.int .i64 z) ∧ Drew w g xo d code w' := by
  subst hcs
  refine (l01PickInt_n g xo d code w.heap.size n n l _ (hc.keepB ((Below.refl _ _).alloc (Nat.le_refl _) _)) hl (row_cells w 3 l) (by have := hc.lt; omega) (by omega) (by omega) hn).mono ?_
  rintro e w' ⟨z, _, rfl, hc2, hg2⟩
  exact ⟨z, rfl, hc2, grownBy_trans (below_grown ((Below.refl w.heap.size w).alloc (Nat.le_refl _) _)) hg2⟩
theorem nd_new (w : World) (n : Nd) (a : Option Addr) (c : Nat) (hr : Rd w .i64 a n.cols) (hc : n.cols.length ≤ c) (hm : c ≤ maxLen) (hs : n.name.size ≤ maxLen) : ∀ j k, [n][j]? = some k → NdAt (w.alloc (.cells (ndCells n a c).toArray 37)) w.heap.size (0 + j * 7) k a c := by
  intro j k hk
  have h0 : j = 0 := by have := some_lt hk; simp at this; omega
  subst h0
  simp at hk; subst hk
  have key := cells_new w n a c
  exact ⟨key 0 _ rfl, key 1 _ rfl, key 2 _ rfl, key 3 _ rfl, key 4 _ rfl, key 5 _ rfl, key 6 _ rfl, hr.below ((Below.refl _ w).alloc (Nat.le_refl _) _), hc, hm, hs⟩
theorem row_form {w : World} {base : Nat} {e : TypeId} {size n : Nat} {v : Value} {xs : List Value} (h : w.ownsRow base e size v n xs) (hn : 0 < n) : ∃ b c, v = .slice (some ⟨b, 0, none⟩) n c := by
  rcases h.2 with ⟨_, hz⟩ | ⟨g', cap, cur, hv, _⟩
  · omega
  · exact ⟨g', cap, hv⟩
/-- A node is appended that lies in the row already. -/
theorem loose_app {w0 w W w' : World} {g : Nat} {xo : Option Addr} {d : Nat} {code : List Int} {b c m i : Nat} {l : List Nd} {n : Nd} {xs : List Value} {A : Nat → Option Addr} {C : Nat → Nat} {v' : Value} (h0 : Cur w0 g xo d code) (hp : PartN w w0.heap.size b c m l m xs A C) (hm : l.length = m) (hd : Drew w0 g xo d code w) (hn : l[i]? = some n) (hW : Below w.heap.size w W)
    (ho : w'.ownsRow w0.heap.size 37 7 v' (m + 1) (xs ++ allCells [n] (fun _ => A i) (fun _ => C i))) (hg : W.grownBy w' (some b)) (h81 : m ≤ 81) (h4 : ∀ n ∈ l, n.cols.length ≤ 4) : LooseP w0 g xo d code (.returned v') w' := by
  obtain ⟨b', c', rfl⟩ : ∃ b' c', v' = .slice (some ⟨b', 0, none⟩) (m + 1) c' := by
    rcases ho.2 with ⟨_, hz⟩ | ⟨g', cap, cur, hv, _⟩
    · omega
    · exact ⟨g', cap, hv⟩
  have hc := owns_cap ho
  have hb := owns_block hp.own
  have hil := some_lt hn
  have hlen : xs.length = m * 7 := hp.own.1
  have hcol : ∀ j k, l[j]? = some k → Rd w' .i64 (A j) k.cols := fun j k hk => by
    have hjl := some_lt hk
    have hoj := hp.cols j k (by omega) hk
    exact ((hoj.rd.below hW).grown hg (fun x hx => by have := hp.row j x (by omega) hjl hx; simpa using this))
  refine ⟨l ++ [n], b', c', by rw [List.length_append, hm]; rfl, by simp; omega, ?_, ⟨(owns_block ho).1, by simp; omega, hc.2, ?_⟩, ?_⟩
  · intro k hk
    rcases List.mem_append.1 hk with hk | hk
    · exact h4 k hk
    · simp at hk; subst hk; exact h4 k (List.mem_of_getElem? hn)
  · intro j k hk
    have hx : ∀ t, t < 7 → j < m + 1 → w'.cell? ⟨b', 0 + j * 7 + t, none⟩ = (xs ++ allCells [n] (fun _ => A i) (fun _ => C i))[j * 7 + t]? := fun t ht hj => by
      rw [Nat.zero_add, World.ownsRow.cellAt ho _ (by omega)]
    by_cases hj : j < l.length
    · rw [List.getElem?_append_left hj] at hk
      have hcj := hp.cells j k (by omega) hk
      have hoj := hp.cols j k (by omega) hk
      have key : ∀ t, t < 7 → w'.cell? ⟨b', 0 + j * 7 + t, none⟩ = xs[j * 7 + t]? := fun t ht => by
        rw [hx t ht (by omega), List.getElem?_append_left (by omega)]
      exact ⟨A j, C j, ⟨(key 0 (by omega)).trans hcj.c0, (key 1 (by omega)).trans hcj.c1, (key 2 (by omega)).trans hcj.c2, (key 3 (by omega)).trans hcj.c3, (key 4 (by omega)).trans hcj.c4, (key 5 (by omega)).trans hcj.c5, (key 6 (by omega)).trans hcj.c6, hcol j k hk, hoj.cap_ge, hoj.cap_le, hp.name j k (by omega) hk⟩, fun x hx => (hoj.lt x hx).1⟩
    · rw [List.getElem?_append_right (by omega)] at hk
      have hj0 : j - l.length = 0 := by have := some_lt hk; simp at this; omega
      rw [hj0] at hk
      simp at hk; subst hk
      have hjm : j = m := by omega
      have hoi := hp.cols i n (by omega) hn
      have key : ∀ t, t < 7 → w'.cell? ⟨b', 0 + j * 7 + t, none⟩ = (ndCells n (A i) (C i))[t]? := fun t ht => by
        rw [hx t ht (by omega), List.getElem?_append_right (by omega), show j * 7 + t - xs.length = t by omega]
        simp [allCells, List.getElem?_append_left, ndCells, ht]
      exact ⟨A i, C i, ⟨key 0 (by omega), key 1 (by omega), key 2 (by omega), key 3 (by omega), key 4 (by omega), key 5 (by omega), key 6 (by omega), hcol i n hn, hoi.cap_ge, hoi.cap_le, hp.name i n (by omega) hn⟩, fun x hx => (hoi.lt x hx).1⟩
  · have hz := hd.2.size
    have hk : ∀ q, q < w0.heap.size → w'.heap[q]? = w.heap[q]? := fun q hq => (hg.block q (by have := hW.size; omega) (by simp; omega)).trans (hW.block q (by omega))
    exact ⟨hd.1.keepI h0.lt h0.code_lt hk, ⟨hg.os.trans (hW.os.trans hd.2.os), hg.tape.trans (hW.tape.trans hd.2.tape), hg.output.trans (hW.output.trans hd.2.output), Nat.le_trans hz (Nat.le_trans hW.size hg.size), fun q hq hne => (hk q hq).trans (hd.2.block q hq hne)⟩⟩
/-- A column is appended to those of one node. -/
theorem loose_col {w0 w W w' : World} {g : Nat} {xo : Option Addr} {d : Nat} {code : List Int} {b c m i : Nat} {l : List Nd} {n : Nd} {xs : List Value} {A : Nat → Option Addr} {C : Nat → Nat} {ao : Option Addr} {co : Nat} {z : Int} {e : Ending} (h0 : Cur w0 g xo d code) (hp : PartN w w0.heap.size b c m l m xs A C) (hm : l.length = m) (hd : Drew w0 g xo d code w) (hn : l[i]? = some n) (hW : Below w.heap.size w W)
    (ho : Own w' w0.heap.size 3 .i64 ao co (n.cols ++ [z])) (hg : W.grownBy w' ((A i).map (·.block))) (h81 : m ≤ 82) (h3 : ∀ n ∈ l, n.cols.length ≤ 3) (he : e = .returned (.slice (some ⟨b, 0, none⟩) m c)) :
    w'.cell? ⟨b, i * 7 + 6, none⟩ = some (.slice (A i) n.cols.length (C i)) ∧ w'.frozen? ⟨b, i * 7 + 6, none⟩ = false ∧ LooseP w0 g xo d code e (w'.setCell ⟨b, i * 7 + 6, none⟩ (.slice ao (n.cols.length + 1) co)) := by
  have hb := owns_block hp.own
  have hil := some_lt hn
  have hlen : xs.length = m * 7 := hp.own.1
  have hbne : some b ≠ (A i).map (·.block) := by
    cases hA : A i with
    | none => simp
    | some y => simp; exact Ne.symm (hp.row i y (by omega) hil hA)
  have hbk : w'.heap[b]? = w.heap[b]? := (hg.block b (by have := hW.size; omega) hbne).trans (hW.block b hb.2)
  have ow := owns_keep hp.own hbk
  have cc : ∀ o, o < m * 7 → w'.cell? ⟨b, o, none⟩ = xs[o]? := fun o hh => World.ownsRow.cellAt ow o hh
  -- the columns' row is not the nodes'
  have hao : ∀ x, ao = some x → x.block ≠ b := by
    intro x hx hxb
    rcases ho.2 with ⟨hv, _⟩ | ⟨g1, cap1, cur1, hv1, _, hg1, _⟩
    · simp only [Value.slice.injEq] at hv; rw [hv.1] at hx; cases hx
    · simp only [Value.slice.injEq] at hv1
      rw [hv1.1] at hx; cases hx
      simp only at hxb
      rcases ow.2 with ⟨hv2, _⟩ | ⟨g2, cap2, cur2, hv2, _, hg2, _⟩
      · simp at hv2
      · simp only [Value.slice.injEq, Option.some.injEq, Addr.mk.injEq, and_true] at hv2
        rw [← hv2.1, ← hxb, hg1] at hg2
        simp at hg2
  have hs := (ow.stored (i * 7 + 6) (.slice ao (n.cols.length + 1) co)).1
  have hcs := owns_cap ow
  have far : ∀ (x : Nat), x ≠ b → (w'.setCell ⟨b, i * 7 + 6, none⟩ (.slice ao (n.cols.length + 1) co)).heap[x]? = w'.heap[x]? := fun x hx => Below.heap_setCell w' ⟨b, i * 7 + 6, none⟩ _ x hx
  refine ⟨(cc _ (by omega)).trans (hp.cells i n (by omega) hn).c6, World.ownsRow.frozenAt ow _, ⟨l.set i { n with cols := n.cols ++ [z] }, b, c, by rw [he, List.length_set, hm], by simp; omega, ?_, ⟨hb.1, by simp; omega, hcs.2, ?_⟩, ?_⟩⟩
  · intro k hk
    rcases List.mem_or_eq_of_mem_set hk with hk | rfl
    · have := h3 k hk; omega
    · have := h3 n (List.mem_of_getElem? hn); simp; omega
  · intro j k hk
    have hjl : j < l.length := by have := some_lt hk; simpa using this
    have key : ∀ t, t < 7 → (w'.setCell ⟨b, i * 7 + 6, none⟩ (.slice ao (n.cols.length + 1) co)).cell? ⟨b, 0 + j * 7 + t, none⟩ = (xs.set (i * 7 + 6) (.slice ao (n.cols.length + 1) co))[j * 7 + t]? := fun t ht => by
      rw [Nat.zero_add, World.ownsRow.cellAt hs _ (by omega)]
    by_cases hji : j = i
    · subst hji
      rw [List.getElem?_set_self hil] at hk; cases hk
      have hcj := hp.cells j n (by omega) hn
      have k2 : ∀ t, t < 6 → (w'.setCell ⟨b, j * 7 + 6, none⟩ (.slice ao (n.cols.length + 1) co)).cell? ⟨b, 0 + j * 7 + t, none⟩ = xs[j * 7 + t]? := fun t ht => by
        rw [key t (by omega), List.getElem?_set_ne (by omega)]
      have o2 : Own (w'.setCell ⟨b, j * 7 + 6, none⟩ (.slice ao (n.cols.length + 1) co)) w0.heap.size 3 .i64 ao co (n.cols ++ [z]) := ho.keep fun x hx _ => far x.block (hao x hx)
      refine ⟨ao, co, ⟨(k2 0 (by omega)).trans hcj.c0, (k2 1 (by omega)).trans hcj.c1, (k2 2 (by omega)).trans hcj.c2, (k2 3 (by omega)).trans hcj.c3, (k2 4 (by omega)).trans hcj.c4, (k2 5 (by omega)).trans hcj.c5, ?_, o2.rd, o2.cap_ge, o2.cap_le, hp.name j n (by omega) hn⟩, fun x hx => (ho.lt x hx).1⟩
      rw [key 6 (by omega), List.getElem?_set_self (by omega)]; simp
    · rw [List.getElem?_set_ne (by omega)] at hk
      have hcj := hp.cells j k (by omega) hk
      have hoj := hp.cols j k (by omega) hk
      have k2 : ∀ t, t < 7 → (w'.setCell ⟨b, i * 7 + 6, none⟩ (.slice ao (n.cols.length + 1) co)).cell? ⟨b, 0 + j * 7 + t, none⟩ = xs[j * 7 + t]? := fun t ht => by
        rw [key t (by omega), List.getElem?_set_ne (by omega)]
      have hoW := hoj.below hW
      have hne : ∀ x, A j = some x → some x.block ≠ (A i).map (·.block) := by
        intro x hx
        cases hA : A i with
        | none => simp
        | some y => simp; exact hp.apart j i x y (by omega) (by omega) hjl hil hji hx hA
      have o2 := (hoW.grown hg hne).keep (w' := w'.setCell ⟨b, i * 7 + 6, none⟩ (.slice ao (n.cols.length + 1) co)) fun x hx _ => far x.block (hp.row j x (by omega) hjl hx)
      exact ⟨A j, C j, ⟨(k2 0 (by omega)).trans hcj.c0, (k2 1 (by omega)).trans hcj.c1, (k2 2 (by omega)).trans hcj.c2, (k2 3 (by omega)).trans hcj.c3, (k2 4 (by omega)).trans hcj.c4, (k2 5 (by omega)).trans hcj.c5, (k2 6 (by omega)).trans hcj.c6, o2.rd, o2.cap_ge, o2.cap_le, hp.name j k (by omega) hk⟩, fun x hx => (hoj.lt x hx).1⟩
  · have hz := hd.2.size
    have hk : ∀ q, q < w0.heap.size → w'.heap[q]? = w.heap[q]? := fun q hq => (hg.block q (by have := hW.size; omega) (by
      cases hA : A i with
      | none => simp
      | some y => have := ((hp.cols i n (by omega) hn).lt y hA).1; simp; omega)).trans (hW.block q (by omega))
    exact drew_set h0 ⟨hd.1.keepI h0.lt h0.code_lt hk, ⟨hg.os.trans (hW.os.trans hd.2.os), hg.tape.trans (hW.tape.trans hd.2.tape), hg.output.trans (hW.output.trans hd.2.output), Nat.le_trans hz (Nat.le_trans hW.size hg.size), fun q hq hne => (hk q hq).trans (hd.2.block q hq hne)⟩⟩ hb.1
end Go.Proofs.Ytfbgflmolkgopaa
namespace Go.Proofs.Ytfbgflmolkgopaa
open Go.RowKit
set_option linter.unusedSimpArgs false
set_option linter.unusedVariables false

set_option maxRecDepth 100000 in
set_option maxHeartbeats 4000000 in
theorem break_any (g : Nat) (xo : Option Addr) (d : Nat) (code : List Int) (w0 w : World) (b c : Nat) (l : List Nd) (xs : List Value) (A : Nat → Option Addr) (C : Nat → Nat) (h0 : Cur w0 g xo d code) (hl : code.length ≤ 1048577)
    (hd : Drew w0 g xo d code w) (hp : PartN w w0.heap.size b c l.length l l.length xs A C) (h1 : 1 ≤ l.length) (h81 : l.length ≤ 81) (h3 : ∀ m ∈ l, m.cols.length ≤ 3) :
    Calls Try.prog 59 #[.pointer (some ⟨g, 0, none⟩), .slice (some ⟨b, 0, none⟩) l.length c] w (LooseP w0 g xo d code) := by
  have hglt := h0.lt
  have hcap := owns_cap hp.own
  have hbb := (owns_block hp.own).1
  have H0 := Lib.hid h0; have HL := Lib.hid hl; have HD := Lib.hid hd; have HP := Lib.hid hp; have H3 := Lib.hid h3
  have H4 := Lib.hid (show ∀ m ∈ l, m.cols.length ≤ 4 from fun m hm => by have := h3 m hm; omega)
  clear h0 hl hd hp h3
  generalize hm : l.length = m at *
  have HM := Lib.hid hm; clear hm
  go_enter Try.func59, Try.ntmps59
  go_wp2_with fail
  refine (l01Once_any g xo d code 8 _ HD.out.1 HL.out (by omega) (by omega)).mono ?_
  rintro e w1 ⟨bo, rfl, c1, g1⟩
  have D1 := Lib.hid (drew_once HD.out c1 g1); have P1 := Lib.hid (HP.out.draw g1 hglt)
  clear c1 g1 HD HP
  cases bo with
  | false =>
    go_wp2_with fail
    go_ret
    exact loose_part P1.out HM.out D1.out (by omega) H4.out rfl
  | true =>
    have hm0 : ((m : Int) == 0) = false := by simp; omega
    go_wp2_with fail
    refine (below_d g xo d code m _ D1.out.1 HL.out (by omega) (by omega)).mono ?_
    rintro e w2 ⟨iz, hi0, hi1, rfl, d2⟩
    have D2 := Lib.hid (D1.out.next d2); have P2 := Lib.hid (P1.out.draw d2.2 hglt)
    clear d2 D1 P1
    obtain ⟨i, rfl⟩ : ∃ i : Nat, iz = i := ⟨iz.toNat, by omega⟩
    have him : i < m := by omega
    obtain ⟨n, hn⟩ : ∃ n, l[i]? = some n := ⟨l[i]'(by have := HM.out; omega), List.getElem?_eq_getElem _⟩
    have HN := Lib.hid hn; clear hn
    go_wp2_with fail
    refine (below_d g xo d code 7 _ D2.out.1 HL.out (by omega) (by omega)).mono ?_
    rintro e w3 ⟨k, hk0, hk1, rfl, d3⟩
    have D3 := Lib.hid (D2.out.next d3); have P3 := Lib.hid (P2.out.draw d3.2 hglt)
    clear d3 D2 P2
    have hk : k = 0 ∨ k = 1 ∨ k = 2 ∨ k = 3 ∨ k = 4 ∨ k = 5 ∨ k = 6 := by omega
    rcases hk with rfl | rfl | rfl | rfl | rfl | rfl | rfl
    · go_wp2_with fail
      refine (below_d g xo d code 10 _ D3.out.1 HL.out (by omega) (by omega)).mono ?_
      rintro e w4 ⟨y, hy0, hy1, rfl, d4⟩
      have D4 := Lib.hid (D3.out.next d4); have P4 := Lib.hid (P3.out.draw d4.2 hglt)
      clear d4 D3 P3
      obtain ⟨y0, e0⟩ := P4.out.some_ (o := i * 7) (by omega)
      have hf0 := P4.out.frozen
      have Q := Lib.hid (P4.out.st0 (by omega) HN.out (by omega) (y - 1))
      have DQ := Lib.hid (drew_set (o := i * 7) (v := .int .i64 (y - 1)) H0.out D4.out hbb)
      go_wp2_with fail
      go_ret
      exact loose_part Q.out (by rw [List.length_set]; exact HM.out) DQ.out (by omega) (set_four H3.out HN.out rfl) rfl
    · have PK := Lib.hid (pick_new g xo d code w3 D3.out.1 HL.out [-1, 63, 64, 2] 4 rfl (by omega) (by omega) _ rfl)
      go_wp2_with fail
      refine PK.out.mono ?_
      rintro e w4 ⟨y, rfl, d4⟩
      have D4 := Lib.hid (D3.out.next d4); have P4 := Lib.hid (P3.out.draw d4.2 hglt)
      clear d4 D3 P3 PK
      obtain ⟨y0, e0⟩ := P4.out.some_ (o := i * 7 + 2) (by omega)
      have hf0 := P4.out.frozen
      have Q := Lib.hid (P4.out.st2 (by omega) HN.out (by omega) y)
      have DQ := Lib.hid (drew_set (o := i * 7 + 2) (v := .int .i64 y) H0.out D4.out hbb)
      go_wp2_with fail
      go_ret
      exact loose_part Q.out (by rw [List.length_set]; exact HM.out) DQ.out (by omega) (set_four H3.out HN.out rfl) rfl
    · have PK := Lib.hid (pick_new g xo d code w3 D3.out.1 HL.out [-1, 1000000, 1000001] 3 rfl (by omega) (by omega) _ rfl)
      go_wp2_with fail
      refine PK.out.mono ?_
      rintro e w4 ⟨y, rfl, d4⟩
      have D4 := Lib.hid (D3.out.next d4); have P4 := Lib.hid (P3.out.draw d4.2 hglt)
      clear d4 D3 P3 PK
      obtain ⟨y0, e0⟩ := P4.out.some_ (o := i * 7 + 4) (by omega)
      have hf0 := P4.out.frozen
      have Q := Lib.hid (P4.out.st4 (by omega) HN.out (by omega) y)
      have DQ := Lib.hid (drew_set (o := i * 7 + 4) (v := .int .i64 y) H0.out D4.out hbb)
      go_wp2_with fail
      go_ret
      exact loose_part Q.out (by rw [List.length_set]; exact HM.out) DQ.out (by omega) (set_four H3.out HN.out rfl) rfl
    · obtain ⟨y0, e0⟩ := P3.out.some_ (o := i * 7 + 5) (by omega)
      have hf0 := P3.out.frozen
      have Q := Lib.hid (P3.out.st5 (by omega) HN.out (by omega) true)
      have DQ := Lib.hid (drew_set (o := i * 7 + 5) (v := .bool true) H0.out D3.out hbb)
      go_wp2_with fail
      go_ret
      exact loose_part Q.out (by rw [List.length_set]; exact HM.out) DQ.out (by omega) (set_four H3.out HN.out rfl) rfl
    · have NA := P3.out.at_ (i := i) (by omega) (by omega) HN.out
      obtain ⟨q0, q1, q2, q3, q4, q5, q6, qr, qc, qm, qn⟩ := NA
      rw [Nat.zero_add] at q0 q1 q2 q3 q4 q5 q6
      have NW := Lib.hid (nd_new w3 n (A i) (C i) qr qc qm qn)
      have OWN := Lib.hid (P3.out.below ((Below.refl _ w3).alloc (Nat.le_refl _) (.cells (ndCells n (A i) (C i)).toArray 37))).own
      have LA := Lib.hid (fun (v' : Value) (w' : World) ho hg => loose_app (v' := v') (w' := w') (W := w3.alloc (.cells (ndCells n (A i) (C i)).toArray 37)) H0.out P3.out HM.out D3.out HN.out ((Below.refl _ w3).alloc (Nat.le_refl _) _) ho hg h81 H4.out)
      have hz3 : w0.heap.size ≤ (w3.alloc (.cells (ndCells n (A i) (C i)).toArray 37)).heap.size := by have := D3.out.2.size; simp; omega
      clear qr qc qm qn
      obtain ⟨kd, nmm, co, op, nu, sl, cols⟩ := n
      simp only at q0 q1 q2 q3 q4 q5 q6
      go_wp2_with (at_builtin; go_must (refine wpList_appendNs _ rfl (.tmp 56) (.tmp 61) 24 rfl w0.heap.size Try.underlying24 Try.infoNode rfl _ m xs rfl OWN.out w3.heap.size 0 1 1 [⟨kd, nmm, co, op, nu, sl, cols⟩] (fun _ => A i) (fun _ => C i) rfl rfl NW.out (by omega) hz3 ?_; intro v' w4 o4 g4 _; obtain ⟨b4, c4, rfl⟩ := row_form o4 (by omega); have LP := Lib.hid (LA.out _ _ o4 g4); clear o4 g4))
      go_ret
      exact LP.out
    · have LT := Lib.hid ((LooseN.of_part P3.out HM.out).take i)
      have TL := Lib.hid (show (l.take i).length = i by rw [List.length_take, HM.out]; omega)
      have hic : (i : Int) ≤ c := by omega
      go_wp2_with fail
      go_ret
      exact ⟨l.take i, b, c, ret_slice TL.out.symm, by rw [TL.out]; omega, fun k hk => H4.out k (List.mem_of_mem_take hk), LT.out, D3.out⟩
    · have e6 : w3.cell? ⟨b, i * 7 + 6, none⟩ = some (.slice (A i) n.cols.length (C i)) := (P3.out.cellAt (by omega)).trans (P3.out.cells i _ (by omega) HN.out).c6
      have OC := Lib.hid (P3.out.cols i n (by omega) HN.out)
      have n3 := H3.out n (List.mem_of_getElem? HN.out)
      have LC := Lib.hid (fun (ao : Option Addr) (co : Nat) (w' : World) ho hg => loose_col (ao := ao) (co := co) (w' := w') (z := 0) (W := w3.alloc (.cells #[.int .i64 0] 3)) H0.out P3.out HM.out D3.out HN.out ((Below.refl _ w3).alloc (Nat.le_refl _) _) ho hg (by omega) H3.out rfl)
      have hz3 : w0.heap.size ≤ (w3.alloc (.cells #[.int .i64 0] 3)).heap.size := by have := D3.out.2.size; simp; omega
      generalize hcl : n.cols.length = cl at *
      have CL := Lib.hid hcl; clear hcl
      go_wp2_with (at_builtin; go_must (refine wpList_appendI _ rfl (.tmp 76) (.tmp 77) 32 rfl w0.heap.size 3 Try.underlying32 Try.infoInt (A i) (C i) cl n.cols rfl CL.out.symm (OC.out.alloc _) w3.heap.size 1 0 rfl (cell_one _ _ _) (by rw [CL.out]; omega) hz3 ?_; rw [CL.out]; intro ao4 c4 w4 o4 g4; have LP := Lib.hid (LC.out _ _ _ o4 g4); have e7 := LP.out.1; have f7 := LP.out.2.1; clear o4 g4))
      go_ret
      exact LP.out.2.2
end Go.Proofs.Ytfbgflmolkgopaa
namespace Go.Proofs.Ytfbgflmolkgopaa
open Go.RowKit
set_option linter.unusedSimpArgs false
set_option linter.unusedVariables false

def onceN : Nd := ⟨7, ⟨#[]⟩, 0, 0, 0, false, []⟩
def scanT : Nd := ⟨0, ⟨#[116, 49]⟩, 0, 0, 0, false, []⟩
theorem allC_app (l l2 : List Nd) : allCells (l ++ l2) (fun _ => none) (fun _ => 0) = allCells l (fun _ => none) (fun _ => 0) ++ allCells l2 (fun _ => none) (fun _ => 0) := by
  have h := allCells_app l l2 (fun _ => none) (fun _ => none) (fun _ => 0) (fun _ => 0)
  simpa using h
theorem drew_row {w0 w W w' : World} {g : Nat} {xo : Option Addr} {d : Nat} {code : List Int} {row : Option Nat} (h0 : Cur w0 g xo d code) (hd : Drew w0 g xo d code w) (hW : Below w.heap.size w W) (hg : W.grownBy w' row) (hr : ∀ q, row = some q → w0.heap.size ≤ q) : Drew w0 g xo d code w' := by
  have hz := hd.2.size
  have hk : ∀ q, q < w0.heap.size → w'.heap[q]? = w.heap[q]? := fun q hq => (hg.block q (by have := hW.size; omega) (fun e => by have := hr q e.symm; omega)).trans (hW.block q (by omega))
  exact ⟨hd.1.keepI h0.lt h0.code_lt hk, ⟨hg.os.trans (hW.os.trans hd.2.os), hg.tape.trans (hW.tape.trans hd.2.tape), hg.output.trans (hW.output.trans hd.2.output), Nat.le_trans hz (Nat.le_trans hW.size hg.size), fun q hq hne => (hk q hq).trans (hd.2.block q hq hne)⟩⟩
theorem owns_below {w w' : World} {base : Nat} {e : TypeId} {size n : Nat} {v : Value} {xs : List Value} (h : w.ownsRow base e size v n xs) (hb : Below w.heap.size w w') : w'.ownsRow base e size v n xs := by
  refine ⟨h.1, ?_⟩
  rcases h.2 with h2 | ⟨g', cap, cur, hv, hb', hg, r⟩
  · exact .inl h2
  · refine .inr ⟨g', cap, cur, hv, hb', ?_, r⟩
    have hlt : g' < w.heap.size := by
      rcases Nat.lt_or_ge g' w.heap.size with h1 | h1
      · exact h1
      · rw [Array.getElem?_eq_none h1] at hg; cases hg
    rw [hb.block g' hlt]; exact hg
/-- Onces that are laid one by one. -/
def TowRel (w : World) (g : Nat) (xo : Option Addr) (d : Nat) (code : List Int) (wr : World) (v i : Value) : Prop :=
  ∃ j : Nat, i = .int .i64 j ∧ j ≤ 10 ∧ wr.ownsRow w.heap.size 37 7 v j (allCells (List.replicate j onceN) (fun _ => none) fun _ => 0) ∧ Drew w g xo d code wr
theorem tow_next {w wr W w' : World} {g : Nat} {xo : Option Addr} {d : Nat} {code : List Int} {j : Nat} {v v' : Value} (h0 : Cur w g xo d code) (hd : Drew w g xo d code wr) (hj : j < 10) (hw : wr.ownsRow w.heap.size 37 7 v j (allCells (List.replicate j onceN) (fun _ => none) fun _ => 0)) (hW : Below wr.heap.size wr W)
    (ho : w'.ownsRow w.heap.size 37 7 v' (j + 1) (allCells (List.replicate j onceN) (fun _ => none) (fun _ => 0) ++ allCells [onceN] (fun _ => none) (fun _ => 0))) (hg : W.grownBy w' v.ownBlock) : TowRel w g xo d code w' v' (.int .i64 ((j : Int) + 1)) := by
  refine ⟨j + 1, by simp, by omega, ?_, drew_row h0 hd hW hg (fun q hq => (hw.lt q hq).1)⟩
  rw [List.replicate_succ', allC_app]
  exact ho
theorem loose_plain {w : World} {base b c m : Nat} {l : List Nd} (ho : w.ownsRow base 37 7 (.slice (some ⟨b, 0, none⟩) m c) m (allCells l (fun _ => none) fun _ => 0)) (hm : l.length = m) (hc : ∀ n ∈ l, n.cols = [] ∧ n.name.size ≤ 100) : LooseN w base b c l := by
  have hcap := owns_cap ho
  refine ⟨(owns_block ho).1, by omega, hcap.2, fun i n hi => ⟨none, 0, ?_, fun x hx => by cases hx⟩⟩
  have hl := some_lt hi
  obtain ⟨hcc, hnn⟩ := hc n (List.mem_of_getElem? hi)
  have key : ∀ t, t < 7 → w.cell? ⟨b, 0 + i * 7 + t, none⟩ = (ndCells n none 0)[t]? := fun t ht => by
    rw [Nat.zero_add, World.ownsRow.cellAt ho _ (by omega)]
    exact allCells_get l _ _ i n hi t ht
  exact ⟨key 0 (by omega), key 1 (by omega), key 2 (by omega), key 3 (by omega), key 4 (by omega), key 5 (by omega), key 6 (by omega), by rw [hcc]; exact .inl rfl, by rw [hcc]; simp, by unfold maxLen; omega, by unfold maxLen; omega⟩
theorem tow_end {w wr W w' : World} {g : Nat} {xo : Option Addr} {d : Nat} {code : List Int} {j : Nat} {v : Value} {b c : Nat} {e : Ending} (h0 : Cur w g xo d code) (hd : Drew w g xo d code wr) (hj : j ≤ 10) (hw : wr.ownsRow w.heap.size 37 7 v j (allCells (List.replicate j onceN) (fun _ => none) fun _ => 0)) (hW : Below wr.heap.size wr W)
    (ho : w'.ownsRow w.heap.size 37 7 (.slice (some ⟨b, 0, none⟩) (j + 1) c) (j + 1) (allCells (List.replicate j onceN) (fun _ => none) (fun _ => 0) ++ allCells [scanT] (fun _ => none) (fun _ => 0))) (hg : W.grownBy w' v.ownBlock) (he : e = .returned (.slice (some ⟨b, 0, none⟩) (j + 1) c)) : LooseP w g xo d code e w' := by
  rw [← allC_app] at ho
  have hl : (List.replicate j onceN ++ [scanT]).length = j + 1 := by simp
  have hm : ∀ n ∈ List.replicate j onceN ++ [scanT], n.cols = [] ∧ n.name.size ≤ 100 := by
    intro n hn
    rcases List.mem_append.1 hn with hn | hn
    · rw [List.eq_of_mem_replicate hn]; exact ⟨rfl, by decide⟩
    · simp at hn; subst hn; exact ⟨rfl, by decide⟩
  exact ⟨_, b, c, by rw [he, hl], by rw [hl]; omega, fun n hn => by rw [(hm n hn).1]; simp, loose_plain ho hl hm, drew_row h0 hd hW hg (fun q hq => (hw.lt q hq).1)⟩

set_option maxRecDepth 100000 in
set_option maxHeartbeats 4000000 in
theorem drawLoose_any (g : Nat) (xo : Option Addr) (d : Nat) (code : List Int) (b : Option Addr) (c : Nat) (w : World) (hc : Cur w g xo d code) (hl : code.length ≤ 1048577) :
    Calls Try.prog 29 #[.pointer (some ⟨g, 0, none⟩), .slice b code.length c] w (LooseP w g xo d code) := by
  have hglt := hc.lt
  have HC := Lib.hid hc; have HL := Lib.hid hl; clear hc hl
  go_enter Try.func29, Try.ntmps29
  go_wp2_with fail
  refine (drawDeep_any g xo d code b c _ HC.out HL.out).mono ?_
  rintro e w1 ⟨l, b1, c1, xs, A, C, rfl, h1, h2, h3, p1, d1⟩
  have BR := Lib.hid (break_any g xo d code w w1 b1 c1 l xs A C HC.out HL.out d1 p1 h1 h2 h3)
  clear h3 p1 d1
  go_wp2_with fail
  refine BR.out.mono ?_
  rintro e w2 ⟨l2, b2, c2, rfl, k1, k2, ln2, d2⟩
  have LN2 := Lib.hid ln2; have D2 := Lib.hid d2; have K2 := Lib.hid k2
  clear ln2 d2 k2 BR
  go_wp2_with fail
  refine (l01Once_any g xo d code 30 _ D2.out.1 HL.out (by omega) (by omega)).mono ?_
  rintro e w3 ⟨bo, rfl, c3, g3⟩
  have D3 := Lib.hid (drew_once D2.out c3 g3); have LN3 := Lib.hid (LN2.out.draw g3 hglt)
  clear c3 g3 D2 LN2
  cases bo with
  | false =>
    go_wp2_with fail
    go_ret
    exact ⟨l2, b2, c2, rfl, k1, K2.out, LN3.out, D3.out⟩
  | true =>
    clear LN3
    go_wp2_with fail
    refine (below_d g xo d code 2 _ D3.out.1 HL.out (by omega) (by omega)).mono ?_
    rintro e w4 ⟨y, hy0, hy1, rfl, d4⟩
    have P0 := Lib.hid (show TowRel w g xo d code w4 (.slice none 0 0) (.int .i64 0) from ⟨0, rfl, by omega, World.ownsRow_nil _ _ _ _, D3.out.next d4⟩)
    clear d4 D3
    go_wp2_with fail
    go_loopw [5, 7] (fun v i wr => TowRel w g xo d code wr v i) (fun _ i _ => 10 - (intOf i).toNat)
    case atStart => exact P0.out
    case round =>
      clear P0
      obtain ⟨j, rfl, hj, hw, hd⟩ := hrel
      have HW := Lib.hid hw; have HD := Lib.hid hd
      clear hw hd
      by_cases hlt : (j : Int) < 9 + y
      · have NW := Lib.hid (nd_new wr onceN none 0 (.inl rfl) (by decide) (by decide) (by decide))
        have OA := Lib.hid (owns_below HW.out ((Below.refl _ wr).alloc (Nat.le_refl _) (.cells (ndCells onceN none 0).toArray 37)))
        have hb : w.heap.size ≤ (wr.alloc (.cells (ndCells onceN none 0).toArray 37)).heap.size := by have := HD.out.2.size; simp; omega
        have BA := Lib.hid ((Below.refl _ wr).alloc (Nat.le_refl _) (.cells (ndCells onceN none 0).toArray 37))
        go_wp2_with (at_builtin; go_must (refine wpList_appendNs _ rfl (.tmp 23) (.tmp 25) 24 rfl w.heap.size Try.underlying24 Try.infoNode rfl _ j _ rfl OA.out wr.heap.size 0 1 1 [onceN] (fun _ => none) (fun _ => 0) rfl rfl NW.out (by omega) hb ?_; intro v' w5 o5 g5 _; have R := Lib.hid (tow_next HC.out HD.out (by omega) HW.out BA.out o5 g5); clear o5 g5))
        go_roundw
        case rel => exact R.out
        case measure => simp [intOf]; omega
      · have NW := Lib.hid (nd_new wr scanT none 0 (.inl rfl) (by decide) (by decide) (by decide))
        have OA := Lib.hid (owns_below HW.out ((Below.refl _ wr).alloc (Nat.le_refl _) (.cells (ndCells scanT none 0).toArray 37)))
        have hb : w.heap.size ≤ (wr.alloc (.cells (ndCells scanT none 0).toArray 37)).heap.size := by have := HD.out.2.size; simp; omega
        have BA := Lib.hid ((Below.refl _ wr).alloc (Nat.le_refl _) (.cells (ndCells scanT none 0).toArray 37))
        go_wp2_with (at_builtin; go_must (refine wpList_appendNs _ rfl (.tmp 27) (.tmp 29) 24 rfl w.heap.size Try.underlying24 Try.infoNode rfl _ j _ rfl OA.out wr.heap.size 0 1 1 [scanT] (fun _ => none) (fun _ => 0) rfl rfl NW.out (by omega) hb ?_; intro v' w5 o5 g5 _; obtain ⟨b5, c5, rfl⟩ := row_form o5 (by omega); have R := Lib.hid (tow_end HC.out HD.out hj HW.out BA.out o5 g5 rfl); clear o5 g5))
        go_ret
        exact R.out
/-- What DrawPlanOk gives. -/
def DrawnP (w : World) (e : Ending) (w' : World) : Prop :=
  ∃ (l : List Nd) (b c : Nat), e = .returned (.slice (some ⟨b, 0, none⟩) l.length c) ∧ l.length ≤ 82 ∧ Small l ∧ l.length ≤ c ∧ c ≤ maxLen ∧ RdN w' (some ⟨b, 0, none⟩) l ∧ Below w.heap.size w w'
set_option maxRecDepth 100000 in
theorem drawPlanOk_any (xo : Option Addr) (d : Nat) (code : List Int) (w : World) (hr : Rd w .u8 xo code) (hby : By code) (hl : code.length ≤ 1048577) :
    Calls Try.prog 7 #[.slice xo code.length d] w (DrawnP w) := by
  have C := Lib.hid (l01New_any xo d code w hr hby hl)
  have HL := Lib.hid hl
  clear hr hby hl
  go_enter Try.func7, Try.ntmps7
  go_wp2_with fail
  refine C.out.mono ?_
  rintro e w1 ⟨g, rfl, hg, hc, hb⟩
  have HG := Lib.hid hg; have HC := Lib.hid hc; have HB := Lib.hid hb; clear hg hc hb
  go_wp2_with fail
  refine (drawLoose_any g xo d code xo d w1 HC.out HL.out).mono ?_
  rintro e w2 ⟨l, b, c, rfl, h1, h2, h3, h4⟩
  have H2 := Lib.hid h2; have H3 := Lib.hid h3; have H4 := Lib.hid h4; clear h2 h3 h4
  go_wp2_with fail
  go_ret
  exact ⟨l, b, c, rfl, h1, ⟨by omega, fun n hn => by have := H2.out n hn; omega⟩, H3.out.cap, H3.out.mx, H3.out.rd, HB.out.grown H4.out.2 HB.out.size (by intro r hr; injection hr with hr; have := HG.out; omega)⟩
end Go.Proofs.Ytfbgflmolkgopaa
namespace Go.Proofs.Ytfbgflmolkgopaa
open Go.RowKit
set_option linter.unusedSimpArgs false
set_option linter.unusedVariables false
set_option maxRecDepth 100000 in
theorem big_t (a : Option Addr) (n c : Nat) (w : World) (h : 1048576 < n) (hn : n ≤ maxLen) : Calls Try.prog 6 #[.slice a n c] w fun e w' => e = .returned (.bool true) ∧ w = w' := by
  unfold maxLen at hn
  have h' : decide ((1048576 : Int) < n) = true := by simp; omega
  go_enter Try.func6, Try.ntmps6
  go_wp2
  go_ret
  exact ⟨rfl, rfl⟩
set_option maxRecDepth 100000 in
theorem big_f (a : Option Addr) (n c : Nat) (w : World) (h : ¬ 1048576 < n) : Calls Try.prog 6 #[.slice a n c] w fun e w' => e = .returned (.bool false) ∧ w = w' := by
  have h' : decide ((1048576 : Int) < n) = false := by simp; omega
  go_enter Try.func6, Try.ntmps6
  go_wp2
  go_ret
  exact ⟨rfl, rfl⟩
end Go.Proofs.Ytfbgflmolkgopaa
