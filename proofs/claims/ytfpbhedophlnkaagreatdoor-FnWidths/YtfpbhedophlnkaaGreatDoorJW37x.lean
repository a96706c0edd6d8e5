/-
  Contract of spec.l02DrawDeep: some nodes, in a row of the draw's own. For every cursor. A row of nodes of the call's own whose columns lie where they lay before. No program, no walk. A row of nodes of the call's own that is written into: field by field, and the columns of a node as a whole. What else stays as it was. No program, no walk.
-/
import Derived.Test.YtfpbhedophlnkaaGreatDoorJW36x
import Derived.Test.YtfpbhedophlnkaaGreatDoorJW24x
import Derived.Test.YtfpbhedophlnkaaGreatDoorJW22x
import Derived.Test.YtfpbhedophlnkaaGreatDoorJW4x
namespace Go.Proofs.YtfpbhedophlnkaaGreatDoor
open Go.RowKit
set_option linter.unusedSimpArgs false
set_option linter.unusedVariables false

set_option maxRecDepth 100000 in
theorem l01Size7_any (b : Option Addr) (n c : Nat) (w : World) (hn : n ≤ 1048577) :
    Calls Tryz.prog 99 #[.slice b n c, .int .i64 7] w fun e w' => (∃ x : Int, 2 ≤ x ∧ x ≤ 7 ∧ e = .returned (.int .i64 x)) ∧ w = w' := by
  by_cases h : 7 < 2 + n / 16
  · have h' : (7 : Int) < 2 + (n : Int) / 16 := by omega
    go_enter Tryz.func99, Tryz.ntmps99
    go_wp2
    go_ret
    exact ⟨⟨7, by omega, by omega, rfl⟩, rfl⟩
  · have h' : 2 + (n : Int) / 16 ≤ 7 := by omega
    go_enter Tryz.func99, Tryz.ntmps99
    go_wp2
    go_ret
    exact ⟨⟨_, by omega, by omega, rfl⟩, rfl⟩
/-- What drawing some nodes gives. -/
def DeepP (w : World) (g : Nat) (xo : Option Addr) (d : Nat) (code : List Int) (e : Ending) (w' : World) : Prop :=
  ∃ (l : List Nd) (b c : Nat) (xs : List Value) (A : Nat → Option Addr) (C : Nat → Nat), e = .returned (.slice (some ⟨b, 0, none⟩) l.length c) ∧ 1 ≤ l.length ∧ l.length ≤ 81 ∧ (∀ m ∈ l, m.cols.length ≤ 3) ∧ PartN w' w.heap.size b c l.length l l.length xs A C ∧ Drew w g xo d code w'
set_option maxRecDepth 100000 in
set_option maxHeartbeats 1000000 in
theorem drawDeep_any (g : Nat) (xo : Option Addr) (d : Nat) (code : List Int) (b : Option Addr) (c : Nat) (w : World) (hc : Cur w g xo d code) (hl : code.length ≤ 1048577) :
    Calls Tryz.prog 149 #[.pointer (some ⟨g, 0, none⟩), .slice b code.length c] w (DeepP w g xo d code) := by
  have HC := Lib.hid hc; have HL := Lib.hid hl; clear hc hl
  go_enter Tryz.func149, Tryz.ntmps149
  go_wp2_with fail
  refine (l01Size7_any b code.length c _ HL.out).mono ?_
  rintro e w' ⟨⟨x, hx0, hx1, rfl⟩, rfl⟩
  go_wp2_with fail
  refine (below_d g xo d code x _ HC.out HL.out (by omega) (by omega)).mono ?_
  rintro e w1 ⟨y, hy0, hy1, rfl, d1⟩
  have D1 := Lib.hid d1; clear d1
  have hz1 := D1.out.2.size
  go_wp2_with fail
  refine (drawPlan_any g xo d code HL.out 7 (Nat.le_refl _) (1 + y) (by omega) (by omega) _ D1.out.1).mono ?_
  rintro e w2 ⟨l, v, b2, c2, xs, A, C, rfl, h1, h2, h3, h4, h5, p2, d2⟩
  have P2 := Lib.hid (p2.base_le hz1); have D2 := Lib.hid (D1.out.next d2); have H3 := Lib.hid h3
  have h81 := (BV7 7 (Nat.le_refl _)).1
  clear p2 d2 h3
  go_wp2_with fail
  go_ret
  exact ⟨l, b2, c2, xs, A, C, rfl, h1, by omega, H3.out, P2.out, D2.out⟩
end Go.Proofs.YtfpbhedophlnkaaGreatDoor
namespace Go.Proofs.YtfpbhedophlnkaaGreatDoor
open Go.RowKit
set_option linter.unusedSimpArgs false
set_option linter.unusedVariables false

/-- A row of nodes of the call's own, the columns of each where they lay in w0. -/
def RowN (w0 w : World) (v : Value) (l : List Nd) : Prop :=
  ∃ A C, w.ownsRow w0.heap.size 92 7 v l.length (allCells l A C) ∧ ∀ i n, l[i]? = some n → Rd w0 .i64 (A i) n.cols ∧ n.cols.length ≤ C i ∧ C i ≤ maxLen ∧ n.name.size ≤ maxLen

theorem allCells_app : ∀ (l l2 : List Nd) (A A2 : Nat → Option Addr) (C C2 : Nat → Nat), allCells (l ++ l2) (fun i => if i < l.length then A i else A2 (i - l.length)) (fun i => if i < l.length then C i else C2 (i - l.length)) = allCells l A C ++ allCells l2 A2 C2
  | [], l2, A, A2, C, C2 => by simp [allCells]
  | n :: l, l2, A, A2, C, C2 => by
    have ih := allCells_app l l2 (fun i => A (i + 1)) A2 (fun i => C (i + 1)) C2
    simp only [List.cons_append, allCells, List.length_cons, Nat.add_lt_add_iff_right, Nat.add_sub_add_right, Nat.zero_lt_succ, if_true, List.append_assoc]
    rw [ih]
theorem rowN_app {w0 w' : World} {v' : Value} {l l2 : List Nd} {A : Nat → Option Addr} {C : Nat → Nat} {A2 : Nat → Option Addr} {C2 : Nat → Nat} {n : Nat}
    (h1 : ∀ i n, l[i]? = some n → Rd w0 .i64 (A i) n.cols ∧ n.cols.length ≤ C i ∧ C i ≤ maxLen ∧ n.name.size ≤ maxLen)
    (h2 : ∀ i n, l2[i]? = some n → Rd w0 .i64 (A2 i) n.cols ∧ n.cols.length ≤ C2 i ∧ C2 i ≤ maxLen ∧ n.name.size ≤ maxLen)
    (ho : w'.ownsRow w0.heap.size 92 7 v' n (allCells l A C ++ allCells l2 A2 C2)) (hn : n = (l ++ l2).length) : RowN w0 w' v' (l ++ l2) := by
  subst hn
  refine ⟨_, _, by rw [allCells_app]; exact ho, fun i n hi => ?_⟩
  by_cases hil : i < l.length
  · simp only [if_pos hil]
    rw [List.getElem?_append_left hil] at hi
    exact h1 i n hi
  · simp only [if_neg hil]
    rw [List.getElem?_append_right (by omega)] at hi
    exact h2 _ n hi
theorem RowN.rdN {w0 w : World} {g c : Nat} {l : List Nd} (h : RowN w0 w (.slice (some ⟨g, 0, none⟩) l.length c) l) (hb : Below w0.heap.size w0 w) : RdN w (some ⟨g, 0, none⟩) l := by
  obtain ⟨A, C, ho, hr⟩ := h
  refine .inr ⟨g, 0, rfl, fun i n hi => ⟨A i, C i, ?_⟩⟩
  have hl := some_lt hi
  obtain ⟨r1, r2, r3, r4⟩ := hr i n hi
  have key : ∀ t, t < 7 → w.cell? ⟨g, 0 + i * 7 + t, none⟩ = (ndCells n (A i) (C i))[t]? := fun t ht => by
    rw [Nat.zero_add, World.ownsRow.cellAt ho _ (by omega)]
    exact allCells_get l A C i n hi t ht
  exact ⟨key 0 (by omega), key 1 (by omega), key 2 (by omega), key 3 (by omega), key 4 (by omega), key 5 (by omega), key 6 (by omega), r1.below hb, r2, r3, r4⟩
theorem RdN.ind {w : World} {ao : Option Addr} {l : List Nd} (h : RdN w ao l) (hne : l ≠ []) : ∃ (b off : Nat) (A : Nat → Option Addr) (C : Nat → Nat), ao = some ⟨b, off, none⟩ ∧ ∀ i n, l[i]? = some n → NdAt w b (off + i * 7) n (A i) (C i) := by
  rcases h with h | ⟨b, off, rfl, hc⟩
  · exact absurd h hne
  · obtain ⟨A, C, hA⟩ := nodes_ind hc
    exact ⟨b, off, A, C, rfl, hA⟩
theorem RdN.indAt {w : World} {b off : Nat} {l : List Nd} (h : RdN w (some ⟨b, off, none⟩) l) : ∃ (A : Nat → Option Addr) (C : Nat → Nat), ∀ i n, l[i]? = some n → NdAt w b (off + i * 7) n (A i) (C i) := by
  by_cases hne : l = []
  · subst hne; exact ⟨fun _ => none, fun _ => 0, fun i n hi => by simp at hi⟩
  · obtain ⟨b', off', A, C, he, hA⟩ := h.ind hne
    cases he
    exact ⟨A, C, hA⟩
end Go.Proofs.YtfpbhedophlnkaaGreatDoor
namespace Go.Proofs.YtfpbhedophlnkaaGreatDoor
open Go.RowKit
set_option linter.unusedSimpArgs false
set_option linter.unusedVariables false

/-- Only blocks between lo and hi, and new ones, have turned. -/
structure Frame (lo hi : Nat) (w w' : World) : Prop where
  os : w'.os = w.os
  tape : w'.tape = w.tape
  output : w'.output = w.output
  size : w.heap.size ≤ w'.heap.size
  block : ∀ i, i < w.heap.size → (i < lo ∨ hi ≤ i) → w'.heap[i]? = w.heap[i]?

section
variable {w w' w'' : World} {lo hi : Nat}
theorem Frame.refl (lo hi : Nat) (w : World) : Frame lo hi w w := ⟨rfl, rfl, rfl, Nat.le_refl _, fun _ _ _ => rfl⟩
theorem Frame.trans (h : Frame lo hi w w') (k : Frame lo hi w' w'') : Frame lo hi w w'' :=
  ⟨k.os.trans h.os, k.tape.trans h.tape, k.output.trans h.output, Nat.le_trans h.size k.size, fun i hi h2 => (k.block i (Nat.lt_of_lt_of_le hi h.size) h2).trans (h.block i hi h2)⟩
theorem Frame.of_below (h : Below w.heap.size w w') : Frame lo hi w w' := ⟨h.os, h.tape, h.output, h.size, fun i hi _ => h.block i hi⟩
theorem Frame.of_grown {row : Option Nat} (h : w.grownBy w' row) (hr : ∀ g, row = some g → lo ≤ g ∧ g < hi) : Frame lo hi w w' :=
  ⟨h.os, h.tape, h.output, h.size, fun i hi h2 => h.block i hi (fun e => by have := hr i e.symm; omega)⟩
theorem Frame.setCell {p : Addr} (h1 : lo ≤ p.block) (h2 : p.block < hi) (u : Value) : Frame lo hi w (w.setCell p u) := by
  refine ⟨rfl, rfl, rfl, by simp [World.setCell], fun i _ h => Below.heap_setCell w p u i (by rintro rfl; omega)⟩
theorem Frame.below {B : Nat} {a0 : World} (h : Frame lo hi w w') (hb : Below B a0 w) (hB : B ≤ lo) (hz : B ≤ a0.heap.size) : Below B a0 w' :=
  ⟨h.os.trans hb.os, h.tape.trans hb.tape, h.output.trans hb.output, Nat.le_trans hb.size h.size, fun i hi => (h.block i (Nat.lt_of_lt_of_le hi (Nat.le_trans hz hb.size)) (.inl (Nat.lt_of_lt_of_le hi hB))).trans (hb.block i hi)⟩
end

/-- A row of nodes of the call's own, all of it below hi. -/
def OwnH (w : World) (lo hi : Nat) (ao : Option Addr) (c : Nat) (l : List Nd) : Prop :=
  l = [] ∨ ∃ g xs A C, ao = some ⟨g, 0, none⟩ ∧ PartN w lo g c l.length l l.length xs A C ∧ g < hi ∧ ∀ (i : Nat) (x : Addr), i < l.length → A i = some x → x.block < hi

theorem OwnN.hi {w : World} {base : Nat} {ao : Option Addr} {c : Nat} {l : List Nd} (h : OwnN w base ao c l) : OwnH w base w.heap.size ao c l := by
  rcases h with h | ⟨g, xs, A, C, he, hp⟩
  · exact .inl h
  · exact .inr ⟨g, xs, A, C, he, hp, (owns_block hp.own).2, fun i x hi hx => ((hp.cols i _ hi (List.getElem?_eq_getElem hi)).lt x hx).2⟩
theorem OwnH.below {w w' : World} {lo hi : Nat} {ao : Option Addr} {c : Nat} {l : List Nd} (h : OwnH w lo hi ao c l) (hb : Below w.heap.size w w') : OwnH w' lo hi ao c l := by
  rcases h with h | ⟨g, xs, A, C, he, hp, h1, h2⟩
  · exact .inl h
  · exact .inr ⟨g, xs, A, C, he, hp.below hb, h1, h2⟩
theorem OwnH.rd {w : World} {lo hi : Nat} {ao : Option Addr} {c : Nat} {l : List Nd} (h : OwnH w lo hi ao c l) : RdN w ao l := by
  rcases h with h | ⟨g, xs, A, C, he, hp, _⟩
  · exact .inl h
  · exact OwnN.rd (base := lo) (c := c) (.inr ⟨g, xs, A, C, he, hp⟩)
/-- What is done to one range leaves the rows of another. -/
theorem OwnH.frame {w w' : World} {lo hi lo' hi' : Nat} {ao : Option Addr} {c : Nat} {l : List Nd} (h : OwnH w lo hi ao c l) (hf : Frame lo' hi' w w') (hd : hi ≤ lo' ∨ hi' ≤ lo) : OwnH w' lo hi ao c l := by
  rcases h with h | ⟨g, xs, A, C, he, hp, h1, h2⟩
  · exact .inl h
  · have hg := owns_block hp.own
    refine .inr ⟨g, xs, A, C, he, ⟨owns_keep hp.own (hf.block g hg.2 (by omega)), hp.cells, fun i n hi hn => ?_, hp.name, hp.row, hp.apart⟩, h1, h2⟩
    have ho := hp.cols i n hi hn
    exact ho.keep fun x hx hlt => hf.block x.block hlt (by have := (ho.lt x hx).1; have := h2 i x hi hx; omega)
theorem Own.frame {w w' : World} {lo' hi' base : Nat} {e : TypeId} {k : IntKind} {ao : Option Addr} {c : Nat} {l : List Int} (h : Own w base e k ao c l) (hf : Frame lo' hi' w w') (hd : (∀ x, ao = some x → x.block < lo') ∨ hi' ≤ base) : Own w' base e k ao c l :=
  h.keep fun x hx hlt => hf.block x.block hlt (by
    rcases hd with hd | hd
    · exact .inl (hd x hx)
    · right; have := (h.lt x hx).1; omega)

section
variable {w w' : World} {base g c m : Nat} {l : List Nd} {j : Nat} {xs : List Value} {A : Nat → Option Addr} {C : Nat → Nat}

theorem get_set_ne' {l : List Nd} {i j : Nat} {n' : Nd} (h : i ≠ j) : (l.set j n')[i]? = l[i]? := List.getElem?_set_ne (by omega)

/-- One field of one node is stored anew. -/
theorem PartN.store (h : PartN w base g c m l j xs A C) {k t : Nat} {n n' : Nd} {v : Value} (hk : k < j) (hn : l[k]? = some n) (ht : t < 7) (hc : n'.cols = n.cols) (hs : n'.name.size ≤ maxLen)
    (hx : NdC xs (k * 7) n (A k) (C k) → NdC (xs.set (k * 7 + t) v) (k * 7) n' (A k) (C k)) :
    PartN (w.setCell ⟨g, k * 7 + t, none⟩ v) base g c m (l.set k n') j (xs.set (k * 7 + t) v) A C := by
  have hlen : (l.set k n').length = l.length := by simp
  refine ⟨(h.own.stored (k * 7 + t) v).1, ?_, ?_, ?_, ?_, ?_⟩
  · intro i m' hi hm
    by_cases hik : i = k
    · subst hik
      have hkl : i < l.length := by
        rcases Nat.lt_or_ge i l.length with h1 | h1
        · exact h1
        · rw [List.getElem?_eq_none h1] at hn; cases hn
      rw [List.getElem?_set_self hkl] at hm; cases hm
      exact hx (h.cells i n hi hn)
    · rw [get_set_ne' hik] at hm
      have hc' := h.cells i m' hi hm
      have key : ∀ s, s < 7 → (xs.set (k * 7 + t) v)[i * 7 + s]? = xs[i * 7 + s]? := fun s hs' => List.getElem?_set_ne (by omega)
      exact ⟨(key 0 (by omega)).trans hc'.c0, (key 1 (by omega)).trans hc'.c1, (key 2 (by omega)).trans hc'.c2, (key 3 (by omega)).trans hc'.c3, (key 4 (by omega)).trans hc'.c4, (key 5 (by omega)).trans hc'.c5, (key 6 (by omega)).trans hc'.c6⟩
  · intro i m' hi hm
    have hil : i < l.length := by
      rcases Nat.lt_or_ge i (l.set k n').length with h1 | h1
      · omega
      · rw [List.getElem?_eq_none h1] at hm; cases hm
    by_cases hik : i = k
    · subst hik
      rw [List.getElem?_set_self hil] at hm; cases hm
      rw [hc]
      exact (h.cols i n hi hn).far (fun x hx' => h.row i x hi hil hx') _
    · rw [get_set_ne' hik] at hm
      exact (h.cols i m' hi hm).far (fun x hx' => h.row i x hi hil hx') _
  · intro i m' hi hm
    by_cases hik : i = k
    · subst hik
      have hkl : i < l.length := by
        rcases Nat.lt_or_ge i l.length with h1 | h1
        · exact h1
        · rw [List.getElem?_eq_none h1] at hn; cases hn
      rw [List.getElem?_set_self hkl] at hm; cases hm; exact hs
    · rw [get_set_ne' hik] at hm; exact h.name i m' hi hm
  · intro i x hi hil hx'; exact h.row i x hi (by omega) hx'
  · intro i k' x y h1 h2 h3 h4; exact h.apart i k' x y h1 h2 (by omega) (by omega)

/-- The columns of one node are written anew. -/
theorem PartN.marked (h : PartN w base g c m l j xs A C) {k : Nat} {n : Nd} {zs : List Int} (hk : k < j) (hn : l[k]? = some n) (hz : zs.length = n.cols.length) (hg : w.grownBy w' ((A k).map (·.block))) (ho : Own w' base 3 .i64 (A k) (C k) zs) :
    PartN w' base g c m (l.set k { n with cols := zs }) j xs A C := by
  have hkl : k < l.length := by
    rcases Nat.lt_or_ge k l.length with h1 | h1
    · exact h1
    · rw [List.getElem?_eq_none h1] at hn; cases hn
  have hlen : (l.set k { n with cols := zs }).length = l.length := by simp
  have hne : ∀ i, i ≠ k → ∀ x, A i = some x → i < j → i < l.length → some x.block ≠ (A k).map (·.block) := by
    intro i hik x hx hi hil
    cases hA : A k with
    | none => simp
    | some y => simp; exact h.apart i k x y hi hk hil hkl hik hx hA
  refine ⟨owns_keep h.own (hg.block g (owns_block h.own).2 ?_), ?_, ?_, ?_, ?_, ?_⟩
  · cases hA : A k with
    | none => simp
    | some y => simp; exact Ne.symm (h.row k y hk hkl hA)
  · intro i m' hi hm
    by_cases hik : i = k
    · subst hik
      rw [List.getElem?_set_self hkl] at hm; cases hm
      have hc := h.cells i n hi hn
      exact ⟨hc.c0, hc.c1, hc.c2, hc.c3, hc.c4, hc.c5, by rw [hc.c6]; simp only; rw [hz]⟩
    · rw [get_set_ne' hik] at hm
      exact h.cells i m' hi hm
  · intro i m' hi hm
    have hil : i < l.length := by
      rcases Nat.lt_or_ge i (l.set k { n with cols := zs }).length with h1 | h1
      · omega
      · rw [List.getElem?_eq_none h1] at hm; cases hm
    by_cases hik : i = k
    · subst hik
      rw [List.getElem?_set_self hil] at hm; cases hm
      exact ho
    · rw [get_set_ne' hik] at hm
      exact (h.cols i m' hi hm).grown hg (fun x hx => hne i hik x hx hi hil)
  · intro i m' hi hm
    by_cases hik : i = k
    · subst hik
      rw [List.getElem?_set_self hkl] at hm; cases hm; exact h.name i n hi hn
    · rw [get_set_ne' hik] at hm; exact h.name i m' hi hm
  · intro i x hi hil hx'; exact h.row i x hi (by omega) hx'
  · intro i k' x y h1 h2 h3 h4; exact h.apart i k' x y h1 h2 (by omega) (by omega)
end

set_option maxHeartbeats 800000 in
/-- As markIntS_any, and the row stays the call's own. -/
theorem markIntS_own (base : Nat) (ao : Option Addr) (c : Nat) (l : List Int) (m : Int) (w : World) (h : Own w base 3 .i64 ao c l) (h0 : 0 ≤ m) (hm : m + l.length ≤ 4611686018427387904) :
    Calls Tryz.prog 143 #[.slice ao l.length c, .int .i64 m] w fun e w' => e = .returned (.int .i64 (m + l.length)) ∧ Own w' base 3 .i64 ao c (marksL id m l.length) ∧ w.grownBy w' (ao.map (·.block)) := by
  rcases h.form with ⟨rfl, rfl, rfl⟩ | ⟨g, rfl, _⟩
  · go_enter Tryz.func143, Tryz.ntmps143
    go_wp2
    refine wp_loop_rounds 1 ?_; rw [rounds_succ]; go_wp2
    go_ret
    exact ⟨ret_int (by simp), Own.none_, World.grownBy.refl _ _⟩
  · have hs : MarkRel w w base 3 .i64 id m g c l 0 := ⟨by have h' := h; unfold Own at h'; simpa [marksL] using h', World.grownBy.refl _ _⟩
    clear h
    go_enter Tryz.func143, Tryz.ntmps143
    go_wp2
    go_loopw [1, 5] (fun q i wr => ∃ j : Nat, j ≤ l.length ∧ i = .int .i64 j ∧ q = .int .i64 (m + j) ∧ MarkRel w wr base 3 .i64 id m g c l j) (fun _ i _ => l.length - (intOf i).toNat)
    case atStart => exact ⟨0, Nat.zero_le _, rfl, by simp, hs⟩
    case round =>
      clear hs
      obtain ⟨j, hj, rfl, rfl, hr⟩ := hrel
      by_cases hlt : j < l.length
      · obtain ⟨y, hy⟩ := hr.cell hlt
        have hf := hr.1.frozenAt j
        have R := Lib.hid (hr.step hlt)
        clear hr
        go_wp2
        go_roundw
        case rel => exact ⟨j + 1, by omega, by go_num, by go_num, R.out⟩
        case measure => simp [intOf]; omega
      · have e : j = l.length := by omega
        have G := Lib.hid hr.2
        have D : Hid (Own wr base 3 .i64 (some ⟨g, 0, none⟩) c (marksL id m l.length)) := by
          show Own wr base 3 .i64 (some ⟨g, 0, none⟩) c (marksL id m l.length)
          have h1 := hr.1
          subst e
          rw [List.drop_length, List.append_nil] at h1
          unfold Own
          rw [marksL_len]; exact h1
        clear hr
        subst e
        go_wp2
        go_ret
        exact ⟨rfl, D.out, G.out⟩
end Go.Proofs.YtfpbhedophlnkaaGreatDoor
