/-
  Contract of spec.l02DrawDeep: some nodes, in a row of the draw's own. For every cursor. A row of nodes of the call's own whose columns lie where they lay before. No program, no walk. A row of nodes of the call's own that is written into: field by field, and the columns of a node as a whole. What else stays as it was. No program, no walk. Contract of markNodeS: it writes marks into a row of nodes of the call's own and into its columns, and into nothing else. For every such row. Some nodes in a row of the draw's own that may have been bent: words, and plain facts. No walk.
-/
import Derived.Test.YtanfllednlpbaaaGreatDPlan3
import Derived.Test.YtanfllednlpbaaaGreatM12x
import Derived.Test.YtanfllednlpbaaaGreatM4x
import Derived.Test.YtanfllednlpbaaaGreatM2x
import Derived.Test.YtanfllednlpbaaaGreatKids0
namespace Go.Proofs.YtanfllednlpbaaaGreat
open Go.RowKit
set_option linter.unusedSimpArgs false
set_option linter.unusedVariables false
set_option maxRecDepth 100000 in
theorem l01Size7_any (b : Option Addr) (n c : Nat) (w : World) (hn : n ≤ 1048577) :
    Calls Tryz.prog 75 #[.slice b n c, .int .i64 7] w fun e w' => (∃ x : Int, 2 ≤ x ∧ x ≤ 7 ∧ e = .returned (.int .i64 x)) ∧ w = w' := by
  by_cases h : 7 < 2 + n / 16
  · have h' : (7 : Int) < 2 + (n : Int) / 16 := by omega
    go_enter Tryz.func75, Tryz.ntmps75
    go_wp2
    go_ret
    exact ⟨⟨7, by omega, by omega, rfl⟩, rfl⟩
  · have h' : 2 + (n : Int) / 16 ≤ 7 := by omega
    go_enter Tryz.func75, Tryz.ntmps75
    go_wp2
    go_ret
    exact ⟨⟨_, by omega, by omega, rfl⟩, rfl⟩
def DeepP (w : World) (g : Nat) (xo : Option Addr) (d : Nat) (code : List Int) (e : Ending) (w' : World) : Prop :=
  ∃ (l : List Nd) (b c : Nat) (xs : List Value) (A : Nat → Option Addr) (C : Nat → Nat), e = .returned (.slice (some ⟨b, 0, none⟩) l.length c) ∧ 1 ≤ l.length ∧ l.length ≤ 81 ∧ (∀ m ∈ l, m.cols.length ≤ 3) ∧ PartN w' w.heap.size b c l.length l l.length xs A C ∧ Drew w g xo d code w'
set_option maxRecDepth 100000 in
set_option maxHeartbeats 1000000 in
theorem drawDeep_any (g : Nat) (xo : Option Addr) (d : Nat) (code : List Int) (b : Option Addr) (c : Nat) (w : World) (hc : Cur w g xo d code) (hl : code.length ≤ 1048577) :
    Calls Tryz.prog 41 #[.pointer (some ⟨g, 0, none⟩), .slice b code.length c] w (DeepP w g xo d code) := by
  have HC := Lib.hid hc; have HL := Lib.hid hl; clear hc hl
  go_enter Tryz.func41, Tryz.ntmps41
  go_wp2_with fail
  refine (l01Size7_any b code.length c _ HL.out).mono ?_
  rintro e w' ⟨⟨x, hx0, hx1, rfl⟩, rfl⟩
  go_wp2_with fail
  refine (below_d g xo d code x _ HC.out HL.out (by omega) (by omega)).mono ?_
  rintro e w1 ⟨y, hy0, hy1, rfl, d1⟩
  have D1 := Lib.hid d1; clear d1
  have hz1 := D1.out.2.size
  go_wp2_with fail
  refine (drawPlan_any g xo d code HL.out 7 (Nat.le_refl _) (1 + y) (by omega) (by omega) _ D1.out.1).mono ?_
  rintro e w2 ⟨l, v, b2, c2, xs, A, C, rfl, h1, h2, h3, h4, h5, p2, d2⟩
  have P2 := Lib.hid (p2.base_le hz1); have D2 := Lib.hid (D1.out.next d2); have H3 := Lib.hid h3
  have h81 := (BV7 7 (Nat.le_refl _)).1
  clear p2 d2 h3
  go_wp2_with fail
  go_ret
  exact ⟨l, b2, c2, xs, A, C, rfl, h1, by omega, H3.out, P2.out, D2.out⟩
structure Frame (lo hi : Nat) (w w' : World) : Prop where
  os : w'.os = w.os
  tape : w'.tape = w.tape
  output : w'.output = w.output
  size : w.heap.size ≤ w'.heap.size
  block : ∀ i, i < w.heap.size → (i < lo ∨ hi ≤ i) → w'.heap[i]? = w.heap[i]?
section
variable {w w' w'' : World} {lo hi : Nat}
theorem Frame.refl (lo hi : Nat) (w : World) : Frame lo hi w w := ⟨rfl, rfl, rfl, Nat.le_refl _, fun _ _ _ => rfl⟩
theorem Frame.trans (h : Frame lo hi w w') (k : Frame lo hi w' w'') : Frame lo hi w w'' :=
  ⟨k.os.trans h.os, k.tape.trans h.tape, k.output.trans h.output, Nat.le_trans h.size k.size, fun i hi h2 => (k.block i (Nat.lt_of_lt_of_le hi h.size) h2).trans (h.block i hi h2)⟩
theorem Frame.of_grown {row : Option Nat} (h : w.grownBy w' row) (hr : ∀ g, row = some g → lo ≤ g ∧ g < hi) : Frame lo hi w w' :=
  ⟨h.os, h.tape, h.output, h.size, fun i hi h2 => h.block i hi (fun e => by have := hr i e.symm; omega)⟩
theorem Frame.setCell {p : Addr} (h1 : lo ≤ p.block) (h2 : p.block < hi) (u : Value) : Frame lo hi w (w.setCell p u) := by
  refine ⟨rfl, rfl, rfl, by simp [World.setCell], fun i _ h => Below.heap_setCell w p u i (by rintro rfl; omega)⟩
theorem Frame.below {B : Nat} {a0 : World} (h : Frame lo hi w w') (hb : Below B a0 w) (hB : B ≤ lo) (hz : B ≤ a0.heap.size) : Below B a0 w' :=
  ⟨h.os.trans hb.os, h.tape.trans hb.tape, h.output.trans hb.output, Nat.le_trans hb.size h.size, fun i hi => (h.block i (Nat.lt_of_lt_of_le hi (Nat.le_trans hz hb.size)) (.inl (Nat.lt_of_lt_of_le hi hB))).trans (hb.block i hi)⟩
end
theorem Own.frame {w w' : World} {lo' hi' base : Nat} {e : TypeId} {k : IntKind} {ao : Option Addr} {c : Nat} {l : List Int} (h : Own w base e k ao c l) (hf : Frame lo' hi' w w') (hd : (∀ x, ao = some x → x.block < lo') ∨ hi' ≤ base) : Own w' base e k ao c l :=
  h.keep fun x hx hlt => hf.block x.block hlt (by
    rcases hd with hd | hd
    · exact .inl (hd x hx)
    · right; have := (h.lt x hx).1; omega)
section
variable {w w' : World} {base g c m : Nat} {l : List Nd} {j : Nat} {xs : List Value} {A : Nat → Option Addr} {C : Nat → Nat}
theorem get_set_ne' {l : List Nd} {i j : Nat} {n' : Nd} (h : i ≠ j) : (l.set j n')[i]? = l[i]? := List.getElem?_set_ne (by omega)
theorem PartN.store (h : PartN w base g c m l j xs A C) {k t : Nat} {n n' : Nd} {v : Value} (hk : k < j) (hn : l[k]? = some n) (ht : t < 7) (hc : n'.cols = n.cols) (hs : n'.name.size ≤ maxLen)
    (hx : NdC xs (k * 7) n (A k) (C k) → NdC (xs.set (k * 7 + t) v) (k * 7) n' (A k) (C k)) :
    PartN (w.setCell ⟨g, k * 7 + t, none⟩ v) base g c m (l.set k n') j (xs.set (k * 7 + t) v) A C := by
  have hlen : (l.set k n').length = l.length := by simp
  refine ⟨(h.own.stored (k * 7 + t) v).1, ?_, ?_, ?_, ?_, ?_⟩
  · intro i m' hi hm
    by_cases hik : i = k
    · subst hik
      have hkl : i < l.length := by
        rcases Nat.lt_or_ge i l.length with h1 | h1
        · exact h1
        · rw [List.getElem?_eq_none h1] at hn; cases hn
      rw [List.getElem?_set_self hkl] at hm; cases hm
      exact hx (h.cells i n hi hn)
    · rw [get_set_ne' hik] at hm
      have hc' := h.cells i m' hi hm
      have key : ∀ s, s < 7 → (xs.set (k * 7 + t) v)[i * 7 + s]? = xs[i * 7 + s]? := fun s hs' => List.getElem?_set_ne (by omega)
      exact ⟨(key 0 (by omega)).trans hc'.c0, (key 1 (by omega)).trans hc'.c1, (key 2 (by omega)).trans hc'.c2, (key 3 (by omega)).trans hc'.c3, (key 4 (by omega)).trans hc'.c4, (key 5 (by omega)).trans hc'.c5, (key 6 (by omega)).trans hc'.c6⟩
  · intro i m' hi hm
    have hil : i < l.length := by
      rcases Nat.lt_or_ge i (l.set k n').length with h1 | h1
      · omega
      · rw [List.getElem?_eq_none h1] at hm; cases hm
    by_cases hik : i = k
    · subst hik
      rw [List.getElem?_set_self hil] at hm; cases hm
      rw [hc]
      exact (h.cols i n hi hn).far (fun x hx' => h.row i x hi hil hx') _
    · rw [get_set_ne' hik] at hm
      exact (h.cols i m' hi hm).far (fun x hx' => h.row i x hi hil hx') _
  · intro i m' hi hm
    by_cases hik : i = k
    · subst hik
      have hkl : i < l.length := by
        rcases Nat.lt_or_ge i l.length with h1 | h1
        · exact h1
        · rw [List.getElem?_eq_none h1] at hn; cases hn
      rw [List.getElem?_set_self hkl] at hm; cases hm; exact hs
    · rw [get_set_ne' hik] at hm; exact h.name i m' hi hm
  · intro i x hi hil hx'; exact h.row i x hi (by omega) hx'
  · intro i k' x y h1 h2 h3 h4; exact h.apart i k' x y h1 h2 (by omega) (by omega)
theorem PartN.marked (h : PartN w base g c m l j xs A C) {k : Nat} {n : Nd} {zs : List Int} (hk : k < j) (hn : l[k]? = some n) (hz : zs.length = n.cols.length) (hg : w.grownBy w' ((A k).map (·.block))) (ho : Own w' base 3 .i64 (A k) (C k) zs) :
    PartN w' base g c m (l.set k { n with cols := zs }) j xs A C := by
  have hkl : k < l.length := by
    rcases Nat.lt_or_ge k l.length with h1 | h1
    · exact h1
    · rw [List.getElem?_eq_none h1] at hn; cases hn
  have hlen : (l.set k { n with cols := zs }).length = l.length := by simp
  have hne : ∀ i, i ≠ k → ∀ x, A i = some x → i < j → i < l.length → some x.block ≠ (A k).map (·.block) := by
    intro i hik x hx hi hil
    cases hA : A k with
    | none => simp
    | some y => simp; exact h.apart i k x y hi hk hil hkl hik hx hA
  refine ⟨owns_keep h.own (hg.block g (owns_block h.own).2 ?_), ?_, ?_, ?_, ?_, ?_⟩
  · cases hA : A k with
    | none => simp
    | some y => simp; exact Ne.symm (h.row k y hk hkl hA)
  · intro i m' hi hm
    by_cases hik : i = k
    · subst hik
      rw [List.getElem?_set_self hkl] at hm; cases hm
      have hc := h.cells i n hi hn
      exact ⟨hc.c0, hc.c1, hc.c2, hc.c3, hc.c4, hc.c5, by rw [hc.c6]; simp only; rw [hz]⟩
    · rw [get_set_ne' hik] at hm
      exact h.cells i m' hi hm
  · intro i m' hi hm
    have hil : i < l.length := by
      rcases Nat.lt_or_ge i (l.set k { n with cols := zs }).length with h1 | h1
      · omega
      · rw [List.getElem?_eq_none h1] at hm; cases hm
    by_cases hik : i = k
    · subst hik
      rw [List.getElem?_set_self hil] at hm; cases hm
      exact ho
    · rw [get_set_ne' hik] at hm
      exact (h.cols i m' hi hm).grown hg (fun x hx => hne i hik x hx hi hil)
  · intro i m' hi hm
    by_cases hik : i = k
    · subst hik
      rw [List.getElem?_set_self hkl] at hm; cases hm; exact h.name i n hi hn
    · rw [get_set_ne' hik] at hm; exact h.name i m' hi hm
  · intro i x hi hil hx'; exact h.row i x hi (by omega) hx'
  · intro i k' x y h1 h2 h3 h4; exact h.apart i k' x y h1 h2 (by omega) (by omega)
end
section
variable {w : World} {base g c m : Nat} {l : List Nd} {j : Nat} {xs : List Value} {A : Nat → Option Addr} {C : Nat → Nat}
theorem PartN.st0 (h : PartN w base g c m l j xs A C) {k : Nat} {n : Nd} (hk : k < j) (hn : l[k]? = some n) (hm : k < m) (v : Int) :
    PartN (w.setCell ⟨g, k * 7, none⟩ (.int .i64 v)) base g c m (l.set k { n with kind := v }) j (xs.set (k * 7) (.int .i64 v)) A C := by
  have hlen := h.own.1
  exact h.store (k := k) (t := 0) (n' := { n with kind := v }) (v := .int .i64 v) hk hn (by omega) rfl (h.name k n hk hn) (fun hc => ⟨by simp [List.getElem?_set]; omega, by rw [List.getElem?_set_ne (by omega)]; exact hc.c1, by rw [List.getElem?_set_ne (by omega)]; exact hc.c2, by rw [List.getElem?_set_ne (by omega)]; exact hc.c3, by rw [List.getElem?_set_ne (by omega)]; exact hc.c4, by rw [List.getElem?_set_ne (by omega)]; exact hc.c5, by rw [List.getElem?_set_ne (by omega)]; exact hc.c6⟩)
theorem PartN.st2 (h : PartN w base g c m l j xs A C) {k : Nat} {n : Nd} (hk : k < j) (hn : l[k]? = some n) (hm : k < m) (v : Int) :
    PartN (w.setCell ⟨g, k * 7 + 2, none⟩ (.int .i64 v)) base g c m (l.set k { n with col := v }) j (xs.set (k * 7 + 2) (.int .i64 v)) A C := by
  have hlen := h.own.1
  exact h.store (k := k) (t := 2) (n' := { n with col := v }) (v := .int .i64 v) hk hn (by omega) rfl (h.name k n hk hn) (fun hc => ⟨by rw [List.getElem?_set_ne (by omega)]; exact hc.c0, by rw [List.getElem?_set_ne (by omega)]; exact hc.c1, by simp [List.getElem?_set]; omega, by rw [List.getElem?_set_ne (by omega)]; exact hc.c3, by rw [List.getElem?_set_ne (by omega)]; exact hc.c4, by rw [List.getElem?_set_ne (by omega)]; exact hc.c5, by rw [List.getElem?_set_ne (by omega)]; exact hc.c6⟩)
theorem PartN.st4 (h : PartN w base g c m l j xs A C) {k : Nat} {n : Nd} (hk : k < j) (hn : l[k]? = some n) (hm : k < m) (v : Int) :
    PartN (w.setCell ⟨g, k * 7 + 4, none⟩ (.int .i64 v)) base g c m (l.set k { n with num := v }) j (xs.set (k * 7 + 4) (.int .i64 v)) A C := by
  have hlen := h.own.1
  exact h.store (k := k) (t := 4) (n' := { n with num := v }) (v := .int .i64 v) hk hn (by omega) rfl (h.name k n hk hn) (fun hc => ⟨by rw [List.getElem?_set_ne (by omega)]; exact hc.c0, by rw [List.getElem?_set_ne (by omega)]; exact hc.c1, by rw [List.getElem?_set_ne (by omega)]; exact hc.c2, by rw [List.getElem?_set_ne (by omega)]; exact hc.c3, by simp [List.getElem?_set]; omega, by rw [List.getElem?_set_ne (by omega)]; exact hc.c5, by rw [List.getElem?_set_ne (by omega)]; exact hc.c6⟩)
theorem PartN.st5 (h : PartN w base g c m l j xs A C) {k : Nat} {n : Nd} (hk : k < j) (hn : l[k]? = some n) (hm : k < m) (v : Bool) :
    PartN (w.setCell ⟨g, k * 7 + 5, none⟩ (.bool v)) base g c m (l.set k { n with slot := v }) j (xs.set (k * 7 + 5) (.bool v)) A C := by
  have hlen := h.own.1
  exact h.store (k := k) (t := 5) (n' := { n with slot := v }) (v := .bool v) hk hn (by omega) rfl (h.name k n hk hn) (fun hc => ⟨by rw [List.getElem?_set_ne (by omega)]; exact hc.c0, by rw [List.getElem?_set_ne (by omega)]; exact hc.c1, by rw [List.getElem?_set_ne (by omega)]; exact hc.c2, by rw [List.getElem?_set_ne (by omega)]; exact hc.c3, by rw [List.getElem?_set_ne (by omega)]; exact hc.c4, by simp [List.getElem?_set]; omega, by rw [List.getElem?_set_ne (by omega)]; exact hc.c6⟩)
end
structure LooseN (w : World) (base b c : Nat) (l : List Nd) : Prop where
  lt : base ≤ b
  cap : l.length ≤ c
  mx : c ≤ maxLen
  nd : ∀ (i : Nat) (n : Nd), l[i]? = some n → ∃ a d, NdAt w b (0 + i * 7) n a d ∧ ∀ x, a = some x → base ≤ x.block
section
variable {w w' : World} {base b c : Nat} {l : List Nd}
theorem LooseN.rd (h : LooseN w base b c l) : RdN w (some ⟨b, 0, none⟩) l :=
  .inr ⟨b, 0, rfl, fun i n hi => by obtain ⟨a, d, hn, _⟩ := h.nd i n hi; exact ⟨a, d, hn⟩⟩
theorem NdAt.grown {o : Nat} {n : Nd} {a : Option Addr} {d : Nat} {row : Option Nat} (h : NdAt w b o n a d) (hg : w.grownBy w' row) (h1 : some b ≠ row) (h2 : ∀ x, a = some x → some x.block ≠ row) : NdAt w' b o n a d := by
  have hk : ∀ o, w'.cell? ⟨b, o, none⟩ = w.cell? ⟨b, o, none⟩ := fun o => World.cell?_of_block (hg.block b h.lt h1)
  exact ⟨(hk _).trans h.c0, (hk _).trans h.c1, (hk _).trans h.c2, (hk _).trans h.c3, (hk _).trans h.c4, (hk _).trans h.c5, (hk _).trans h.c6, h.rd.grown hg h2, h.cap, h.mx, h.nm⟩
theorem LooseN.draw {g : Nat} (h : LooseN w base b c l) (hg : w.grownBy w' (some g)) (hlt : g < base) : LooseN w' base b c l :=
  ⟨h.lt, h.cap, h.mx, fun i n hi => by
    obtain ⟨a, d, hn, ha⟩ := h.nd i n hi
    exact ⟨a, d, hn.grown hg (by have := h.lt; simp; omega) (fun x hx => by have := ha x hx; simp; omega), ha⟩⟩
theorem LooseN.below (h : LooseN w base b c l) (hb : Below w.heap.size w w') : LooseN w' base b c l :=
  ⟨h.lt, h.cap, h.mx, fun i n hi => by
    obtain ⟨a, d, hn, ha⟩ := h.nd i n hi
    exact ⟨a, d, hn.below hb, ha⟩⟩
theorem owns_cap {e : TypeId} {size m : Nat} {xs : List Value} (h : w.ownsRow base e size (.slice (some ⟨b, 0, none⟩) m c) m xs) : m ≤ c ∧ c ≤ maxLen := by
  rcases h.2 with ⟨hv, _⟩ | ⟨g', cap, cur, hv, _, _, h1, h2, _⟩
  · simp at hv
  · simp only [Value.slice.injEq] at hv
    rw [hv.2.2]; exact ⟨h1, h2⟩
theorem LooseN.of_part {m : Nat} {xs : List Value} {A : Nat → Option Addr} {C : Nat → Nat} (h : PartN w base b c m l m xs A C) (hm : l.length = m) : LooseN w base b c l := by
  have hc := owns_cap h.own
  refine ⟨(owns_block h.own).1, by omega, hc.2, fun i n hi => ?_⟩
  have hl := some_lt hi
  exact ⟨A i, C i, h.at_ (by omega) (by omega) hi, fun x hx => ((h.cols i n (by omega) hi).lt x hx).1⟩
theorem LooseN.take (h : LooseN w base b c l) (k : Nat) : LooseN w base b c (l.take k) :=
  ⟨h.lt, by have := h.cap; simp; omega, h.mx, fun i n hi => by
    rw [List.getElem?_take] at hi
    split at hi
    · exact h.nd i n hi
    · cases hi⟩
end
def LooseP (w : World) (g : Nat) (xo : Option Addr) (d : Nat) (code : List Int) (e : Ending) (w' : World) : Prop :=
  ∃ (l : List Nd) (b c : Nat), e = .returned (.slice (some ⟨b, 0, none⟩) l.length c) ∧ l.length ≤ 82 ∧ (∀ m ∈ l, m.cols.length ≤ 4) ∧ LooseN w' w.heap.size b c l ∧ Drew w g xo d code w'
theorem loose_part {w0 w : World} {g : Nat} {xo : Option Addr} {d : Nat} {code : List Int} {b c m : Nat} {l : List Nd} {xs : List Value} {A : Nat → Option Addr} {C : Nat → Nat} {e : Ending} (hp : PartN w w0.heap.size b c m l m xs A C) (hm : l.length = m) (hd : Drew w0 g xo d code w) (h81 : m ≤ 82) (h4 : ∀ n ∈ l, n.cols.length ≤ 4) (he : e = .returned (.slice (some ⟨b, 0, none⟩) m c)) : LooseP w0 g xo d code e w :=
  ⟨l, b, c, by rw [he, hm], by omega, h4, LooseN.of_part hp hm, hd⟩
theorem set_four {l : List Nd} {i : Nat} {n n' : Nd} (h : ∀ m ∈ l, m.cols.length ≤ 3) (hn : l[i]? = some n) (hc : n'.cols = n.cols) : ∀ m ∈ l.set i n', m.cols.length ≤ 4 := by
  intro m hm
  rcases List.mem_or_eq_of_mem_set hm with hm | rfl
  · have := h m hm; omega
  · rw [hc]; have := h n (List.mem_of_getElem? hn); omega
theorem drew_once {w0 w w' : World} {g : Nat} {xo : Option Addr} {d : Nat} {code : List Int} (h : Drew w0 g xo d code w) (hc : Cur w' g xo d code) (hg : w.grownBy w' (some g)) : Drew w0 g xo d code w' := ⟨hc, grownBy_trans h.2 hg⟩
theorem pick_new (g : Nat) (xo : Option Addr) (d : Nat) (code : List Int) (w : World) (hc : Cur w g xo d code) (hl : code.length ≤ 1048577) (l : List Int) (n : Nat) (hn : l.length = n) (h0 : 1 ≤ n) (h1 : n ≤ 256) (cs : Array Value) (hcs : cs = (l.map (Value.int .i64)).toArray) :
    Calls Tryz.prog 69 #[.pointer (some ⟨g, 0, none⟩), .slice (some ⟨w.heap.size, 0, none⟩) n n] (w.alloc (.cells cs 3)) fun e w' => ∃ z : Int, e = .returned (.int .i64 z) ∧ Drew w g xo d code w' := by
  subst hcs
  refine (l01PickInt_n g xo d code w.heap.size n n l _ (hc.keepB ((Below.refl _ _).alloc (Nat.le_refl _) _)) hl (row_cells w 3 l) (by have := hc.lt; omega) (by omega) (by omega) hn).mono ?_
  rintro e w' ⟨z, _, rfl, hc2, hg2⟩
  exact ⟨z, rfl, hc2, grownBy_trans (below_grown ((Below.refl w.heap.size w).alloc (Nat.le_refl _) _)) hg2⟩
theorem nd_new (w : World) (n : Nd) (a : Option Addr) (c : Nat) (hr : Rd w .i64 a n.cols) (hc : n.cols.length ≤ c) (hm : c ≤ maxLen) (hs : n.name.size ≤ maxLen) : ∀ j k, [n][j]? = some k → NdAt (w.alloc (.cells (ndCells n a c).toArray 39)) w.heap.size (0 + j * 7) k a c := by
  intro j k hk
  have h0 : j = 0 := by have := some_lt hk; simp at this; omega
  subst h0
  simp at hk; subst hk
  have key := cells_new w n a c
  exact ⟨key 0 _ rfl, key 1 _ rfl, key 2 _ rfl, key 3 _ rfl, key 4 _ rfl, key 5 _ rfl, key 6 _ rfl, hr.below ((Below.refl _ w).alloc (Nat.le_refl _) _), hc, hm, hs⟩
theorem row_form {w : World} {base : Nat} {e : TypeId} {size n : Nat} {v : Value} {xs : List Value} (h : w.ownsRow base e size v n xs) (hn : 0 < n) : ∃ b c, v = .slice (some ⟨b, 0, none⟩) n c := by
  rcases h.2 with ⟨_, hz⟩ | ⟨g', cap, cur, hv, _⟩
  · omega
  · exact ⟨g', cap, hv⟩
theorem loose_app {w0 w W w' : World} {g : Nat} {xo : Option Addr} {d : Nat} {code : List Int} {b c m i : Nat} {l : List Nd} {n : Nd} {xs : List Value} {A : Nat → Option Addr} {C : Nat → Nat} {v' : Value} (h0 : Cur w0 g xo d code) (hp : PartN w w0.heap.size b c m l m xs A C) (hm : l.length = m) (hd : Drew w0 g xo d code w) (hn : l[i]? = some n) (hW : Below w.heap.size w W)
    (ho : w'.ownsRow w0.heap.size 39 7 v' (m + 1) (xs ++ allCells [n] (fun _ => A i) (fun _ => C i))) (hg : W.grownBy w' (some b)) (h81 : m ≤ 81) (h4 : ∀ n ∈ l, n.cols.length ≤ 4) : LooseP w0 g xo d code (.returned v') w' := by
  obtain ⟨b', c', rfl⟩ : ∃ b' c', v' = .slice (some ⟨b', 0, none⟩) (m + 1) c' := by
    rcases ho.2 with ⟨_, hz⟩ | ⟨g', cap, cur, hv, _⟩
    · omega
    · exact ⟨g', cap, hv⟩
  have hc := owns_cap ho
  have hb := owns_block hp.own
  have hil := some_lt hn
  have hlen : xs.length = m * 7 := hp.own.1
  have hcol : ∀ j k, l[j]? = some k → Rd w' .i64 (A j) k.cols := fun j k hk => by
    have hjl := some_lt hk
    have hoj := hp.cols j k (by omega) hk
    exact ((hoj.rd.below hW).grown hg (fun x hx => by have := hp.row j x (by omega) hjl hx; simpa using this))
  refine ⟨l ++ [n], b', c', by rw [List.length_append, hm]; rfl, by simp; omega, ?_, ⟨(owns_block ho).1, by simp; omega, hc.2, ?_⟩, ?_⟩
  · intro k hk
    rcases List.mem_append.1 hk with hk | hk
    · exact h4 k hk
    · simp at hk; subst hk; exact h4 k (List.mem_of_getElem? hn)
  · intro j k hk
    have hx : ∀ t, t < 7 → j < m + 1 → w'.cell? ⟨b', 0 + j * 7 + t, none⟩ = (xs ++ allCells [n] (fun _ => A i) (fun _ => C i))[j * 7 + t]? := fun t ht hj => by
      rw [Nat.zero_add, World.ownsRow.cellAt ho _ (by omega)]
    by_cases hj : j < l.length
    · rw [List.getElem?_append_left hj] at hk
      have hcj := hp.cells j k (by omega) hk
      have hoj := hp.cols j k (by omega) hk
      have key : ∀ t, t < 7 → w'.cell? ⟨b', 0 + j * 7 + t, none⟩ = xs[j * 7 + t]? := fun t ht => by
        rw [hx t ht (by omega), List.getElem?_append_left (by omega)]
      exact ⟨A j, C j, ⟨(key 0 (by omega)).trans hcj.c0, (key 1 (by omega)).trans hcj.c1, (key 2 (by omega)).trans hcj.c2, (key 3 (by omega)).trans hcj.c3, (key 4 (by omega)).trans hcj.c4, (key 5 (by omega)).trans hcj.c5, (key 6 (by omega)).trans hcj.c6, hcol j k hk, hoj.cap_ge, hoj.cap_le, hp.name j k (by omega) hk⟩, fun x hx => (hoj.lt x hx).1⟩
    · rw [List.getElem?_append_right (by omega)] at hk
      have hj0 : j - l.length = 0 := by have := some_lt hk; simp at this; omega
      rw [hj0] at hk
      simp at hk; subst hk
      have hjm : j = m := by omega
      have hoi := hp.cols i n (by omega) hn
      have key : ∀ t, t < 7 → w'.cell? ⟨b', 0 + j * 7 + t, none⟩ = (ndCells n (A i) (C i))[t]? := fun t ht => by
        rw [hx t ht (by omega), List.getElem?_append_right (by omega), show j * 7 + t - xs.length = t by omega]
        simp [allCells, List.getElem?_append_left, ndCells, ht]
      exact ⟨A i, C i, ⟨key 0 (by omega), key 1 (by omega), key 2 (by omega), key 3 (by omega), key 4 (by omega), key 5 (by omega), key 6 (by omega), hcol i n hn, hoi.cap_ge, hoi.cap_le, hp.name i n (by omega) hn⟩, fun x hx => (hoi.lt x hx).1⟩
  · have hz := hd.2.size
    have hk : ∀ q, q < w0.heap.size → w'.heap[q]? = w.heap[q]? := fun q hq => (hg.block q (by have := hW.size; omega) (by simp; omega)).trans (hW.block q (by omega))
    exact ⟨hd.1.keepI h0.lt h0.code_lt hk, ⟨hg.os.trans (hW.os.trans hd.2.os), hg.tape.trans (hW.tape.trans hd.2.tape), hg.output.trans (hW.output.trans hd.2.output), Nat.le_trans hz (Nat.le_trans hW.size hg.size), fun q hq hne => (hk q hq).trans (hd.2.block q hq hne)⟩⟩
theorem loose_col {w0 w W w' : World} {g : Nat} {xo : Option Addr} {d : Nat} {code : List Int} {b c m i : Nat} {l : List Nd} {n : Nd} {xs : List Value} {A : Nat → Option Addr} {C : Nat → Nat} {ao : Option Addr} {co : Nat} {z : Int} {e : Ending} (h0 : Cur w0 g xo d code) (hp : PartN w w0.heap.size b c m l m xs A C) (hm : l.length = m) (hd : Drew w0 g xo d code w) (hn : l[i]? = some n) (hW : Below w.heap.size w W)
    (ho : Own w' w0.heap.size 3 .i64 ao co (n.cols ++ [z])) (hg : W.grownBy w' ((A i).map (·.block))) (h81 : m ≤ 82) (h3 : ∀ n ∈ l, n.cols.length ≤ 3) (he : e = .returned (.slice (some ⟨b, 0, none⟩) m c)) :
    w'.cell? ⟨b, i * 7 + 6, none⟩ = some (.slice (A i) n.cols.length (C i)) ∧ w'.frozen? ⟨b, i * 7 + 6, none⟩ = false ∧ LooseP w0 g xo d code e (w'.setCell ⟨b, i * 7 + 6, none⟩ (.slice ao (n.cols.length + 1) co)) := by
  have hb := owns_block hp.own
  have hil := some_lt hn
  have hlen : xs.length = m * 7 := hp.own.1
  have hbne : some b ≠ (A i).map (·.block) := by
    cases hA : A i with
    | none => simp
    | some y => simp; exact Ne.symm (hp.row i y (by omega) hil hA)
  have hbk : w'.heap[b]? = w.heap[b]? := (hg.block b (by have := hW.size; omega) hbne).trans (hW.block b hb.2)
  have ow := owns_keep hp.own hbk
  have cc : ∀ o, o < m * 7 → w'.cell? ⟨b, o, none⟩ = xs[o]? := fun o hh => World.ownsRow.cellAt ow o hh
  -- the columns' row is not the nodes'
  have hao : ∀ x, ao = some x → x.block ≠ b := by
    intro x hx hxb
    rcases ho.2 with ⟨hv, _⟩ | ⟨g1, cap1, cur1, hv1, _, hg1, _⟩
    · simp only [Value.slice.injEq] at hv; rw [hv.1] at hx; cases hx
    · simp only [Value.slice.injEq] at hv1
      rw [hv1.1] at hx; cases hx
      simp only at hxb
      rcases ow.2 with ⟨hv2, _⟩ | ⟨g2, cap2, cur2, hv2, _, hg2, _⟩
      · simp at hv2
      · simp only [Value.slice.injEq, Option.some.injEq, Addr.mk.injEq, and_true] at hv2
        rw [← hv2.1, ← hxb, hg1] at hg2
        simp at hg2
  have hs := (ow.stored (i * 7 + 6) (.slice ao (n.cols.length + 1) co)).1
  have hcs := owns_cap ow
  have far : ∀ (x : Nat), x ≠ b → (w'.setCell ⟨b, i * 7 + 6, none⟩ (.slice ao (n.cols.length + 1) co)).heap[x]? = w'.heap[x]? := fun x hx => Below.heap_setCell w' ⟨b, i * 7 + 6, none⟩ _ x hx
  refine ⟨(cc _ (by omega)).trans (hp.cells i n (by omega) hn).c6, World.ownsRow.frozenAt ow _, ⟨l.set i { n with cols := n.cols ++ [z] }, b, c, by rw [he, List.length_set, hm], by simp; omega, ?_, ⟨hb.1, by simp; omega, hcs.2, ?_⟩, ?_⟩⟩
  · intro k hk
    rcases List.mem_or_eq_of_mem_set hk with hk | rfl
    · have := h3 k hk; omega
    · have := h3 n (List.mem_of_getElem? hn); simp; omega
  · intro j k hk
    have hjl : j < l.length := by have := some_lt hk; simpa using this
    have key : ∀ t, t < 7 → (w'.setCell ⟨b, i * 7 + 6, none⟩ (.slice ao (n.cols.length + 1) co)).cell? ⟨b, 0 + j * 7 + t, none⟩ = (xs.set (i * 7 + 6) (.slice ao (n.cols.length + 1) co))[j * 7 + t]? := fun t ht => by
      rw [Nat.zero_add, World.ownsRow.cellAt hs _ (by omega)]
    by_cases hji : j = i
    · subst hji
      rw [List.getElem?_set_self hil] at hk; cases hk
      have hcj := hp.cells j n (by omega) hn
      have k2 : ∀ t, t < 6 → (w'.setCell ⟨b, j * 7 + 6, none⟩ (.slice ao (n.cols.length + 1) co)).cell? ⟨b, 0 + j * 7 + t, none⟩ = xs[j * 7 + t]? := fun t ht => by
        rw [key t (by omega), List.getElem?_set_ne (by omega)]
      have o2 : Own (w'.setCell ⟨b, j * 7 + 6, none⟩ (.slice ao (n.cols.length + 1) co)) w0.heap.size 3 .i64 ao co (n.cols ++ [z]) := ho.keep fun x hx _ => far x.block (hao x hx)
      refine ⟨ao, co, ⟨(k2 0 (by omega)).trans hcj.c0, (k2 1 (by omega)).trans hcj.c1, (k2 2 (by omega)).trans hcj.c2, (k2 3 (by omega)).trans hcj.c3, (k2 4 (by omega)).trans hcj.c4, (k2 5 (by omega)).trans hcj.c5, ?_, o2.rd, o2.cap_ge, o2.cap_le, hp.name j n (by omega) hn⟩, fun x hx => (ho.lt x hx).1⟩
      rw [key 6 (by omega), List.getElem?_set_self (by omega)]; simp
    · rw [List.getElem?_set_ne (by omega)] at hk
      have hcj := hp.cells j k (by omega) hk
      have hoj := hp.cols j k (by omega) hk
      have k2 : ∀ t, t < 7 → (w'.setCell ⟨b, i * 7 + 6, none⟩ (.slice ao (n.cols.length + 1) co)).cell? ⟨b, 0 + j * 7 + t, none⟩ = xs[j * 7 + t]? := fun t ht => by
        rw [key t (by omega), List.getElem?_set_ne (by omega)]
      have hoW := hoj.below hW
      have hne : ∀ x, A j = some x → some x.block ≠ (A i).map (·.block) := by
        intro x hx
        cases hA : A i with
        | none => simp
        | some y => simp; exact hp.apart j i x y (by omega) (by omega) hjl hil hji hx hA
      have o2 := (hoW.grown hg hne).keep (w' := w'.setCell ⟨b, i * 7 + 6, none⟩ (.slice ao (n.cols.length + 1) co)) fun x hx _ => far x.block (hp.row j x (by omega) hjl hx)
      exact ⟨A j, C j, ⟨(k2 0 (by omega)).trans hcj.c0, (k2 1 (by omega)).trans hcj.c1, (k2 2 (by omega)).trans hcj.c2, (k2 3 (by omega)).trans hcj.c3, (k2 4 (by omega)).trans hcj.c4, (k2 5 (by omega)).trans hcj.c5, (k2 6 (by omega)).trans hcj.c6, o2.rd, o2.cap_ge, o2.cap_le, hp.name j k (by omega) hk⟩, fun x hx => (hoj.lt x hx).1⟩
  · have hz := hd.2.size
    have hk : ∀ q, q < w0.heap.size → w'.heap[q]? = w.heap[q]? := fun q hq => (hg.block q (by have := hW.size; omega) (by
      cases hA : A i with
      | none => simp
      | some y => have := ((hp.cols i n (by omega) hn).lt y hA).1; simp; omega)).trans (hW.block q (by omega))
    exact drew_set h0 ⟨hd.1.keepI h0.lt h0.code_lt hk, ⟨hg.os.trans (hW.os.trans hd.2.os), hg.tape.trans (hW.tape.trans hd.2.tape), hg.output.trans (hW.output.trans hd.2.output), Nat.le_trans hz (Nat.le_trans hW.size hg.size), fun q hq hne => (hk q hq).trans (hd.2.block q hq hne)⟩⟩ hb.1
end Go.Proofs.YtanfllednlpbaaaGreat
