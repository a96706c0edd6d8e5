/-
  Some nodes in a row of the draw's own that may have been bent: words, and plain facts. No walk. Contract of spec.l02Break: it bends the plan in one place, in the plan's own memory. For every plan of the draw's own.
-/
import Derived.Test.YtfpbhedophlnkaaGreatDoorJR43x
import Derived.Test.YtfpbhedophlnkaaGreatDoorMarkS
import Derived.Test.YtfpbhedophlnkaaGreatDoorJR18x
namespace Go.Proofs.YtfpbhedophlnkaaGreatDoor
open Go.RowKit
set_option linter.unusedSimpArgs false
set_option linter.unusedVariables false

/-- Some nodes, they and their columns in blocks from base on. -/
structure LooseN (w : World) (base b c : Nat) (l : List Nd) : Prop where
  lt : base ≤ b
  cap : l.length ≤ c
  mx : c ≤ maxLen
  nd : ∀ (i : Nat) (n : Nd), l[i]? = some n → ∃ a d, NdAt w b (0 + i * 7) n a d ∧ ∀ x, a = some x → base ≤ x.block
section
variable {w w' : World} {base b c : Nat} {l : List Nd}
theorem LooseN.rd (h : LooseN w base b c l) : RdN w (some ⟨b, 0, none⟩) l :=
  .inr ⟨b, 0, rfl, fun i n hi => by obtain ⟨a, d, hn, _⟩ := h.nd i n hi; exact ⟨a, d, hn⟩⟩
theorem NdAt.grown {o : Nat} {n : Nd} {a : Option Addr} {d : Nat} {row : Option Nat} (h : NdAt w b o n a d) (hg : w.grownBy w' row) (h1 : some b ≠ row) (h2 : ∀ x, a = some x → some x.block ≠ row) : NdAt w' b o n a d := by
  have hk : ∀ o, w'.cell? ⟨b, o, none⟩ = w.cell? ⟨b, o, none⟩ := fun o => World.cell?_of_block (hg.block b h.lt h1)
  exact ⟨(hk _).trans h.c0, (hk _).trans h.c1, (hk _).trans h.c2, (hk _).trans h.c3, (hk _).trans h.c4, (hk _).trans h.c5, (hk _).trans h.c6, h.rd.grown hg h2, h.cap, h.mx, h.nm⟩
theorem LooseN.draw {g : Nat} (h : LooseN w base b c l) (hg : w.grownBy w' (some g)) (hlt : g < base) : LooseN w' base b c l :=
  ⟨h.lt, h.cap, h.mx, fun i n hi => by
    obtain ⟨a, d, hn, ha⟩ := h.nd i n hi
    exact ⟨a, d, hn.grown hg (by have := h.lt; simp; omega) (fun x hx => by have := ha x hx; simp; omega), ha⟩⟩
theorem LooseN.below (h : LooseN w base b c l) (hb : Below w.heap.size w w') : LooseN w' base b c l :=
  ⟨h.lt, h.cap, h.mx, fun i n hi => by
    obtain ⟨a, d, hn, ha⟩ := h.nd i n hi
    exact ⟨a, d, hn.below hb, ha⟩⟩
theorem owns_cap {e : TypeId} {size m : Nat} {xs : List Value} (h : w.ownsRow base e size (.slice (some ⟨b, 0, none⟩) m c) m xs) : m ≤ c ∧ c ≤ maxLen := by
  rcases h.2 with ⟨hv, _⟩ | ⟨g', cap, cur, hv, _, _, h1, h2, _⟩
  · simp at hv
  · simp only [Value.slice.injEq] at hv
    rw [hv.2.2]; exact ⟨h1, h2⟩
theorem LooseN.of_part {m : Nat} {xs : List Value} {A : Nat → Option Addr} {C : Nat → Nat} (h : PartN w base b c m l m xs A C) (hm : l.length = m) : LooseN w base b c l := by
  have hc := owns_cap h.own
  refine ⟨(owns_block h.own).1, by omega, hc.2, fun i n hi => ?_⟩
  have hl := some_lt hi
  exact ⟨A i, C i, h.at_ (by omega) (by omega) hi, fun x hx => ((h.cols i n (by omega) hi).lt x hx).1⟩
theorem LooseN.take (h : LooseN w base b c l) (k : Nat) : LooseN w base b c (l.take k) :=
  ⟨h.lt, by have := h.cap; simp; omega, h.mx, fun i n hi => by
    rw [List.getElem?_take] at hi
    split at hi
    · exact h.nd i n hi
    · cases hi⟩
end
/-- What a drawn plan is known to be that may have been bent. -/
def LooseP (w : World) (g : Nat) (xo : Option Addr) (d : Nat) (code : List Int) (e : Ending) (w' : World) : Prop :=
  ∃ (l : List Nd) (b c : Nat), e = .returned (.slice (some ⟨b, 0, none⟩) l.length c) ∧ l.length ≤ 82 ∧ (∀ m ∈ l, m.cols.length ≤ 4) ∧ LooseN w' w.heap.size b c l ∧ Drew w g xo d code w'
theorem loose_part {w0 w : World} {g : Nat} {xo : Option Addr} {d : Nat} {code : List Int} {b c m : Nat} {l : List Nd} {xs : List Value} {A : Nat → Option Addr} {C : Nat → Nat} {e : Ending} (hp : PartN w w0.heap.size b c m l m xs A C) (hm : l.length = m) (hd : Drew w0 g xo d code w) (h81 : m ≤ 82) (h4 : ∀ n ∈ l, n.cols.length ≤ 4) (he : e = .returned (.slice (some ⟨b, 0, none⟩) m c)) : LooseP w0 g xo d code e w :=
  ⟨l, b, c, by rw [he, hm], by omega, h4, LooseN.of_part hp hm, hd⟩
theorem set_four {l : List Nd} {i : Nat} {n n' : Nd} (h : ∀ m ∈ l, m.cols.length ≤ 3) (hn : l[i]? = some n) (hc : n'.cols = n.cols) : ∀ m ∈ l.set i n', m.cols.length ≤ 4 := by
  intro m hm
  rcases List.mem_or_eq_of_mem_set hm with hm | rfl
  · have := h m hm; omega
  · rw [hc]; have := h n (List.mem_of_getElem? hn); omega
theorem drew_once {w0 w w' : World} {g : Nat} {xo : Option Addr} {d : Nat} {code : List Int} (h : Drew w0 g xo d code w) (hc : Cur w' g xo d code) (hg : w.grownBy w' (some g)) : Drew w0 g xo d code w' := ⟨hc, grownBy_trans h.2 hg⟩
/-- A number that is picked out of a row just made. -/
theorem pick_new (g : Nat) (xo : Option Addr) (d : Nat) (code : List Int) (w : World) (hc : Cur w g xo d code) (hl : code.length ≤ 1048577) (l : List Int) (n : Nat) (hn : l.length = n) (h0 : 1 ≤ n) (h1 : n ≤ 256) (cs : Array Value) (hcs : cs = (l.map (Value.int .i64)).toArray) :
    Calls Tryz.prog 146 #[.pointer (some ⟨g, 0, none⟩), .slice (some ⟨w.heap.size, 0, none⟩) n n] (w.alloc (.cells cs 3)) fun e w' => ∃ z : Int, e = .returned (.int .i64 z) ∧ Drew w g xo d code w' := by
  subst hcs
  refine (l01PickInt_n g xo d code w.heap.size n n l _ (hc.keepB ((Below.refl _ _).alloc (Nat.le_refl _) _)) hl (row_cells w 3 l) (by have := hc.lt; omega) (by omega) (by omega) hn).mono ?_
  rintro e w' ⟨z, _, rfl, hc2, hg2⟩
  exact ⟨z, rfl, hc2, grownBy_trans (below_grown ((Below.refl w.heap.size w).alloc (Nat.le_refl _) _)) hg2⟩
theorem nd_new (w : World) (n : Nd) (a : Option Addr) (c : Nat) (hr : Rd w .i64 a n.cols) (hc : n.cols.length ≤ c) (hm : c ≤ maxLen) (hs : n.name.size ≤ maxLen) : ∀ j k, [n][j]? = some k → NdAt (w.alloc (.cells (ndCells n a c).toArray 92)) w.heap.size (0 + j * 7) k a c := by
  intro j k hk
  have h0 : j = 0 := by have := some_lt hk; simp at this; omega
  subst h0
  simp at hk; subst hk
  have key := cells_new w n a c
  exact ⟨key 0 _ rfl, key 1 _ rfl, key 2 _ rfl, key 3 _ rfl, key 4 _ rfl, key 5 _ rfl, key 6 _ rfl, hr.below ((Below.refl _ w).alloc (Nat.le_refl _) _), hc, hm, hs⟩
theorem row_form {w : World} {base : Nat} {e : TypeId} {size n : Nat} {v : Value} {xs : List Value} (h : w.ownsRow base e size v n xs) (hn : 0 < n) : ∃ b c, v = .slice (some ⟨b, 0, none⟩) n c := by
  rcases h.2 with ⟨_, hz⟩ | ⟨g', cap, cur, hv, _⟩
  · omega
  · exact ⟨g', cap, hv⟩
/-- A node is appended that lies in the row already. -/
theorem loose_app {w0 w W w' : World} {g : Nat} {xo : Option Addr} {d : Nat} {code : List Int} {b c m i : Nat} {l : List Nd} {n : Nd} {xs : List Value} {A : Nat → Option Addr} {C : Nat → Nat} {v' : Value} (h0 : Cur w0 g xo d code) (hp : PartN w w0.heap.size b c m l m xs A C) (hm : l.length = m) (hd : Drew w0 g xo d code w) (hn : l[i]? = some n) (hW : Below w.heap.size w W)
    (ho : w'.ownsRow w0.heap.size 92 7 v' (m + 1) (xs ++ allCells [n] (fun _ => A i) (fun _ => C i))) (hg : W.grownBy w' (some b)) (h81 : m ≤ 81) (h4 : ∀ n ∈ l, n.cols.length ≤ 4) : LooseP w0 g xo d code (.returned v') w' := by
  obtain ⟨b', c', rfl⟩ : ∃ b' c', v' = .slice (some ⟨b', 0, none⟩) (m + 1) c' := by
    rcases ho.2 with ⟨_, hz⟩ | ⟨g', cap, cur, hv, _⟩
    · omega
    · exact ⟨g', cap, hv⟩
  have hc := owns_cap ho
  have hb := owns_block hp.own
  have hil := some_lt hn
  have hlen : xs.length = m * 7 := hp.own.1
  have hcol : ∀ j k, l[j]? = some k → Rd w' .i64 (A j) k.cols := fun j k hk => by
    have hjl := some_lt hk
    have hoj := hp.cols j k (by omega) hk
    exact ((hoj.rd.below hW).grown hg (fun x hx => by have := hp.row j x (by omega) hjl hx; simpa using this))
  refine ⟨l ++ [n], b', c', by rw [List.length_append, hm]; rfl, by simp; omega, ?_, ⟨(owns_block ho).1, by simp; omega, hc.2, ?_⟩, ?_⟩
  · intro k hk
    rcases List.mem_append.1 hk with hk | hk
    · exact h4 k hk
    · simp at hk; subst hk; exact h4 k (List.mem_of_getElem? hn)
  · intro j k hk
    have hx : ∀ t, t < 7 → j < m + 1 → w'.cell? ⟨b', 0 + j * 7 + t, none⟩ = (xs ++ allCells [n] (fun _ => A i) (fun _ => C i))[j * 7 + t]? := fun t ht hj => by
      rw [Nat.zero_add, World.ownsRow.cellAt ho _ (by omega)]
    by_cases hj : j < l.length
    · rw [List.getElem?_append_left hj] at hk
      have hcj := hp.cells j k (by omega) hk
      have hoj := hp.cols j k (by omega) hk
      have key : ∀ t, t < 7 → w'.cell? ⟨b', 0 + j * 7 + t, none⟩ = xs[j * 7 + t]? := fun t ht => by
        rw [hx t ht (by omega), List.getElem?_append_left (by omega)]
      exact ⟨A j, C j, ⟨(key 0 (by omega)).trans hcj.c0, (key 1 (by omega)).trans hcj.c1, (key 2 (by omega)).trans hcj.c2, (key 3 (by omega)).trans hcj.c3, (key 4 (by omega)).trans hcj.c4, (key 5 (by omega)).trans hcj.c5, (key 6 (by omega)).trans hcj.c6, hcol j k hk, hoj.cap_ge, hoj.cap_le, hp.name j k (by omega) hk⟩, fun x hx => (hoj.lt x hx).1⟩
    · rw [List.getElem?_append_right (by omega)] at hk
      have hj0 : j - l.length = 0 := by have := some_lt hk; simp at this; omega
      rw [hj0] at hk
      simp at hk; subst hk
      have hjm : j = m := by omega
      have hoi := hp.cols i n (by omega) hn
      have key : ∀ t, t < 7 → w'.cell? ⟨b', 0 + j * 7 + t, none⟩ = (ndCells n (A i) (C i))[t]? := fun t ht => by
        rw [hx t ht (by omega), List.getElem?_append_right (by omega), show j * 7 + t - xs.length = t by omega]
        simp [allCells, List.getElem?_append_left, ndCells, ht]
      exact ⟨A i, C i, ⟨key 0 (by omega), key 1 (by omega), key 2 (by omega), key 3 (by omega), key 4 (by omega), key 5 (by omega), key 6 (by omega), hcol i n hn, hoi.cap_ge, hoi.cap_le, hp.name i n (by omega) hn⟩, fun x hx => (hoi.lt x hx).1⟩
  · have hz := hd.2.size
    have hk : ∀ q, q < w0.heap.size → w'.heap[q]? = w.heap[q]? := fun q hq => (hg.block q (by have := hW.size; omega) (by simp; omega)).trans (hW.block q (by omega))
    exact ⟨hd.1.keepI h0.lt h0.code_lt hk, ⟨hg.os.trans (hW.os.trans hd.2.os), hg.tape.trans (hW.tape.trans hd.2.tape), hg.output.trans (hW.output.trans hd.2.output), Nat.le_trans hz (Nat.le_trans hW.size hg.size), fun q hq hne => (hk q hq).trans (hd.2.block q hq hne)⟩⟩
/-- A column is appended to those of one node. -/
theorem loose_col {w0 w W w' : World} {g : Nat} {xo : Option Addr} {d : Nat} {code : List Int} {b c m i : Nat} {l : List Nd} {n : Nd} {xs : List Value} {A : Nat → Option Addr} {C : Nat → Nat} {ao : Option Addr} {co : Nat} {z : Int} {e : Ending} (h0 : Cur w0 g xo d code) (hp : PartN w w0.heap.size b c m l m xs A C) (hm : l.length = m) (hd : Drew w0 g xo d code w) (hn : l[i]? = some n) (hW : Below w.heap.size w W)
    (ho : Own w' w0.heap.size 3 .i64 ao co (n.cols ++ [z])) (hg : W.grownBy w' ((A i).map (·.block))) (h81 : m ≤ 82) (h3 : ∀ n ∈ l, n.cols.length ≤ 3) (he : e = .returned (.slice (some ⟨b, 0, none⟩) m c)) :
    w'.cell? ⟨b, i * 7 + 6, none⟩ = some (.slice (A i) n.cols.length (C i)) ∧ w'.frozen? ⟨b, i * 7 + 6, none⟩ = false ∧ LooseP w0 g xo d code e (w'.setCell ⟨b, i * 7 + 6, none⟩ (.slice ao (n.cols.length + 1) co)) := by
  have hb := owns_block hp.own
  have hil := some_lt hn
  have hlen : xs.length = m * 7 := hp.own.1
  have hbne : some b ≠ (A i).map (·.block) := by
    cases hA : A i with
    | none => simp
    | some y => simp; exact Ne.symm (hp.row i y (by omega) hil hA)
  have hbk : w'.heap[b]? = w.heap[b]? := (hg.block b (by have := hW.size; omega) hbne).trans (hW.block b hb.2)
  have ow := owns_keep hp.own hbk
  have cc : ∀ o, o < m * 7 → w'.cell? ⟨b, o, none⟩ = xs[o]? := fun o hh => World.ownsRow.cellAt ow o hh
  -- the columns' row is not the nodes'
  have hao : ∀ x, ao = some x → x.block ≠ b := by
    intro x hx hxb
    rcases ho.2 with ⟨hv, _⟩ | ⟨g1, cap1, cur1, hv1, _, hg1, _⟩
    · simp only [Value.slice.injEq] at hv; rw [hv.1] at hx; cases hx
    · simp only [Value.slice.injEq] at hv1
      rw [hv1.1] at hx; cases hx
      simp only at hxb
      rcases ow.2 with ⟨hv2, _⟩ | ⟨g2, cap2, cur2, hv2, _, hg2, _⟩
      · simp at hv2
      · simp only [Value.slice.injEq, Option.some.injEq, Addr.mk.injEq, and_true] at hv2
        rw [← hv2.1, ← hxb, hg1] at hg2
        simp at hg2
  have hs := (ow.stored (i * 7 + 6) (.slice ao (n.cols.length + 1) co)).1
  have hcs := owns_cap ow
  have far : ∀ (x : Nat), x ≠ b → (w'.setCell ⟨b, i * 7 + 6, none⟩ (.slice ao (n.cols.length + 1) co)).heap[x]? = w'.heap[x]? := fun x hx => Below.heap_setCell w' ⟨b, i * 7 + 6, none⟩ _ x hx
  refine ⟨(cc _ (by omega)).trans (hp.cells i n (by omega) hn).c6, World.ownsRow.frozenAt ow _, ⟨l.set i { n with cols := n.cols ++ [z] }, b, c, by rw [he, List.length_set, hm], by simp; omega, ?_, ⟨hb.1, by simp; omega, hcs.2, ?_⟩, ?_⟩⟩
  · intro k hk
    rcases List.mem_or_eq_of_mem_set hk with hk | rfl
    · have := h3 k hk; omega
    · have := h3 n (List.mem_of_getElem? hn); simp; omega
  · intro j k hk
    have hjl : j < l.length := by have := some_lt hk; simpa using this
    have key : ∀ t, t < 7 → (w'.setCell ⟨b, i * 7 + 6, none⟩ (.slice ao (n.cols.length + 1) co)).cell? ⟨b, 0 + j * 7 + t, none⟩ = (xs.set (i * 7 + 6) (.slice ao (n.cols.length + 1) co))[j * 7 + t]? := fun t ht => by
      rw [Nat.zero_add, World.ownsRow.cellAt hs _ (by omega)]
    by_cases hji : j = i
    · subst hji
      rw [List.getElem?_set_self hil] at hk; cases hk
      have hcj := hp.cells j n (by omega) hn
      have k2 : ∀ t, t < 6 → (w'.setCell ⟨b, j * 7 + 6, none⟩ (.slice ao (n.cols.length + 1) co)).cell? ⟨b, 0 + j * 7 + t, none⟩ = xs[j * 7 + t]? := fun t ht => by
        rw [key t (by omega), List.getElem?_set_ne (by omega)]
      have o2 : Own (w'.setCell ⟨b, j * 7 + 6, none⟩ (.slice ao (n.cols.length + 1) co)) w0.heap.size 3 .i64 ao co (n.cols ++ [z]) := ho.keep fun x hx _ => far x.block (hao x hx)
      refine ⟨ao, co, ⟨(k2 0 (by omega)).trans hcj.c0, (k2 1 (by omega)).trans hcj.c1, (k2 2 (by omega)).trans hcj.c2, (k2 3 (by omega)).trans hcj.c3, (k2 4 (by omega)).trans hcj.c4, (k2 5 (by omega)).trans hcj.c5, ?_, o2.rd, o2.cap_ge, o2.cap_le, hp.name j n (by omega) hn⟩, fun x hx => (ho.lt x hx).1⟩
      rw [key 6 (by omega), List.getElem?_set_self (by omega)]; simp
    · rw [List.getElem?_set_ne (by omega)] at hk
      have hcj := hp.cells j k (by omega) hk
      have hoj := hp.cols j k (by omega) hk
      have k2 : ∀ t, t < 7 → (w'.setCell ⟨b, i * 7 + 6, none⟩ (.slice ao (n.cols.length + 1) co)).cell? ⟨b, 0 + j * 7 + t, none⟩ = xs[j * 7 + t]? := fun t ht => by
        rw [key t (by omega), List.getElem?_set_ne (by omega)]
      have hoW := hoj.below hW
      have hne : ∀ x, A j = some x → some x.block ≠ (A i).map (·.block) := by
        intro x hx
        cases hA : A i with
        | none => simp
        | some y => simp; exact hp.apart j i x y (by omega) (by omega) hjl hil hji hx hA
      have o2 := (hoW.grown hg hne).keep (w' := w'.setCell ⟨b, i * 7 + 6, none⟩ (.slice ao (n.cols.length + 1) co)) fun x hx _ => far x.block (hp.row j x (by omega) hjl hx)
      exact ⟨A j, C j, ⟨(k2 0 (by omega)).trans hcj.c0, (k2 1 (by omega)).trans hcj.c1, (k2 2 (by omega)).trans hcj.c2, (k2 3 (by omega)).trans hcj.c3, (k2 4 (by omega)).trans hcj.c4, (k2 5 (by omega)).trans hcj.c5, (k2 6 (by omega)).trans hcj.c6, o2.rd, o2.cap_ge, o2.cap_le, hp.name j k (by omega) hk⟩, fun x hx => (hoj.lt x hx).1⟩
  · have hz := hd.2.size
    have hk : ∀ q, q < w0.heap.size → w'.heap[q]? = w.heap[q]? := fun q hq => (hg.block q (by have := hW.size; omega) (by
      cases hA : A i with
      | none => simp
      | some y => have := ((hp.cols i n (by omega) hn).lt y hA).1; simp; omega)).trans (hW.block q (by omega))
    exact drew_set h0 ⟨hd.1.keepI h0.lt h0.code_lt hk, ⟨hg.os.trans (hW.os.trans hd.2.os), hg.tape.trans (hW.tape.trans hd.2.tape), hg.output.trans (hW.output.trans hd.2.output), Nat.le_trans hz (Nat.le_trans hW.size hg.size), fun q hq hne => (hk q hq).trans (hd.2.block q hq hne)⟩⟩ hb.1
end Go.Proofs.YtfpbhedophlnkaaGreatDoor
namespace Go.Proofs.YtfpbhedophlnkaaGreatDoor
open Go.RowKit
set_option linter.unusedSimpArgs false
set_option linter.unusedVariables false

set_option maxRecDepth 100000 in
set_option maxHeartbeats 4000000 in
theorem break_any (g : Nat) (xo : Option Addr) (d : Nat) (code : List Int) (w0 w : World) (b c : Nat) (l : List Nd) (xs : List Value) (A : Nat → Option Addr) (C : Nat → Nat) (h0 : Cur w0 g xo d code) (hl : code.length ≤ 1048577)
    (hd : Drew w0 g xo d code w) (hp : PartN w w0.heap.size b c l.length l l.length xs A C) (h1 : 1 ≤ l.length) (h81 : l.length ≤ 81) (h3 : ∀ m ∈ l, m.cols.length ≤ 3) :
    Calls Tryz.prog 76 #[.pointer (some ⟨g, 0, none⟩), .slice (some ⟨b, 0, none⟩) l.length c] w (LooseP w0 g xo d code) := by
  have hglt := h0.lt
  have hcap := owns_cap hp.own
  have hbb := (owns_block hp.own).1
  have H0 := Lib.hid h0; have HL := Lib.hid hl; have HD := Lib.hid hd; have HP := Lib.hid hp; have H3 := Lib.hid h3
  have H4 := Lib.hid (show ∀ m ∈ l, m.cols.length ≤ 4 from fun m hm => by have := h3 m hm; omega)
  clear h0 hl hd hp h3
  generalize hm : l.length = m at *
  have HM := Lib.hid hm; clear hm
  go_enter Tryz.func76, Tryz.ntmps76
  go_wp2_with fail
  refine (l01Once_any g xo d code 8 _ HD.out.1 HL.out (by omega) (by omega)).mono ?_
  rintro e w1 ⟨bo, rfl, c1, g1⟩
  have D1 := Lib.hid (drew_once HD.out c1 g1); have P1 := Lib.hid (HP.out.draw g1 hglt)
  clear c1 g1 HD HP
  cases bo with
  | false =>
    go_wp2_with fail
    go_ret
    exact loose_part P1.out HM.out D1.out (by omega) H4.out rfl
  | true =>
    have hm0 : ((m : Int) == 0) = false := by simp; omega
    go_wp2_with fail
    refine (below_d g xo d code m _ D1.out.1 HL.out (by omega) (by omega)).mono ?_
    rintro e w2 ⟨iz, hi0, hi1, rfl, d2⟩
    have D2 := Lib.hid (D1.out.next d2); have P2 := Lib.hid (P1.out.draw d2.2 hglt)
    clear d2 D1 P1
    obtain ⟨i, rfl⟩ : ∃ i : Nat, iz = i := ⟨iz.toNat, by omega⟩
    have him : i < m := by omega
    obtain ⟨n, hn⟩ : ∃ n, l[i]? = some n := ⟨l[i]'(by have := HM.out; omega), List.getElem?_eq_getElem _⟩
    have HN := Lib.hid hn; clear hn
    go_wp2_with fail
    refine (below_d g xo d code 7 _ D2.out.1 HL.out (by omega) (by omega)).mono ?_
    rintro e w3 ⟨k, hk0, hk1, rfl, d3⟩
    have D3 := Lib.hid (D2.out.next d3); have P3 := Lib.hid (P2.out.draw d3.2 hglt)
    clear d3 D2 P2
    have hk : k = 0 ∨ k = 1 ∨ k = 2 ∨ k = 3 ∨ k = 4 ∨ k = 5 ∨ k = 6 := by omega
    rcases hk with rfl | rfl | rfl | rfl | rfl | rfl | rfl
    · go_wp2_with fail
      refine (below_d g xo d code 10 _ D3.out.1 HL.out (by omega) (by omega)).mono ?_
      rintro e w4 ⟨y, hy0, hy1, rfl, d4⟩
      have D4 := Lib.hid (D3.out.next d4); have P4 := Lib.hid (P3.out.draw d4.2 hglt)
      clear d4 D3 P3
      obtain ⟨y0, e0⟩ := P4.out.some_ (o := i * 7) (by omega)
      have hf0 := P4.out.frozen
      have Q := Lib.hid (P4.out.st0 (by omega) HN.out (by omega) (y - 1))
      have DQ := Lib.hid (drew_set (o := i * 7) (v := .int .i64 (y - 1)) H0.out D4.out hbb)
      go_wp2_with fail
      go_ret
      exact loose_part Q.out (by rw [List.length_set]; exact HM.out) DQ.out (by omega) (set_four H3.out HN.out rfl) rfl
    · have PK := Lib.hid (pick_new g xo d code w3 D3.out.1 HL.out [-1, 63, 64, 2] 4 rfl (by omega) (by omega) _ rfl)
      go_wp2_with fail
      refine PK.out.mono ?_
      rintro e w4 ⟨y, rfl, d4⟩
      have D4 := Lib.hid (D3.out.next d4); have P4 := Lib.hid (P3.out.draw d4.2 hglt)
      clear d4 D3 P3 PK
      obtain ⟨y0, e0⟩ := P4.out.some_ (o := i * 7 + 2) (by omega)
      have hf0 := P4.out.frozen
      have Q := Lib.hid (P4.out.st2 (by omega) HN.out (by omega) y)
      have DQ := Lib.hid (drew_set (o := i * 7 + 2) (v := .int .i64 y) H0.out D4.out hbb)
      go_wp2_with fail
      go_ret
      exact loose_part Q.out (by rw [List.length_set]; exact HM.out) DQ.out (by omega) (set_four H3.out HN.out rfl) rfl
    · have PK := Lib.hid (pick_new g xo d code w3 D3.out.1 HL.out [-1, 1000000, 1000001] 3 rfl (by omega) (by omega) _ rfl)
      go_wp2_with fail
      refine PK.out.mono ?_
      rintro e w4 ⟨y, rfl, d4⟩
      have D4 := Lib.hid (D3.out.next d4); have P4 := Lib.hid (P3.out.draw d4.2 hglt)
      clear d4 D3 P3 PK
      obtain ⟨y0, e0⟩ := P4.out.some_ (o := i * 7 + 4) (by omega)
      have hf0 := P4.out.frozen
      have Q := Lib.hid (P4.out.st4 (by omega) HN.out (by omega) y)
      have DQ := Lib.hid (drew_set (o := i * 7 + 4) (v := .int .i64 y) H0.out D4.out hbb)
      go_wp2_with fail
      go_ret
      exact loose_part Q.out (by rw [List.length_set]; exact HM.out) DQ.out (by omega) (set_four H3.out HN.out rfl) rfl
    · obtain ⟨y0, e0⟩ := P3.out.some_ (o := i * 7 + 5) (by omega)
      have hf0 := P3.out.frozen
      have Q := Lib.hid (P3.out.st5 (by omega) HN.out (by omega) true)
      have DQ := Lib.hid (drew_set (o := i * 7 + 5) (v := .bool true) H0.out D3.out hbb)
      go_wp2_with fail
      go_ret
      exact loose_part Q.out (by rw [List.length_set]; exact HM.out) DQ.out (by omega) (set_four H3.out HN.out rfl) rfl
    · have NA := P3.out.at_ (i := i) (by omega) (by omega) HN.out
      obtain ⟨q0, q1, q2, q3, q4, q5, q6, qr, qc, qm, qn⟩ := NA
      rw [Nat.zero_add] at q0 q1 q2 q3 q4 q5 q6
      have NW := Lib.hid (nd_new w3 n (A i) (C i) qr qc qm qn)
      have OWN := Lib.hid (P3.out.below ((Below.refl _ w3).alloc (Nat.le_refl _) (.cells (ndCells n (A i) (C i)).toArray 92))).own
      have LA := Lib.hid (fun (v' : Value) (w' : World) ho hg => loose_app (v' := v') (w' := w') (W := w3.alloc (.cells (ndCells n (A i) (C i)).toArray 92)) H0.out P3.out HM.out D3.out HN.out ((Below.refl _ w3).alloc (Nat.le_refl _) _) ho hg h81 H4.out)
      have hz3 : w0.heap.size ≤ (w3.alloc (.cells (ndCells n (A i) (C i)).toArray 92)).heap.size := by have := D3.out.2.size; simp; omega
      clear qr qc qm qn
      obtain ⟨kd, nmm, co, op, nu, sl, cols⟩ := n
      simp only at q0 q1 q2 q3 q4 q5 q6
      go_wp2_with (at_builtin; go_must (refine wpList_appendNs _ rfl (.tmp 56) (.tmp 61) 25 rfl w0.heap.size Tryz.underlying25 Tryz.infoNode rfl _ m xs rfl OWN.out w3.heap.size 0 1 1 [⟨kd, nmm, co, op, nu, sl, cols⟩] (fun _ => A i) (fun _ => C i) rfl rfl NW.out (by omega) hz3 ?_; intro v' w4 o4 g4 _; obtain ⟨b4, c4, rfl⟩ := row_form o4 (by omega); have LP := Lib.hid (LA.out _ _ o4 g4); clear o4 g4))
      go_ret
      exact LP.out
    · have LT := Lib.hid ((LooseN.of_part P3.out HM.out).take i)
      have TL := Lib.hid (show (l.take i).length = i by rw [List.length_take, HM.out]; omega)
      have hic : (i : Int) ≤ c := by omega
      go_wp2_with fail
      go_ret
      exact ⟨l.take i, b, c, ret_slice TL.out.symm, by rw [TL.out]; omega, fun k hk => H4.out k (List.mem_of_mem_take hk), LT.out, D3.out⟩
    · have e6 : w3.cell? ⟨b, i * 7 + 6, none⟩ = some (.slice (A i) n.cols.length (C i)) := (P3.out.cellAt (by omega)).trans (P3.out.cells i _ (by omega) HN.out).c6
      have OC := Lib.hid (P3.out.cols i n (by omega) HN.out)
      have n3 := H3.out n (List.mem_of_getElem? HN.out)
      have LC := Lib.hid (fun (ao : Option Addr) (co : Nat) (w' : World) ho hg => loose_col (ao := ao) (co := co) (w' := w') (z := 0) (W := w3.alloc (.cells #[.int .i64 0] 3)) H0.out P3.out HM.out D3.out HN.out ((Below.refl _ w3).alloc (Nat.le_refl _) _) ho hg (by omega) H3.out rfl)
      have hz3 : w0.heap.size ≤ (w3.alloc (.cells #[.int .i64 0] 3)).heap.size := by have := D3.out.2.size; simp; omega
      generalize hcl : n.cols.length = cl at *
      have CL := Lib.hid hcl; clear hcl
      go_wp2_with (at_builtin; go_must (refine wpList_appendI _ rfl (.tmp 76) (.tmp 77) 47 rfl w0.heap.size 3 Tryz.underlying47 Tryz.infoInt (A i) (C i) cl n.cols rfl CL.out.symm (OC.out.alloc _) w3.heap.size 1 0 rfl (cell_one _ _ _) (by rw [CL.out]; omega) hz3 ?_; rw [CL.out]; intro ao4 c4 w4 o4 g4; have LP := Lib.hid (LC.out _ _ _ o4 g4); have e7 := LP.out.1; have f7 := LP.out.2.1; clear o4 g4))
      go_ret
      exact LP.out.2.2
end Go.Proofs.YtfpbhedophlnkaaGreatDoor
