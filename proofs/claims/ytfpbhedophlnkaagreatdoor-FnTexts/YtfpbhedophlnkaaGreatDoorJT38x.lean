/-
  The model's draws of lists of numbers and of words: some list, some text, in memory of its own. For every slice of bytes. A row of nodes of the call's own, built by append, or cloned and given columns of its own. No program, no walk. What is asked of places, depths and kinds of plans, as plain functions. No program, no walk. Contracts of EndOf, DepthOf and CountKind, of the model and of the program. For every slice of nodes. Contracts of ChildrenOf, of the model and of the program. For every slice of nodes and every number. Contract of toNodeS. For every slice of nodes.
-/
import Derived.Test.YtfpbhedophlnkaaGreatDoorJT37x
import Derived.Test.YtfpbhedophlnkaaGreatDoorJT4x
import Derived.Test.YtfpbhedophlnkaaGreatDoorJT22x
import Derived.Maps.AppendAt
import Derived.OwnWalk
import Derived.Test.YtfpbhedophlnkaaGreatDoorJT31x
import Derived.Test.YtfpbhedophlnkaaGreatDoorJT30x
namespace Go.Proofs.YtfpbhedophlnkaaGreatDoor
open Go.RowKit
set_option linter.unusedSimpArgs false
set_option linter.unusedVariables false

theorem Cur.code_lt {w : World} {g : Nat} {ao : Option Addr} {d : Nat} {code : List Int} (h : Cur w g ao d code) : ∀ a, ao = some a → code ≠ [] → a.block < w.heap.size := by
  obtain ⟨i, x, h1, h2, h3, h4, h5, h6⟩ := h
  intro a ha hl
  rcases h4 with rfl | ⟨b, off, hh, hc⟩
  · exact absurd rfl hl
  · rw [ha] at hh
    injection hh with hh
    subst hh
    exact World.block_lt_of_cell? w _ (hc 0 (by cases code with | nil => exact absurd rfl hl | cons _ _ => simp))
theorem Cur.keepI {w w' : World} {g B : Nat} {ao : Option Addr} {d : Nat} {code : List Int} (h : Cur w g ao d code) (hg : g < B) (hcode : ∀ a, ao = some a → code ≠ [] → a.block < B) (hk : ∀ i, i < B → w'.heap[i]? = w.heap[i]?) : Cur w' g ao d code := by
  obtain ⟨i, x, h1, h2, h3, h4, h5, h6⟩ := h
  refine ⟨i, x, (hk g hg).trans h1, h2, h3, ?_, h5, h6⟩
  by_cases hl : code = []
  · exact .inl hl
  · rcases h4 with rfl | ⟨b, off, rfl, hc⟩
    · exact absurd rfl hl
    · exact .inr ⟨b, off, rfl, fun j hj => (World.cell?_of_block (a := ⟨b, off + j, none⟩) (hk b (hcode _ rfl hl))).trans (hc j hj)⟩
/-- What a draw leaves: the cursor moved on, nothing else that was there turned. -/
def Drew (w : World) (g : Nat) (ao : Option Addr) (d : Nat) (code : List Int) (w' : World) : Prop := Cur w' g ao d code ∧ w.grownBy w' (some g)
theorem Drew.own {wr w1 : World} {B g : Nat} {E : TypeId} {k : IntKind} {ao xo : Option Addr} {c d : Nat} {l code : List Int} (h : Drew wr g xo d code w1) (ho : Own wr B E k ao c l) (hg : g < B) : Own w1 B E k ao c l :=
  ho.grown h.2 (fun a ha => by have := (ho.lt a ha).1; simp; omega)
/-- Behind 'append(out, x)' onto a row of the draw's own. -/
theorem drew_app {w wr w1 : World} {g : Nat} {E : TypeId} {k : IntKind} {ao xo : Option Addr} {c d : Nat} {l code : List Int} {o : Obj} (h0 : Cur w g xo d code) (h : Drew w g xo d code wr) (ho : Own wr w.heap.size E k ao c l) (hg' : (wr.alloc o).grownBy w1 (ao.map (·.block))) : Drew w g xo d code w1 := by
  have hb : Below w.heap.size wr w1 := ((Below.refl _ _).alloc h.2.size o).grown hg' (by have := h.2.size; simp; omega) (by
    intro r hr
    cases ao with
    | none => cases hr
    | some a => simp at hr; subst hr; exact (ho.lt a rfl).1)
  refine ⟨h.1.keepI h0.lt h0.code_lt hb.block, ?_⟩
  exact ⟨hb.os.trans h.2.os, hb.tape.trans h.2.tape, hb.output.trans h.2.output, Nat.le_trans h.2.size hb.size, fun i hi hne => (hb.block i hi).trans (h.2.block i hi hne)⟩
theorem drew_trans {w w1 w2 : World} {g : Nat} {xo : Option Addr} {d : Nat} {code : List Int} (h : w.grownBy w1 (some g)) (k : Cur w2 g xo d code) (k2 : w1.grownBy w2 (some g)) : Drew w g xo d code w2 := ⟨k, grownBy_trans h k2⟩

theorem l01PickInt_n (g : Nat) (ao : Option Addr) (d : Nat) (code : List Int) (b c n : Nat) (l : List Int) (w : World) (hc : Cur w g ao d code) (hl : code.length ≤ 1048577)
    (hb : ∀ i, i < l.length → w.cell? ⟨b, i, none⟩ = some (.int .i64 (l.getD i 0))) (hbg : b ≠ g) (h0 : 1 ≤ l.length) (h1 : l.length ≤ 256) (hn : l.length = n) :
    Calls Tryz.prog 146 #[.pointer (some ⟨g, 0, none⟩), .slice (some ⟨b, 0, none⟩) n c] w (PickP w g ao d code l) := by
  subst hn
  exact l01PickInt_any g ao d code b 0 c l w hc hl (by intro i hi; rw [Nat.zero_add]; exact hb i hi) hbg h0 h1
theorem row_cells (w : World) (t : TypeId) (l : List Int) : ∀ i, i < l.length → (w.alloc (.cells (l.map (Value.int .i64)).toArray t)).cell? ⟨w.heap.size, i, none⟩ = some (.int .i64 (l.getD i 0)) := by
  intro i hi
  rw [cell_of_row _ _ _ _ _ _ (heap_alloc_new w _)]
  simp [hi, List.getD_eq_getElem?_getD]

def NumP (w : World) (g : Nat) (ao : Option Addr) (d : Nat) (code : List Int) (lo hi : Int) (e : Ending) (w' : World) : Prop :=
  ∃ z, lo ≤ z ∧ z ≤ hi ∧ e = .returned (.int .i64 z) ∧ Drew w g ao d code w'
def NumsRel (w wr : World) (g : Nat) (xo : Option Addr) (d : Nat) (code : List Int) (m : Nat) (v i : Value) : Prop :=
  ∃ (k : Nat) (acc : List Int) (ao : Option Addr) (c n : Nat), v = .slice ao n c ∧ i = .int .i64 k ∧ n = acc.length ∧ acc.length = k ∧ k ≤ m ∧ (∀ z ∈ acc, -1000001 ≤ z ∧ z ≤ 1000001) ∧ Own wr w.heap.size 3 .i64 ao c acc ∧ Drew w g xo d code wr
def NumsP (w : World) (g : Nat) (xo : Option Addr) (d : Nat) (code : List Int) (e : Ending) (w' : World) : Prop :=
  ∃ (l : List Int) (ao : Option Addr) (c : Nat), e = .returned (.slice ao l.length c) ∧ l.length ≤ 301 ∧ (∀ z ∈ l, -1000001 ≤ z ∧ z ≤ 1000001) ∧ Own w' w.heap.size 3 .i64 ao c l ∧ Drew w g xo d code w'

theorem all_snoc {acc : List Int} {z lo hi : Int} (h : ∀ y ∈ acc, lo ≤ y ∧ y ≤ hi) (hz : lo ≤ z ∧ z ≤ hi) : ∀ y ∈ acc ++ [z], lo ≤ y ∧ y ≤ hi := by
  intro y hy
  rcases List.mem_append.1 hy with h1 | h1
  · exact h y h1
  · simp at h1; subst h1; exact hz
end Go.Proofs.YtfpbhedophlnkaaGreatDoor
namespace Go.Proofs.YtfpbhedophlnkaaGreatDoor
open Go.RowKit
set_option linter.unusedSimpArgs false
set_option linter.unusedVariables false

section
variable {w w' : World} {base g c m : Nat} {l : List Nd} {j : Nat} {xs : List Value} {A : Nat → Option Addr} {C : Nat → Nat}

/-- The seven cells of a node. -/
def ndCells (n : Nd) (a : Option Addr) (c : Nat) : List Value := [.int .i64 n.kind, .string n.name, .int .i64 n.col, .int .i64 n.op, .int .i64 n.num, .bool n.slot, .slice a n.cols.length c]

/-- A node more is appended behind those that lie there: the row is g' now. -/
theorem PartN.app (hx : xs.length = j * 7) (hcells : ∀ (i : Nat) (n : Nd), i < j → l[i]? = some n → NdC xs (i * 7) n (A i) (C i)) (hcols : ∀ (i : Nat) (n : Nd), i < j → l[i]? = some n → Own w' base 3 .i64 (A i) (C i) n.cols)
    (hname : ∀ (i : Nat) (n : Nd), i < j → l[i]? = some n → n.name.size ≤ maxLen)
    (hapart : ∀ (i k : Nat) (x y : Addr), i < j → k < j → i < l.length → k < l.length → i ≠ k → A i = some x → A k = some y → x.block ≠ y.block)
    {g' c' : Nat} {n : Nd} {a1 : Option Addr} {c1 : Nat} (hn : l[j]? = some n) (ho : w'.ownsRow base 92 7 (.slice (some ⟨g', 0, none⟩) (j + 1) c') (j + 1) (xs ++ ndCells n a1 c1))
    (h1 : Own w' base 3 .i64 a1 c1 n.cols) (hs : n.name.size ≤ maxLen)
    (hrow : ∀ (i : Nat) (x : Addr), i < j → i < l.length → A i = some x → x.block ≠ g') (hrow1 : ∀ x, a1 = some x → x.block ≠ g')
    (hap1 : ∀ (i : Nat) (x y : Addr), i < j → i < l.length → A i = some x → a1 = some y → x.block ≠ y.block) :
    PartN w' base g' c' (j + 1) l (j + 1) (xs ++ ndCells n a1 c1) (fun i => if i = j then a1 else A i) (fun i => if i = j then c1 else C i) := by
  refine ⟨ho, ?_, ?_, ?_, ?_, ?_⟩
  · intro i n' hi hn'
    by_cases hij : i = j
    · subst hij
      rw [hn] at hn'; cases hn'
      simp only [if_true]
      constructor <;> rw [List.getElem?_append_right (by omega)] <;> simp [ndCells, hx]
    · simp only [if_neg hij]
      have hc := hcells i n' (by omega) hn'
      exact ⟨by rw [List.getElem?_append_left (by omega)]; exact hc.c0, by rw [List.getElem?_append_left (by omega)]; exact hc.c1, by rw [List.getElem?_append_left (by omega)]; exact hc.c2, by rw [List.getElem?_append_left (by omega)]; exact hc.c3, by rw [List.getElem?_append_left (by omega)]; exact hc.c4, by rw [List.getElem?_append_left (by omega)]; exact hc.c5, by rw [List.getElem?_append_left (by omega)]; exact hc.c6⟩
  · intro i n' hi hn'
    by_cases hij : i = j
    · subst hij
      rw [hn] at hn'; cases hn'
      simp only [if_true]; exact h1
    · simp only [if_neg hij]; exact hcols i n' (by omega) hn'
  · intro i n' hi hn'
    by_cases hij : i = j
    · subst hij; rw [hn] at hn'; cases hn'; exact hs
    · exact hname i n' (by omega) hn'
  · intro i x hi hil hx'
    by_cases hij : i = j
    · subst hij; simp only [if_true] at hx'; exact hrow1 x hx'
    · simp only [if_neg hij] at hx'; exact hrow i x (by omega) hil hx'
  · intro i k x y hi hk hil hkl hik hx' hy'
    by_cases hij : i = j
    · subst hij
      simp only [if_true] at hx'
      simp only [if_neg (Ne.symm hik)] at hy'
      exact Ne.symm (hap1 k y x (by omega) hkl hy' hx')
    · simp only [if_neg hij] at hx'
      by_cases hkj : k = j
      · subst hkj; simp only [if_true] at hy'; exact hap1 i x y (by omega) hil hx' hy'
      · simp only [if_neg hkj] at hy'; exact hapart i k x y (by omega) (by omega) hil hkl hik hx' hy'

/-- The columns of the next node become the call's own. -/
theorem PartN.own1 (h : PartN w base g c m l j xs A C) {w1 : World} {n : Nd} {a0 a1 : Option Addr} {c0 c1 : Nat} (hj : j < m) (hn : l[j]? = some n) (hb : Below w.heap.size w w1)
    (hc : NdC xs (j * 7) n a0 c0) (ho : Own w1 w.heap.size 3 .i64 a1 c1 n.cols) (hbase : base ≤ w.heap.size) (hs : n.name.size ≤ maxLen) :
    PartN (w1.setCell ⟨g, j * 7 + 6, none⟩ (.slice a1 n.cols.length c1)) base g c m l (j + 1) (xs.set (j * 7 + 6) (.slice a1 n.cols.length c1)) (fun i => if i = j then a1 else A i) (fun i => if i = j then c1 else C i) := by
  have hg := (owns_block h.own).2
  have h1 := h.below hb
  have hlen : xs.length = m * 7 := h.own.1
  have key : ∀ i, i ≠ j * 7 + 6 → (xs.set (j * 7 + 6) (.slice a1 n.cols.length c1))[i]? = xs[i]? := fun i hi => List.getElem?_set_ne (by omega)
  refine ⟨(h1.own.stored (j * 7 + 6) _).1, ?_, ?_, ?_, ?_, ?_⟩
  · intro i n' hi hn'
    by_cases hij : i = j
    · subst hij
      rw [hn] at hn'; cases hn'
      simp only [if_true]
      exact ⟨(key _ (by omega)).trans hc.c0, (key _ (by omega)).trans hc.c1, (key _ (by omega)).trans hc.c2, (key _ (by omega)).trans hc.c3, (key _ (by omega)).trans hc.c4, (key _ (by omega)).trans hc.c5, by rw [List.getElem?_set_self (by omega)]⟩
    · simp only [if_neg hij]
      have hc' := h.cells i n' (by omega) hn'
      exact ⟨(key _ (by omega)).trans hc'.c0, (key _ (by omega)).trans hc'.c1, (key _ (by omega)).trans hc'.c2, (key _ (by omega)).trans hc'.c3, (key _ (by omega)).trans hc'.c4, (key _ (by omega)).trans hc'.c5, (key _ (by omega)).trans hc'.c6⟩
  · intro i n' hi hn'
    by_cases hij : i = j
    · subst hij
      rw [hn] at hn'; cases hn'
      simp only [if_true]
      exact (ho.far (fun x hx => by have := (ho.lt x hx).1; simp only; omega) _).base_le hbase
    · simp only [if_neg hij]
      have hil : i < l.length := by
        rcases Nat.lt_or_ge i l.length with h1 | h1
        · exact h1
        · rw [List.getElem?_eq_none h1] at hn'; cases hn'
      exact (h1.cols i n' (by omega) hn').far (fun x hx => h.row i x (by omega) hil hx) _
  · intro i n' hi hn'
    by_cases hij : i = j
    · subst hij
      rw [hn] at hn'; cases hn'; exact hs
    · exact h.name i n' (by omega) hn'
  · intro i x hi hil hx
    by_cases hij : i = j
    · subst hij
      simp only [if_true] at hx
      have := (ho.lt x hx).1; omega
    · simp only [if_neg hij] at hx
      exact h.row i x (by omega) hil hx
  · intro i k x y hi hk hil hkl hik hx hy
    have key : ∀ i x, i < j → i < l.length → A i = some x → x.block < w.heap.size := fun i x hi hil hx => ((h.cols i _ hi (List.getElem?_eq_getElem hil)).lt x hx).2
    by_cases hij : i = j
    · subst hij
      simp only [if_true] at hx
      simp only [if_neg (Ne.symm hik)] at hy
      have := (ho.lt x hx).1
      have := key k y (by omega) hkl hy
      omega
    · simp only [if_neg hij] at hx
      by_cases hkj : k = j
      · subst hkj
        simp only [if_true] at hy
        have := (ho.lt y hy).1
        have := key i x (by omega) hil hx
        omega
      · simp only [if_neg hkj] at hy
        exact h.apart i k x y (by omega) (by omega) hil hkl hik hx hy
end
theorem nodes_ind {l : List Nd} {P : Nat → Nd → Option Addr → Nat → Prop} (h : ∀ i n, l[i]? = some n → ∃ a c, P i n a c) : ∃ (A : Nat → Option Addr) (C : Nat → Nat), ∀ i n, l[i]? = some n → P i n (A i) (C i) := by
  have key : ∀ i, ∃ ac : Option Addr × Nat, ∀ n, l[i]? = some n → P i n ac.1 ac.2 := by
    intro i
    cases hn : l[i]? with
    | none => exact ⟨(none, 0), fun n hh => by cases hh⟩
    | some n =>
      obtain ⟨a, c, hp⟩ := h i n hn
      exact ⟨(a, c), fun m hh => by cases hh; exact hp⟩
  obtain ⟨f, hf⟩ := Classical.axiomOfChoice key
  exact ⟨fun i => (f i).1, fun i => (f i).2, fun i n hn => hf i n hn⟩

/-- The cells of a slice of nodes, one behind the other. -/
def allCells : List Nd → (Nat → Option Addr) → (Nat → Nat) → List Value
  | [], _, _ => []
  | n :: l, A, C => ndCells n (A 0) (C 0) ++ allCells l (fun i => A (i + 1)) (fun i => C (i + 1))
theorem allCells_len : ∀ (l : List Nd) (A : Nat → Option Addr) (C : Nat → Nat), (allCells l A C).length = l.length * 7
  | [], _, _ => rfl
  | n :: l, A, C => by simp [allCells, ndCells, allCells_len l]; omega
theorem allCells_get : ∀ (l : List Nd) (A : Nat → Option Addr) (C : Nat → Nat) (i : Nat) (n : Nd), l[i]? = some n → ∀ t, t < 7 → (allCells l A C)[i * 7 + t]? = (ndCells n (A i) (C i))[t]?
  | [], _, _, i, n, h, _, _ => by simp at h
  | m :: l, A, C, 0, n, h, t, ht => by
    simp at h; subst h
    simp only [allCells]
    rw [List.getElem?_append_left (by simp [ndCells]; omega)]; simp
  | m :: l, A, C, i + 1, n, h, t, ht => by
    simp only [List.getElem?_cons_succ] at h
    simp only [allCells]
    rw [List.getElem?_append_right (by simp [ndCells]; omega)]
    rw [show (i + 1) * 7 + t - (ndCells m (A 0) (C 0)).length = i * 7 + t by simp [ndCells]; omega]
    exact allCells_get l _ _ i n h t ht
theorem allCells_one : ∀ (l : List Nd) (A : Nat → Option Addr) (C : Nat → Nat), ∀ u ∈ allCells l A C, u.oneCell' = true
  | [], _, _, u, h => by cases h
  | n :: l, A, C, u, h => by
    simp only [allCells, List.mem_append] at h
    rcases h with h | h
    · simp [ndCells] at h; rcases h with rfl | rfl | rfl | rfl | rfl | rfl | rfl <;> rfl
    · exact allCells_one l _ _ u h
theorem allCells_cell {w : World} {b off : Nat} {A : Nat → Option Addr} {C : Nat → Nat} {l : List Nd} (h : ∀ i n, l[i]? = some n → NdAt w b (off + i * 7) n (A i) (C i)) :
    ∀ j u, (allCells l A C)[j]? = some u → w.cell? ⟨b, off + j, none⟩ = some u := by
  intro j u hu
  have hj : j < l.length * 7 := by
    rcases Nat.lt_or_ge j (allCells l A C).length with h1 | h1
    · rwa [allCells_len] at h1
    · rw [List.getElem?_eq_none h1] at hu; cases hu
  have hq : j / 7 < l.length := by omega
  have hd := h (j / 7) _ (List.getElem?_eq_getElem hq)
  have e := allCells_get l A C (j / 7) _ (List.getElem?_eq_getElem hq) (j % 7) (by omega)
  rw [show j / 7 * 7 + j % 7 = j by omega] at e
  rw [e] at hu
  have hm : j % 7 = 0 ∨ j % 7 = 1 ∨ j % 7 = 2 ∨ j % 7 = 3 ∨ j % 7 = 4 ∨ j % 7 = 5 ∨ j % 7 = 6 := by omega
  have hoff : off + j = off + j / 7 * 7 + j % 7 := by omega
  rw [hoff]
  rcases hm with hm | hm | hm | hm | hm | hm | hm <;> rw [hm] at hu ⊢ <;> simp [ndCells] at hu <;> rw [← hu]
  · exact hd.c0
  · exact hd.c1
  · exact hd.c2
  · exact hd.c3
  · exact hd.c4
  · exact hd.c5
  · exact hd.c6
end Go.Proofs.YtfpbhedophlnkaaGreatDoor
namespace Go.Proofs.YtfpbhedophlnkaaGreatDoor
open Go.RowKit
set_option linter.unusedSimpArgs false
set_option linter.unusedVariables false

theorem good_some {p : List Nd} {k : Int} (h : goodB p k = true) : ∃ T S, treeN p = some T ∧ fnd k T = some S ∧ S.pl = k.toNat ∧ S.en ≤ p.length ∧ k.toNat < S.en ∧ S.depth ≤ 10 ∧ endN p 10 k.toNat = some (S.en, S.depth) ∧ 0 ≤ k ∧ k < p.length ∧ growT p p.length k.toNat = some S := by
  simp only [goodB, Bool.and_eq_true, decide_eq_true_eq] at h
  obtain ⟨hb, h0, h1⟩ := h
  cases ht : treeN p with
  | none => simp [planB, ht] at hb
  | some T =>
    obtain ⟨_, hg, he, hd⟩ := treeN_some ht
    obtain ⟨S, hf, hgS, hdS, heS⟩ := find_grow p _ 0 k.toNat T hg (Nat.zero_le _) (by omega)
    have hs := growT_sound p _ _ _ hgS
    refine ⟨T, S, rfl, ?_, hs.1, hs.2.2.1, hs.2.1, by omega, ?_, h0, by omega, hgS⟩
    · unfold fnd; rw [if_neg (by omega)]; exact hf
    · rw [endN_grow p (treeN_all ht) p.length 10 k.toNat (by omega), hgS]
      simp only
      rw [if_pos (by omega)]
theorem good_none {p : List Nd} {k : Int} (h : goodB p k = false) : treeN p = none ∨ ∃ T, treeN p = some T ∧ fnd k T = none := by
  cases ht : treeN p with
  | none => exact .inl rfl
  | some T =>
    right
    refine ⟨T, rfl, fnd_out ?_⟩
    obtain ⟨_, hg, he, _⟩ := treeN_some ht
    have hs := growT_sound p _ _ _ hg
    have hb : planB p = true := by simp [planB, ht]
    simp only [goodB, hb, Bool.true_and, Bool.and_eq_false_iff, decide_eq_false_iff_not] at h
    have : T.pl = 0 := hs.1
    omega

/-- Where the node at a place ends, -1 where there is none. -/
def endOfN (p : List Nd) (k : Int) : Int :=
  match treeN p with
  | none => -1
  | some T =>
    match fnd k T with
    | none => -1
    | some S => S.en
theorem endOfN_no {p : List Nd} {k : Int} (h : goodB p k = false) : endOfN p k = -1 := by
  unfold endOfN
  rcases good_none h with ht | ⟨T, ht, hf⟩
  · rw [ht]
  · rw [ht]; simp only; rw [hf]
/-- How deep a plan is, 0 where it is none. -/
def depthN (p : List Nd) : Int :=
  match treeN p with
  | none => 0
  | some T => T.depth
def cnt (kind : Int) (l : List Nd) : Int := ((l.filter fun n => n.kind == kind).length : Nat)
/-- How many nodes of a kind a plan has, -1 where it is none. -/
def countN (p : List Nd) (kind : Int) : Int := if planB p = true then cnt kind p else -1
theorem cnt_bd (kind : Int) (l : List Nd) : 0 ≤ cnt kind l ∧ cnt kind l ≤ l.length := by
  unfold cnt; have := List.length_filter_le (fun n : Nd => n.kind == kind) l; omega
theorem cnt_take {kind : Int} {l : List Nd} {k : Nat} {n : Nd} (h : l[k]? = some n) : cnt kind (l.take (k + 1)) = cnt kind (l.take k) + if n.kind = kind then 1 else 0 := by
  have hk : k < l.length := by
    rcases Nat.lt_or_ge k l.length with h1 | h1
    · exact h1
    · rw [List.getElem?_eq_none h1] at h; cases h
  rw [List.take_succ_eq_append_getElem hk]
  have : l[k] = n := by rw [List.getElem?_eq_getElem hk] at h; injection h
  rw [this]
  unfold cnt
  rw [List.filter_append]
  by_cases hh : n.kind = kind <;> simp [hh]
end Go.Proofs.YtfpbhedophlnkaaGreatDoor
namespace Go.Proofs.YtfpbhedophlnkaaGreatDoor
open Go.RowKit
set_option linter.unusedSimpArgs false
set_option linter.unusedVariables false

end Go.Proofs.YtfpbhedophlnkaaGreatDoor
namespace Go.Proofs.YtfpbhedophlnkaaGreatDoor
open Go.RowKit
set_option linter.unusedSimpArgs false
set_option linter.unusedVariables false

/-- The places of a node's children. -/
def kidsN (p : List Nd) (k : Int) : List Int :=
  match treeN p with
  | none => []
  | some T =>
    match fnd k T with
    | none => []
    | some S => S.kids.map fun c => (c.pl : Int)
theorem kidsN_no {p : List Nd} {k : Int} (h : goodB p k = false) : kidsN p k = [] := by
  unfold kidsN
  rcases good_none h with ht | ⟨T, ht, hf⟩
  · rw [ht]
  · rw [ht]; simp only; rw [hf]

/-- A tree is made of the trees that begin where its children do. -/
theorem grow_inv {p : List Nd} {f k : Nat} {S : Tr} (h : growT p f k = some S) : ∃ n, p[k]? = some n ∧ nodeB n = true ∧
    ((S = .t0 n k (k + 1) ∧ arity n.kind = 0) ∨ (∃ c, S = .t1 n k c.en c ∧ arity n.kind = 1 ∧ growT p f (k + 1) = some c) ∨ (∃ c d, S = .t2 n k d.en c d ∧ arity n.kind = 2 ∧ growT p f (k + 1) = some c ∧ growT p f c.en = some d)) := by
  cases f with
  | zero => cases h
  | succ f =>
    cases hn : p[k]? with
    | none => simp [growT, hn] at h
    | some n =>
      cases hb : nodeB n with
      | false => rw [growT_no hn hb] at h; cases h
      | true =>
        refine ⟨n, rfl, hb, ?_⟩
        rcases arity_of_nodeB hb with ha | ha | ha
        · rw [growT_0 hn hb (by omega) (by omega)] at h; cases h; exact .inl ⟨rfl, ha⟩
        · cases hc : growT p f (k + 1) with
          | none => rw [growT_1n hn ha hc] at h; cases h
          | some c => rw [growT_1s hn hb ha hc] at h; cases h; exact .inr (.inl ⟨c, rfl, ha, growT_more p _ _ _ hc⟩)
        · cases hc : growT p f (k + 1) with
          | none => rw [growT_2n hn ha hc] at h; cases h
          | some c =>
            cases hd : growT p f c.en with
            | none => rw [growT_2sn hn ha hc hd] at h; cases h
            | some d => rw [growT_2ss hn hb ha hc hd] at h; cases h; exact .inr (.inr ⟨c, d, rfl, ha, growT_more p _ _ _ hc, growT_more p _ _ _ hd⟩)
theorem endN_of_grow {p : List Nd} {T c : Tr} {k : Nat} (ht : treeN p = some T) (hg : growT p p.length k = some c) (hd : c.depth ≤ 10) : endN p 10 k = some (c.en, c.depth) := by
  rw [endN_grow p (treeN_all ht) p.length 10 k (by omega), hg]
  simp only
  rw [if_pos hd]

/-- What l02Kids answers, at a good place. -/
def KidsOk (p : List Nd) (k : Nat) (l : List Int) : Prop :=
  ∃ n, p[k]? = some n ∧ ((arity n.kind = 0 ∧ l = []) ∨ (arity n.kind = 1 ∧ l = [(k : Int) + 1] ∧ ∃ e d, endN p 10 (k + 1) = some (e, d)) ∨
    (arity n.kind = 2 ∧ ∃ e d e' d', endN p 10 (k + 1) = some (e, d) ∧ endN p 10 e = some (e', d') ∧ l = [(k : Int) + 1, (e : Int)]))
theorem kids_ok {p : List Nd} {k : Int} (h : goodB p k = true) : KidsOk p k.toNat (kidsN p k) := by
  obtain ⟨T, S, ht, hf, _, _, _, hd, _, h0, _, hg⟩ := good_some h
  have hk : kidsN p k = S.kids.map fun c => (c.pl : Int) := by unfold kidsN; rw [ht]; simp only; rw [hf]
  rw [hk]
  obtain ⟨n, hn, _, hS | ⟨c, rfl, ha, hc⟩ | ⟨c, d, rfl, ha, hc, hdd⟩⟩ := grow_inv hg
  · obtain ⟨rfl, ha⟩ := hS
    exact ⟨n, hn, .inl ⟨ha, rfl⟩⟩
  · have hpl := (growT_sound p _ _ _ hc).1
    refine ⟨n, hn, .inr (.inl ⟨ha, ?_, _, _, endN_of_grow ht hc (by simp only [Tr.depth] at hd; omega)⟩)⟩
    simp [Tr.kids, hpl]
  · have hpl := (growT_sound p _ _ _ hc).1
    have hpl' := (growT_sound p _ _ _ hdd).1
    simp only [Tr.depth] at hd
    refine ⟨n, hn, .inr (.inr ⟨ha, _, _, _, _, endN_of_grow ht hc (by omega), endN_of_grow ht hdd (by omega), ?_⟩)⟩
    simp [Tr.kids, hpl, hpl']


set_option maxRecDepth 100000 in
set_option maxHeartbeats 4000000 in
theorem specKids_any (ao : Option Addr) (c : Nat) (p : List Nd) (k : Int) (l : List Int) (w : World) (h : RdN w ao p) (hp : p.length ≤ 1048576) (h0 : 0 ≤ k) (h1 : k < p.length) (hok : KidsOk p k.toNat l) :
    Calls Tryz.prog 157 #[.slice ao p.length c, .int .i64 k] w (Made w 3 .i64 l) := by
  obtain ⟨n, hn, hc⟩ := hok
  obtain ⟨b, off, n', a, c', rfl, hn', hat⟩ := h.at_ (i := k.toNat) (by omega)
  rw [hn] at hn'; cases hn'
  have H := Lib.hid h; clear h
  have c0 := hat.c0
  have hbl := hat.lt
  clear hat hn
  have AR := Lib.hid (fun w => specArity_any n.kind w)
  have EN := Lib.hid (fun kk W (hw : RdN W (some ⟨b, off, none⟩) p) (q0 : 0 ≤ kk) (q1 : kk ≤ 1048576) => specEnd_any (some ⟨b, off, none⟩) c p hp 10 kk 10 W hw q0 q1 (by omega) (by omega) (by omega))
  have W0 : w.heap.size ≤ (w.alloc (.cells #[] 3)).heap.size := by simp
  rcases hc with ⟨ha, rfl⟩ | ⟨ha, rfl, e, d, he⟩ | ⟨ha, e, d, e', d', he, he', rfl⟩
  · have HA := Lib.hid ha; clear ha
    go_enter Tryz.func157, Tryz.ntmps157
    go_wp2_with fail
    refine wp_loop_rounds 1 ?_; rw [rounds_succ]
    go_wp2_with (go_at_call 140; refine (AR.out _).mono ?_; rintro e w' ⟨rfl, rfl⟩; rw [HA.out])
    go_ret
    exact ⟨_, _, rfl, own_empty (Nat.le_refl _), (Below.refl _ _).alloc (Nat.le_refl _) _⟩
  · obtain ⟨q1, q2, q3, q4⟩ := endN_bd _ _ _ _ _ he
    have HE := Lib.hid he; clear he
    have O0 := Lib.hid (own_empty (w := w) (base := w.heap.size) (e := 3) (k := .i64) (Nat.le_refl _))
    have B0 := Lib.hid ((Below.refl w.heap.size w).alloc (Nat.le_refl _) (.cells #[] 3))
    have HA := Lib.hid ha; clear ha
    have kt : (k.toNat : Int) = k := Int.toNat_of_nonneg h0
    have KT := Lib.hid kt; clear kt
    go_enter Tryz.func157, Tryz.ntmps157
    go_wp2_with fail
    refine wp_loop_rounds 2 ?_; rw [rounds_succ]
    go_wp2_with (first | (go_at_call 140; refine (AR.out _).mono ?_; rintro e w' ⟨rfl, rfl⟩; rw [HA.out]) | (at_builtin; refine wpList_appendI _ rfl (.tmp 21) (.tmp 23) 47 rfl w.heap.size 3 Tryz.underlying47 Tryz.infoInt (some ⟨w.heap.size, 0, none⟩) 0 0 [] rfl rfl (O0.out.alloc _) (w.heap.size + 1) 1 (k + 1) rfl (by simp) (by simp) (by simp; omega) ?_; intro ao2 c2 w2 o2 g2; have b2 := below_app B0.out O0.out g2; have hc2 := (b2.cell (p := ⟨b, off + k.toNat * 7, none⟩) hbl).trans c0; have O2 := Lib.hid o2; have B2 := Lib.hid b2; have R2 := Lib.hid (H.out.below b2); clear o2 g2 b2))
    refine (EN.out _ _ R2.out (by omega) (by omega)).mono ?_
    rintro ee w' ⟨rfl, rfl⟩
    rw [show (k + 1).toNat = k.toNat + 1 from by omega, HE.out]
    simp only [endV]
    go_wp2_with fail
    rw [rounds_succ]
    go_wp2_with (go_at_call 140; refine (AR.out _).mono ?_; rintro e w' ⟨rfl, rfl⟩; rw [HA.out])
    go_ret
    refine ⟨ao2, c2, rfl, ?_, B2.out⟩
    rw [KT.out]; exact O2.out
  · obtain ⟨q1, q2, q3, q4⟩ := endN_bd _ _ _ _ _ he
    obtain ⟨q5, q6, q7, q8⟩ := endN_bd _ _ _ _ _ he'
    have HE := Lib.hid he; have HE' := Lib.hid he'; clear he he'
    generalize e = e1 at *
    have O0 := Lib.hid (own_empty (w := w) (base := w.heap.size) (e := 3) (k := .i64) (Nat.le_refl _))
    have B0 := Lib.hid ((Below.refl w.heap.size w).alloc (Nat.le_refl _) (.cells #[] 3))
    have HA := Lib.hid ha; clear ha
    have kt : (k.toNat : Int) = k := Int.toNat_of_nonneg h0
    have KT := Lib.hid kt; clear kt
    go_enter Tryz.func157, Tryz.ntmps157
    go_wp2_with fail
    refine wp_loop_rounds 3 ?_; rw [rounds_succ]
    go_wp2_with (first | (go_at_call 140; refine (AR.out _).mono ?_; rintro e w' ⟨rfl, rfl⟩; rw [HA.out]) | (at_builtin; refine wpList_appendI _ rfl (.tmp 21) (.tmp 23) 47 rfl w.heap.size 3 Tryz.underlying47 Tryz.infoInt (some ⟨w.heap.size, 0, none⟩) 0 0 [] rfl rfl (O0.out.alloc _) (w.heap.size + 1) 1 (k + 1) rfl (by simp) (by simp) (by simp; omega) ?_; intro ao2 c2 w2 o2 g2; have b2 := below_app B0.out O0.out g2; have hc2 := (b2.cell (p := ⟨b, off + k.toNat * 7, none⟩) hbl).trans c0; have O2 := Lib.hid o2; have B2 := Lib.hid b2; have R2 := Lib.hid (H.out.below b2); clear o2 g2 b2))
    refine (EN.out _ _ R2.out (by omega) (by omega)).mono ?_
    rintro ee w' ⟨rfl, rfl⟩
    rw [show (k + 1).toNat = k.toNat + 1 from by omega, HE.out]
    simp only [endV]
    go_wp2_with fail
    rw [rounds_succ]
    go_wp2_with (first | (go_at_call 140; refine (AR.out _).mono ?_; rintro e w' ⟨rfl, rfl⟩; rw [HA.out]) | (at_builtin; refine wpList_appendI _ rfl (.tmp 21) (.tmp 23) 47 rfl w.heap.size 3 Tryz.underlying47 Tryz.infoInt ao2 c2 1 [k + 1] rfl rfl (O2.out.alloc _) w2.heap.size 1 (e1 : Int) rfl (cell_one _ _ _) (by simp) (by have := B2.out.size; simp; omega) ?_; intro ao3 c3 w3 o3 g3; have b3 := below_app B2.out O2.out g3; have hc3 := (b3.cell (p := ⟨b, off + k.toNat * 7, none⟩) hbl).trans c0; have O3 := Lib.hid o3; have B3 := Lib.hid b3; have R3 := Lib.hid (H.out.below b3); clear o3 g3 b3))
    refine (EN.out _ _ R3.out (by omega) (by omega)).mono ?_
    rintro ee w' ⟨rfl, rfl⟩
    rw [Int.toNat_natCast, HE'.out]
    simp only [endV]
    go_wp2_with fail
    rw [rounds_succ]
    go_wp2_with (go_at_call 140; refine (AR.out _).mono ?_; rintro e w' ⟨rfl, rfl⟩; rw [HA.out])
    go_ret
    refine ⟨ao3, c3, rfl, ?_, B3.out⟩
    rw [KT.out]; exact O3.out
end Go.Proofs.YtfpbhedophlnkaaGreatDoor
namespace Go.Proofs.YtfpbhedophlnkaaGreatDoor
open Go.RowKit
set_option linter.unusedSimpArgs false
set_option linter.unusedVariables false

theorem Tryz.infoNode : (Tryz.prog.info? 92).map (fun i => (i.zero, i.size, i.bytes)) = some (some (.agg #[.int .i64 0, .string ⟨#[]⟩, .int .i64 0, .int .i64 0, .int .i64 0, .bool false, .slice none 0 0]), 7, 80) := by kernel_rfl

end Go.Proofs.YtfpbhedophlnkaaGreatDoor
