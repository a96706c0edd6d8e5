/-
  Slices of slices of rows: what such a slice reads as, and what of it the call itself owns. No program, no walk. What a walk is told of a slice of integers that came in, and that it reads as a list. No program, no walk. What a walk is told of a node, or of a slice of nodes, that came in: it reads as one. No walk. What a walk is told of a slice of rows that came in: it reads as one. No walk. What a walk is told of a slice of lists of rows that came in: it reads as one. No walk. Contract of markText: it answers one text for one number. For every number that is not too great.
-/
import Derived.Test.YtanfllednlpbaaaGreatJ4x
import Derived.Test.YtanfllednlpbaaaGreatJ1x
import Derived.WalkKit
import Derived.ProofKit
import Derived.Test.YtanfllednlpbaaaGreatJ2x
import Derived.Test.YtanfllednlpbaaaGreatRows
import Derived.Deep.Slices
import Derived.Deep.Fields
import Derived.ChangeSame
import Derived.Test.YtanfllednlpbaaaGreatJ3x
import Derived.Laws.Strings
import Derived.Laws.IdiomStrings
namespace Go.Proofs.YtanfllednlpbaaaGreat
open Go.RowKit
set_option linter.unusedSimpArgs false
set_option linter.unusedVariables false

/-- The cell at place o of block b holds a slice that reads as the rows r. -/
def RowsAt (w : World) (b o : Nat) (r : List (List Int)) (a : Option Addr) (c : Nat) : Prop :=
  w.cell? ⟨b, o, none⟩ = some (.slice a r.length c) ∧ RdR w a r ∧ r.length ≤ c ∧ c ≤ maxLen

/-- The slice that begins at 'ao' reads as the lists of rows l. -/
def RdRR (w : World) (ao : Option Addr) (l : List (List (List Int))) : Prop :=
  l = [] ∨ ∃ b off, ao = some ⟨b, off, none⟩ ∧ ∀ i r, l[i]? = some r → ∃ a c, RowsAt w b (off + i) r a c

/-- The first j lists of rows lie in the row g of the call's own, each in a range of blocks of its own. -/
structure PartRR (w : World) (base g c m : Nat) (l : List (List (List Int))) (j : Nat) (xs : List Value) (A : Nat → Option Addr) (C R : Nat → Nat) : Prop where
  own : w.ownsRow base 29 1 (.slice (some ⟨g, 0, none⟩) m c) m xs
  cells : ∀ (i : Nat) (r : List (List Int)), i < j → l[i]? = some r → xs[i]? = some (.slice (A i) r.length (C i))
  rows : ∀ (i : Nat) (r : List (List Int)), i < j → l[i]? = some r → OwnRH w (R i) (R (i + 1)) (A i) (C i) r ∧ r.length ≤ C i ∧ C i ≤ maxLen
  mono : ∀ i, i < j → R i ≤ R (i + 1)
  first : g < R 0
  last : R j ≤ w.heap.size

/-- A slice of lists of rows of the call's own. -/
def OwnRR (w : World) (base : Nat) (ao : Option Addr) (c : Nat) (l : List (List (List Int))) : Prop :=
  l = [] ∨ ∃ g xs A C R, ao = some ⟨g, 0, none⟩ ∧ PartRR w base g c l.length l l.length xs A C R

/-- The call returned a slice of lists of rows of its own, and nothing that was there has turned. -/
def MadeRR (w : World) (l : List (List (List Int))) (en : Ending) (w' : World) : Prop :=
  ∃ ao c, en = .returned (.slice ao l.length c) ∧ OwnRR w' w.heap.size ao c l ∧ l.length ≤ c ∧ c ≤ maxLen ∧ Below w.heap.size w w'

section
variable {w w' : World} {b o : Nat} {ao : Option Addr} {c : Nat} {l : List (List (List Int))} {r : List (List Int)} {a : Option Addr}
theorem RowsAt.lt (h : RowsAt w b o r a c) : b < w.heap.size := World.block_lt_of_cell? w ⟨b, o, none⟩ h.1
theorem RowsAt.below (h : RowsAt w b o r a c) (hb : Below w.heap.size w w') : RowsAt w' b o r a c :=
  ⟨(hb.cell (p := ⟨b, o, none⟩) h.lt).trans h.1, h.2.1.below hb, h.2.2⟩
theorem RdRR.below (h : RdRR w ao l) (hb : Below w.heap.size w w') : RdRR w' ao l := by
  rcases h with h | ⟨b, off, rfl, hc⟩
  · exact .inl h
  · refine .inr ⟨b, off, rfl, fun i n hi => ?_⟩
    obtain ⟨a, c, h⟩ := hc i n hi
    exact ⟨a, c, h.below hb⟩
theorem RdRR.at_ (h : RdRR w ao l) {i : Nat} (hi : i < l.length) : ∃ b off r a c, ao = some ⟨b, off, none⟩ ∧ l[i]? = some r ∧ RowsAt w b (off + i) r a c := by
  rcases h with rfl | ⟨b, off, rfl, hc⟩
  · simp at hi
  · obtain ⟨a, c, h⟩ := hc i _ (List.getElem?_eq_getElem hi)
    exact ⟨b, off, _, a, c, rfl, List.getElem?_eq_getElem hi, h⟩
end

theorem OwnRH.lo_le {w : World} {lo lo' hi c : Nat} {ao : Option Addr} {l : List (List Int)} (h : OwnRH w lo hi ao c l) (hb : lo' ≤ lo) : OwnRH w lo' hi ao c l := by
  rcases h with h | ⟨g, xs, A, C, he, hp, h1, h2⟩
  · exact .inl h
  · exact .inr ⟨g, xs, A, C, he, hp.base_le hb, h1, h2⟩

section
variable {w w' : World} {base g c m : Nat} {l : List (List (List Int))} {j : Nat} {xs : List Value} {A : Nat → Option Addr} {C R : Nat → Nat}
theorem PartRR.below (h : PartRR w base g c m l j xs A C R) (hb : Below w.heap.size w w') : PartRR w' base g c m l j xs A C R :=
  ⟨owns_keep h.own (hb.block _ (owns_block h.own).2), h.cells, fun i n hi hn => ⟨(h.rows i n hi hn).1.below hb, (h.rows i n hi hn).2⟩, h.mono, h.first, Nat.le_trans h.last hb.size⟩
theorem PartRR.base_le {base' : Nat} (h : PartRR w base g c m l j xs A C R) (hb : base' ≤ base) : PartRR w base' g c m l j xs A C R :=
  ⟨owns_base h.own hb, h.cells, h.rows, h.mono, h.first, h.last⟩
theorem PartRR.cellAt (h : PartRR w base g c m l j xs A C R) {o : Nat} (ho : o < m) : w.cell? ⟨g, o, none⟩ = xs[o]? := World.ownsRow.cellAt h.own o (by omega)
theorem PartRR.some_ (h : PartRR w base g c m l j xs A C R) {o : Nat} (ho : o < m) : ∃ y, w.cell? ⟨g, o, none⟩ = some y := by
  have hl : o < xs.length := by have := h.own.1; omega
  exact ⟨xs[o], by rw [h.cellAt ho, List.getElem?_eq_getElem hl]⟩
theorem PartRR.frozen (h : PartRR w base g c m l j xs A C R) (o : Nat) : w.frozen? ⟨g, o, none⟩ = false := World.ownsRow.frozenAt h.own o
theorem PartRR.at_ (h : PartRR w base g c m l j xs A C R) {i : Nat} {r : List (List Int)} (hi : i < j) (hm : i < m) (hn : l[i]? = some r) : RowsAt w g (0 + i) r (A i) (C i) := by
  have ho := h.rows i r hi hn
  rw [Nat.zero_add]
  exact ⟨(h.cellAt hm).trans (h.cells i r hi hn), ho.1.rd, ho.2.1, ho.2.2⟩
theorem PartRR.ge (h : PartRR w base g c m l j xs A C R) : ∀ i, i ≤ j → R 0 ≤ R i := by
  intro i hi
  induction i with
  | zero => exact Nat.le_refl _
  | succ k ih => exact Nat.le_trans (ih (by omega)) (h.mono k (by omega))

/-- A list of rows more is stored behind those that lie there. -/
theorem PartRR.put (h : PartRR w base g c m l j xs A C R) {w1 : World} {r : List (List Int)} {a1 : Option Addr} {c1 : Nat} (hj : j < m) (hn : l[j]? = some r) (hb : Below w.heap.size w w1)
    (ho : OwnR w1 w.heap.size a1 c1 r) (hc1 : r.length ≤ c1) (hc2 : c1 ≤ maxLen) :
    PartRR (w1.setCell ⟨g, j, none⟩ (.slice a1 r.length c1)) base g c m l (j + 1) (xs.set j (.slice a1 r.length c1)) (fun i => if i = j then a1 else A i) (fun i => if i = j then c1 else C i) (fun i => if i = j + 1 then w1.heap.size else R i) := by
  have hg := (owns_block h.own).2
  have h1 := h.below hb
  have hlen : xs.length = m := by have := h.own.1; omega
  have hF : Frame g (g + 1) w1 (w1.setCell ⟨g, j, none⟩ (.slice a1 r.length c1)) := Frame.setCell (p := ⟨g, j, none⟩) (Nat.le_refl _) (Nat.lt_succ_self _) _
  have hge := h.ge
  have hfirst := h.first
  have hlast := h.last
  refine ⟨(h1.own.stored j (.slice a1 r.length c1)).1, ?_, ?_, ?_, ?_, ?_⟩
  · intro i n' hi hn'
    by_cases hij : i = j
    · subst hij
      rw [hn] at hn'; cases hn'
      simp only [if_true]
      rw [List.getElem?_set_self (by omega)]
    · simp only [if_neg hij]
      rw [List.getElem?_set_ne (by omega)]
      exact h.cells i n' (by omega) hn'
  · intro i n' hi hn'
    by_cases hij : i = j
    · subst hij
      rw [hn] at hn'; cases hn'
      simp only [if_true]
      rw [if_neg (by omega)]
      refine ⟨?_, hc1, hc2⟩
      have := (ho.top.lo_le hlast).frame hF (.inr (by have := hge i (Nat.le_refl _); omega))
      exact this
    · simp only [if_neg hij]
      rw [if_neg (by omega), if_neg (by omega)]
      have hr := h1.rows i n' (by omega) hn'
      exact ⟨hr.1.frame hF (.inr (by have := hge i (by omega); omega)), hr.2⟩
  · intro i hi
    by_cases hij : i = j
    · subst hij
      rw [if_neg (by omega), if_pos rfl]
      exact Nat.le_trans hlast hb.size
    · rw [if_neg (by omega), if_neg (by omega)]
      exact h.mono i (by omega)
  · rw [if_neg (by omega)]; exact hfirst
  · rw [if_pos rfl]; exact hF.size
end

section
variable {w w' : World} {base : Nat} {ao : Option Addr} {c : Nat} {l : List (List (List Int))}
theorem OwnRR.below (h : OwnRR w base ao c l) (hb : Below w.heap.size w w') : OwnRR w' base ao c l := by
  rcases h with h | ⟨g, xs, A, C, R, he, hp⟩
  · exact .inl h
  · exact .inr ⟨g, xs, A, C, R, he, hp.below hb⟩
theorem OwnRR.rd (h : OwnRR w base ao c l) : RdRR w ao l := by
  rcases h with h | ⟨g, xs, A, C, R, rfl, hp⟩
  · exact .inl h
  · exact .inr ⟨g, 0, rfl, fun i r hr => ⟨_, _, hp.at_ (lt_of_get hr) (lt_of_get hr) hr⟩⟩
end
end Go.Proofs.YtanfllednlpbaaaGreat
namespace Go.Proofs.YtanfllednlpbaaaGreat
open Go.RowKit
set_option linter.unusedSimpArgs false
set_option linter.unusedVariables false

/-- A slice of integers that came in: nil; or a row of 'cap' cells, the numbers 'zs', of which the first 'len' are its elements. -/
def IsRow (k : IntKind) (w : World) (a : Option Addr) (len cap : Nat) (zs : List Int) : Prop :=
  (a = none ∧ len = 0 ∧ cap = 0 ∧ zs = []) ∨
  ∃ x, a = some x ∧ len ≤ cap ∧ cap ≤ maxLen ∧ zs.length = cap ∧ (∀ i, i < zs.length → w.cell? (x.add i) = some (.int k (zs.getD i 0))) ∧ ∀ n ∈ zs, (Lit.int k n).wf = true

theorem IsRow.rd {k : IntKind} {w : World} {a : Option Addr} {len cap : Nat} {zs : List Int} (h : IsRow k w a len cap zs) :
    ∃ l : List Int, len = l.length ∧ l.length ≤ maxLen ∧ Rd w k a l ∧ ∀ n ∈ l, (Lit.int k n).wf = true := by
  rcases h with ⟨rfl, rfl, rfl, rfl⟩ | ⟨x, rfl, hl, hm, hz, hc, hw⟩
  · exact ⟨[], rfl, Nat.zero_le _, .inl rfl, by intro n hn; cases hn⟩
  · refine ⟨zs.take len, by simp; omega, by simp; omega, ?_, fun n hn => hw n (List.mem_of_mem_take hn)⟩
    by_cases h0 : len = 0
    · left; subst h0; rfl
    · right
      obtain ⟨b, off, spot⟩ := x
      have h1 := hc 0 (by omega)
      have hspot : spot = none := by simpa [Addr.add] using World.cell?_spot h1
      subst hspot
      refine ⟨b, off, rfl, fun i hi => ?_⟩
      have hi' : i < len := by simp at hi; omega
      have h2 := hc i (by omega)
      rw [List.getD_eq_getElem?_getD, List.getElem?_take, if_pos hi', ← List.getD_eq_getElem?_getD, ← h2]
      unfold Addr.add
      split
      · rename_i h; subst h; rfl
      · rfl
theorem by_of_wf {l : List Int} (h : ∀ n ∈ l, (Lit.int .u8 n).wf = true) : By l := by
  intro z hz
  have := h z hz
  simp [Lit.wf, IntKind.min, IntKind.max, IntKind.signed, IntKind.bits] at this
  exact ⟨by omega, by omega⟩
end Go.Proofs.YtanfllednlpbaaaGreat
namespace Go.Proofs.YtanfllednlpbaaaGreat
open Go.RowKit Go.ChangeShapes Go.WideShapes Go.Deep
set_option linter.unusedSimpArgs false
set_option linter.unusedVariables false

/-- The seven values of a node. -/
def ndL (n : Nd) (a : Option Addr) (c : Nat) : List Value := [.int .i64 n.kind, .string n.name, .int .i64 n.col, .int .i64 n.op, .int .i64 n.num, .bool n.slot, .slice a n.cols.length c]

theorem len7 {α : Type} {l : List α} (h : l.length = 7) : ∃ a0 a1 a2 a3 a4 a5 a6, l = [a0, a1, a2, a3, a4, a5, a6] := by
  match l, h with
  | [a0, a1, a2, a3, a4, a5, a6], _ => exact ⟨a0, a1, a2, a3, a4, a5, a6, rfl⟩
theorem add_add_eq (b off p t : Nat) : ((⟨b, off, none⟩ : Addr).add p).add t = ⟨b, off + p + t, none⟩ := by
  unfold Addr.add
  by_cases q1 : p = 0 <;> by_cases q2 : t = 0 <;> simp [q1, q2]

section
variable {H : Type} {enc : TypeId × Value → H} {w : World} {base : Nat} {held : Bool}

theorem open_colsN {fuel : Nat} {v : Value} {x : DataW H × List MemPlace} (h : DataW.trod enc Tryz.prog w base (fun _ => true) held fuel 34 [v] = some x) :
    ∃ (a : Option Addr) (c : Nat) (l : List Int), v = .slice a l.length c ∧ Rd w .i64 a l ∧ l.length ≤ c ∧ c ≤ maxLen := by
  rcases open_ints Tryz.underlying34 Tryz.underlying3 (by kernel_rfl) h with ⟨hcs, _⟩ | ⟨y, l, c, zs, hcs, _, hl, hm, hz, _, hcell, hwz⟩
  · simp at hcs
    subst hcs
    exact ⟨none, 0, [], rfl, .inl rfl, Nat.zero_le _, Nat.zero_le _⟩
  · simp at hcs
    subst hcs
    have hr : IsRow .i64 w (some y) l c zs := .inr ⟨_, rfl, hl, hm, by simpa using hz, hcell, hwz⟩
    obtain ⟨l', hl', _, hrd, _⟩ := hr.rd
    subst hl'
    exact ⟨some y, c, l', rfl, hrd, hl, hm⟩

theorem open_ndL {fuel : Nat} {cs : List Value} {x : DataW H × List MemPlace} (h : DataW.trod enc Tryz.prog w base (fun _ => true) held fuel 88 cs = some x) :
    ∃ n a c, cs = ndL n a c ∧ Rd w .i64 a n.cols ∧ n.cols.length ≤ c ∧ c ≤ maxLen ∧ n.name.size ≤ maxLen := by
  obtain ⟨ys, m, _, _, hlen, hyl, hf⟩ := DataW.trod_struct Tryz.underlying88 h
  have h7 : cs.length = 7 := hlen.trans (by kernel_rfl)
  have y7 : ys.length = 7 := hyl
  have k0 : DataW.trod enc Tryz.prog w base (fun _ => true) held m 3 ((cs.drop 0).take (Tryz.prog.cellsOf 3)) = ys[0]? := hf 0 _ rfl
  have k1 : DataW.trod enc Tryz.prog w base (fun _ => true) held m 9 ((cs.drop 1).take (Tryz.prog.cellsOf 9)) = ys[1]? := hf 1 _ rfl
  have k2 : DataW.trod enc Tryz.prog w base (fun _ => true) held m 3 ((cs.drop 2).take (Tryz.prog.cellsOf 3)) = ys[2]? := hf 2 _ rfl
  have k3 : DataW.trod enc Tryz.prog w base (fun _ => true) held m 3 ((cs.drop 3).take (Tryz.prog.cellsOf 3)) = ys[3]? := hf 3 _ rfl
  have k4 : DataW.trod enc Tryz.prog w base (fun _ => true) held m 3 ((cs.drop 4).take (Tryz.prog.cellsOf 3)) = ys[4]? := hf 4 _ rfl
  have k5 : DataW.trod enc Tryz.prog w base (fun _ => true) held m 4 ((cs.drop 5).take (Tryz.prog.cellsOf 4)) = ys[5]? := hf 5 _ rfl
  have k6 : DataW.trod enc Tryz.prog w base (fun _ => true) held m 34 ((cs.drop 6).take (Tryz.prog.cellsOf 34)) = ys[6]? := hf 6 _ rfl
  have ci : Tryz.prog.cellsOf 3 = 1 := by kernel_rfl
  have cs' : Tryz.prog.cellsOf 9 = 1 := by kernel_rfl
  have cb : Tryz.prog.cellsOf 4 = 1 := by kernel_rfl
  have cl : Tryz.prog.cellsOf 34 = 1 := by kernel_rfl
  rw [ci] at k0 k2 k3 k4
  rw [cs'] at k1
  rw [cb] at k5
  rw [cl] at k6
  obtain ⟨c0, c1, c2, c3, c4, c5, c6, rfl⟩ := len7 h7
  obtain ⟨y0, y1, y2, y3, y4, y5, y6, rfl⟩ := len7 y7
  clear hf h hlen hyl ci cs' cb cl h7 y7
  · skip
    obtain ⟨kind, e0, _⟩ := DataW.trod_int Tryz.underlying3 (show DataW.trod enc Tryz.prog w base (fun _ => true) held m 3 [c0] = some y0 from k0)
    obtain ⟨name, e1, _, hs⟩ := DataW.trod_string Tryz.underlying9 (show DataW.trod enc Tryz.prog w base (fun _ => true) held m 9 [c1] = some y1 from k1)
    obtain ⟨col, e2, _⟩ := DataW.trod_int Tryz.underlying3 (show DataW.trod enc Tryz.prog w base (fun _ => true) held m 3 [c2] = some y2 from k2)
    obtain ⟨op, e3, _⟩ := DataW.trod_int Tryz.underlying3 (show DataW.trod enc Tryz.prog w base (fun _ => true) held m 3 [c3] = some y3 from k3)
    obtain ⟨num, e4, _⟩ := DataW.trod_int Tryz.underlying3 (show DataW.trod enc Tryz.prog w base (fun _ => true) held m 3 [c4] = some y4 from k4)
    obtain ⟨slot, e5, _⟩ := DataW.trod_bool Tryz.underlying4 (show DataW.trod enc Tryz.prog w base (fun _ => true) held m 4 [c5] = some y5 from k5)
    obtain ⟨a, c, l, rfl, hr, h1, h2⟩ := open_colsN (show DataW.trod enc Tryz.prog w base (fun _ => true) held m 34 [c6] = some y6 from k6)
    simp only [List.cons.injEq, and_true] at e0 e1 e2 e3 e4 e5
    subst e0 e1 e2 e3 e4 e5
    exact ⟨⟨kind, name, col, op, num, slot, l⟩, a, c, rfl, hr, h1, h2, hs⟩

theorem nodes_of (w : World) (b off : Nat) : ∀ len : Nat, (∀ i, i < len → ∃ n a c, NdAt w b (off + i * 7) n a c) → ∃ l : List Nd, l.length = len ∧ ∀ i n, l[i]? = some n → ∃ a c, NdAt w b (off + i * 7) n a c := by
  intro len
  induction len with
  | zero => intro _; exact ⟨[], rfl, fun i n h => by simp at h⟩
  | succ k ih =>
    intro h
    obtain ⟨l, hl, hh⟩ := ih fun i hi => h i (by omega)
    obtain ⟨n, hn⟩ := h k (by omega)
    refine ⟨l ++ [n], by simp [hl], fun i m hm => ?_⟩
    rcases Nat.lt_or_ge i l.length with h1 | h1
    · rw [List.getElem?_append_left h1] at hm; exact hh i m hm
    · rw [List.getElem?_append_right h1] at hm
      have : i = k := by
        rcases Nat.lt_or_ge (i - l.length) 1 with h2 | h2
        · omega
        · rw [List.getElem?_eq_none (by simpa using h2)] at hm; cases hm
      subst this
      rw [hl, Nat.sub_self] at hm
      simp at hm; subst hm; exact hn

theorem open_nodes {fuel : Nat} {a : Option Addr} {len cap : Nat} {x : DataW H × List MemPlace} (h : DataW.trod enc Tryz.prog w base (fun _ => true) held fuel 42 [.slice a len cap] = some x) :
    ∃ l : List Nd, len = l.length ∧ l.length ≤ maxLen ∧ RdN w a l := by
  have c7 : Tryz.prog.cellsOf 88 = 7 := by kernel_rfl
  rcases open_slice Tryz.underlying42 h with ⟨hcs, _⟩ | ⟨y, len', cap', m, n, D, Pl, hcs, _, hl, hm, hmm, _, hi⟩
  · simp at hcs
    obtain ⟨rfl, rfl, rfl⟩ := hcs
    exact ⟨[], rfl, Nat.zero_le _, .inl rfl⟩
  · simp at hcs
    obtain ⟨rfl, rfl, rfl⟩ := hcs
    by_cases h0 : len = 0
    · subst h0; exact ⟨[], rfl, Nat.zero_le _, .inl rfl⟩
    · rw [c7] at hi
      simp only [if_true] at hmm
      obtain ⟨b, off, spot⟩ := y
      have hspot : spot = none := by
        obtain ⟨cs', hc, ht⟩ := hi 0 (by omega)
        obtain ⟨n', a', c', rfl, _⟩ := open_ndL ht
        have := (World.cells?_some hc).2.2 0 (by omega)
        simpa [Addr.add] using World.cell?_spot (this.trans rfl)
      subst hspot
      obtain ⟨l, hl', hh⟩ := nodes_of w b off len (fun i him => by
        obtain ⟨cs', hc, ht⟩ := hi i (by omega)
        obtain ⟨n', a', c', rfl, hr, h1, h2, h3⟩ := open_ndL ht
        have hat := (World.cells?_some hc).2.2
        have key : ∀ t, t < 7 → w.cell? ⟨b, off + i * 7 + t, none⟩ = (ndL n' a' c')[t]? := by
          intro t ht'
          rw [← hat t ht', add_add_eq]
        exact ⟨n', a', c', key 0 (by omega), key 1 (by omega), key 2 (by omega), key 3 (by omega), key 4 (by omega), key 5 (by omega), key 6 (by omega), hr, h1, h2, h3⟩)
      exact ⟨l, hl'.symm, by omega, .inr ⟨b, off, rfl, hh⟩⟩
end
end Go.Proofs.YtanfllednlpbaaaGreat
namespace Go.Proofs.YtanfllednlpbaaaGreat
open Go.RowKit Go.ChangeShapes Go.WideShapes Go.Deep
set_option linter.unusedSimpArgs false
set_option linter.unusedVariables false

theorem rows_of {α : Type} (P : Nat → α → Prop) : ∀ len : Nat, (∀ i, i < len → ∃ r, P i r) → ∃ l : List α, l.length = len ∧ ∀ i r, l[i]? = some r → P i r := by
  intro len
  induction len with
  | zero => intro _; exact ⟨[], rfl, fun i n h => by simp at h⟩
  | succ k ih =>
    intro h
    obtain ⟨l, hl, hh⟩ := ih fun i hi => h i (by omega)
    obtain ⟨n, hn⟩ := h k (by omega)
    refine ⟨l ++ [n], by simp [hl], fun i m hm => ?_⟩
    rcases Nat.lt_or_ge i l.length with h1 | h1
    · rw [List.getElem?_append_left h1] at hm; exact hh i m hm
    · rw [List.getElem?_append_right h1] at hm
      have : i = k := by
        rcases Nat.lt_or_ge (i - l.length) 1 with h2 | h2
        · omega
        · rw [List.getElem?_eq_none (by simpa using h2)] at hm; cases hm
      subst this
      rw [hl, Nat.sub_self] at hm
      simp at hm; subst hm; exact hn
section
variable {H : Type} {enc : TypeId × Value → H} {w : World} {base : Nat} {held : Bool}
theorem open_rows {fuel : Nat} {a : Option Addr} {len cap : Nat} {x : DataW H × List MemPlace} (h : DataW.trod enc Tryz.prog w base (fun _ => true) held fuel 29 [.slice a len cap] = some x) :
    ∃ l : List (List Int), len = l.length ∧ l.length ≤ cap ∧ cap ≤ maxLen ∧ RdR w a l := by
  have c1 : Tryz.prog.cellsOf 34 = 1 := by kernel_rfl
  rcases open_slice Tryz.underlying29 h with ⟨hcs, _⟩ | ⟨y, len', cap', m, n, D, Pl, hcs, _, hl, hm, hmm, _, hi⟩
  · simp at hcs
    obtain ⟨rfl, rfl, rfl⟩ := hcs
    exact ⟨[], rfl, Nat.zero_le _, Nat.zero_le _, .inl rfl⟩
  · simp at hcs
    obtain ⟨rfl, rfl, rfl⟩ := hcs
    by_cases h0 : len = 0
    · subst h0; exact ⟨[], rfl, Nat.zero_le _, hm, .inl rfl⟩
    · rw [c1] at hi
      simp only [if_true] at hmm
      obtain ⟨b, off, spot⟩ := y
      have one : ∀ cs' : List Value, cs'.length = 1 → ∃ v, cs' = [v] := by
        intro cs' h; match cs', h with | [v], _ => exact ⟨v, rfl⟩
      have hspot : spot = none := by
        obtain ⟨cs', hc, ht⟩ := hi 0 (by omega)
        have hlen := (World.cells?_some hc).2.1
        obtain ⟨v, rfl⟩ := one cs' (by omega)
        have := (World.cells?_some hc).2.2 0 (by omega)
        simpa [Addr.add] using World.cell?_spot (this.trans rfl)
      subst hspot
      obtain ⟨l, hl', hh⟩ := rows_of (fun i r => ∃ a c, RowAt w b (off + i) r a c) len (fun i him => by
        obtain ⟨cs', hc, ht⟩ := hi i (by omega)
        have hlen := (World.cells?_some hc).2.1
        obtain ⟨v, rfl⟩ := one cs' (by omega)
        obtain ⟨a', c', r, rfl, hr, h1, h2⟩ := open_colsN ht
        have hat := (World.cells?_some hc).2.2 0 (by omega)
        rw [add_add_eq] at hat
        refine ⟨r, a', c', ?_, hr, h1, h2⟩
        have := hat
        simpa using this)
      exact ⟨l, hl'.symm, by omega, hm, .inr ⟨b, off, rfl, hh⟩⟩
/-- A slice of numbers that came in, each of which is one. -/
theorem open_intsR {fuel : Nat} {a : Option Addr} {len cap : Nat} {x : DataW H × List MemPlace} (h : DataW.trod enc Tryz.prog w base (fun _ => true) held fuel 34 [.slice a len cap] = some x) :
    ∃ l : List Int, len = l.length ∧ l.length ≤ cap ∧ cap ≤ maxLen ∧ Rd w .i64 a l ∧ ∀ z ∈ l, (Lit.int .i64 z).wf = true := by
  rcases open_ints Tryz.underlying34 Tryz.underlying3 (by kernel_rfl) h with ⟨hcs, _⟩ | ⟨y, l, c, zs, hcs, _, hl, hm, hz, _, hcell, hwz⟩
  · simp at hcs
    obtain ⟨rfl, rfl, rfl⟩ := hcs
    exact ⟨[], rfl, Nat.zero_le _, Nat.zero_le _, .inl rfl, fun z h => by cases h⟩
  · simp at hcs
    obtain ⟨rfl, rfl, rfl⟩ := hcs
    have hr : IsRow .i64 w (some y) len cap zs := .inr ⟨_, rfl, hl, hm, by simpa using hz, hcell, hwz⟩
    obtain ⟨l', hl', h1, hrd, h2⟩ := hr.rd
    subst hl'
    exact ⟨l', rfl, hl, hm, hrd, by first | exact h2 | exact h1⟩
end
end Go.Proofs.YtanfllednlpbaaaGreat
namespace Go.Proofs.YtanfllednlpbaaaGreat
open Go.RowKit Go.ChangeShapes Go.WideShapes Go.Deep
set_option linter.unusedSimpArgs false
set_option linter.unusedVariables false

section
variable {H : Type} {enc : TypeId × Value → H} {w : World} {base : Nat} {held : Bool}
theorem open_slice_shape {fuel : Nat} {v : Value} {x : DataW H × List MemPlace} (h : DataW.trod enc Tryz.prog w base (fun _ => true) held fuel 29 [v] = some x) : ∃ a len cap, v = .slice a len cap := by
  rcases open_slice Tryz.underlying29 h with ⟨hcs, _⟩ | ⟨y, len', cap', m, n, D, Pl, hcs, _⟩
  · simp at hcs; exact ⟨_, _, _, hcs⟩
  · simp at hcs; exact ⟨_, _, _, hcs⟩
theorem open_rowss {fuel : Nat} {a : Option Addr} {len cap : Nat} {x : DataW H × List MemPlace} (h : DataW.trod enc Tryz.prog w base (fun _ => true) held fuel 25 [.slice a len cap] = some x) :
    ∃ l : List (List (List Int)), len = l.length ∧ l.length ≤ cap ∧ cap ≤ maxLen ∧ RdRR w a l := by
  have c1 : Tryz.prog.cellsOf 29 = 1 := by kernel_rfl
  rcases open_slice Tryz.underlying25 h with ⟨hcs, _⟩ | ⟨y, len', cap', m, n, D, Pl, hcs, _, hl, hm, hmm, _, hi⟩
  · simp at hcs
    obtain ⟨rfl, rfl, rfl⟩ := hcs
    exact ⟨[], rfl, Nat.zero_le _, Nat.zero_le _, .inl rfl⟩
  · simp at hcs
    obtain ⟨rfl, rfl, rfl⟩ := hcs
    by_cases h0 : len = 0
    · subst h0; exact ⟨[], rfl, Nat.zero_le _, hm, .inl rfl⟩
    · rw [c1] at hi
      simp only [if_true] at hmm
      obtain ⟨b, off, spot⟩ := y
      have one : ∀ cs' : List Value, cs'.length = 1 → ∃ v, cs' = [v] := by
        intro cs' h; match cs', h with | [v], _ => exact ⟨v, rfl⟩
      have hspot : spot = none := by
        obtain ⟨cs', hc, ht⟩ := hi 0 (by omega)
        have hlen := (World.cells?_some hc).2.1
        obtain ⟨v, rfl⟩ := one cs' (by omega)
        have := (World.cells?_some hc).2.2 0 (by omega)
        simpa [Addr.add] using World.cell?_spot (this.trans rfl)
      subst hspot
      obtain ⟨l, hl', hh⟩ := rows_of (fun i r => ∃ a c, RowsAt w b (off + i) r a c) len (fun i him => by
        obtain ⟨cs', hc, ht⟩ := hi i (by omega)
        have hlen := (World.cells?_some hc).2.1
        obtain ⟨v, rfl⟩ := one cs' (by omega)
        obtain ⟨a', len', c', rfl⟩ := open_slice_shape ht
        obtain ⟨r, rfl, h1, h2, hr⟩ := open_rows ht
        have hat := (World.cells?_some hc).2.2 0 (by omega)
        rw [add_add_eq] at hat
        refine ⟨r, a', c', ?_, hr, h1, h2⟩
        have := hat
        simpa using this)
      exact ⟨l, hl'.symm, by omega, hm, .inr ⟨b, off, rfl, hh⟩⟩
end
end Go.Proofs.YtanfllednlpbaaaGreat
namespace Go.Proofs.YtanfllednlpbaaaGreat
open Go.RowKit
set_option linter.unusedSimpArgs false
set_option linter.unusedVariables false

/-- The decimal digits of a number, at most f of them. -/
def digF : Nat → Nat → List UInt8
  | 0, _ => []
  | f + 1, n => if n = 0 then [] else digF f (n / 10) ++ [UInt8.ofNat (48 + n % 10)]
/-- The mark of a number. -/
def mtext (k : Int) : ByteArray := if k ≤ 0 then ⟨#[109, 48]⟩ else ⟨(109 :: digF 20 k.toNat).toArray⟩
theorem digF_step {f n : Nat} (h : 0 < n) : digF (f + 1) n = digF f (n / 10) ++ [UInt8.ofNat (48 + n % 10)] := by
  simp only [digF]; rw [if_neg (by omega)]
theorem digF_zero (f : Nat) : digF f 0 = [] := by cases f <;> simp [digF]
theorem digF_len : ∀ f n, (digF f n).length ≤ f
  | 0, _ => Nat.le_refl _
  | f + 1, n => by
    simp only [digF]; split
    · simp
    · have := digF_len f (n / 10); simp; omega
theorem mtext_size (k : Int) : (mtext k).size ≤ 21 := by
  unfold mtext; split
  · decide
  · have := digF_len 20 k.toNat
    simp [ByteArray.size]; omega

theorem app_bytes (a b : List UInt8) : ((⟨a.toArray⟩ : ByteArray) ++ (⟨b.toArray⟩ : ByteArray)) = ⟨(a ++ b).toArray⟩ := by
  apply ByteArray.ext
  simp

set_option maxRecDepth 100000 in
set_option maxHeartbeats 1600000 in
theorem markText_any (k : Int) (w : World) (hk : k ≤ 1000000000000) :
    Calls Tryz.prog 67 #[.int .i64 k] w fun e w' => e = .returned (.string (mtext k)) ∧ Below w.heap.size w w' := by
  by_cases h0 : k ≤ 0
  · have E := Lib.hid (show mtext k = ⟨#[109, 48]⟩ by unfold mtext; rw [if_pos h0])
    go_enter Tryz.func67, Tryz.ntmps67
    go_wp2_with fail
    go_ret
    exact ⟨by rw [E.out]; rfl, Below.refl _ _⟩
  · have h1 : 0 < k := by omega
    have E := Lib.hid (show mtext k = ⟨(109 :: digF 20 k.toNat).toArray⟩ by unfold mtext; rw [if_neg h0])
    have D0 := Lib.hid (show ∃ (f : Nat) (q : Nat) (L : List UInt8), digF 20 k.toNat = digF f q ++ L ∧ q < 10 ^ f ∧ (k = q ∧ L = []) from ⟨20, k.toNat, [], by simp, by omega, by omega, rfl⟩)
    clear h0
    go_enter Tryz.func67, Tryz.ntmps67
    go_wp2_with fail
    go_loopw [0, 3] (fun q s wr => ∃ (f n : Nat) (L : List UInt8), digF 20 k.toNat = digF f n ++ L ∧ n < 10 ^ f ∧ n ≤ 1000000000000 ∧ q = .int .i64 n ∧ s = .string ⟨L.toArray⟩ ∧ L.length + f = 20 ∧ Below w.heap.size w wr) (fun q _ _ => (intOf q).toNat)
    case atStart => exact ⟨20, k.toNat, [], by simp, by omega, by omega, by rw [Int.toNat_of_nonneg (by omega)], rfl, rfl, Below.refl _ _⟩
    case round =>
      obtain ⟨f, n, L, hd, hlt, hn, rfl, rfl, hlen, hb⟩ := hrel
      have HD := Lib.hid hd; have HL := Lib.hid hlt; have HB := Lib.hid hb; have HE := Lib.hid hlen
      clear hd hlt hb hlen
      by_cases hz : 0 < n
      · obtain ⟨f, rfl⟩ : ∃ f', f = f' + 1 := by
          cases f with
          | zero => have := HL.out; omega
          | succ f => exact ⟨f, rfl⟩
        have hconv : (convert 22 9 (.slice (some ⟨wr.heap.size, 0, none⟩) 1 1)).run Tryz.prog (wr.alloc (.cells #[.int .u8 (48 + (n : Int) % 10)] 5)) = .ok (.string ⟨#[UInt8.ofNat (48 + n % 10)]⟩) (wr.alloc (.cells #[.int .u8 (48 + (n : Int) % 10)] 5)) :=
          run_convert_bytes_back (P := Tryz.prog) _ 22 9 5 ⟨wr.heap.size, 0, none⟩ 1 [UInt8.ofNat (48 + n % 10)] Tryz.underlying22 Tryz.underlying5 Tryz.underlying9 (by
            intro j hj
            obtain rfl : j = 0 := by simpa using hj
            simp [Addr.add]
            omega)
        have hL : L.length ≤ 20 := by have := HE.out; omega
        have S := Lib.hid (digF_step (f := f) hz)
        have HBA := Lib.hid (HB.out.alloc HB.out.size (.cells #[.int .u8 (48 + (n : Int) % 10)] 5))
        go_wp2_with fail
        go_roundw
        case rel => exact ⟨f, n / 10, UInt8.ofNat (48 + n % 10) :: L, by rw [HD.out, S.out]; simp, by have := HL.out; rw [Nat.pow_succ] at this; omega, by omega, by go_num, by rw [app_bytes]; simp, by have := HE.out; simp; omega, HBA.out⟩
        case measure => simp [intOf]; omega
      · obtain rfl : n = 0 := by omega
        have hL : L.length ≤ 20 := by have := HE.out; omega
        go_wp2_with fail
        go_ret
        refine ⟨?_, HB.out⟩
        rw [E.out, HD.out, digF_zero]
        exact congrArg (fun x => Ending.returned (.string x)) (app_bytes [109] L)
end Go.Proofs.YtanfllednlpbaaaGreat
