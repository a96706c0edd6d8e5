/-
  What a walk is told of a node, or of a slice of nodes, that came in: it reads as one. No walk.
-/
import Derived.Test.YtfpbhedophlnkaaDoorRead
import Derived.Test.YtfpbhedophlnkaaDoorArg
import Derived.Test.YtfpbhedophlnkaaDoorRows
import Derived.Deep.Slices
import Derived.Deep.Fields
import Derived.ChangeSame
import Derived.WalkKit
import Derived.ProofKit
namespace Go.Proofs.YtfpbhedophlnkaaDoor
open Go.RowKit Go.ChangeShapes Go.WideShapes Go.Deep
set_option linter.unusedSimpArgs false
set_option linter.unusedVariables false

/-- The seven values of a node. -/
def ndL (n : Nd) (a : Option Addr) (c : Nat) : List Value := [.int .i64 n.kind, .string n.name, .int .i64 n.col, .int .i64 n.op, .int .i64 n.num, .bool n.slot, .slice a n.cols.length c]

theorem len7 {α : Type} {l : List α} (h : l.length = 7) : ∃ a0 a1 a2 a3 a4 a5 a6, l = [a0, a1, a2, a3, a4, a5, a6] := by
  match l, h with
  | [a0, a1, a2, a3, a4, a5, a6], _ => exact ⟨a0, a1, a2, a3, a4, a5, a6, rfl⟩
theorem add_add_eq (b off p t : Nat) : ((⟨b, off, none⟩ : Addr).add p).add t = ⟨b, off + p + t, none⟩ := by
  unfold Addr.add
  by_cases q1 : p = 0 <;> by_cases q2 : t = 0 <;> simp [q1, q2]

section
variable {H : Type} {enc : TypeId × Value → H} {w : World} {base : Nat} {held : Bool}

theorem open_colsN {fuel : Nat} {v : Value} {x : DataW H × List MemPlace} (h : DataW.trod enc Tryd.prog w base (fun _ => true) held fuel 22 [v] = some x) :
    ∃ (a : Option Addr) (c : Nat) (l : List Int), v = .slice a l.length c ∧ Rd w .i64 a l ∧ l.length ≤ c ∧ c ≤ maxLen := by
  rcases open_ints Tryd.underlying22 Tryd.underlying3 (by kernel_rfl) h with ⟨hcs, _⟩ | ⟨y, l, c, zs, hcs, _, hl, hm, hz, _, hcell, hwz⟩
  · simp at hcs
    subst hcs
    exact ⟨none, 0, [], rfl, .inl rfl, Nat.zero_le _, Nat.zero_le _⟩
  · simp at hcs
    subst hcs
    have hr : IsRow .i64 w (some y) l c zs := .inr ⟨_, rfl, hl, hm, by simpa using hz, hcell, hwz⟩
    obtain ⟨l', hl', _, hrd, _⟩ := hr.rd
    subst hl'
    exact ⟨some y, c, l', rfl, hrd, hl, hm⟩

theorem open_ndL {fuel : Nat} {cs : List Value} {x : DataW H × List MemPlace} (h : DataW.trod enc Tryd.prog w base (fun _ => true) held fuel 24 cs = some x) :
    ∃ n a c, cs = ndL n a c ∧ Rd w .i64 a n.cols ∧ n.cols.length ≤ c ∧ c ≤ maxLen ∧ n.name.size ≤ maxLen := by
  obtain ⟨ys, m, _, _, hlen, hyl, hf⟩ := DataW.trod_struct Tryd.underlying24 h
  have h7 : cs.length = 7 := hlen.trans (by kernel_rfl)
  have y7 : ys.length = 7 := hyl
  have k0 : DataW.trod enc Tryd.prog w base (fun _ => true) held m 3 ((cs.drop 0).take (Tryd.prog.cellsOf 3)) = ys[0]? := hf 0 _ rfl
  have k1 : DataW.trod enc Tryd.prog w base (fun _ => true) held m 9 ((cs.drop 1).take (Tryd.prog.cellsOf 9)) = ys[1]? := hf 1 _ rfl
  have k2 : DataW.trod enc Tryd.prog w base (fun _ => true) held m 3 ((cs.drop 2).take (Tryd.prog.cellsOf 3)) = ys[2]? := hf 2 _ rfl
  have k3 : DataW.trod enc Tryd.prog w base (fun _ => true) held m 3 ((cs.drop 3).take (Tryd.prog.cellsOf 3)) = ys[3]? := hf 3 _ rfl
  have k4 : DataW.trod enc Tryd.prog w base (fun _ => true) held m 3 ((cs.drop 4).take (Tryd.prog.cellsOf 3)) = ys[4]? := hf 4 _ rfl
  have k5 : DataW.trod enc Tryd.prog w base (fun _ => true) held m 4 ((cs.drop 5).take (Tryd.prog.cellsOf 4)) = ys[5]? := hf 5 _ rfl
  have k6 : DataW.trod enc Tryd.prog w base (fun _ => true) held m 22 ((cs.drop 6).take (Tryd.prog.cellsOf 22)) = ys[6]? := hf 6 _ rfl
  have ci : Tryd.prog.cellsOf 3 = 1 := by kernel_rfl
  have cs' : Tryd.prog.cellsOf 9 = 1 := by kernel_rfl
  have cb : Tryd.prog.cellsOf 4 = 1 := by kernel_rfl
  have cl : Tryd.prog.cellsOf 22 = 1 := by kernel_rfl
  rw [ci] at k0 k2 k3 k4
  rw [cs'] at k1
  rw [cb] at k5
  rw [cl] at k6
  obtain ⟨c0, c1, c2, c3, c4, c5, c6, rfl⟩ := len7 h7
  obtain ⟨y0, y1, y2, y3, y4, y5, y6, rfl⟩ := len7 y7
  clear hf h hlen hyl ci cs' cb cl h7 y7
  · skip
    obtain ⟨kind, e0, _⟩ := DataW.trod_int Tryd.underlying3 (show DataW.trod enc Tryd.prog w base (fun _ => true) held m 3 [c0] = some y0 from k0)
    obtain ⟨name, e1, _, hs⟩ := DataW.trod_string Tryd.underlying9 (show DataW.trod enc Tryd.prog w base (fun _ => true) held m 9 [c1] = some y1 from k1)
    obtain ⟨col, e2, _⟩ := DataW.trod_int Tryd.underlying3 (show DataW.trod enc Tryd.prog w base (fun _ => true) held m 3 [c2] = some y2 from k2)
    obtain ⟨op, e3, _⟩ := DataW.trod_int Tryd.underlying3 (show DataW.trod enc Tryd.prog w base (fun _ => true) held m 3 [c3] = some y3 from k3)
    obtain ⟨num, e4, _⟩ := DataW.trod_int Tryd.underlying3 (show DataW.trod enc Tryd.prog w base (fun _ => true) held m 3 [c4] = some y4 from k4)
    obtain ⟨slot, e5, _⟩ := DataW.trod_bool Tryd.underlying4 (show DataW.trod enc Tryd.prog w base (fun _ => true) held m 4 [c5] = some y5 from k5)
    obtain ⟨a, c, l, rfl, hr, h1, h2⟩ := open_colsN (show DataW.trod enc Tryd.prog w base (fun _ => true) held m 22 [c6] = some y6 from k6)
    simp only [List.cons.injEq, and_true] at e0 e1 e2 e3 e4 e5
    subst e0 e1 e2 e3 e4 e5
    exact ⟨⟨kind, name, col, op, num, slot, l⟩, a, c, rfl, hr, h1, h2, hs⟩

theorem nodes_of (w : World) (b off : Nat) : ∀ len : Nat, (∀ i, i < len → ∃ n a c, NdAt w b (off + i * 7) n a c) → ∃ l : List Nd, l.length = len ∧ ∀ i n, l[i]? = some n → ∃ a c, NdAt w b (off + i * 7) n a c := by
  intro len
  induction len with
  | zero => intro _; exact ⟨[], rfl, fun i n h => by simp at h⟩
  | succ k ih =>
    intro h
    obtain ⟨l, hl, hh⟩ := ih fun i hi => h i (by omega)
    obtain ⟨n, hn⟩ := h k (by omega)
    refine ⟨l ++ [n], by simp [hl], fun i m hm => ?_⟩
    rcases Nat.lt_or_ge i l.length with h1 | h1
    · rw [List.getElem?_append_left h1] at hm; exact hh i m hm
    · rw [List.getElem?_append_right h1] at hm
      have : i = k := by
        rcases Nat.lt_or_ge (i - l.length) 1 with h2 | h2
        · omega
        · rw [List.getElem?_eq_none (by simpa using h2)] at hm; cases hm
      subst this
      rw [hl, Nat.sub_self] at hm
      simp at hm; subst hm; exact hn

theorem open_nodes {fuel : Nat} {a : Option Addr} {len cap : Nat} {x : DataW H × List MemPlace} (h : DataW.trod enc Tryd.prog w base (fun _ => true) held fuel 31 [.slice a len cap] = some x) :
    ∃ l : List Nd, len = l.length ∧ l.length ≤ maxLen ∧ RdN w a l := by
  have c7 : Tryd.prog.cellsOf 24 = 7 := by kernel_rfl
  rcases open_slice Tryd.underlying31 h with ⟨hcs, _⟩ | ⟨y, len', cap', m, n, D, Pl, hcs, _, hl, hm, hmm, _, hi⟩
  · simp at hcs
    obtain ⟨rfl, rfl, rfl⟩ := hcs
    exact ⟨[], rfl, Nat.zero_le _, .inl rfl⟩
  · simp at hcs
    obtain ⟨rfl, rfl, rfl⟩ := hcs
    by_cases h0 : len = 0
    · subst h0; exact ⟨[], rfl, Nat.zero_le _, .inl rfl⟩
    · rw [c7] at hi
      simp only [if_true] at hmm
      obtain ⟨b, off, spot⟩ := y
      have hspot : spot = none := by
        obtain ⟨cs', hc, ht⟩ := hi 0 (by omega)
        obtain ⟨n', a', c', rfl, _⟩ := open_ndL ht
        have := (World.cells?_some hc).2.2 0 (by omega)
        simpa [Addr.add] using World.cell?_spot (this.trans rfl)
      subst hspot
      obtain ⟨l, hl', hh⟩ := nodes_of w b off len (fun i him => by
        obtain ⟨cs', hc, ht⟩ := hi i (by omega)
        obtain ⟨n', a', c', rfl, hr, h1, h2, h3⟩ := open_ndL ht
        have hat := (World.cells?_some hc).2.2
        have key : ∀ t, t < 7 → w.cell? ⟨b, off + i * 7 + t, none⟩ = (ndL n' a' c')[t]? := by
          intro t ht'
          rw [← hat t ht', add_add_eq]
        exact ⟨n', a', c', key 0 (by omega), key 1 (by omega), key 2 (by omega), key 3 (by omega), key 4 (by omega), key 5 (by omega), key 6 (by omega), hr, h1, h2, h3⟩)
      exact ⟨l, hl'.symm, by omega, .inr ⟨b, off, rfl, hh⟩⟩
end
end Go.Proofs.YtfpbhedophlnkaaDoor
