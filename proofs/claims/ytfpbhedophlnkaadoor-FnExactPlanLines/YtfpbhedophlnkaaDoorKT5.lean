/-
  A tree of the program in memory: a block of four cells for each node, the children behind a row of pointers. No program, no walk. append of one value of one cell to a row that the call itself made, or to nil. No walk. append of one number to a row of numbers of the call's own. No walk. Contract of impl.grow: it hangs the tree that begins at a place, or answers nil. For every slice of nodes and every place. Contracts of the tree's depth and find, and of impl.treeOf, impl.PlanOk, impl.EndOf, impl.DepthOf. For every slice of nodes.
-/
import Derived.Test.YtfpbhedophlnkaaDoorKind
import Derived.Test.YtfpbhedophlnkaaDoorRead
import Derived.Maps.AppendAt
import Derived.OwnWalk
import Derived.Test.YtfpbhedophlnkaaDoorMem
import Derived.Test.YtfpbhedophlnkaaDoorRow
import Derived.Test.YtfpbhedophlnkaaDoorKI
namespace Go.Proofs.YtfpbhedophlnkaaDoor
open Go.RowKit
set_option linter.unusedSimpArgs false
set_option linter.unusedVariables false

/-- The four cells of a tree's node. -/
def Hd (w : World) (lo hi b : Nat) (n : Nd) (pl en : Nat) (below : Value) : Prop :=
  lo ≤ b ∧ b < hi ∧ ∃ a c, w.cell? ⟨b, 0, none⟩ = some (kindV n a c) ∧ w.cell? ⟨b, 1, none⟩ = some (.int .i64 pl) ∧ w.cell? ⟨b, 2, none⟩ = some (.int .i64 en) ∧ w.cell? ⟨b, 3, none⟩ = some below

/-- The tree T lies at block b, all of it between lo and hi. -/
def TrAt (w : World) (lo hi : Nat) : Tr → Nat → Prop
  | .t0 n pl en, b => Hd w lo hi b n pl en (.slice none 0 0)
  | .t1 n pl en c, b => ∃ g cap bc, Hd w lo hi b n pl en (.slice (some ⟨g, 0, none⟩) 1 cap) ∧ (lo ≤ g ∧ g < hi) ∧ w.cell? ⟨g, 0, none⟩ = some (.pointer (some ⟨bc, 0, none⟩)) ∧ TrAt w lo hi c bc
  | .t2 n pl en c d, b => ∃ g cap bc bd, Hd w lo hi b n pl en (.slice (some ⟨g, 0, none⟩) 2 cap) ∧ (lo ≤ g ∧ g < hi) ∧ w.cell? ⟨g, 0, none⟩ = some (.pointer (some ⟨bc, 0, none⟩)) ∧ w.cell? ⟨g, 1, none⟩ = some (.pointer (some ⟨bd, 0, none⟩)) ∧ TrAt w lo hi c bc ∧ TrAt w lo hi d bd

theorem Hd.keep {w w' : World} {lo hi b : Nat} {n : Nd} {pl en : Nat} {v : Value} (h : Hd w lo hi b n pl en v) (hk : ∀ p : Addr, lo ≤ p.block → p.block < hi → w'.cell? p = w.cell? p) : Hd w' lo hi b n pl en v := by
  obtain ⟨h1, h2, a, c, c0, c1, c2, c3⟩ := h
  exact ⟨h1, h2, a, c, (hk _ h1 h2).trans c0, (hk _ h1 h2).trans c1, (hk _ h1 h2).trans c2, (hk _ h1 h2).trans c3⟩
theorem TrAt.keep {w w' : World} {lo hi : Nat} (hk : ∀ p : Addr, lo ≤ p.block → p.block < hi → w'.cell? p = w.cell? p) : ∀ (T : Tr) (b : Nat), TrAt w lo hi T b → TrAt w' lo hi T b
  | .t0 n pl en, b, h => Hd.keep h hk
  | .t1 n pl en c, b, ⟨g, cap, bc, h1, h2, h3, h4⟩ => ⟨g, cap, bc, h1.keep hk, h2, (hk _ h2.1 h2.2).trans h3, TrAt.keep hk c bc h4⟩
  | .t2 n pl en c d, b, ⟨g, cap, bc, bd, h1, h2, h3, h4, h5, h6⟩ => ⟨g, cap, bc, bd, h1.keep hk, h2, (hk _ h2.1 h2.2).trans h3, (hk _ h2.1 h2.2).trans h4, TrAt.keep hk c bc h5, TrAt.keep hk d bd h6⟩
theorem Hd.wide {w : World} {lo hi lo' hi' b : Nat} {n : Nd} {pl en : Nat} {v : Value} (h : Hd w lo hi b n pl en v) (h1 : lo' ≤ lo) (h2 : hi ≤ hi') : Hd w lo' hi' b n pl en v :=
  ⟨Nat.le_trans h1 h.1, Nat.lt_of_lt_of_le h.2.1 h2, h.2.2⟩
theorem TrAt.wide {w : World} {lo hi lo' hi' : Nat} (h1 : lo' ≤ lo) (h2 : hi ≤ hi') : ∀ (T : Tr) (b : Nat), TrAt w lo hi T b → TrAt w lo' hi' T b
  | .t0 n pl en, b, h => Hd.wide h h1 h2
  | .t1 n pl en c, b, ⟨g, cap, bc, k1, k2, k3, k4⟩ => ⟨g, cap, bc, k1.wide h1 h2, ⟨Nat.le_trans h1 k2.1, Nat.lt_of_lt_of_le k2.2 h2⟩, k3, TrAt.wide h1 h2 c bc k4⟩
  | .t2 n pl en c d, b, ⟨g, cap, bc, bd, k1, k2, k3, k4, k5, k6⟩ => ⟨g, cap, bc, bd, k1.wide h1 h2, ⟨Nat.le_trans h1 k2.1, Nat.lt_of_lt_of_le k2.2 h2⟩, k3, k4, TrAt.wide h1 h2 c bc k5, TrAt.wide h1 h2 d bd k6⟩
theorem TrAt.below {w w' : World} {lo hi : Nat} {T : Tr} {b : Nat} (h : TrAt w lo hi T b) (hh : hi ≤ w.heap.size) (hb : Below w.heap.size w w') : TrAt w' lo hi T b :=
  TrAt.keep (fun _ _ hp => hb.cell (Nat.lt_of_lt_of_le hp hh)) T b h
theorem TrAt.head {w : World} {lo hi : Nat} {T : Tr} {b : Nat} (h : TrAt w lo hi T b) : ∃ v, Hd w lo hi b T.nd T.pl T.en v := by
  cases T with
  | t0 n pl en => exact ⟨_, h⟩
  | t1 n pl en c => obtain ⟨g, cap, bc, h1, _⟩ := h; exact ⟨_, h1⟩
  | t2 n pl en c d => obtain ⟨g, cap, bc, bd, h1, _⟩ := h; exact ⟨_, h1⟩
theorem TrAt.lt {w : World} {lo hi : Nat} {T : Tr} {b : Nat} (h : TrAt w lo hi T b) : lo ≤ b ∧ b < hi := by
  obtain ⟨v, h1, h2, _⟩ := h.head; exact ⟨h1, h2⟩

/-- What growing answers. -/
def GrowPost (w : World) : Option Tr → Ending → World → Prop
  | none, e, w' => e = .returned (.pointer none) ∧ Below w.heap.size w w'
  | some T, e, w' => ∃ b, e = .returned (.pointer (some ⟨b, 0, none⟩)) ∧ TrAt w' w.heap.size w'.heap.size T b ∧ Below w.heap.size w w'

theorem kindV_iface {n : Nd} (h : nodeB n = true) (a : Option Addr) (c : Nat) : ∃ t v, kindV n a c = .iface t v := by
  have := kind_of_nodeB h
  have hc : n.kind = 0 ∨ n.kind = 1 ∨ n.kind = 2 ∨ n.kind = 3 ∨ n.kind = 4 ∨ n.kind = 5 ∨ n.kind = 6 ∨ n.kind = 7 := by omega
  unfold kindV
  rcases hc with h | h | h | h | h | h | h | h <;> rw [h] <;> exact ⟨_, _, rfl⟩
end Go.Proofs.YtfpbhedophlnkaaDoor
namespace Go.Proofs.YtfpbhedophlnkaaDoor
open Go.RowKit
set_option linter.unusedSimpArgs false
set_option linter.unusedVariables false

/-- A row of the call's own: a slice value of it, with the cells xs. -/
def OwnV (w : World) (base : Nat) (e : TypeId) (ao : Option Addr) (c : Nat) (xs : List Value) : Prop :=
  w.ownsRow base e 1 (.slice ao xs.length c) xs.length xs

section
variable {w w' : World} {base : Nat} {e : TypeId} {ao : Option Addr} {c : Nat} {xs : List Value}
theorem OwnV.none_ : OwnV w base e none 0 [] := World.ownsRow_nil _ _ _ _
theorem OwnV.form (h : OwnV w base e ao c xs) : (ao = none ∧ c = 0 ∧ xs = []) ∨ ∃ g, ao = some ⟨g, 0, none⟩ ∧ base ≤ g ∧ g < w.heap.size := by
  rcases h.2 with ⟨hv, hn⟩ | ⟨g, cap, cur, hv, hb, hg, _⟩
  · simp only [Value.slice.injEq] at hv
    exact .inl ⟨hv.1, hv.2.2, List.eq_nil_of_length_eq_zero hn⟩
  · simp only [Value.slice.injEq] at hv
    refine .inr ⟨g, hv.1, hb, ?_⟩
    rcases Nat.lt_or_ge g w.heap.size with hlt | hge
    · exact hlt
    · rw [Array.getElem?_eq_none hge] at hg; cases hg
theorem OwnV.lt (h : OwnV w base e ao c xs) : ∀ a, ao = some a → base ≤ a.block ∧ a.block < w.heap.size := by
  rcases h.form with ⟨rfl, _⟩ | ⟨g, rfl, h1, h2⟩
  · intro a ha; cases ha
  · intro a ha; cases ha; exact ⟨h1, h2⟩
theorem OwnV.cell {g : Nat} (h : OwnV w base e (some ⟨g, 0, none⟩) c xs) (i : Nat) (hi : i < xs.length) : w.cell? ⟨g, i, none⟩ = xs[i]? := World.ownsRow.cellAt h i (by omega)
theorem OwnV.keep (h : OwnV w base e ao c xs) (hk : ∀ a : Addr, ao = some a → a.block < w.heap.size → w'.heap[a.block]? = w.heap[a.block]?) : OwnV w' base e ao c xs := by
  refine ⟨h.1, ?_⟩
  have hl := h.lt
  rcases h.2 with h2 | ⟨g, cap, cur, hv, hb, hg, r⟩
  · exact .inl h2
  · refine .inr ⟨g, cap, cur, hv, hb, ?_, r⟩
    simp only [Value.slice.injEq] at hv
    rw [hk _ hv.1 (hl _ hv.1).2]; exact hg
theorem OwnV.below (h : OwnV w base e ao c xs) (hb : Below w.heap.size w w') : OwnV w' base e ao c xs := h.keep fun _ _ hlt => hb.block _ hlt
theorem OwnV.alloc (h : OwnV w base e ao c xs) (o : Obj) : OwnV (w.alloc o) base e ao c xs := h.below ((Below.refl _ _).alloc (Nat.le_refl _) o)
theorem OwnV.far (h : OwnV w base e ao c xs) {p : Addr} (hp : ∀ x, ao = some x → x.block ≠ p.block) (u : Value) : OwnV (w.setCell p u) base e ao c xs :=
  h.keep fun a ha _ => Below.heap_setCell w p u a.block (hp a ha)
theorem OwnV.base_le {base' : Nat} (h : OwnV w base e ao c xs) (hb : base' ≤ base) : OwnV w base' e ao c xs := by
  refine ⟨h.1, ?_⟩
  rcases h.2 with h2 | ⟨g, cap, cur, hv, hg, r⟩
  · exact .inl h2
  · exact .inr ⟨g, cap, cur, hv, Nat.le_trans hb hg, r⟩
end

/-- 'append(xs, v)': v lies in a block of its own. -/
theorem wpList_appendV {P : Program} (w : World) {ops : Array Oper} {rest : List Oper} {o : Oper} {a : Act} {Q : Exit → Act → World → Prop} (hgd : o.guard = none) (s x : Operand) (t : TypeId)
    (ho : o.op = .call { callee := .builtin .append, args := #[s, x], argTypes := #[t, t] }) (base : Nat) (e : TypeId) (z : Value) (bytes : Nat) (ht : P.underlying t = some (.slice e))
    (hi : (P.info? e).map (fun i => (i.zero, i.size, i.bytes)) = some (some z, 1, bytes)) (hzs : z.cells.size = 1)
    (ao : Option Addr) (c n : Nat) (xs : List Value) (hs : a.eval s = .slice ao n c) (hn : n = xs.length) (hown : OwnV w base e ao c xs)
    (bl cx : Nat) (v : Value) (hx : a.eval x = .slice (some ⟨bl, 0, none⟩) 1 cx) (hv : w.cell? ⟨bl, 0, none⟩ = some v) (hv1 : v.oneCell' = true)
    (h63 : xs.length + 1 ≤ maxLen) (hby : (xs.length + 1) * bytes ≤ 140737488355328) (hbase : base ≤ w.heap.size)
    (h : ∀ ao' c' w', OwnV w' base e ao' c' (xs ++ [v]) → w.grownBy w' (ao.map (·.block)) → (ao' = ao ∨ ao' = some ⟨w.heap.size, 0, none⟩) → wpList P ops Q rest (a.put o.dst (.slice ao' (xs.length + 1) c')) w') :
    wpList P ops Q (o :: rest) a w := by
  obtain ⟨i, hi0, hz0, hz1, hz2⟩ := info_parts hi
  subst hn
  refine wpList_append_own_at w hgd s x t ho base e i z 1 bytes ht hi0 hz0 hz1 hz2 hzs (by omega) _ xs.length xs hs hown ⟨bl, 0, none⟩ 1 cx [v] hx rfl ?_ ?_ h63 hby hbase ?_
  · intro j u hj
    match j, hj with
    | 0, hj => simp at hj; subst hj; simpa [Addr.add] using hv
  · intro u hu; simp at hu; subst hu; exact hv1
  · intro v' w' ho' hg' _ hblk
    have hg2 : w.grownBy w' (ao.map (·.block)) := by
      cases ao with
      | none => exact hg'
      | some x => exact hg'
    have hlen : (xs ++ [v]).length = xs.length + 1 := by simp
    rcases ho'.2 with ⟨rfl, hz⟩ | ⟨g, cap, cur, rfl, r⟩
    · omega
    · refine h _ _ _ (by unfold OwnV; rw [hlen]; exact ho') hg2 ?_
      rcases hblk with hb | hb
      · cases ao with
        | none => simp [Value.ownBlock] at hb
        | some x =>
          left
          rcases hown.form with ⟨hh, _⟩ | ⟨g', hh, _⟩
          · cases hh
          · cases hh
            simp [Value.ownBlock] at hb
            rw [hb]
      · right; simp [Value.ownBlock] at hb; rw [hb]
end Go.Proofs.YtfpbhedophlnkaaDoor
namespace Go.Proofs.YtfpbhedophlnkaaDoor
open Go.RowKit
set_option linter.unusedSimpArgs false
set_option linter.unusedVariables false

theorem own_of_V {w : World} {base : Nat} {e : TypeId} {k : IntKind} {ao : Option Addr} {c : Nat} {l : List Int} (h : OwnV w base e ao c (l.map (Value.int k))) : Own w base e k ao c l := by
  unfold OwnV at h; unfold Own; rw [List.length_map] at h; exact h
theorem V_of_own {w : World} {base : Nat} {e : TypeId} {k : IntKind} {ao : Option Addr} {c : Nat} {l : List Int} (h : Own w base e k ao c l) : OwnV w base e ao c (l.map (Value.int k)) := by
  unfold Own at h; unfold OwnV; rw [List.length_map]; exact h
/-- 'append(xs, z)' at a slice of int of the call's own. -/
theorem wpList_appendI {P : Program} (w : World) {ops : Array Oper} {rest : List Oper} {o : Oper} {a : Act} {Q : Exit → Act → World → Prop} (hgd : o.guard = none) (s x : Operand) (t : TypeId)
    (ho : o.op = .call { callee := .builtin .append, args := #[s, x], argTypes := #[t, t] }) (base : Nat) (e : TypeId) (ht : P.underlying t = some (.slice e))
    (hi : (P.info? e).map (fun i => (i.zero, i.size, i.bytes)) = some (some (.int .i64 0), 1, 8))
    (ao : Option Addr) (c n : Nat) (l : List Int) (hs : a.eval s = .slice ao n c) (hn : n = l.length) (hown : Own w base e .i64 ao c l)
    (bl cx : Nat) (z : Int) (hx : a.eval x = .slice (some ⟨bl, 0, none⟩) 1 cx) (hv : w.cell? ⟨bl, 0, none⟩ = some (.int .i64 z))
    (hby : l.length ≤ 1048576) (hbase : base ≤ w.heap.size)
    (h : ∀ ao' c' w', Own w' base e .i64 ao' c' (l ++ [z]) → w.grownBy w' (ao.map (·.block)) → wpList P ops Q rest (a.put o.dst (.slice ao' (l.length + 1) c')) w') :
    wpList P ops Q (o :: rest) a w := by
  refine wpList_appendV w hgd s x t ho base e (.int .i64 0) 8 ht hi rfl ao c n (l.map (Value.int .i64)) hs (by simpa using hn) (V_of_own hown) bl cx (.int .i64 z) hx hv rfl (by simp [maxLen]; omega) (by simp; omega) hbase ?_
  intro ao' c' w' ho' hg' _
  have := h ao' c' w' (own_of_V (by rw [List.map_append]; exact ho')) hg'
  simpa using this
theorem below_app {w wr w1 : World} {e : TypeId} {ao : Option Addr} {c : Nat} {l : List Int} {o : Obj} (hb : Below w.heap.size w wr) (ho : Own wr w.heap.size e .i64 ao c l) (hg : (wr.alloc o).grownBy w1 (ao.map (·.block))) : Below w.heap.size w w1 := by
  refine (hb.alloc hb.size o).grown hg (by have := hb.size; simp; omega) ?_
  intro g hg'
  rcases ao with _ | a
  · cases hg'
  · simp at hg'; subst hg'; exact (ho.lt a rfl).1

theorem own_empty {w : World} {base : Nat} {e : TypeId} {k : IntKind} (h : base ≤ w.heap.size) : Own (w.alloc (.cells #[] e)) base e k (some ⟨w.heap.size, 0, none⟩) 0 [] :=
  ⟨rfl, .inr ⟨w.heap.size, 0, #[], rfl, h, heap_alloc_new w _, Nat.le_refl _, Nat.zero_le _, rfl, rfl⟩⟩

theorem Tryd.infoInt : (Tryd.prog.info? 3).map (fun i => (i.zero, i.size, i.bytes)) = some (some (.int .i64 0), 1, 8) := by kernel_rfl
end Go.Proofs.YtfpbhedophlnkaaDoor
namespace Go.Proofs.YtfpbhedophlnkaaDoor
open Go.RowKit
set_option linter.unusedSimpArgs false
set_option linter.unusedVariables false

theorem Tryd.infoPtr : (Tryd.prog.info? 52).map (fun i => (i.zero, i.size, i.bytes)) = some (some (.pointer none), 1, 8) := by kernel_rfl

theorem growT_out {p : List Nd} {f k : Nat} (h : p.length ≤ k) : growT p f k = none := by
  cases f with
  | zero => rfl
  | succ f => simp only [growT]; rw [List.getElem?_eq_none h]
theorem growT_no {p : List Nd} {f k : Nat} {n : Nd} (hn : p[k]? = some n) (h : nodeB n = false) : growT p (f + 1) k = none := by
  simp only [growT, hn, h]; rfl
theorem growT_0 {p : List Nd} {f k : Nat} {n : Nd} (hn : p[k]? = some n) (h : nodeB n = true) (h1 : arity n.kind ≠ 1) (h2 : arity n.kind ≠ 2) : growT p (f + 1) k = some (.t0 n k (k + 1)) := by
  simp only [growT, hn, h]; rw [if_neg (by simp), if_neg h1, if_neg h2]
theorem growT_1n {p : List Nd} {f k : Nat} {n : Nd} (hn : p[k]? = some n) (h1 : arity n.kind = 1) (hc : growT p f (k + 1) = none) : growT p (f + 1) k = none := by
  simp [growT, hn, h1, hc]
theorem growT_1s {p : List Nd} {f k : Nat} {n : Nd} {c : Tr} (hn : p[k]? = some n) (h : nodeB n = true) (h1 : arity n.kind = 1) (hc : growT p f (k + 1) = some c) : growT p (f + 1) k = some (.t1 n k c.en c) := by
  simp only [growT, hn, h]; rw [if_neg (by simp), if_pos h1, hc]
theorem growT_2n {p : List Nd} {f k : Nat} {n : Nd} (hn : p[k]? = some n) (h1 : arity n.kind = 2) (hc : growT p f (k + 1) = none) : growT p (f + 1) k = none := by
  simp [growT, hn, h1, hc]
theorem growT_2sn {p : List Nd} {f k : Nat} {n : Nd} {c : Tr} (hn : p[k]? = some n) (h1 : arity n.kind = 2) (hc : growT p f (k + 1) = some c) (hd : growT p f c.en = none) : growT p (f + 1) k = none := by
  simp [growT, hn, h1, hc, hd]
theorem growT_2ss {p : List Nd} {f k : Nat} {n : Nd} {c d : Tr} (hn : p[k]? = some n) (h : nodeB n = true) (h1 : arity n.kind = 2) (hc : growT p f (k + 1) = some c) (hd : growT p f c.en = some d) : growT p (f + 1) k = some (.t2 n k d.en c d) := by
  simp only [growT, hn, h]; rw [if_neg (by simp), if_neg (by omega), if_pos h1, hc]; simp only; rw [hd]

theorem new_row {w w6 : World} {base : Nat} {e : TypeId} {v : Value} {o : Obj} {ao' : Option Addr} {c : Nat} (h : OwnV w6 base e ao' c ([] ++ [v])) (hl : ao' = none ∨ ao' = some ⟨(w.alloc o).heap.size, 0, none⟩) : ao' = some ⟨w.heap.size + 1, 0, none⟩ := by
  rcases hl with rfl | rfl
  · rcases h.form with ⟨_, _, hh⟩ | ⟨g, hh, _⟩
    · simp at hh
    · cases hh
  · simp

theorem row_of {w : World} {g : Nat} {o : Obj} {ao' : Option Addr} (hl : ao' = some ⟨g, 0, none⟩ ∨ ao' = some ⟨(w.alloc o).heap.size, 0, none⟩) : ∃ g', ao' = some ⟨g', 0, none⟩ ∧ (g' = g ∨ g' = w.heap.size + 1) := by
  rcases hl with rfl | rfl
  · exact ⟨g, rfl, .inl rfl⟩
  · exact ⟨_, rfl, .inr (by simp)⟩

/-- A tree's node with its children and its end stored. -/
def put2 (w : World) (tb : Nat) (v3 v2 : Value) : World := (w.setCell ⟨tb, 3, none⟩ v3).setCell ⟨tb, 2, none⟩ v2
theorem put2_far {w : World} {tb : Nat} {v3 v2 : Value} {p : Addr} (h : p.block ≠ tb) : (put2 w tb v3 v2).cell? p = w.cell? p := by
  unfold put2
  rw [World.cell?_setCell_other _ _ _ _ (by rintro rfl; exact h rfl), World.cell?_setCell_other _ _ _ _ (by rintro rfl; exact h rfl)]
theorem put2_block {w : World} {tb : Nat} {v3 v2 : Value} {i : Nat} (h : i ≠ tb) : (put2 w tb v3 v2).heap[i]? = w.heap[i]? := by
  unfold put2
  rw [Below.heap_setCell _ _ _ i h, Below.heap_setCell _ _ _ i h]
theorem put2_size {w : World} {tb : Nat} {v3 v2 : Value} : (put2 w tb v3 v2).heap.size = w.heap.size := by unfold put2; simp [World.setCell]
theorem put2_below {w a0 : World} {B tb : Nat} {v3 v2 : Value} (h : Below B a0 w) (hB : B ≤ tb) : Below B a0 (put2 w tb v3 v2) := (h.setCell hB _).setCell hB _
theorem put2_hd {w : World} {lo tb : Nat} {v3 x3 : Value} {x2 : Value} {n : Nd} {a : Option Addr} {c : Nat} {pl en : Nat} (h0 : w.cell? ⟨tb, 0, none⟩ = some (kindV n a c)) (h1 : w.cell? ⟨tb, 1, none⟩ = some (.int .i64 pl))
    (h2 : w.cell? ⟨tb, 2, none⟩ = some x2) (h3 : w.cell? ⟨tb, 3, none⟩ = some x3) (hlo : lo ≤ tb) : Hd (put2 w tb v3 (.int .i64 en)) lo w.heap.size tb n pl en v3 := by
  have hlt : tb < w.heap.size := World.block_lt_of_cell? w ⟨tb, 0, none⟩ h0
  refine ⟨hlo, hlt, a, c, ?_, ?_, ?_, ?_⟩
  · unfold put2; rw [World.cell?_setCell_other _ _ _ _ (by simp), World.cell?_setCell_other _ _ _ _ (by simp)]; exact h0
  · unfold put2; rw [World.cell?_setCell_other _ _ _ _ (by simp), World.cell?_setCell_other _ _ _ _ (by simp)]; exact h1
  · unfold put2
    exact World.cell?_setCell_same _ _ _ ((World.cell?_setCell_other _ _ _ _ (by simp)).trans h2)
  · unfold put2; rw [World.cell?_setCell_other _ _ _ _ (by simp)]
    exact World.cell?_setCell_same _ _ _ h3

/-- What is asked of the nodes. -/
def Small (p : List Nd) : Prop := p.length ≤ 1048576 ∧ ∀ n ∈ p, n.cols.length ≤ 1048576

set_option maxRecDepth 100000 in
set_option maxHeartbeats 4000000 in
theorem grow_any (ao : Option Addr) (c : Nat) (p : List Nd) (hp : Small p) : ∀ (f : Nat) (k : Int) (w : World), RdN w ao p → 0 ≤ k → k ≤ 1048576 → (p.length : Int) ≤ f + k →
    Calls Tryd.prog 45 #[.slice ao p.length c, .int .i64 k] w (GrowPost w (growT p f k.toNat)) := by
  have hpl := hp.1
  have HP := Lib.hid hp.2
  clear hp
  intro f
  induction f with
  | zero =>
    intro k w h hk0 hk1 hf
    have hk : (p.length : Int) ≤ k := by omega
    go_enter Tryd.func45, Tryd.ntmps45
    go_wp2_with fail
    go_ret
    exact ⟨rfl, Below.refl _ _⟩
  | succ f ih =>
    intro k w h hk0 hk1 hf
    have IH := Lib.hid ih; clear ih
    by_cases hk : (p.length : Int) ≤ k
    · rw [growT_out (show p.length ≤ k.toNat by omega)]
      go_enter Tryd.func45, Tryd.ntmps45
      go_wp2_with fail
      go_ret
      exact ⟨rfl, Below.refl _ _⟩
    have hk' : k < (p.length : Int) := by omega
    obtain ⟨b, off, n, a, c', rfl, hn, hat⟩ := h.at_ (i := k.toNat) (by omega)
    have H := Lib.hid h; clear h
    have HN := Lib.hid hn
    have hcl := HP.out n (List.mem_of_getElem? hn)
    clear hn hk
    have hat0 := Lib.hid hat
    obtain ⟨c0, c1, c2, c3, c4, c5, c6, rd, cap, mx, nm⟩ := hat
    have RD := Lib.hid rd
    have NK := Lib.hid (fun w => implNodeOk_any n a c' w)
    clear rd cap mx
    cases hnb : nodeB n with
    | false =>
      have HB := Lib.hid hnb; clear hnb
      rw [growT_no HN.out HB.out]
      go_enter Tryd.func45, Tryd.ntmps45
      go_wp2_with fail
      refine (NK.out _ RD.out (by omega) nm).mono ?_
      rintro e w1 ⟨rfl, b1⟩
      rw [HB.out]
      go_wp2_with fail
      go_ret
      exact ⟨rfl, b1⟩
    | true =>
      have HB := Lib.hid hnb; clear hnb
      obtain ⟨t, v, hkv⟩ := kindV_iface HB.out a c'
      have KV := Lib.hid hkv
      have AR := Lib.hid (show ∀ w, Calls Tryd.prog 55 #[.iface t v] w fun e w' => e = .returned (.int .i64 (arity n.kind)) ∧ w = w' from fun w => hkv ▸ arityOf_any n a c' w)
      clear hkv
      have ha := arity_of_nodeB HB.out
      generalize hres : growT p (f + 1) k.toNat = res
      have RES := Lib.hid hres; clear hres
      go_enter Tryd.func45, Tryd.ntmps45
      go_wp2_with fail
      refine (NK.out _ RD.out (by omega) nm).mono ?_
      rintro e w1 ⟨rfl, b1⟩
      rw [HB.out]
      obtain ⟨d0, d1, d2, d3, d4, d5, d6, _⟩ := hat0.out.below b1
      have B1 := Lib.hid b1
      clear b1 c0 c1 c2 c3 c4 c5 c6
      go_wp2_with fail
      refine (kindOf_any n a c' _).mono ?_
      rintro e w2 ⟨rfl, b2⟩
      rw [KV.out]
      have B2 := Lib.hid (below_step B1.out (Nat.le_refl _) b2)
      clear b2 d0 d1 d2 d3 d4 d5 d6
      go_wp2_with fail
      refine (AR.out _).mono ?_
      rintro e w' ⟨rfl, rfl⟩
      have B3 := Lib.hid (show Below w.heap.size w (w2.alloc (.cells #[.iface t v, .int .i64 k, .int .i64 (k + 1), .slice none 0 0] 90)) from B2.out.alloc B2.out.size _)
      have R3 := Lib.hid (H.out.below B3.out)
      rcases ha with ha | ha | ha
      · have HA := Lib.hid ha; clear ha
        rw [HA.out]
        go_wp2_with fail
        refine wp_loop_rounds 1 ?_; rw [rounds_succ]
        go_wp2_with fail
        go_ret
        have e1 : res = some (.t0 n k.toNat (k.toNat + 1)) := RES.out.symm.trans (growT_0 HN.out HB.out (by rw [HA.out]; decide) (by rw [HA.out]; decide))
        rw [e1]
        refine ⟨w2.heap.size, rfl, ⟨B2.out.size, by simp, a, c', ?_, ?_, ?_, ?_⟩, B3.out⟩
        · rw [KV.out]; simp
        · simp; omega
        · simp; omega
        · simp
      · have HA := Lib.hid ha; clear ha
        rw [HA.out]
        go_wp2_with fail
        refine wp_loop_rounds 2 ?_; rw [rounds_succ]
        go_wp2_with fail
        refine (IH.out (k + 1) _ R3.out (by omega) (by omega) (by omega)).mono ?_
        rw [show (k + 1).toNat = k.toNat + 1 from by omega]
        intro e w4 hpost
        cases hc : growT p f (k.toNat + 1) with
        | none =>
          rw [hc] at hpost
          obtain ⟨rfl, b4⟩ := hpost
          have e1 := Lib.hid (RES.out.symm.trans (growT_1n HN.out HA.out hc))
          clear hc
          have T4 := Lib.hid (below_step B3.out (Nat.le_refl _) b4)
          clear b4
          go_wp2_with fail
          go_ret
          rw [e1.out]
          exact ⟨rfl, T4.out⟩
        | some ch =>
          rw [hc] at hpost
          obtain ⟨bc, rfl, tr, b4⟩ := hpost
          have e1 := Lib.hid (RES.out.symm.trans (growT_1s HN.out HB.out HA.out hc))
          clear hc
          have hc4 := fun o => b4.cell (p := ⟨w2.heap.size, o, none⟩) (by simp)
          have hf4 := fun o => b4.frozen (p := ⟨w2.heap.size, o, none⟩) (by simp)
          have hz4 : w2.heap.size < w4.heap.size := by have := b4.size; simp at this; omega
          have T4 := Lib.hid (below_step B3.out (Nat.le_refl _) b4)
          have TR := Lib.hid tr
          have hbc : w2.heap.size < bc := by have := tr.lt.1; simp at this; omega
          have hbc4 : bc < w4.heap.size := tr.lt.2
          obtain ⟨_, _, _, _, _, _, _, hce, _⟩ := tr.head
          clear tr b4
          go_wp2_with (at_builtin; refine wpList_appendV _ rfl (.tmp 48) (.tmp 50) 88 rfl w.heap.size 52 (.pointer none) 8 Tryd.underlying88 Tryd.infoPtr rfl none 0 0 [] rfl rfl OwnV.none_ w4.heap.size 1 (.pointer (some ⟨bc, 0, none⟩)) rfl (cell_one _ _ _) rfl (by simp [maxLen]) (by simp) (by have := T4.out.size; simp; omega) ?_; intro ao' c6 w6 o6 g6 l6; obtain rfl : ao' = some ⟨w4.heap.size + 1, 0, none⟩ := new_row o6 l6; have b6 := below_of_grown g6 (Nat.le_refl _) (by intro g hg; cases hg); have hc6 := fun o => b6.cell (p := ⟨w2.heap.size, o, none⟩) (by simp; omega); have hf6 := fun o => b6.frozen (p := ⟨w2.heap.size, o, none⟩) (by simp; omega); have hd6 := fun o => b6.cell (p := ⟨bc, o, none⟩) (by simp; omega); have O6 := Lib.hid o6; have B6 := Lib.hid b6; clear o6 g6 l6 b6)
          rw [rounds_succ]
          go_wp2_with fail
          go_ret
          rw [e1.out]
          have z6 : w4.heap.size + 1 < (put2 w6 w2.heap.size (.slice (some ⟨w4.heap.size + 1, 0, none⟩) 1 c6) (.int .i64 ch.en)).heap.size := by
            rw [put2_size]; exact ((O6.out.lt _ rfl).2)
          have k0 : w6.cell? ⟨w2.heap.size, 0, none⟩ = some (kindV n a c') := by rw [hc6, World.cell?_alloc_lt _ _ _ (by simp; omega), hc4, KV.out]; simp
          have k1 : w6.cell? ⟨w2.heap.size, 1, none⟩ = some (.int .i64 (k.toNat : Int)) := by rw [hc6, World.cell?_alloc_lt _ _ _ (by simp; omega), hc4]; simp; omega
          have k2 : w6.cell? ⟨w2.heap.size, 2, none⟩ = some (.int .i64 (k + 1)) := by rw [hc6, World.cell?_alloc_lt _ _ _ (by simp; omega), hc4]; simp
          have k3 : w6.cell? ⟨w2.heap.size, 3, none⟩ = some (.slice none 0 0) := by rw [hc6, World.cell?_alloc_lt _ _ _ (by simp; omega), hc4]; simp
          have t6 := (((TR.out.below (Nat.le_refl _) ((Below.refl _ w4).alloc (Nat.le_refl _) _)).below (by simp) B6.out))
          refine ⟨w2.heap.size, rfl, ⟨w4.heap.size + 1, c6, bc, ?_, ⟨?_, z6⟩, ?_, ?_⟩, ?_⟩
          · exact (put2_hd k0 k1 k2 k3 B2.out.size).wide (Nat.le_refl _) (by rw [← put2_size (v3 := .slice (some ⟨w4.heap.size + 1, 0, none⟩) 1 c6) (v2 := .int .i64 ch.en)]; exact Nat.le_refl _)
          · have := T4.out.size; omega
          · exact (put2_far (by simp; omega)).trans (O6.out.cell 0 (by simp))
          · refine TrAt.wide (lo := w2.heap.size + 1) (hi := w4.heap.size) (by have := B2.out.size; omega) (Nat.le_of_lt (Nat.lt_trans (Nat.lt_succ_self _) z6)) _ _ (TrAt.keep (w := w6) (fun q h1 h2 => put2_far (by omega)) _ _ ?_)
            simpa using t6
          · exact put2_below (below_step (T4.out.alloc T4.out.size _) (Nat.le_refl _) B6.out) B2.out.size
      · have HA := Lib.hid ha; clear ha
        rw [HA.out]
        go_wp2_with fail
        refine wp_loop_rounds 3 ?_; rw [rounds_succ]
        go_wp2_with fail
        refine (IH.out (k + 1) _ R3.out (by omega) (by omega) (by omega)).mono ?_
        rw [show (k + 1).toNat = k.toNat + 1 from by omega]
        intro e w4 hpost
        cases hc : growT p f (k.toNat + 1) with
        | none =>
          rw [hc] at hpost
          obtain ⟨rfl, b4⟩ := hpost
          have e1 := Lib.hid (RES.out.symm.trans (growT_2n HN.out HA.out hc))
          clear hc
          have T4 := Lib.hid (below_step B3.out (Nat.le_refl _) b4)
          clear b4
          go_wp2_with fail
          go_ret
          rw [e1.out]
          exact ⟨rfl, T4.out⟩
        | some ch =>
          rw [hc] at hpost
          obtain ⟨bc, rfl, tr, b4⟩ := hpost
          have HC := Lib.hid hc
          obtain ⟨_, s2, s3, _⟩ := growT_sound p _ _ _ hc
          clear hc
          have hc4 := fun o => b4.cell (p := ⟨w2.heap.size, o, none⟩) (by simp)
          have hf4 := fun o => b4.frozen (p := ⟨w2.heap.size, o, none⟩) (by simp)
          have hz4 : w2.heap.size < w4.heap.size := by have := b4.size; simp at this; omega
          have T4 := Lib.hid (below_step B3.out (Nat.le_refl _) b4)
          have TR := Lib.hid tr
          have hbc : w2.heap.size < bc := by have := tr.lt.1; simp at this; omega
          have hbc4 : bc < w4.heap.size := tr.lt.2
          obtain ⟨_, _, _, _, _, _, _, hce, _⟩ := tr.head
          clear tr b4
          go_wp2_with (at_builtin; refine wpList_appendV _ rfl (.tmp 48) (.tmp 50) 88 rfl w.heap.size 52 (.pointer none) 8 Tryd.underlying88 Tryd.infoPtr rfl none 0 0 [] rfl rfl OwnV.none_ w4.heap.size 1 (.pointer (some ⟨bc, 0, none⟩)) rfl (cell_one _ _ _) rfl (by simp [maxLen]) (by simp) (by have := T4.out.size; simp; omega) ?_; intro ao' c6 w6 o6 g6 l6; obtain rfl : ao' = some ⟨w4.heap.size + 1, 0, none⟩ := new_row o6 l6; have b6 := below_of_grown g6 (Nat.le_refl _) (by intro g hg; cases hg); have hc6 := fun o => b6.cell (p := ⟨w2.heap.size, o, none⟩) (by simp; omega); have hf6 := fun o => b6.frozen (p := ⟨w2.heap.size, o, none⟩) (by simp; omega); have hd6 := fun o => b6.cell (p := ⟨bc, o, none⟩) (by simp; omega); have O6 := Lib.hid o6; have B6 := Lib.hid b6; clear o6 g6 l6 b6)
          rw [rounds_succ]
          go_wp2_with fail
          have k0 : (put2 w6 w2.heap.size (.slice (some ⟨w4.heap.size + 1, 0, none⟩) 1 c6) (.int .i64 ch.en)).cell? ⟨w2.heap.size, 0, none⟩ = some (.iface t v) := by
            unfold put2; rw [World.cell?_setCell_other _ _ _ _ (by simp), World.cell?_setCell_other _ _ _ _ (by simp), hc6, World.cell?_alloc_lt _ _ _ (by simp; omega), hc4]; simp
          have k1 : (put2 w6 w2.heap.size (.slice (some ⟨w4.heap.size + 1, 0, none⟩) 1 c6) (.int .i64 ch.en)).cell? ⟨w2.heap.size, 1, none⟩ = some (.int .i64 k) := by
            unfold put2; rw [World.cell?_setCell_other _ _ _ _ (by simp), World.cell?_setCell_other _ _ _ _ (by simp), hc6, World.cell?_alloc_lt _ _ _ (by simp; omega), hc4]; simp
          have j2 : w6.cell? ⟨w2.heap.size, 2, none⟩ = some (.int .i64 (k + 1)) := by rw [hc6, World.cell?_alloc_lt _ _ _ (by simp; omega), hc4]; simp
          have j3 : w6.cell? ⟨w2.heap.size, 3, none⟩ = some (.slice none 0 0) := by rw [hc6, World.cell?_alloc_lt _ _ _ (by simp; omega), hc4]; simp
          have k2 : (put2 w6 w2.heap.size (.slice (some ⟨w4.heap.size + 1, 0, none⟩) 1 c6) (.int .i64 ch.en)).cell? ⟨w2.heap.size, 2, none⟩ = some (.int .i64 ch.en) := by
            unfold put2; exact World.cell?_setCell_same _ _ _ ((World.cell?_setCell_other _ _ _ _ (by simp)).trans j2)
          have k3 : (put2 w6 w2.heap.size (.slice (some ⟨w4.heap.size + 1, 0, none⟩) 1 c6) (.int .i64 ch.en)).cell? ⟨w2.heap.size, 3, none⟩ = some (.slice (some ⟨w4.heap.size + 1, 0, none⟩) 1 c6) := by
            unfold put2; rw [World.cell?_setCell_other _ _ _ _ (by simp)]; exact World.cell?_setCell_same _ _ _ j3
          have kf : ∀ o, (put2 w6 w2.heap.size (.slice (some ⟨w4.heap.size + 1, 0, none⟩) 1 c6) (.int .i64 ch.en)).frozen? ⟨w2.heap.size, o, none⟩ = false := fun o => by
            unfold put2; go_simp
          have O7 := Lib.hid (show OwnV (put2 w6 w2.heap.size (.slice (some ⟨w4.heap.size + 1, 0, none⟩) 1 c6) (.int .i64 ch.en)) w.heap.size 52 (some ⟨w4.heap.size + 1, 0, none⟩) c6 [.pointer (some ⟨bc, 0, none⟩)] from O6.out.keep fun x hx _ => put2_block (by cases hx; simp; omega))
          have T7 := Lib.hid (put2_below (tb := w2.heap.size) (v3 := .slice (some ⟨w4.heap.size + 1, 0, none⟩) 1 c6) (v2 := .int .i64 ch.en) (below_step (T4.out.alloc T4.out.size _) (Nat.le_refl _) B6.out) B2.out.size)
          have TR7 := Lib.hid (show TrAt (put2 w6 w2.heap.size (.slice (some ⟨w4.heap.size + 1, 0, none⟩) 1 c6) (.int .i64 ch.en)) (w2.heap.size + 1) w4.heap.size ch bc from TrAt.keep (w := w6) (fun q h1 h2 => put2_far (by omega)) _ _ (by simpa using ((TR.out.below (Nat.le_refl _) ((Below.refl _ w4).alloc (Nat.le_refl _) _)).below (by simp) B6.out)))
          have z7 : w4.heap.size + 1 < (put2 w6 w2.heap.size (.slice (some ⟨w4.heap.size + 1, 0, none⟩) 1 c6) (.int .i64 ch.en)).heap.size := by rw [put2_size]; exact ((O6.out.lt _ rfl).2)
          clear hc4 hf4 hc6 hf6 hd6 j2 j3 hce O6 B6 TR T4
          change Calls Tryd.prog 45 _ (put2 w6 w2.heap.size (.slice (some ⟨w4.heap.size + 1, 0, none⟩) 1 c6) (.int .i64 ch.en)) _
          generalize (put2 w6 w2.heap.size (.slice (some ⟨w4.heap.size + 1, 0, none⟩) 1 c6) (.int .i64 ch.en)) = w7 at k0 k1 k2 k3 kf O7 T7 TR7 z7 ⊢
          refine (IH.out (ch.en : Int) _ (H.out.below T7.out) (by omega) (by omega) (by omega)).mono ?_
          rw [Int.toNat_natCast]
          intro e w8 hpost
          cases hd : growT p f ch.en with
          | none =>
            rw [hd] at hpost
            obtain ⟨rfl, b8⟩ := hpost
            have e1 := Lib.hid (RES.out.symm.trans (growT_2sn HN.out HA.out HC.out hd))
            clear hd
            have T8 := Lib.hid (below_step T7.out (Nat.le_refl _) b8)
            clear b8
            go_wp2_with fail
            go_ret
            rw [e1.out]
            exact ⟨rfl, T8.out⟩
          | some dh =>
            rw [hd] at hpost
            obtain ⟨bd, rfl, tr, b8⟩ := hpost
            have e1 := Lib.hid (RES.out.symm.trans (growT_2ss HN.out HB.out HA.out HC.out hd))
            clear hd
            have hc8 := fun o => b8.cell (p := ⟨w2.heap.size, o, none⟩) (by simp; omega)
            have hf8 := fun o => b8.frozen (p := ⟨w2.heap.size, o, none⟩) (by simp; omega)
            have hz8 : w7.heap.size ≤ w8.heap.size := b8.size
            have hz28 : w2.heap.size < w8.heap.size := by omega
            have hz2d : w2.heap.size < bd := by have := tr.lt.1; omega
            have hz2d' : bd ≠ w2.heap.size := by omega
            have T8 := Lib.hid (below_step T7.out (Nat.le_refl _) b8)
            have O8 := Lib.hid (O7.out.below b8)
            have TR8 := Lib.hid (TR7.out.below (by omega) b8)
            have TD := Lib.hid tr
            have hbd : w7.heap.size ≤ bd := tr.lt.1
            have hbd8 : bd < w8.heap.size := tr.lt.2
            obtain ⟨_, _, _, _, _, _, _, hde, _⟩ := tr.head
            clear tr b8
            go_wp2_with (at_builtin; refine wpList_appendV _ rfl (.tmp 48) (.tmp 50) 88 rfl w.heap.size 52 (.pointer none) 8 Tryd.underlying88 Tryd.infoPtr rfl (some ⟨w4.heap.size + 1, 0, none⟩) c6 1 [.pointer (some ⟨bc, 0, none⟩)] rfl rfl (O8.out.alloc _) w8.heap.size 1 (.pointer (some ⟨bd, 0, none⟩)) rfl (cell_one _ _ _) rfl (by simp [maxLen]) (by simp) (by have := T8.out.size; simp; omega) ?_; intro ao' c10 w10 o10 g10 l10; obtain ⟨g', rfl, hg'⟩ := row_of l10; have b10 := below_of_grown (B := w4.heap.size + 1) g10 (by simp; omega) (by intro g hg; simp at hg; omega); have hc10 := fun o => b10.cell (p := ⟨w2.heap.size, o, none⟩) (by simp; omega); have hf10 := fun o => b10.frozen (p := ⟨w2.heap.size, o, none⟩) (by simp; omega); have hd10 := fun o => World.cell?_of_block (a := ⟨bd, o, none⟩) (g10.block bd (by simp; omega) (by simp; omega)); have O10 := Lib.hid o10; have B10 := Lib.hid b10; have G10 := Lib.hid g10; clear o10 g10 l10 b10)
            rw [rounds_succ]
            go_wp2_with fail
            go_ret
            rw [e1.out]
            have g10b := O10.out.lt _ rfl
            simp only at g10b
            have z8 : w8.heap.size < w10.heap.size := by have := G10.out.size; simp at this; omega
            have q0 : w10.cell? ⟨w2.heap.size, 0, none⟩ = some (kindV n a c') := by rw [hc10, World.cell?_alloc_lt _ _ _ (by simp; omega), hc8, k0, KV.out]
            have q1 : w10.cell? ⟨w2.heap.size, 1, none⟩ = some (.int .i64 (k.toNat : Int)) := by rw [hc10, World.cell?_alloc_lt _ _ _ (by simp; omega), hc8, k1]; simp; omega
            have q2 : w10.cell? ⟨w2.heap.size, 2, none⟩ = some (.int .i64 ch.en) := by rw [hc10, World.cell?_alloc_lt _ _ _ (by simp; omega), hc8, k2]
            have q3 : w10.cell? ⟨w2.heap.size, 3, none⟩ = some (.slice (some ⟨w4.heap.size + 1, 0, none⟩) 1 c6) := by rw [hc10, World.cell?_alloc_lt _ _ _ (by simp; omega), hc8, k3]
            have hsz : (put2 w10 w2.heap.size (.slice (some ⟨g', 0, none⟩) 2 c10) (.int .i64 dh.en)).heap.size = w10.heap.size := put2_size
            have tc : TrAt w10 (w2.heap.size + 1) w4.heap.size ch bc := TrAt.keep (w := w8.alloc (.cells #[.pointer (some ⟨bd, 0, none⟩)] 52)) (fun q h1 h2 => B10.out.cell (by omega)) _ _ (TR8.out.below (by omega) ((Below.refl _ w8).alloc (Nat.le_refl _) _))
            have td : TrAt w10 w7.heap.size w8.heap.size dh bd := TrAt.keep (w := w8.alloc (.cells #[.pointer (some ⟨bd, 0, none⟩)] 52)) (fun q h1 h2 => World.cell?_of_block (G10.out.block q.block (by simp; omega) (by simp; omega))) _ _ (TD.out.below (Nat.le_refl _) ((Below.refl _ w8).alloc (Nat.le_refl _) _))
            have hlo := B2.out.size
            have hne : g' ≠ w2.heap.size := by omega
            refine ⟨w2.heap.size, rfl, ⟨g', c10, bc, bd, ?_, ⟨g10b.1, ?_⟩, ?_, ?_, ?_, ?_⟩, ?_⟩
            · exact (put2_hd q0 q1 q2 q3 hlo).wide (Nat.le_refl _) (Nat.le_of_eq hsz.symm)
            · exact Nat.lt_of_lt_of_le g10b.2 (Nat.le_of_eq hsz.symm)
            · exact (put2_far hne).trans (O10.out.cell 0 (by simp))
            · exact (put2_far hne).trans (O10.out.cell 1 (by simp))
            · exact TrAt.wide (by omega) (Nat.le_trans (show w4.heap.size ≤ w10.heap.size by omega) (Nat.le_of_eq hsz.symm)) _ _ (TrAt.keep (w := w10) (fun q h1 h2 => put2_far (by omega)) _ _ tc)
            · exact TrAt.wide (by omega) (Nat.le_trans (show w8.heap.size ≤ w10.heap.size by omega) (Nat.le_of_eq hsz.symm)) _ _ (TrAt.keep (w := w10) (fun q h1 h2 => put2_far (by omega)) _ _ td)
            · refine put2_below ?_ hlo
              exact (T8.out.alloc T8.out.size _).grown G10.out (by have := T8.out.size; simp; omega) (by intro g hg; simp at hg; omega)
end Go.Proofs.YtfpbhedophlnkaaDoor
namespace Go.Proofs.YtfpbhedophlnkaaDoor
open Go.RowKit
set_option linter.unusedSimpArgs false
set_option linter.unusedVariables false

theorem depthNil_any (w : World) : Calls Tryd.prog 46 #[.pointer none] w fun e w' => e = .returned (.int .i64 0) ∧ w = w' := by
  go_enter Tryd.func46, Tryd.ntmps46
  go_wp2_with fail
  go_ret
  exact ⟨rfl, rfl⟩

set_option maxHeartbeats 1600000 in
theorem depth_any : ∀ (T : Tr) (w : World) (lo hi b : Nat), TrAt w lo hi T b → T.depth ≤ 1048576 →
    Calls Tryd.prog 46 #[.pointer (some ⟨b, 0, none⟩)] w fun e w' => e = .returned (.int .i64 T.depth) ∧ w = w' := by
  intro T
  induction T with
  | t0 n pl en =>
    intro w lo hi b h hd
    obtain ⟨_, _, a, c, c0, c1, c2, c3⟩ := h
    go_enter Tryd.func46, Tryd.ntmps46
    go_wp2_with fail
    refine wp_loop_rounds 1 ?_; rw [rounds_succ]
    go_wp2_with fail
    go_ret
    exact ⟨rfl, rfl⟩
  | t1 n pl en c ih =>
    intro w lo hi b h hd
    have e1 := Lib.hid (show (Tr.t1 n pl en c).depth = c.depth + 1 from rfl)
    have hd' : c.depth ≤ 1048576 := by have := e1.out; omega
    obtain ⟨g, cap, bc, ⟨_, _, a, cc, c0, c1, c2, c3⟩, hg, g0, tc⟩ := h
    have IH := Lib.hid (ih w lo hi bc tc hd')
    clear ih tc hd
    go_enter Tryd.func46, Tryd.ntmps46
    go_wp2_with fail
    refine wp_loop_rounds 2 ?_; rw [rounds_succ]
    go_wp2_with (go_at_call 46; refine IH.out.mono ?_; rintro e w' ⟨rfl, rfl⟩)
    rw [rounds_succ]
    go_wp2_with fail
    go_ret
    exact ⟨ret_int (by have := e1.out; omega), rfl⟩
  | t2 n pl en c d ihc ihd =>
    intro w lo hi b h hd
    have e1 := Lib.hid (show (Tr.t2 n pl en c d).depth = max c.depth d.depth + 1 from rfl)
    have hd1 : c.depth ≤ 1048576 := by have := e1.out; omega
    have hd2 : d.depth ≤ 1048576 := by have := e1.out; omega
    obtain ⟨g, cap, bc, bd, ⟨_, _, a, cc, c0, c1, c2, c3⟩, hg, g0, g1, tc, td⟩ := h
    have IC := Lib.hid (ihc w lo hi bc tc hd1)
    have ID := Lib.hid (ihd w lo hi bd td hd2)
    clear ihc ihd tc td hd
    by_cases hm : (c.depth : Int) ≤ d.depth
    all_goals
      go_enter Tryd.func46, Tryd.ntmps46
      go_wp2_with fail
      refine wp_loop_rounds 3 ?_; rw [rounds_succ]
      go_wp2_with fail
      refine IC.out.mono ?_
      rintro e w' ⟨rfl, rfl⟩
      go_wp2_with fail
      rw [rounds_succ]
      go_wp2_with fail
      refine ID.out.mono ?_
      rintro e w' ⟨rfl, rfl⟩
      go_wp2_with fail
      rw [rounds_succ]
      go_wp2_with fail
      go_ret
      exact ⟨ret_int (by have := e1.out; omega), rfl⟩

/-- What is found at a place, which may be below 0. -/
def fnd (k : Int) (T : Tr) : Option Tr := if k < 0 then none else T.find k.toNat
/-- What find answers. -/
def FindPost (w : World) (lo hi : Nat) : Option Tr → Ending → World → Prop
  | none, e, w' => e = .returned (.pointer none) ∧ w = w'
  | some S, e, w' => ∃ b, e = .returned (.pointer (some ⟨b, 0, none⟩)) ∧ TrAt w lo hi S b ∧ w = w'
theorem fnd_out {k : Int} {T : Tr} (h : k < T.pl ∨ (T.en : Int) ≤ k) : fnd k T = none := by
  unfold fnd
  by_cases hk : k < 0
  · rw [if_pos hk]
  · rw [if_neg hk]
    cases T <;> simp only [Tr.find, Tr.pl, Tr.en] at h ⊢ <;> rw [if_pos (by omega)]
theorem fnd_0 {k : Int} {n : Nd} {pl en : Nat} (h1 : (pl : Int) ≤ k) (h2 : k < en) : fnd k (.t0 n pl en) = some (.t0 n pl en) := by
  unfold fnd; rw [if_neg (by omega)]; simp only [Tr.find]; rw [if_neg (by omega)]
theorem fnd_1s {k : Int} {n : Nd} {pl en : Nat} {c s : Tr} (h1 : (pl : Int) ≤ k) (h2 : k < en) (hc : fnd k c = some s) : fnd k (.t1 n pl en c) = some s := by
  unfold fnd at hc ⊢; rw [if_neg (by omega)] at hc ⊢; simp only [Tr.find]; rw [if_neg (by omega), hc]
theorem fnd_1n {k : Int} {n : Nd} {pl en : Nat} {c : Tr} (h1 : (pl : Int) ≤ k) (h2 : k < en) (hc : fnd k c = none) : fnd k (.t1 n pl en c) = some (.t1 n pl en c) := by
  unfold fnd at hc ⊢; rw [if_neg (by omega)] at hc ⊢; simp only [Tr.find]; rw [if_neg (by omega), hc]
theorem fnd_2s {k : Int} {n : Nd} {pl en : Nat} {c d s : Tr} (h1 : (pl : Int) ≤ k) (h2 : k < en) (hc : fnd k c = some s) : fnd k (.t2 n pl en c d) = some s := by
  unfold fnd at hc ⊢; rw [if_neg (by omega)] at hc ⊢; simp only [Tr.find]; rw [if_neg (by omega), hc]
theorem fnd_2ns {k : Int} {n : Nd} {pl en : Nat} {c d s : Tr} (h1 : (pl : Int) ≤ k) (h2 : k < en) (hc : fnd k c = none) (hd : fnd k d = some s) : fnd k (.t2 n pl en c d) = some s := by
  unfold fnd at hc hd ⊢; rw [if_neg (by omega)] at hc hd ⊢; simp only [Tr.find]; rw [if_neg (by omega), hc]; simp only; rw [hd]
theorem fnd_2nn {k : Int} {n : Nd} {pl en : Nat} {c d : Tr} (h1 : (pl : Int) ≤ k) (h2 : k < en) (hc : fnd k c = none) (hd : fnd k d = none) : fnd k (.t2 n pl en c d) = some (.t2 n pl en c d) := by
  unfold fnd at hc hd ⊢; rw [if_neg (by omega)] at hc hd ⊢; simp only [Tr.find]; rw [if_neg (by omega), hc]; simp only; rw [hd]

theorem depth_le (p : List Nd) : ∀ (f k : Nat) (T : Tr), growT p f k = some T → T.depth ≤ f := by
  intro f
  induction f with
  | zero => intro k T h; cases h
  | succ f ih =>
    intro k T h
    cases hn : p[k]? with
    | none => simp [growT, hn] at h
    | some n =>
      cases hb : nodeB n with
      | false => rw [growT_no hn hb] at h; cases h
      | true =>
        by_cases h1 : arity n.kind = 1
        · cases hc : growT p f (k + 1) with
          | none => rw [growT_1n hn h1 hc] at h; cases h
          | some c => rw [growT_1s hn hb h1 hc] at h; cases h; have := ih _ _ hc; simp only [Tr.depth]; omega
        · by_cases h2 : arity n.kind = 2
          · cases hc : growT p f (k + 1) with
            | none => rw [growT_2n hn h2 hc] at h; cases h
            | some c =>
              cases hd : growT p f c.en with
              | none => rw [growT_2sn hn h2 hc hd] at h; cases h
              | some d => rw [growT_2ss hn hb h2 hc hd] at h; cases h; have := ih _ _ hc; have := ih _ _ hd; simp only [Tr.depth]; omega
          · rw [growT_0 hn hb h1 h2] at h; cases h; simp only [Tr.depth]; omega

set_option maxHeartbeats 1600000 in
theorem treeOf_any (ao : Option Addr) (c : Nat) (p : List Nd) (hp : Small p) (w : World) (h : RdN w ao p) :
    Calls Tryd.prog 33 #[.slice ao p.length c] w (GrowPost w (treeN p)) := by
  have H := Lib.hid h; clear h
  have hpl := hp.1
  have SM := Lib.hid hp; clear hp
  by_cases h40 : 40 < p.length
  · have E : treeN p = none := by unfold treeN; rw [if_neg (by omega)]
    rw [E]
    have h4 : (40 : Int) < p.length := by omega
    go_enter Tryd.func33, Tryd.ntmps33
    go_wp2_with fail
    go_ret
    exact ⟨rfl, Below.refl _ _⟩
  · have h4 : (p.length : Int) ≤ 40 := by omega
    generalize hres : treeN p = res
    have RES := Lib.hid hres; clear hres
    go_enter Tryd.func33, Tryd.ntmps33
    go_wp2_with fail
    refine (grow_any ao c p SM.out p.length 0 _ H.out (by omega) (by omega) (by omega)).mono ?_
    rw [show (0 : Int).toNat = 0 from rfl]
    intro e w1 hpost
    cases hg : growT p p.length 0 with
    | none =>
      rw [hg] at hpost
      obtain ⟨rfl, b1⟩ := hpost
      have E := Lib.hid (RES.out.symm.trans (show treeN p = none by unfold treeN; rw [if_pos (by omega), hg]))
      clear hg
      go_wp2_with fail
      go_ret
      rw [E.out]
      exact ⟨rfl, b1⟩
    | some T =>
      rw [hg] at hpost
      obtain ⟨b, rfl, tr, b1⟩ := hpost
      have TR := Lib.hid tr
      have DE := Lib.hid (depth_any T w1 _ _ b tr (by have := depth_le p _ _ _ hg; omega))
      obtain ⟨v, _, _, a, c', c0, c1, c2, c3⟩ := tr.head
      have B1 := Lib.hid b1
      clear tr b1
      have HG := Lib.hid hg; clear hg
      by_cases he : T.en = p.length
      · have he1 : ((T.en : Int) != (p.length : Int)) = false := by simp [he]
        by_cases hd : T.depth ≤ 10
        · have hd1 : (T.depth : Int) ≤ 10 := by omega
          have E := Lib.hid (RES.out.symm.trans (show treeN p = some T by unfold treeN; rw [if_pos (by omega), HG.out]; simp only; rw [if_pos ⟨he, hd⟩]))
          clear he hd
          go_wp2_with (go_at_call 46; refine DE.out.mono ?_; rintro e w' ⟨rfl, rfl⟩)
          go_ret
          rw [E.out]
          exact ⟨b, rfl, TR.out, B1.out⟩
        · have hd1 : (10 : Int) < T.depth := by omega
          have E := Lib.hid (RES.out.symm.trans (show treeN p = none by unfold treeN; rw [if_pos (by omega), HG.out]; simp only; rw [if_neg (by omega)]))
          clear he hd
          go_wp2_with (go_at_call 46; refine DE.out.mono ?_; rintro e w' ⟨rfl, rfl⟩)
          go_ret
          rw [E.out]
          exact ⟨rfl, B1.out⟩
      · have he1 : ((T.en : Int) != (p.length : Int)) = true := by simp; omega
        have E := Lib.hid (RES.out.symm.trans (show treeN p = none by unfold treeN; rw [if_pos (by omega), HG.out]; simp only; rw [if_neg (by omega)]))
        clear he
        go_wp2_with fail
        go_ret
        rw [E.out]
        exact ⟨rfl, B1.out⟩

theorem implPlanOk_any (ao : Option Addr) (c : Nat) (p : List Nd) (hp : Small p) (w : World) (h : RdN w ao p) :
    Calls Tryd.prog 30 #[.slice ao p.length c] w fun e w' => e = .returned (.bool (planB p)) ∧ Below w.heap.size w w' := by
  have H := Lib.hid h; clear h
  go_enter Tryd.func30, Tryd.ntmps30
  go_wp2_with fail
  refine (treeOf_any ao c p hp _ H.out).mono ?_
  intro e w1 hpost
  cases ht : treeN p with
  | none =>
    rw [ht] at hpost
    obtain ⟨rfl, b1⟩ := hpost
    have E := Lib.hid (show planB p = false by simp [planB, ht])
    clear ht
    go_wp2_with fail
    go_ret
    exact ⟨ret_bool E.out.symm, b1⟩
  | some T =>
    rw [ht] at hpost
    obtain ⟨b, rfl, tr, b1⟩ := hpost
    have E := Lib.hid (show planB p = true by simp [planB, ht])
    clear ht tr
    go_wp2_with fail
    go_ret
    exact ⟨ret_bool E.out.symm, b1⟩
end Go.Proofs.YtfpbhedophlnkaaDoor
