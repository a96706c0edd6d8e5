/-
  A tree of the program in memory: a block of four cells for each node, the children behind a row of pointers. No program, no walk. append of one number to a row of numbers of the call's own. No walk.
-/
import Derived.Test.YtanfllednlpbaaaGreatJ11x
import Derived.Test.YtanfllednlpbaaaGreatJ2x
import Derived.Maps.AppendAt
import Derived.OwnWalk
import Derived.Test.YtanfllednlpbaaaGreatJ1x
namespace Go.Proofs.YtanfllednlpbaaaGreat
open Go.RowKit
set_option linter.unusedSimpArgs false
set_option linter.unusedVariables false

/-- The four cells of a tree's node. -/
def Hd (w : World) (lo hi b : Nat) (n : Nd) (pl en : Nat) (below : Value) : Prop :=
  lo ≤ b ∧ b < hi ∧ ∃ a c, w.cell? ⟨b, 0, none⟩ = some (kindV n a c) ∧ w.cell? ⟨b, 1, none⟩ = some (.int .i64 pl) ∧ w.cell? ⟨b, 2, none⟩ = some (.int .i64 en) ∧ w.cell? ⟨b, 3, none⟩ = some below

/-- The tree T lies at block b, all of it between lo and hi. -/
def TrAt (w : World) (lo hi : Nat) : Tr → Nat → Prop
  | .t0 n pl en, b => Hd w lo hi b n pl en (.slice none 0 0)
  | .t1 n pl en c, b => ∃ g cap bc, Hd w lo hi b n pl en (.slice (some ⟨g, 0, none⟩) 1 cap) ∧ (lo ≤ g ∧ g < hi) ∧ w.cell? ⟨g, 0, none⟩ = some (.pointer (some ⟨bc, 0, none⟩)) ∧ TrAt w lo hi c bc
  | .t2 n pl en c d, b => ∃ g cap bc bd, Hd w lo hi b n pl en (.slice (some ⟨g, 0, none⟩) 2 cap) ∧ (lo ≤ g ∧ g < hi) ∧ w.cell? ⟨g, 0, none⟩ = some (.pointer (some ⟨bc, 0, none⟩)) ∧ w.cell? ⟨g, 1, none⟩ = some (.pointer (some ⟨bd, 0, none⟩)) ∧ TrAt w lo hi c bc ∧ TrAt w lo hi d bd

theorem Hd.keep {w w' : World} {lo hi b : Nat} {n : Nd} {pl en : Nat} {v : Value} (h : Hd w lo hi b n pl en v) (hk : ∀ p : Addr, lo ≤ p.block → p.block < hi → w'.cell? p = w.cell? p) : Hd w' lo hi b n pl en v := by
  obtain ⟨h1, h2, a, c, c0, c1, c2, c3⟩ := h
  exact ⟨h1, h2, a, c, (hk _ h1 h2).trans c0, (hk _ h1 h2).trans c1, (hk _ h1 h2).trans c2, (hk _ h1 h2).trans c3⟩
theorem TrAt.keep {w w' : World} {lo hi : Nat} (hk : ∀ p : Addr, lo ≤ p.block → p.block < hi → w'.cell? p = w.cell? p) : ∀ (T : Tr) (b : Nat), TrAt w lo hi T b → TrAt w' lo hi T b
  | .t0 n pl en, b, h => Hd.keep h hk
  | .t1 n pl en c, b, ⟨g, cap, bc, h1, h2, h3, h4⟩ => ⟨g, cap, bc, h1.keep hk, h2, (hk _ h2.1 h2.2).trans h3, TrAt.keep hk c bc h4⟩
  | .t2 n pl en c d, b, ⟨g, cap, bc, bd, h1, h2, h3, h4, h5, h6⟩ => ⟨g, cap, bc, bd, h1.keep hk, h2, (hk _ h2.1 h2.2).trans h3, (hk _ h2.1 h2.2).trans h4, TrAt.keep hk c bc h5, TrAt.keep hk d bd h6⟩
theorem Hd.wide {w : World} {lo hi lo' hi' b : Nat} {n : Nd} {pl en : Nat} {v : Value} (h : Hd w lo hi b n pl en v) (h1 : lo' ≤ lo) (h2 : hi ≤ hi') : Hd w lo' hi' b n pl en v :=
  ⟨Nat.le_trans h1 h.1, Nat.lt_of_lt_of_le h.2.1 h2, h.2.2⟩
theorem TrAt.wide {w : World} {lo hi lo' hi' : Nat} (h1 : lo' ≤ lo) (h2 : hi ≤ hi') : ∀ (T : Tr) (b : Nat), TrAt w lo hi T b → TrAt w lo' hi' T b
  | .t0 n pl en, b, h => Hd.wide h h1 h2
  | .t1 n pl en c, b, ⟨g, cap, bc, k1, k2, k3, k4⟩ => ⟨g, cap, bc, k1.wide h1 h2, ⟨Nat.le_trans h1 k2.1, Nat.lt_of_lt_of_le k2.2 h2⟩, k3, TrAt.wide h1 h2 c bc k4⟩
  | .t2 n pl en c d, b, ⟨g, cap, bc, bd, k1, k2, k3, k4, k5, k6⟩ => ⟨g, cap, bc, bd, k1.wide h1 h2, ⟨Nat.le_trans h1 k2.1, Nat.lt_of_lt_of_le k2.2 h2⟩, k3, k4, TrAt.wide h1 h2 c bc k5, TrAt.wide h1 h2 d bd k6⟩
theorem TrAt.below {w w' : World} {lo hi : Nat} {T : Tr} {b : Nat} (h : TrAt w lo hi T b) (hh : hi ≤ w.heap.size) (hb : Below w.heap.size w w') : TrAt w' lo hi T b :=
  TrAt.keep (fun _ _ hp => hb.cell (Nat.lt_of_lt_of_le hp hh)) T b h
theorem TrAt.head {w : World} {lo hi : Nat} {T : Tr} {b : Nat} (h : TrAt w lo hi T b) : ∃ v, Hd w lo hi b T.nd T.pl T.en v := by
  cases T with
  | t0 n pl en => exact ⟨_, h⟩
  | t1 n pl en c => obtain ⟨g, cap, bc, h1, _⟩ := h; exact ⟨_, h1⟩
  | t2 n pl en c d => obtain ⟨g, cap, bc, bd, h1, _⟩ := h; exact ⟨_, h1⟩
theorem TrAt.lt {w : World} {lo hi : Nat} {T : Tr} {b : Nat} (h : TrAt w lo hi T b) : lo ≤ b ∧ b < hi := by
  obtain ⟨v, h1, h2, _⟩ := h.head; exact ⟨h1, h2⟩

/-- What growing answers. -/
def GrowPost (w : World) : Option Tr → Ending → World → Prop
  | none, e, w' => e = .returned (.pointer none) ∧ Below w.heap.size w w'
  | some T, e, w' => ∃ b, e = .returned (.pointer (some ⟨b, 0, none⟩)) ∧ TrAt w' w.heap.size w'.heap.size T b ∧ Below w.heap.size w w'

theorem kindV_iface {n : Nd} (h : nodeB n = true) (a : Option Addr) (c : Nat) : ∃ t v, kindV n a c = .iface t v := by
  have := kind_of_nodeB h
  have hc : n.kind = 0 ∨ n.kind = 1 ∨ n.kind = 2 ∨ n.kind = 3 ∨ n.kind = 4 ∨ n.kind = 5 ∨ n.kind = 6 ∨ n.kind = 7 := by omega
  unfold kindV
  rcases hc with h | h | h | h | h | h | h | h <;> rw [h] <;> exact ⟨_, _, rfl⟩
end Go.Proofs.YtanfllednlpbaaaGreat
namespace Go.Proofs.YtanfllednlpbaaaGreat
open Go.RowKit
set_option linter.unusedSimpArgs false
set_option linter.unusedVariables false

theorem own_of_V {w : World} {base : Nat} {e : TypeId} {k : IntKind} {ao : Option Addr} {c : Nat} {l : List Int} (h : OwnV w base e ao c (l.map (Value.int k))) : Own w base e k ao c l := by
  unfold OwnV at h; unfold Own; rw [List.length_map] at h; exact h
theorem V_of_own {w : World} {base : Nat} {e : TypeId} {k : IntKind} {ao : Option Addr} {c : Nat} {l : List Int} (h : Own w base e k ao c l) : OwnV w base e ao c (l.map (Value.int k)) := by
  unfold Own at h; unfold OwnV; rw [List.length_map]; exact h
/-- 'append(xs, z)' at a slice of int of the call's own. -/
theorem wpList_appendI {P : Program} (w : World) {ops : Array Oper} {rest : List Oper} {o : Oper} {a : Act} {Q : Exit → Act → World → Prop} (hgd : o.guard = none) (s x : Operand) (t : TypeId)
    (ho : o.op = .call { callee := .builtin .append, args := #[s, x], argTypes := #[t, t] }) (base : Nat) (e : TypeId) (ht : P.underlying t = some (.slice e))
    (hi : (P.info? e).map (fun i => (i.zero, i.size, i.bytes)) = some (some (.int .i64 0), 1, 8))
    (ao : Option Addr) (c n : Nat) (l : List Int) (hs : a.eval s = .slice ao n c) (hn : n = l.length) (hown : Own w base e .i64 ao c l)
    (bl cx : Nat) (z : Int) (hx : a.eval x = .slice (some ⟨bl, 0, none⟩) 1 cx) (hv : w.cell? ⟨bl, 0, none⟩ = some (.int .i64 z))
    (hby : l.length ≤ 1048576) (hbase : base ≤ w.heap.size)
    (h : ∀ ao' c' w', Own w' base e .i64 ao' c' (l ++ [z]) → w.grownBy w' (ao.map (·.block)) → wpList P ops Q rest (a.put o.dst (.slice ao' (l.length + 1) c')) w') :
    wpList P ops Q (o :: rest) a w := by
  refine wpList_appendV w hgd s x t ho base e (.int .i64 0) 8 ht hi rfl ao c n (l.map (Value.int .i64)) hs (by simpa using hn) (V_of_own hown) bl cx (.int .i64 z) hx hv rfl (by simp [maxLen]; omega) (by simp; omega) hbase ?_
  intro ao' c' w' ho' hg' _
  have := h ao' c' w' (own_of_V (by rw [List.map_append]; exact ho')) hg'
  simpa using this
theorem below_app {w wr w1 : World} {e : TypeId} {ao : Option Addr} {c : Nat} {l : List Int} {o : Obj} (hb : Below w.heap.size w wr) (ho : Own wr w.heap.size e .i64 ao c l) (hg : (wr.alloc o).grownBy w1 (ao.map (·.block))) : Below w.heap.size w w1 := by
  refine (hb.alloc hb.size o).grown hg (by have := hb.size; simp; omega) ?_
  intro g hg'
  rcases ao with _ | a
  · cases hg'
  · simp at hg'; subst hg'; exact (ho.lt a rfl).1

theorem own_empty {w : World} {base : Nat} {e : TypeId} {k : IntKind} (h : base ≤ w.heap.size) : Own (w.alloc (.cells #[] e)) base e k (some ⟨w.heap.size, 0, none⟩) 0 [] :=
  ⟨rfl, .inr ⟨w.heap.size, 0, #[], rfl, h, heap_alloc_new w _, Nat.le_refl _, Nat.zero_le _, rfl, rfl⟩⟩

theorem Tryz.infoInt : (Tryz.prog.info? 3).map (fun i => (i.zero, i.size, i.bytes)) = some (some (.int .i64 0), 1, 8) := by kernel_rfl
end Go.Proofs.YtanfllednlpbaaaGreat
