/-
  A tree of the program in memory: a block of four cells for each node, the children behind a row of pointers. No program, no walk.
-/
import Derived.Test.YtfpbhedophlnkaaGreatDoorJT10x
import Derived.Test.YtfpbhedophlnkaaGreatDoorJT4x
import Derived.Maps.AppendAt
import Derived.OwnWalk
namespace Go.Proofs.YtfpbhedophlnkaaGreatDoor
open Go.RowKit
set_option linter.unusedSimpArgs false
set_option linter.unusedVariables false

/-- The four cells of a tree's node. -/
def Hd (w : World) (lo hi b : Nat) (n : Nd) (pl en : Nat) (below : Value) : Prop :=
  lo ≤ b ∧ b < hi ∧ ∃ a c, w.cell? ⟨b, 0, none⟩ = some (kindV n a c) ∧ w.cell? ⟨b, 1, none⟩ = some (.int .i64 pl) ∧ w.cell? ⟨b, 2, none⟩ = some (.int .i64 en) ∧ w.cell? ⟨b, 3, none⟩ = some below

/-- The tree T lies at block b, all of it between lo and hi. -/
def TrAt (w : World) (lo hi : Nat) : Tr → Nat → Prop
  | .t0 n pl en, b => Hd w lo hi b n pl en (.slice none 0 0)
  | .t1 n pl en c, b => ∃ g cap bc, Hd w lo hi b n pl en (.slice (some ⟨g, 0, none⟩) 1 cap) ∧ (lo ≤ g ∧ g < hi) ∧ w.cell? ⟨g, 0, none⟩ = some (.pointer (some ⟨bc, 0, none⟩)) ∧ TrAt w lo hi c bc
  | .t2 n pl en c d, b => ∃ g cap bc bd, Hd w lo hi b n pl en (.slice (some ⟨g, 0, none⟩) 2 cap) ∧ (lo ≤ g ∧ g < hi) ∧ w.cell? ⟨g, 0, none⟩ = some (.pointer (some ⟨bc, 0, none⟩)) ∧ w.cell? ⟨g, 1, none⟩ = some (.pointer (some ⟨bd, 0, none⟩)) ∧ TrAt w lo hi c bc ∧ TrAt w lo hi d bd

theorem Hd.keep {w w' : World} {lo hi b : Nat} {n : Nd} {pl en : Nat} {v : Value} (h : Hd w lo hi b n pl en v) (hk : ∀ p : Addr, lo ≤ p.block → p.block < hi → w'.cell? p = w.cell? p) : Hd w' lo hi b n pl en v := by
  obtain ⟨h1, h2, a, c, c0, c1, c2, c3⟩ := h
  exact ⟨h1, h2, a, c, (hk _ h1 h2).trans c0, (hk _ h1 h2).trans c1, (hk _ h1 h2).trans c2, (hk _ h1 h2).trans c3⟩
theorem TrAt.keep {w w' : World} {lo hi : Nat} (hk : ∀ p : Addr, lo ≤ p.block → p.block < hi → w'.cell? p = w.cell? p) : ∀ (T : Tr) (b : Nat), TrAt w lo hi T b → TrAt w' lo hi T b
  | .t0 n pl en, b, h => Hd.keep h hk
  | .t1 n pl en c, b, ⟨g, cap, bc, h1, h2, h3, h4⟩ => ⟨g, cap, bc, h1.keep hk, h2, (hk _ h2.1 h2.2).trans h3, TrAt.keep hk c bc h4⟩
  | .t2 n pl en c d, b, ⟨g, cap, bc, bd, h1, h2, h3, h4, h5, h6⟩ => ⟨g, cap, bc, bd, h1.keep hk, h2, (hk _ h2.1 h2.2).trans h3, (hk _ h2.1 h2.2).trans h4, TrAt.keep hk c bc h5, TrAt.keep hk d bd h6⟩
theorem Hd.wide {w : World} {lo hi lo' hi' b : Nat} {n : Nd} {pl en : Nat} {v : Value} (h : Hd w lo hi b n pl en v) (h1 : lo' ≤ lo) (h2 : hi ≤ hi') : Hd w lo' hi' b n pl en v :=
  ⟨Nat.le_trans h1 h.1, Nat.lt_of_lt_of_le h.2.1 h2, h.2.2⟩
theorem TrAt.wide {w : World} {lo hi lo' hi' : Nat} (h1 : lo' ≤ lo) (h2 : hi ≤ hi') : ∀ (T : Tr) (b : Nat), TrAt w lo hi T b → TrAt w lo' hi' T b
  | .t0 n pl en, b, h => Hd.wide h h1 h2
  | .t1 n pl en c, b, ⟨g, cap, bc, k1, k2, k3, k4⟩ => ⟨g, cap, bc, k1.wide h1 h2, ⟨Nat.le_trans h1 k2.1, Nat.lt_of_lt_of_le k2.2 h2⟩, k3, TrAt.wide h1 h2 c bc k4⟩
  | .t2 n pl en c d, b, ⟨g, cap, bc, bd, k1, k2, k3, k4, k5, k6⟩ => ⟨g, cap, bc, bd, k1.wide h1 h2, ⟨Nat.le_trans h1 k2.1, Nat.lt_of_lt_of_le k2.2 h2⟩, k3, k4, TrAt.wide h1 h2 c bc k5, TrAt.wide h1 h2 d bd k6⟩
theorem TrAt.below {w w' : World} {lo hi : Nat} {T : Tr} {b : Nat} (h : TrAt w lo hi T b) (hh : hi ≤ w.heap.size) (hb : Below w.heap.size w w') : TrAt w' lo hi T b :=
  TrAt.keep (fun _ _ hp => hb.cell (Nat.lt_of_lt_of_le hp hh)) T b h
theorem TrAt.head {w : World} {lo hi : Nat} {T : Tr} {b : Nat} (h : TrAt w lo hi T b) : ∃ v, Hd w lo hi b T.nd T.pl T.en v := by
  cases T with
  | t0 n pl en => exact ⟨_, h⟩
  | t1 n pl en c => obtain ⟨g, cap, bc, h1, _⟩ := h; exact ⟨_, h1⟩
  | t2 n pl en c d => obtain ⟨g, cap, bc, bd, h1, _⟩ := h; exact ⟨_, h1⟩
theorem TrAt.lt {w : World} {lo hi : Nat} {T : Tr} {b : Nat} (h : TrAt w lo hi T b) : lo ≤ b ∧ b < hi := by
  obtain ⟨v, h1, h2, _⟩ := h.head; exact ⟨h1, h2⟩

/-- What growing answers. -/
def GrowPost (w : World) : Option Tr → Ending → World → Prop
  | none, e, w' => e = .returned (.pointer none) ∧ Below w.heap.size w w'
  | some T, e, w' => ∃ b, e = .returned (.pointer (some ⟨b, 0, none⟩)) ∧ TrAt w' w.heap.size w'.heap.size T b ∧ Below w.heap.size w w'

theorem kindV_iface {n : Nd} (h : nodeB n = true) (a : Option Addr) (c : Nat) : ∃ t v, kindV n a c = .iface t v := by
  have := kind_of_nodeB h
  have hc : n.kind = 0 ∨ n.kind = 1 ∨ n.kind = 2 ∨ n.kind = 3 ∨ n.kind = 4 ∨ n.kind = 5 ∨ n.kind = 6 ∨ n.kind = 7 := by omega
  unfold kindV
  rcases hc with h | h | h | h | h | h | h | h <;> rw [h] <;> exact ⟨_, _, rfl⟩
end Go.Proofs.YtfpbhedophlnkaaGreatDoor
