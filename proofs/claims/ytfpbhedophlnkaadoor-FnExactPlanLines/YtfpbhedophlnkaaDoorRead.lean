/-
  Words for slices of nodes in memory: what a node's seven cells read as, what a slice of nodes reads as, what of it the call itself owns. No program, no walk.
-/
import Derived.Test.YtfpbhedophlnkaaDoorMem
import Derived.Test.YtfpbhedophlnkaaDoorNodes
namespace Go.Proofs.YtfpbhedophlnkaaDoor
open Go.RowKit
set_option linter.unusedSimpArgs false
set_option linter.unusedVariables false

/-- The seven cells at place o of block b read as the node n, its columns behind the address a. -/
structure NdAt (w : World) (b o : Nat) (n : Nd) (a : Option Addr) (c : Nat) : Prop where
  c0 : w.cell? ⟨b, o, none⟩ = some (.int .i64 n.kind)
  c1 : w.cell? ⟨b, o + 1, none⟩ = some (.string n.name)
  c2 : w.cell? ⟨b, o + 2, none⟩ = some (.int .i64 n.col)
  c3 : w.cell? ⟨b, o + 3, none⟩ = some (.int .i64 n.op)
  c4 : w.cell? ⟨b, o + 4, none⟩ = some (.int .i64 n.num)
  c5 : w.cell? ⟨b, o + 5, none⟩ = some (.bool n.slot)
  c6 : w.cell? ⟨b, o + 6, none⟩ = some (.slice a n.cols.length c)
  rd : Rd w .i64 a n.cols
  cap : n.cols.length ≤ c
  mx : c ≤ maxLen
  nm : n.name.size ≤ maxLen

/-- The slice that begins at 'ao' reads as the nodes l. -/
def RdN (w : World) (ao : Option Addr) (l : List Nd) : Prop :=
  l = [] ∨ ∃ b off, ao = some ⟨b, off, none⟩ ∧ ∀ i n, l[i]? = some n → ∃ a c, NdAt w b (off + i * 7) n a c

section
variable {w w' : World} {b o : Nat} {n : Nd} {a ao : Option Addr} {c : Nat} {l : List Nd}

theorem NdAt.lt (h : NdAt w b o n a c) : b < w.heap.size := World.block_lt_of_cell? w ⟨b, o, none⟩ h.c0
theorem NdAt.below (h : NdAt w b o n a c) (hb : Below w.heap.size w w') : NdAt w' b o n a c :=
  ⟨(hb.cell (p := ⟨b, o, none⟩) h.lt).trans h.c0, (hb.cell (p := ⟨b, o + 1, none⟩) h.lt).trans h.c1, (hb.cell (p := ⟨b, o + 2, none⟩) h.lt).trans h.c2, (hb.cell (p := ⟨b, o + 3, none⟩) h.lt).trans h.c3,
   (hb.cell (p := ⟨b, o + 4, none⟩) h.lt).trans h.c4, (hb.cell (p := ⟨b, o + 5, none⟩) h.lt).trans h.c5, (hb.cell (p := ⟨b, o + 6, none⟩) h.lt).trans h.c6, h.rd.below hb, h.cap, h.mx, h.nm⟩
theorem RdN.nil : RdN w ao [] := .inl rfl
theorem RdN.below (h : RdN w ao l) (hb : Below w.heap.size w w') : RdN w' ao l := by
  rcases h with h | ⟨b, off, rfl, hc⟩
  · exact .inl h
  · refine .inr ⟨b, off, rfl, fun i n hi => ?_⟩
    obtain ⟨a, c, hn⟩ := hc i n hi
    exact ⟨a, c, hn.below hb⟩
theorem RdN.at_ (h : RdN w ao l) {i : Nat} (hi : i < l.length) : ∃ b off n a c, ao = some ⟨b, off, none⟩ ∧ l[i]? = some n ∧ NdAt w b (off + i * 7) n a c := by
  rcases h with rfl | ⟨b, off, rfl, hc⟩
  · simp at hi
  · obtain ⟨a, c, hn⟩ := hc i _ (List.getElem?_eq_getElem hi)
    exact ⟨b, off, _, a, c, rfl, List.getElem?_eq_getElem hi, hn⟩
/-- A part of a slice of nodes. -/
theorem RdN.part {b off : Nat} (h : RdN w (some ⟨b, off, none⟩) l) (k m : Nat) : RdN w (some ⟨b, off + k * 7, none⟩) ((l.drop k).take m) := by
  rcases h with rfl | ⟨b', off', he, hc⟩
  · left; simp
  · simp only [Option.some.injEq, Addr.mk.injEq, and_true] at he
    obtain ⟨rfl, rfl⟩ := he
    refine .inr ⟨b, _, rfl, fun i n hi => ?_⟩
    rw [List.getElem?_take] at hi
    split at hi
    · rw [List.getElem?_drop] at hi
      obtain ⟨a, c, hn⟩ := hc _ _ hi
      refine ⟨a, c, ?_⟩
      rw [show off + k * 7 + i * 7 = off + (k + i) * 7 by omega]
      exact hn
    · cases hi
end
end Go.Proofs.YtfpbhedophlnkaaDoor
