/-
  The program's reader where other blocks turn: what stays. No walk.
-/
import Derived.Test.YtcegekkhlfpgfaaDoorRdr
namespace Go.Proofs.YtcegekkhlfpgfaaDoor
open Go.RowKit
set_option linter.unusedSimpArgs false
set_option linter.unusedVariables false

theorem gcell {W w1 : World} {R : Nat} (hg : W.grownBy w1 (some R)) {X : Nat} (hX : X < W.heap.size) (hne : X ≠ R) :
    (∀ o, w1.cell? ⟨X, o, none⟩ = W.cell? ⟨X, o, none⟩) ∧ (∀ o, w1.frozen? ⟨X, o, none⟩ = W.frozen? ⟨X, o, none⟩) :=
  have hb := hg.block X hX (by simp; exact hne)
  ⟨fun o => World.cell?_of_block (a := ⟨X, o, none⟩) hb, fun o => World.frozen?_of_block (a := ⟨X, o, none⟩) hb⟩
theorem grownBy_belowB {a b c : World} {row : Option Nat} (h : a.grownBy b row) (k : Below a.heap.size b c) : a.grownBy c row :=
  ⟨k.os.trans h.os, k.tape.trans h.tape, k.output.trans h.output, Nat.le_trans h.size k.size, fun i hi hne => (k.block i hi).trans (h.block i hi hne)⟩
theorem below_grownBy {a b c : World} {row : Option Nat} (h : Below a.heap.size a b) (k : b.grownBy c row) : a.grownBy c row :=
  ⟨k.os.trans h.os, k.tape.trans h.tape, k.output.trans h.output, Nat.le_trans h.size k.size, fun i hi hne => (k.block i (Nat.lt_of_lt_of_le hi h.size) hne).trans (h.block i hi)⟩
theorem Rdr.lt {w : World} {R d : Nat} {b : Option Addr} {l : List Int} {s : Option Int} (h : Rdr w R b d l s) : R < w.heap.size := by
  obtain ⟨p, er, hh, _⟩ := h; exact lt_of_block hh
theorem Rdr.bytes {w : World} {R d : Nat} {b : Option Addr} {l : List Int} {s : Option Int} (h : Rdr w R b d l s) : ∀ a, b = some a → l ≠ [] → a.block < w.heap.size := by
  obtain ⟨p, er, hh, hp, he, hr, hby, hd, hne⟩ := h
  intro a ha hl
  rcases hr with rfl | ⟨b1, off, rfl, hc⟩
  · exact absurd rfl hl
  · cases ha
    have hpos : 0 < l.length := Nat.pos_of_ne_zero (fun e => hl (List.eq_nil_of_length_eq_zero e))
    exact World.block_lt_of_cell? w ⟨b1, off + 0, none⟩ (hc 0 hpos)
theorem Rdr.belowB {w1 w' : World} {B R d : Nat} {b : Option Addr} {l : List Int} {s : Option Int} (h : Rdr w1 R b d l s) (hR : R < B) (hbB : ∀ a, b = some a → l ≠ [] → a.block < B) (hb : Below B w1 w') : Rdr w' R b d l s := by
  obtain ⟨p, er, hh, hp, he, hr, hby, hd, hne⟩ := h
  refine ⟨p, er, (hb.block R hR).trans hh, hp, he, ?_, hby, hd, hne⟩
  rcases hr with rfl | ⟨b1, off, rfl, hc⟩
  · exact .inl rfl
  · by_cases hl : l = []
    · exact .inl hl
    · exact .inr ⟨b1, off, rfl, fun i hi => (hb.cell (p := ⟨b1, off + i, none⟩) (hbB ⟨b1, off, none⟩ rfl hl)).trans (hc i hi)⟩
end Go.Proofs.YtcegekkhlfpgfaaDoor
