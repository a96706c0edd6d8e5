/-
  Contract of spec.TakeNode: what its theorems share. For every slice of bytes and every place.
-/
import Derived.Test.YtcegekkhlfpgfaaDoorSRdr
import Derived.Test.YtcegekkhlfpgfaaDoorNodes
import Derived.Test.YtcegekkhlfpgfaaDoorSNode
namespace Go.Proofs.YtcegekkhlfpgfaaDoor
open Go.RowKit
set_option linter.unusedSimpArgs false
set_option linter.unusedVariables false

/-- The call answered a node, its columns in memory of its own, beside a place. -/
def TookNm (r : Nd × Int) (w : World) (e : Ending) (w' : World) : Prop :=
  ∃ a c, e = .returned (.tuple #[.agg #[.int .i64 r.1.kind, .string r.1.name, .int .i64 r.1.col, .int .i64 r.1.op, .int .i64 r.1.num, .bool r.1.slot, .slice a r.1.cols.length c], .int .i64 r.2]) ∧ Own w' w.heap.size 3 .i64 a c r.1.cols ∧ Below w.heap.size w w'
theorem gcell {W w1 : World} {R : Nat} (hg : W.grownBy w1 (some R)) {X : Nat} (hX : X < W.heap.size) (hne : X ≠ R) :
    (∀ o, w1.cell? ⟨X, o, none⟩ = W.cell? ⟨X, o, none⟩) ∧ (∀ o, w1.frozen? ⟨X, o, none⟩ = W.frozen? ⟨X, o, none⟩) :=
  have hb := hg.block X hX (by simp; exact hne)
  ⟨fun o => World.cell?_of_block (a := ⟨X, o, none⟩) hb, fun o => World.frozen?_of_block (a := ⟨X, o, none⟩) hb⟩
theorem rd_lt {w : World} {b : Option Addr} {l : List Int} (h : Rd w .u8 b l) : ∀ a, b = some a → l ≠ [] → a.block < w.heap.size := by
  intro a ha hl
  rcases h with rfl | ⟨b1, off, rfl, hc⟩
  · exact absurd rfl hl
  · cases ha
    have hpos : 0 < l.length := Nat.pos_of_ne_zero (fun e => hl (List.eq_nil_of_length_eq_zero e))
    exact World.block_lt_of_cell? w ⟨b1, off + 0, none⟩ (hc 0 hpos)
def WS (w : World) (b : Option Addr) (n d : Nat) (at_ : Int) : World := (w.alloc (.cells #[.int .i64 0, .string ⟨#[]⟩, .int .i64 0, .int .i64 0, .int .i64 0, .bool false, .slice none 0 0] 25)).alloc (.cells #[.slice b n d, .int .i64 at_, .bool false] 54)
theorem WS_below (w : World) (b : Option Addr) (n d : Nat) (at_ : Int) : Below w.heap.size w (WS w b n d at_) := ((Below.refl _ w).alloc (Nat.le_refl _) _).alloc (by simp) _
theorem srd_new {w : World} {b : Option Addr} {d : Nat} {l : List Int} {at_ : Int} (h : Rd w .u8 b l) (hby : By l) (hl : l.length ≤ maxLen) (ha : at_ ≤ 9223372036854775807) : Srd (WS w b l.length d at_) (w.heap.size + 1) b d l (some at_) := by
  refine ⟨at_, false, ?_, ha, .inl ⟨rfl, rfl⟩, h.below (WS_below w b l.length d at_), hby, hl, fun a hb hl' => by have := rd_lt h a hb hl'; omega⟩
  have := heap_alloc_new (w.alloc (.cells #[.int .i64 0, .string ⟨#[]⟩, .int .i64 0, .int .i64 0, .int .i64 0, .bool false, .slice none 0 0] 25)) (.cells #[.slice b l.length d, .int .i64 at_, .bool false] 54)
  simpa [WS] using this
theorem ws_zero (w : World) (b : Option Addr) (n d : Nat) (at_ : Int) (o : Nat) (v : Value) (h : (#[.int .i64 0, .string ⟨#[]⟩, .int .i64 0, .int .i64 0, .int .i64 0, .bool false, .slice none 0 0] : Array Value)[o]? = some v) : (WS w b n d at_).cell? ⟨w.heap.size, o, none⟩ = some v := by
  have h1 := cell_of_row (w.alloc (.cells #[.int .i64 0, .string ⟨#[]⟩, .int .i64 0, .int .i64 0, .int .i64 0, .bool false, .slice none 0 0] 25)) w.heap.size o _ _ _ (heap_alloc_new w _)
  exact ((Below.alloc (Below.refl _ _) (Nat.le_refl _) _).cell (p := ⟨w.heap.size, o, none⟩) (by simp)).trans (h1.trans h)
theorem below_ws {w w1 : World} {b : Option Addr} {n d : Nat} {at_ : Int} (h : ((w.alloc (.cells #[.int .i64 0, .string ⟨#[]⟩, .int .i64 0, .int .i64 0, .int .i64 0, .bool false, .slice none 0 0] 25)).alloc (.cells #[.slice b n d, .int .i64 at_, .bool false] 54)).grownBy w1 (some (w.heap.size + 1))) : Below w.heap.size w w1 :=
  (WS_below w b n d at_).grown h (WS_below w b n d at_).size (by intro g hg; cases hg; omega)
end Go.Proofs.YtcegekkhlfpgfaaDoor
