/-
  Contracts of the helpers over nodes: szIntS, szNode, toNode, eqNode. For every node.
-/
import Derived.Test.YtfpbhedophlnkaaGreatDoorRead
import Derived.Test.YtfpbhedophlnkaaGreatDoorIntS
namespace Go.Proofs.YtfpbhedophlnkaaGreatDoor
open Go.RowKit
set_option linter.unusedSimpArgs false
set_option linter.unusedVariables false

theorem Own.far {w : World} {base : Nat} {e : TypeId} {k : IntKind} {ao : Option Addr} {c : Nat} {l : List Int} {p : Addr} (h : Own w base e k ao c l) (hp : ∀ x, ao = some x → x.block ≠ p.block) (u : Value) :
    Own (w.setCell p u) base e k ao c l := h.keep fun a ha _ => Below.heap_setCell w p u a.block (hp a ha)
theorem bcell {W w1 : World} (hb : Below W.heap.size W w1) :
    (∀ b o, b < W.heap.size → w1.cell? ⟨b, o, none⟩ = W.cell? ⟨b, o, none⟩) ∧ (∀ b o, b < W.heap.size → w1.frozen? ⟨b, o, none⟩ = W.frozen? ⟨b, o, none⟩) :=
  ⟨fun b o h => hb.cell (p := ⟨b, o, none⟩) h, fun b o h => hb.frozen (p := ⟨b, o, none⟩) h⟩

/-- What is left behind a node. -/
def szN (n : Nd) (left : Int) : Int :=
  if left < (n.name.size : Int) then -1 else if left - (n.name.size : Int) < (n.cols.length : Int) then -1 else left - n.name.size - n.cols.length

/-- The call returned the node n, its columns in memory of its own. -/
def MadeNd (w : World) (n : Nd) (en : Ending) (w' : World) : Prop :=
  ∃ a c, en = .returned (.agg #[.int .i64 n.kind, .string n.name, .int .i64 n.col, .int .i64 n.op, .int .i64 n.num, .bool n.slot, .slice a n.cols.length c]) ∧ Own w' w.heap.size 3 .i64 a c n.cols ∧ Below w.heap.size w w'

end Go.Proofs.YtfpbhedophlnkaaGreatDoor
