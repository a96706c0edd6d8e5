/-
  Contract of impl.NodeOk: it answers whether the node is one. For every node.
-/
import Derived.Test.YtfpbhedophlnkaaDoorINodeA
import Derived.Test.YtfpbhedophlnkaaDoorINodeB
import Derived.Test.YtfpbhedophlnkaaDoorINodeC
import Derived.Test.YtfpbhedophlnkaaDoorINodeD
namespace Go.Proofs.YtfpbhedophlnkaaDoor
open Go.RowKit
set_option linter.unusedSimpArgs false
set_option linter.unusedVariables false

theorem nodeB_out {k : Int} (hk : k < 0 ∨ 7 < k) (name : ByteArray) (col op num : Int) (slot : Bool) (cols : List Int) : nodeB ⟨k, name, col, op, num, slot, cols⟩ = false := by
  simp only [nodeB]
  rw [if_neg (by omega), if_neg (by omega), if_neg (by omega), if_neg (by omega), if_neg (by omega), if_neg (by omega), if_neg (by omega), if_neg (by omega)]
theorem kindV_out {k : Int} (hk : k < 0 ∨ 7 < k) (name : ByteArray) (col op num : Int) (slot : Bool) (cols : List Int) (a : Option Addr) (c : Nat) : kindV ⟨k, name, col, op, num, slot, cols⟩ a c = .nilIface := by
  simp only [kindV]
  rw [if_neg (by omega), if_neg (by omega), if_neg (by omega), if_neg (by omega), if_neg (by omega), if_neg (by omega), if_neg (by omega), if_neg (by omega)]
theorem implNodeOkOut (k : Int) (hk : k < 0 ∨ 7 < k) (name : ByteArray) (col op num : Int) (slot : Bool) (cols : List Int) (a : Option Addr) (c : Nat) (w : World) :
    Calls Tryd.prog 25 #[.agg #[.int .i64 k, .string name, .int .i64 col, .int .i64 op, .int .i64 num, .bool slot, .slice a cols.length c]] w fun e w' => e = .returned (.bool false) ∧ Below w.heap.size w w' := by
  have HK := Lib.hid (kindOf_any ⟨k, name, col, op, num, slot, cols⟩ a c)
  have KV := Lib.hid (kindV_out hk name col op num slot cols a c)
  clear hk
  go_enter Tryd.func25, Tryd.ntmps25
  go_wp2_with fail
  refine (HK.out _).mono ?_
  rintro e w1 ⟨rfl, b1⟩
  rw [KV.out]
  have B1 := Lib.hid (((Below.refl _ w).alloc (Nat.le_refl _) _).trans (b1.mono (by simp)))
  clear b1
  go_wp2_with fail
  first | go_region_with (fail) | fail
  all_goals
    go_wp2
    go_ret
    exact ⟨rfl, B1.out.drew⟩

theorem implNodeOk_any (n : Nd) (a : Option Addr) (c : Nat) (w : World) (h : Rd w .i64 a n.cols) (hm : n.cols.length ≤ 17592186044416) (hs : n.name.size ≤ maxLen) :
    Calls Tryd.prog 25 #[.agg #[.int .i64 n.kind, .string n.name, .int .i64 n.col, .int .i64 n.op, .int .i64 n.num, .bool n.slot, .slice a n.cols.length c]] w fun e w' => e = .returned (.bool (nodeB n)) ∧ Below w.heap.size w w' := by
  have hl : n.cols.length ≤ maxLen := by unfold maxLen; omega
  obtain ⟨k, name, col, op, num, slot, cols⟩ := n
  rcases kind_ways k with rfl | rfl | rfl | rfl | rfl | rfl | rfl | rfl | hk
  · rw [nodeB_0]; cases hfit : (wordB name.data.toList) with
    | true => rw [Bool.true_and]; exact implNodeOk0t name col op num slot cols a c w hfit h hl hm hs
    | false => rw [Bool.false_and]; exact implNodeOk0f name col op num slot cols a c w hfit h hl hm hs
  · rw [nodeB_1]; cases hfit : (fitF col op num slot) with
    | true => rw [Bool.true_and]; exact implNodeOk1t name col op num slot cols a c w hfit h hl hm hs
    | false => rw [Bool.false_and]; exact implNodeOk1f name col op num slot cols a c w hfit h hl hm hs
  · rw [nodeB_2]; cases hfit : (fitK cols) with
    | true => rw [Bool.true_and]; exact implNodeOk2t name col op num slot cols a c w hfit h hl hm hs
    | false => rw [Bool.false_and]; exact implNodeOk2f name col op num slot cols a c w hfit h hl hm hs
  · rw [nodeB_3]; cases hfit : (colB col && colB num) with
    | true => rw [Bool.true_and]; exact implNodeOk3t name col op num slot cols a c w hfit h hl hm hs
    | false => rw [Bool.false_and]; exact implNodeOk3f name col op num slot cols a c w hfit h hl hm hs
  · rw [nodeB_4, Bool.true_and]; exact implNodeOk4t name col op num slot cols a c w h hl hm hs
  · rw [nodeB_5]; cases hfit : (colB col) with
    | true => rw [Bool.true_and]; exact implNodeOk5t name col op num slot cols a c w hfit h hl hm hs
    | false => rw [Bool.false_and]; exact implNodeOk5f name col op num slot cols a c w hfit h hl hm hs
  · rw [nodeB_6]; cases hfit : (fitL num slot) with
    | true => rw [Bool.true_and]; exact implNodeOk6t name col op num slot cols a c w hfit h hl hm hs
    | false => rw [Bool.false_and]; exact implNodeOk6f name col op num slot cols a c w hfit h hl hm hs
  · rw [nodeB_7, Bool.true_and]; exact implNodeOk7t name col op num slot cols a c w h hl hm hs
  · rw [nodeB_out hk]; exact implNodeOkOut k hk name col op num slot cols a c w
end Go.Proofs.YtfpbhedophlnkaaDoor
