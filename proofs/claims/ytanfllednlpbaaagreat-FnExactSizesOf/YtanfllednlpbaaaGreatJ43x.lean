/-
  Contract of rowsOver at a keep. For every keep and every child. Contract of rowsOver at a limit. For every limit and every child. Contract of rowsOver at a join. For every join and every two children. Contract of rowsOver at a both. For every two children. Contract of rowsOver at a sort. For every sort and every child. A map of names to values in memory, whatever the values are. No walk. Contract of rowsOver at a scan. For every scan of a table that is there.
-/
import Derived.Test.YtanfllednlpbaaaGreatJ37x
import Derived.Test.YtanfllednlpbaaaGreatJ41x
import Derived.Test.YtanfllednlpbaaaGreatJ28x
import Derived.Test.YtanfllednlpbaaaGreatJ11x
import Derived.Test.YtanfllednlpbaaaGreatJ27x
import Derived.Test.YtanfllednlpbaaaGreatJ6x
import Derived.Test.YtanfllednlpbaaaGreatMapT
namespace Go.Proofs.YtanfllednlpbaaaGreat
open Go.RowKit
set_option linter.unusedSimpArgs false
set_option linter.unusedVariables false

set_option maxRecDepth 100000 in
set_option maxHeartbeats 3200000 in
theorem overKeep_any (z : Nat → Prop) (n : Nd) (hk : n.kind = 2) (a : Option Addr) (c : Nat) (mm : Option Nat) (sa : Option Addr) (sl sc : Nat) (gb cb : Nat) (v : Value) (l : RowsL) (w : World) (hzw : ∀ k, z k → k < w.heap.size) (hv : w.cell? ⟨gb, 0, none⟩ = some v) (K : KidAt z w v l) (hl : l.length ≤ 1048576) (hcols : Rd w .i64 a n.cols) (hlen : n.cols.length ≤ 1048576) (hfit : ∀ r ∈ l, ∀ cc ∈ n.cols, 0 ≤ cc ∧ cc < (r.length : Int)) :
    Calls Tryz.prog 122 #[.agg #[.map mm, .slice sa sl sc], kindV n a c, .slice (some ⟨gb, 0, none⟩) 1 cb] w (OverPost z w (keepL n l)) := by
  rw [show kindV n a c = .iface 156 (.agg #[.slice a n.cols.length c]) by unfold kindV; simp [hk]]
  have A0 := Tryz.as_keepNode_filterNode
  have A1 := Tryz.as_keepNode_keepNode
  have hgb : gb < w.heap.size := World.block_lt_of_cell? w ⟨gb, 0, none⟩ hv
  have KK := Lib.hid K
  obtain ⟨Bs, aa, ac, rfl, -, -, -⟩ := K
  have CH := Lib.hid (fun (m : Nat) W => keptO_any 106 #[.pointer (some ⟨Bs, 0, none⟩)] a m c W)
  have HF := Lib.hid hfit
  have HC := Lib.hid hcols
  have HL := Lib.hid hlen
  obtain ⟨nl, hnl⟩ : ∃ nl, n.cols.length = nl := ⟨_, rfl⟩
  rw [hnl]
  have HN := Lib.hid hnl
  clear hfit hk hcols hlen hnl
  go_enter Tryz.func122, Tryz.ntmps122
  go_wp2_with fail
  obtain ⟨w0, hw0⟩ : ∃ w0, (w.alloc (.cells #[.map mm, .slice sa sl sc] 116)).alloc (.cells #[.slice a nl c] 156) = w0 := ⟨_, rfl⟩
  have b0 : Below w.heap.size w w0 := by rw [← hw0]; exact ((Below.refl _ w).alloc (Nat.le_refl _) _).alloc (by simp) _
  have d1 : w0.cell? ⟨w.heap.size + 1, 0, none⟩ = some (.slice a nl c) := by rw [← hw0]; simp [go_sem]
  have d2 := (b0.cell (p := ⟨gb, 0, none⟩) hgb).trans hv
  have B0 := Lib.hid (b0.trans (Below.refl _ _).drew)
  rw [hw0]
  clear hw0 b0
  go_region_with (go_at_call 142; refine (CH.out _ _).mono ?_; rintro e w2 ⟨rfl, rfl⟩)
  all_goals (
    go_wp2_with fail
    go_ret
    show OverPost z w (keepL n l) (.returned (.func (.func 161) #[] #[.pointer (some ⟨w0.drew.heap.size, 0, none⟩), .pointer (some ⟨w0.drew.heap.size + 1, 0, none⟩)])) ((w0.drew.alloc (.cells #[.func (.func 106) #[] #[.pointer (some ⟨Bs, 0, none⟩)]] 82)).alloc (.cells #[.slice a nl c] 34))
    have B1 := B0.out
    generalize w0.drew = u0 at B1 ⊢
    have c1 : ((u0.alloc (.cells #[.func (.func 106) #[] #[.pointer (some ⟨Bs, 0, none⟩)]] 82)).alloc (.cells #[.slice a nl c] 34)).cell? ⟨u0.heap.size, 0, none⟩ = some (.func (.func 106) #[] #[.pointer (some ⟨Bs, 0, none⟩)]) := by simp [go_sem]
    have c2 : ((u0.alloc (.cells #[.func (.func 106) #[] #[.pointer (some ⟨Bs, 0, none⟩)]] 82)).alloc (.cells #[.slice a nl c] 34)).cell? ⟨u0.heap.size + 1, 0, none⟩ = some (.slice a nl c) := by simp [go_sem]
    have B : Below w.heap.size w ((u0.alloc (.cells #[.func (.func 106) #[] #[.pointer (some ⟨Bs, 0, none⟩)]] 82)).alloc (.cells #[.slice a nl c] 34)) := (B1.alloc B1.size _).alloc (by have := B1.size; simp; omega) _
    generalize ((u0.alloc (.cells #[.func (.func 106) #[] #[.pointer (some ⟨Bs, 0, none⟩)]] 82)).alloc (.cells #[.slice a nl c] 34)) = w1 at c1 c2 B ⊢
    obtain ⟨lb, zs, hlb, hz, hP, hseq⟩ := (KK.out.below B).seq hl
    cases hlb
    refine ⟨_, _, rfl, B, enters_of Tryz.func161 (by kernel_rfl) rfl, ?_⟩
    have hz' : keepL n l = (rowsE zs).map (keepR n.cols) := by rw [hz]; rfl
    rw [hz']
    rw [← HN.out] at c2
    exact newEl (keptOf_sep Fence.wide 5 trivial rfl rfl (by omega) _ _ trivial enters_values zs _ _ a c n.cols w1 (Below.refl _ _) (hseq 4 (by omega)) c1 c2 (HC.out.below B) HL.out (fun x hx cc hcc => HF.out x.1.r (by rw [← hz]; exact List.mem_map.2 ⟨x, hx, rfl⟩) cc hcc)) (fun k hk => Nat.lt_of_lt_of_le (hzw k hk) B.size))
end Go.Proofs.YtanfllednlpbaaaGreat
namespace Go.Proofs.YtanfllednlpbaaaGreat
open Go.RowKit
set_option linter.unusedSimpArgs false
set_option linter.unusedVariables false

set_option maxRecDepth 100000 in
set_option maxHeartbeats 3200000 in
theorem overLimit_any (z : Nat → Prop) (n : Nd) (hk : n.kind = 6) (a : Option Addr) (c : Nat) (mm : Option Nat) (sa : Option Addr) (sl sc : Nat) (gb cb : Nat) (v : Value) (l : RowsL) (w : World) (hzw : ∀ k, z k → k < w.heap.size) (hv : w.cell? ⟨gb, 0, none⟩ = some v) (K : KidAt z w v l) (hl : l.length ≤ 1048576) (h0 : 0 ≤ n.num) :
    Calls Tryz.prog 122 #[.agg #[.map mm, .slice sa sl sc], kindV n a c, .slice (some ⟨gb, 0, none⟩) 1 cb] w (OverPost z w (l.take n.num.toNat)) := by
  rw [show kindV n a c = .iface 178 (.agg #[.int .i64 n.num, .bool n.slot]) by unfold kindV; simp [hk]]
  have A0 := Tryz.as_limitNode_filterNode
  have A1 := Tryz.as_limitNode_keepNode
  have A2 := Tryz.as_limitNode_joinNode
  have A3 := Tryz.as_limitNode_bothNode
  have A4 := Tryz.as_limitNode_sortNode
  have A5 := Tryz.as_limitNode_limitNode
  have hgb : gb < w.heap.size := World.block_lt_of_cell? w ⟨gb, 0, none⟩ hv
  have KK := Lib.hid K
  obtain ⟨Bs, aa, ac, rfl, -, -, -⟩ := K
  obtain ⟨k, hkn⟩ : ∃ k : Nat, n.num = (k : Int) := ⟨_, (Int.toNat_of_nonneg h0).symm⟩
  rw [hkn, Int.toNat_natCast]
  have CH := Lib.hid (fun W => firstO_any 106 #[.pointer (some ⟨Bs, 0, none⟩)] (k : Int) W)
  generalize n.slot = sl'
  clear hk h0 hkn
  go_enter Tryz.func122, Tryz.ntmps122
  go_wp2_with fail
  obtain ⟨w0, hw0⟩ : ∃ w0, (w.alloc (.cells #[.map mm, .slice sa sl sc] 116)).alloc (.cells #[.int .i64 (k : Int), .bool sl'] 178) = w0 := ⟨_, rfl⟩
  have b0 : Below w.heap.size w w0 := by rw [← hw0]; exact ((Below.refl _ w).alloc (Nat.le_refl _) _).alloc (by simp) _
  have d1 : w0.cell? ⟨w.heap.size + 1, 0, none⟩ = some (.int .i64 (k : Int)) := by rw [← hw0]; simp [go_sem]
  have d2 := (b0.cell (p := ⟨gb, 0, none⟩) hgb).trans hv
  have B0 := Lib.hid (b0.trans (Below.refl _ _).drew)
  rw [hw0]
  clear hw0 b0
  go_region_with (go_at_call 146; refine (CH.out _).mono ?_; rintro e w2 ⟨rfl, rfl⟩)
  all_goals (
    go_wp2_with fail
    go_ret
    show OverPost z w (l.take k) (.returned (.func (.func 165) #[] #[.pointer (some ⟨w0.drew.heap.size, 0, none⟩), .pointer (some ⟨w0.drew.heap.size + 1, 0, none⟩)])) ((w0.drew.alloc (.cells #[.func (.func 106) #[] #[.pointer (some ⟨Bs, 0, none⟩)]] 82)).alloc (.cells #[.int .i64 (k : Int)] 3))
    have B1 := B0.out
    generalize w0.drew = u0 at B1 ⊢
    have c1 : ((u0.alloc (.cells #[.func (.func 106) #[] #[.pointer (some ⟨Bs, 0, none⟩)]] 82)).alloc (.cells #[.int .i64 (k : Int)] 3)).cell? ⟨u0.heap.size, 0, none⟩ = some (.func (.func 106) #[] #[.pointer (some ⟨Bs, 0, none⟩)]) := by simp [go_sem]
    have c2 : ((u0.alloc (.cells #[.func (.func 106) #[] #[.pointer (some ⟨Bs, 0, none⟩)]] 82)).alloc (.cells #[.int .i64 (k : Int)] 3)).cell? ⟨u0.heap.size + 1, 0, none⟩ = some (.int .i64 (k : Int)) := by simp [go_sem]
    have B : Below w.heap.size w ((u0.alloc (.cells #[.func (.func 106) #[] #[.pointer (some ⟨Bs, 0, none⟩)]] 82)).alloc (.cells #[.int .i64 (k : Int)] 3)) := (B1.alloc B1.size _).alloc (by have := B1.size; simp; omega) _
    generalize ((u0.alloc (.cells #[.func (.func 106) #[] #[.pointer (some ⟨Bs, 0, none⟩)]] 82)).alloc (.cells #[.int .i64 (k : Int)] 3)) = w1 at c1 c2 B ⊢
    obtain ⟨lb, zs, hlb, hz, hP, hseq⟩ := (KK.out.below B).seq hl
    cases hlb
    refine ⟨_, _, rfl, B, enters_of Tryz.func165 (by kernel_rfl) rfl, ?_⟩
    have hz' : l.take k = rowsE (zs.take k) := by rw [← hz]; unfold rowsE; rw [List.map_take]
    rw [hz']
    exact toEl (firstOf_sep Fence.wide 5 trivial rfl rfl (by omega) _ _ trivial enters_values zs _ _ k w1 (hseq 4 (by omega)) c1 c2 (by rw [← rowsE_len, hz]; exact hl)) (Below.refl _ _) (fun x hx => hP x (List.mem_of_mem_take hx)))
end Go.Proofs.YtanfllednlpbaaaGreat
namespace Go.Proofs.YtanfllednlpbaaaGreat
open Go.RowKit
set_option linter.unusedSimpArgs false
set_option linter.unusedVariables false

theorem concat_in (m : Nat) (X : World) (bv b0 o0 c0 b1 o1 c1 : Nat) (l0 l1 : List Int) (h0 : ∀ i, i < l0.length → X.cell? ⟨b0, o0 + i, none⟩ = some (.int .i64 (l0.getD i 0))) (h1 : ∀ i, i < l1.length → X.cell? ⟨b1, o1 + i, none⟩ = some (.int .i64 (l1.getD i 0)))
    (v0 : X.cell? ⟨bv, 0, none⟩ = some (.slice (some ⟨b0, o0, none⟩) l0.length c0)) (v1 : X.cell? ⟨bv, 1, none⟩ = some (.slice (some ⟨b1, o1, none⟩) l1.length c1)) (k0 : 0 < l0.length) (k1 : 0 < l1.length) (k2 : l0.length ≤ 1048576) (k3 : l1.length ≤ 1048576) :
    CallsIn Fence.wide m Tryz.prog 163 #[.slice (some ⟨bv, 0, none⟩) 2 2] X (CatI X (l0 ++ l1)) :=
  callsIn_wide.2 (concatI_any bv b0 o0 c0 b1 o1 c1 l0 l1 X h0 h1 v0 v1 k0 k1 k2 k3)
theorem join_end {z : Nat → Prop} {n : Nd} {Bs Bs' cl cr : Nat} {l m : RowsL} {w u0 : World} (hzw : ∀ k, z k → k < w.heap.size) (B1 : Below w.heap.size w u0) (K : KidAt z w (.func (.func 106) #[] #[.pointer (some ⟨Bs, 0, none⟩)]) l) (K' : KidAt z w (.func (.func 106) #[] #[.pointer (some ⟨Bs', 0, none⟩)]) m) (hl : l.length ≤ 1048576) (hm : m.length ≤ 1048576)
    (hcl : n.col = (cl : Int)) (hcr : n.num = (cr : Int)) (hf : ∀ r ∈ l, n.col < (r.length : Int) ∧ r.length ≤ 1048576) (hf' : ∀ r ∈ m, n.num < (r.length : Int) ∧ r.length ≤ 1048576) :
    OverPost z w (joinL n l m) (.returned (.func (.func 162) #[] #[.pointer (some ⟨u0.heap.size, 0, none⟩), .pointer (some ⟨u0.heap.size + 1, 0, none⟩), .pointer (some ⟨u0.heap.size + 1 + 1, 0, none⟩), .pointer (some ⟨u0.heap.size + 1 + 1 + 1, 0, none⟩)])) ((((u0.alloc (.cells #[.func (.func 106) #[] #[.pointer (some ⟨Bs, 0, none⟩)]] 82)).alloc (.cells #[.func (.func 106) #[] #[.pointer (some ⟨Bs', 0, none⟩)]] 82)).alloc (.cells #[.int .i64 (cl : Int)] 3)).alloc (.cells #[.int .i64 (cr : Int)] 3)) := by
  obtain ⟨w1, hw1⟩ : ∃ w1, ((((u0.alloc (.cells #[.func (.func 106) #[] #[.pointer (some ⟨Bs, 0, none⟩)]] 82)).alloc (.cells #[.func (.func 106) #[] #[.pointer (some ⟨Bs', 0, none⟩)]] 82)).alloc (.cells #[.int .i64 (cl : Int)] 3)).alloc (.cells #[.int .i64 (cr : Int)] 3)) = w1 := ⟨_, rfl⟩
  have c1 : w1.cell? ⟨u0.heap.size, 0, none⟩ = some (.func (.func 106) #[] #[.pointer (some ⟨Bs, 0, none⟩)]) := by rw [← hw1]; simp [go_sem]
  have c2 : w1.cell? ⟨u0.heap.size + 1, 0, none⟩ = some (.func (.func 106) #[] #[.pointer (some ⟨Bs', 0, none⟩)]) := by rw [← hw1]; simp [go_sem]
  have c3 : w1.cell? ⟨u0.heap.size + 1 + 1, 0, none⟩ = some (.int .i64 (cl : Int)) := by rw [← hw1]; simp [go_sem]
  have c4 : w1.cell? ⟨u0.heap.size + 1 + 1 + 1, 0, none⟩ = some (.int .i64 (cr : Int)) := by rw [← hw1]; simp [go_sem]
  have B : Below w.heap.size w w1 := by
    have h := B1.size
    rw [← hw1]; exact (((B1.alloc h _).alloc (by simp; omega) _).alloc (by simp; omega) _).alloc (by simp; omega) _
  rw [hw1]
  obtain ⟨lb, zs, hlb, hz, hP, hseq⟩ := (K.below B).seq hl
  obtain ⟨lb', ys, hlb', hy, hP', hseq'⟩ := (K'.below B).seq hm
  cases hlb
  cases hlb'
  refine ⟨_, _, rfl, B, enters_of Tryz.func162 (by kernel_rfl) rfl, ?_⟩
  rw [← hz, ← hy]
  refine newEl (joinedOn_sep Fence.wide 5 trivial trivial rfl rfl (by omega) _ _ _ _ trivial enters_values trivial enters_values zs ys _ _ _ _ n cl cr hcl hcr w1 (Below.refl _ _) (hseq 4 (by omega)) (hseq' 2 (by omega)) c1 c2 c3 c4
    (fun x hx => by have := hf x.1.r (by rw [← hz]; exact List.mem_map.2 ⟨x, hx, rfl⟩); omega) (fun x hx => by have := hf' x.1.r (by rw [← hy]; exact List.mem_map.2 ⟨x, hx, rfl⟩); omega) concat_in) (fun k hk => Nat.lt_of_lt_of_le (hzw k hk) B.size)
set_option maxRecDepth 100000 in
set_option maxHeartbeats 6400000 in
theorem overJoin_any (z : Nat → Prop) (n : Nd) (hk : n.kind = 3) (a : Option Addr) (c : Nat) (mm : Option Nat) (sa : Option Addr) (sl sc : Nat) (gb cb : Nat) (v v' : Value) (l m : RowsL) (w : World) (hzw : ∀ k, z k → k < w.heap.size) (hv : w.cell? ⟨gb, 0, none⟩ = some v) (hv' : w.cell? ⟨gb, 1, none⟩ = some v') (K : KidAt z w v l) (K' : KidAt z w v' m) (hl : l.length ≤ 1048576) (hm : m.length ≤ 1048576) (h0 : 0 ≤ n.col) (h1 : 0 ≤ n.num) (hfit : ∀ r ∈ l, n.col < (r.length : Int) ∧ r.length ≤ 1048576) (hfit' : ∀ r ∈ m, n.num < (r.length : Int) ∧ r.length ≤ 1048576) :
    Calls Tryz.prog 122 #[.agg #[.map mm, .slice sa sl sc], kindV n a c, .slice (some ⟨gb, 0, none⟩) 2 cb] w (OverPost z w (joinL n l m)) := by
  rw [show kindV n a c = .iface 158 (.agg #[.int .i64 n.col, .int .i64 n.num]) by unfold kindV; simp [hk]]
  have A0 := Tryz.as_joinNode_filterNode
  have A1 := Tryz.as_joinNode_keepNode
  have A2 := Tryz.as_joinNode_joinNode
  have hgb : gb < w.heap.size := World.block_lt_of_cell? w ⟨gb, 0, none⟩ hv
  have KK := Lib.hid K
  have KK' := Lib.hid K'
  obtain ⟨Bs, aa, ac, rfl, -, -, -⟩ := K
  obtain ⟨Bs', aa', ac', rfl, -, -, -⟩ := K'
  obtain ⟨cl, hcl⟩ : ∃ k : Nat, n.col = (k : Int) := ⟨_, (Int.toNat_of_nonneg h0).symm⟩
  obtain ⟨cr, hcr⟩ : ∃ k : Nat, n.num = (k : Int) := ⟨_, (Int.toNat_of_nonneg h1).symm⟩
  rw [hcl, hcr]
  have CH := Lib.hid (fun W => joinO_any 106 106 #[.pointer (some ⟨Bs, 0, none⟩)] #[.pointer (some ⟨Bs', 0, none⟩)] (cl : Int) (cr : Int) W)
  have HF := Lib.hid hfit
  have HF' := Lib.hid hfit'
  have HCL := Lib.hid hcl
  have HCR := Lib.hid hcr
  clear hk h0 h1 hfit hfit' hcl hcr
  go_enter Tryz.func122, Tryz.ntmps122
  go_wp2_with fail
  obtain ⟨w0, hw0⟩ : ∃ w0, (w.alloc (.cells #[.map mm, .slice sa sl sc] 116)).alloc (.cells #[.int .i64 (cl : Int), .int .i64 (cr : Int)] 158) = w0 := ⟨_, rfl⟩
  have b0 : Below w.heap.size w w0 := by rw [← hw0]; exact ((Below.refl _ w).alloc (Nat.le_refl _) _).alloc (by simp) _
  have d1 : w0.cell? ⟨w.heap.size + 1, 0, none⟩ = some (.int .i64 (cl : Int)) := by rw [← hw0]; simp [go_sem]
  have d2 : w0.cell? ⟨w.heap.size + 1, 1, none⟩ = some (.int .i64 (cr : Int)) := by rw [← hw0]; simp [go_sem]
  have d3 := (b0.cell (p := ⟨gb, 0, none⟩) hgb).trans hv
  have d4 := (b0.cell (p := ⟨gb, 1, none⟩) hgb).trans hv'
  have B0 := Lib.hid (b0.trans (Below.refl _ _).drew)
  rw [hw0]
  clear hw0 b0
  go_region_with (go_at_call 143; refine (CH.out _).mono ?_; rintro e w2 ⟨rfl, rfl⟩)
  all_goals (
    go_wp2_with fail
    go_ret
    show OverPost z w (joinL n l m) (.returned (.func (.func 162) #[] #[.pointer (some ⟨w0.drew.heap.size, 0, none⟩), .pointer (some ⟨w0.drew.heap.size + 1, 0, none⟩), .pointer (some ⟨w0.drew.heap.size + 1 + 1, 0, none⟩), .pointer (some ⟨w0.drew.heap.size + 1 + 1 + 1, 0, none⟩)])) ((((w0.drew.alloc (.cells #[.func (.func 106) #[] #[.pointer (some ⟨Bs, 0, none⟩)]] 82)).alloc (.cells #[.func (.func 106) #[] #[.pointer (some ⟨Bs', 0, none⟩)]] 82)).alloc (.cells #[.int .i64 (cl : Int)] 3)).alloc (.cells #[.int .i64 (cr : Int)] 3))
    exact join_end hzw B0.out KK.out KK'.out hl hm HCL.out HCR.out HF.out HF'.out)
end Go.Proofs.YtanfllednlpbaaaGreat
namespace Go.Proofs.YtanfllednlpbaaaGreat
open Go.RowKit
set_option linter.unusedSimpArgs false
set_option linter.unusedVariables false

set_option maxRecDepth 100000 in
set_option maxHeartbeats 3200000 in
theorem overBoth_any (z : Nat → Prop) (n : Nd) (hk : n.kind = 4) (a : Option Addr) (c : Nat) (mm : Option Nat) (sa : Option Addr) (sl sc : Nat) (gb cb : Nat) (v v' : Value) (l m : RowsL) (w : World) (hzw : ∀ k, z k → k < w.heap.size) (hv : w.cell? ⟨gb, 0, none⟩ = some v) (hv' : w.cell? ⟨gb, 1, none⟩ = some v') (K : KidAt z w v l) (K' : KidAt z w v' m) (hl : l.length ≤ 1048576) (hm : m.length ≤ 1048576) :
    Calls Tryz.prog 122 #[.agg #[.map mm, .slice sa sl sc], kindV n a c, .slice (some ⟨gb, 0, none⟩) 2 cb] w (OverPost z w (l ++ m)) := by
  rw [show kindV n a c = .iface 160 (.agg #[]) by unfold kindV; simp [hk]]
  have A0 := Tryz.as_bothNode_filterNode
  have A1 := Tryz.as_bothNode_keepNode
  have A2 := Tryz.as_bothNode_joinNode
  have A3 := Tryz.as_bothNode_bothNode
  have hgb : gb < w.heap.size := World.block_lt_of_cell? w ⟨gb, 0, none⟩ hv
  have CH := Lib.hid (fun W => bothO_any (some ⟨gb, 0, none⟩) 2 cb W)
  have KK := Lib.hid K
  have KK' := Lib.hid K'
  have HV := Lib.hid hv
  have HV' := Lib.hid hv'
  clear hk K K' hv hv'
  go_enter Tryz.func122, Tryz.ntmps122
  go_wp2_with (go_at_call 144; refine (CH.out _).mono ?_; rintro e w2 ⟨rfl, rfl⟩)
  go_ret
  show OverPost z w (l ++ m) (.returned (.func (.func 164) #[] #[.pointer (some ⟨w.heap.size + 1 + 1, 0, none⟩)])) _
  obtain ⟨w1, hw1⟩ : ∃ w1, (((w.alloc (.cells #[.map mm, .slice sa sl sc] 116)).alloc (.cells #[] 160)).alloc (.cells #[.slice (some ⟨gb, 0, none⟩) 2 cb] 145)) = w1 := ⟨_, rfl⟩
  have B : Below w.heap.size w w1 := by rw [← hw1]; exact (((Below.refl _ w).alloc (Nat.le_refl _) _).alloc (by simp) _).alloc (by simp; omega) _
  have c1 : w1.cell? ⟨w.heap.size + 1 + 1, 0, none⟩ = some (.slice (some ⟨gb, 0, none⟩) 2 cb) := by rw [← hw1]; simp [go_sem]
  rw [hw1]
  obtain ⟨lb, zs, rfl, hz, hP, hseq⟩ := (KK.out.below B).seq hl
  obtain ⟨lb', ys, rfl, hy, hP', hseq'⟩ := (KK'.out.below B).seq hm
  have c2 := (B.cell (p := ⟨gb, 0, none⟩) hgb).trans HV.out
  have c3 := (B.cell (p := ⟨gb, 1, none⟩) hgb).trans HV'.out
  refine ⟨_, _, rfl, B, enters_of Tryz.func164 (by kernel_rfl) rfl, ?_⟩
  rw [← hz, ← hy, show rowsE zs ++ rowsE ys = rowsE (zs ++ ys) by simp [rowsE]]
  exact toEl (both_sep Fence.wide 5 trivial rfl rfl (by omega) _ _ _ _ trivial enters_values trivial enters_values zs ys _ gb 0 cb w1 (hseq 4 (by omega)) (hseq' 4 (by omega)) c1 c2 c3) (Below.refl _ _) (fun x hx => (List.mem_append.1 hx).elim (hP x) (hP' x))
end Go.Proofs.YtanfllednlpbaaaGreat
namespace Go.Proofs.YtanfllednlpbaaaGreat
open Go.RowKit
set_option linter.unusedSimpArgs false
set_option linter.unusedVariables false

theorem sort_els {n : Nd} {w : World} {zs : List (Els w)} {l : RowsL} (h : rowsE zs = l) : rowsE (sortL (fun x y : Els w => lessC n.col x.1.r y.1.r) zs) = sortL (lessC n.col) l := by
  subst h
  exact sortL_map (fun x : Els w => x.1.r) (lessC n.col) zs
set_option maxRecDepth 100000 in
set_option maxHeartbeats 3200000 in
theorem overSort_any (z : Nat → Prop) (n : Nd) (hk : n.kind = 5) (a : Option Addr) (c : Nat) (mm : Option Nat) (sa : Option Addr) (sl sc : Nat) (gb cb : Nat) (v : Value) (l : RowsL) (w : World) (hzw : ∀ k, z k → k < w.heap.size) (hv : w.cell? ⟨gb, 0, none⟩ = some v) (K : KidAt z w v l) (hl : l.length ≤ 1048576) (h0 : 0 ≤ n.col) (hfit : ∀ r ∈ l, n.col < (r.length : Int)) :
    Calls Tryz.prog 122 #[.agg #[.map mm, .slice sa sl sc], kindV n a c, .slice (some ⟨gb, 0, none⟩) 1 cb] w (OverPost z w (sortL (lessC n.col) l)) := by
  rw [show kindV n a c = .iface 162 (.agg #[.int .i64 n.col]) by unfold kindV; simp [hk]]
  have A0 := Tryz.as_sortNode_filterNode
  have A1 := Tryz.as_sortNode_keepNode
  have A2 := Tryz.as_sortNode_joinNode
  have A3 := Tryz.as_sortNode_bothNode
  have A4 := Tryz.as_sortNode_sortNode
  have hgb : gb < w.heap.size := World.block_lt_of_cell? w ⟨gb, 0, none⟩ hv
  obtain ⟨Bs, aa, ac, rfl, hbz, hkb, hkr⟩ := K
  obtain ⟨zs, hz, hL, hPz⟩ := hkr.els ac
  have hzl : zs.length = l.length := by rw [← hz, rowsE_len]
  have hbs : Bs < w.heap.size := World.block_lt_of_cell? w ⟨Bs, 0, none⟩ hkb
  obtain ⟨w1, hw1⟩ : ∃ w1, (w.alloc (.cells #[.map mm, .slice sa sl sc] 116)).alloc (.cells #[.int .i64 n.col] 162) = w1 := ⟨_, rfl⟩
  have b1 : Below w.heap.size w w1 := by rw [← hw1]; exact ((Below.refl _ w).alloc (Nat.le_refl _) _).alloc (by simp) _
  have k0 : w1.cell? ⟨w.heap.size + 1, 0, none⟩ = some (.int .i64 n.col) := by rw [← hw1]; simp [go_sem]
  have lt1 := World.block_lt_of_cell? w1 _ k0
  have SRT : Aside _ := sortedR_any (wb := w) (fun x y => lessC n.col x.1.r y.1.r) (wkOf (wkC n.col) fun x : Els w => x.1.r) 145 #[.pointer (some ⟨w.heap.size + 1, 0, none⟩)] (enters_of Tryz.func145 (by kernel_rfl) rfl) 106 w.heap.size #[.pointer (some ⟨Bs, 0, none⟩)] enters_values zs (fun pre => pre <+: zs) (by omega) w1 b1.size
    (fun W hW => valuesR_stops Fence.wide 2 trivial rfl (by omega) Bs w.heap.size (.slice aa l.length ac) zs (by omega) W (by have := hW.size; have := b1.size; omega) (by have := hW.size; have := b1.size; omega) (((b1.trans (hW.mono b1.size)).cell (p := ⟨Bs, 0, none⟩) hbs).trans hkb) (hL.below (b1.trans (hW.mono b1.size))))
    (fun W hW x hx y hy => by
      have hbW := b1.trans (hW.mono b1.size)
      exact over2_less n.col x.1.a y.1.a x.1.r y.1.r x.1.c y.1.c (w.heap.size + 1) W (x.2.1.below hbW) (y.2.1.below hbW) h0 (hfit _ (by rw [← hz]; exact List.mem_map.2 ⟨x, hx, rfl⟩)) (hfit _ (by rw [← hz]; exact List.mem_map.2 ⟨y, hy, rfl⟩)) ((hW.cell (p := ⟨w.heap.size + 1, 0, none⟩) lt1).trans k0))
  have B1 := Lib.hid b1
  have HZ := Lib.hid hz
  have HZL := Lib.hid hzl
  have HP := Lib.hid hPz
  have VAL := Lib.hid (fun a m cap W => callsIn_wide.1 (valuesR_in Fence.wide 1 trivial rfl a m cap W))
  have hv1 := (b1.cell (p := ⟨gb, 0, none⟩) hgb).trans hv
  have hsz1 : w1.heap.size = w.heap.size + 1 + 1 := by rw [← hw1]; simp
  clear hz hPz hzl b1 hkb hkr hL hfit hk
  go_enter Tryz.func122, Tryz.ntmps122
  go_wp2_with fail
  refine Calls.mono SRT.out ?_
  rintro e w2 ⟨v, rfl, h3, _, h4⟩
  have B2 := Lib.hid (below_step B1.out (Nat.le_refl _) h4)
  have EQ := Lib.hid (sort_els (n := n) HZ.out)
  obtain ⟨ao, m, cc, rfl⟩ : ∃ ao n cc, v = .slice ao n cc := by
    rcases h3.2 with ⟨rfl, _⟩ | ⟨g, cap, cur, rfl, _⟩
    · exact ⟨_, _, _, rfl⟩
    · exact ⟨_, _, _, rfl⟩
  have hm : m = zs.length := by
    rcases h3.2 with ⟨e, h⟩ | ⟨g, cap, cur, e, _⟩
    · simp only [Value.slice.injEq] at e; omega
    · simp only [Value.slice.injEq] at e; exact e.2.1
  have RD : Hid (RdX z w2 ao (sortL (lessC n.col) l)) := by
    rw [← EQ.out]
    rw [← hm] at h3
    have h3' : w2.ownsRow w1.heap.size 34 1 (.slice ao m cc) m (((sortL (fun x y : Els w => lessC n.col x.1.r y.1.r) zs).map fun x => x.1).map El.val) := by rw [List.map_map]; exact h3
    have h := owns_rdX (z := z) h3' (fun e he => by obtain ⟨x, _, rfl⟩ := List.mem_map.1 he; exact x.2.below B2.out) (fun k hk => by have := hzw k hk; have := B1.out.size; omega) (fun e he => by
      obtain ⟨x, hx, rfl⟩ := List.mem_map.1 he
      exact HP.out x (((sortL_asc (wkOf (wkC n.col) fun x : Els w => x.1.r) zs).2.mem (wkOf (wkC n.col) fun x : Els w => x.1.r) hx)))
    rw [rowsV_els] at h
    exact h
  have hm2 : m = (sortL (lessC n.col) l).length := by rw [hm, sortL_len, HZL.out]
  have hsl : (sortL (lessC n.col) l).length ≤ 1048576 := by rw [sortL_len]; exact hl
  clear h3 h4 SRT hm
  subst hm2
  go_wp2_with (go_at_call 57; refine (VAL.out _ _ _ _).mono ?_; rintro e w3 ⟨rfl, rfl⟩)
  go_ret
  have B3 := B2.out.alloc B2.out.size (.cells #[.slice ao (sortL (lessC n.col) l).length cc] 29)
  have hk3 : KidAt z (w2.alloc (.cells #[.slice ao (sortL (lessC n.col) l).length cc] 29)) (.func (.func 106) #[] #[.pointer (some ⟨w2.heap.size, 0, none⟩)]) (sortL (lessC n.col) l) :=
    ⟨_, ao, cc, rfl, fun h => by have := hzw _ h; have := B2.out.size; omega, by simp, RD.out.below ((Below.refl _ _).alloc (Nat.le_refl _) _)⟩
  obtain ⟨lb, ys, hlb, hy, hP, hseq⟩ := hk3.seq hsl
  refine ⟨_, _, rfl, B3, enters_values, ?_⟩
  cases hlb
  have h := toEl (hseq 5 (by omega)) (Below.refl _ _) hP
  rw [hy] at h
  exact h
end Go.Proofs.YtanfllednlpbaaaGreat
namespace Go.Proofs.YtanfllednlpbaaaGreat
open Go.RowKit Go.Maps
set_option linter.unusedSimpArgs false
set_option linter.unusedVariables false

abbrev DV := DataW Value
/-- A value reads as itself. -/
def valR (v : Value) : Option (DV × List MemPlace) := some (.held v, [])
abbrev FnV := Key → Option Value
def FnVD (D : DV) (f : FnV) : Prop := IsMap D ∧ ∀ k v, f k = some v → ∀ z, D.atKey (.string k) z = .held v
def updV (f : FnV) (k : Key) (v : Value) : FnV := fun x => if x = k then some v else f x
theorem FnVD.empty : FnVD (.map []) (fun _ => none) := ⟨isMap_empty, fun k v h => by cases h⟩
theorem FnVD.put {D : DV} {f : FnV} (h : FnVD D f) (k : Key) (v : Value) : FnVD (D.put (.string k) (.held v)) (updV f k v) := by
  refine ⟨h.1.put _ _, fun x u hu z => ?_⟩
  unfold updV at hu
  by_cases e : x = k
  · subst e
    rw [if_pos rfl] at hu
    injection hu with hu; subst hu
    exact atKey_put_same (k := .string x) h.1 trivial _ _
  · rw [if_neg e] at hu
    have hne : (Lit.string x) ≠ .string k := fun h => e (by injection h)
    exact (atKey_put_other hne _ _).trans (h.2 x u hu z)
/-- The map in block b, with at most n entries. -/
def OwnMV (w : World) (b n : Nat) (f : FnV) : Prop := ∃ D : DV, w.ownsMap Tryz.prog 9 valR b n D ∧ FnVD D f
theorem OwnMV.lt {w : World} {b n : Nat} {f : FnV} (h : OwnMV w b n f) : b < w.heap.size := by obtain ⟨D, h1, _⟩ := h; exact h1.lt
theorem OwnMV.same {w w' : World} {b n : Nat} {f : FnV} (h : OwnMV w b n f) (hb : w'.heap[b]? = w.heap[b]?) : OwnMV w' b n f := by
  obtain ⟨D, ⟨es, clock, h1, h2⟩, h3⟩ := h
  exact ⟨D, ⟨es, clock, hb.trans h1, h2⟩, h3⟩
theorem OwnMV.below {w w' : World} {b n : Nat} {f : FnV} (h : OwnMV w b n f) (hb : Below w.heap.size w w') : OwnMV w' b n f := h.same (hb.block b h.lt)
theorem zeroRows (w : World) : (zeroValue 29).run Tryz.prog w = .ok (.slice none 0 0) w := by kernel_rfl
theorem OwnMV.look {w : World} {b n : Nat} {f : FnV} (h : OwnMV w b n f) {name : ByteArray} (hn : name.size ≤ maxLen) {v : Value} (hv : f name.data.toList = some v) : (Instr.lookup 114 (.map (some b)) (.string name) false).run Tryz.prog w = .ok v w := by
  obtain ⟨D, h1, h2⟩ := h
  obtain ⟨u, ps, hrun, hr⟩ := h1.lookup (t := 114) (e := 29) Tryz.keyed Tryz.underlying114 (zeroRows w) (zd := .held (.slice none 0 0)) (zp := []) rfl (WideMaps.keyOf_string_mk Tryz.underlying9 hn)
  rw [h2.2 _ v hv] at hr
  unfold valR at hr
  simp only [Option.some.injEq, Prod.mk.injEq, DataW.held.injEq] at hr
  rw [hr.1] at hrun
  exact hrun
end Go.Proofs.YtanfllednlpbaaaGreat
namespace Go.Proofs.YtanfllednlpbaaaGreat
open Go.RowKit
set_option linter.unusedSimpArgs false
set_option linter.unusedVariables false

set_option maxRecDepth 100000 in
set_option maxHeartbeats 3200000 in
theorem overScan_any (z : Nat → Prop) (n : Nd) (hk : n.kind = 0) (a : Option Addr) (c : Nat) (bm nm : Nat) (f : FnV) (sa : Option Addr) (sl sc : Nat) (ra : Option Addr) (rc : Nat) (l : RowsL) (w : World) (hzw : ∀ k, z k → k < w.heap.size) (hm : OwnMV w bm nm f) (hn : n.name.size ≤ maxLen) (hf : f n.name.data.toList = some (.slice ra l.length rc)) (hr : RdX z w ra l) (hl : l.length ≤ 1048576) :
    Calls Tryz.prog 122 #[.agg #[.map (some bm), .slice sa sl sc], kindV n a c, .slice none 0 0] w (OverPost z w l) := by
  rw [show kindV n a c = .iface 164 (.agg #[.string n.name]) by unfold kindV; rw [if_pos hk]]
  have A0 := Tryz.as_scanNode_filterNode
  have A1 := Tryz.as_scanNode_keepNode
  have A2 := Tryz.as_scanNode_joinNode
  have A3 := Tryz.as_scanNode_bothNode
  have A4 := Tryz.as_scanNode_sortNode
  have A5 := Tryz.as_scanNode_limitNode
  have A6 := Tryz.as_scanNode_onceNode
  have A7 := Tryz.as_scanNode_scanNode
  have hlk := (hm.below (((Below.refl _ w).alloc (Nat.le_refl _) (.cells #[.map (some bm), .slice sa sl sc] 116)).alloc (by simp) (.cells #[.string n.name] 164))).look hn hf
  have VAL := Lib.hid (fun a m cap W => callsIn_wide.1 (valuesR_in Fence.wide 1 trivial rfl a m cap W))
  have HR := Lib.hid hr
  clear hk hm hn hf hr
  generalize n.name = name at hlk ⊢
  obtain ⟨m, hml⟩ : ∃ m, l.length = m := ⟨_, rfl⟩
  rw [hml] at hlk hl
  have HM := Lib.hid hml
  clear hml
  go_enter Tryz.func122, Tryz.ntmps122
  go_wp2_with (go_at_call 57; refine (VAL.out _ _ _ _).mono ?_; rintro e w3 ⟨rfl, rfl⟩)
  go_ret
  obtain rfl := HM.out
  have B3 : Below w.heap.size w (((w.alloc (.cells #[.map (some bm), .slice sa sl sc] 116)).alloc (.cells #[.string name] 164)).alloc (.cells #[.slice ra l.length rc] 29)) := (((Below.refl _ w).alloc (Nat.le_refl _) _).alloc (by simp) _).alloc (by simp; omega) _
  have hk3 : KidAt z (((w.alloc (.cells #[.map (some bm), .slice sa sl sc] 116)).alloc (.cells #[.string name] 164)).alloc (.cells #[.slice ra l.length rc] 29)) (.func (.func 106) #[] #[.pointer (some ⟨w.heap.size + 1 + 1, 0, none⟩)]) l :=
    ⟨_, ra, rc, rfl, fun h => by have := hzw _ h; omega, by simp [go_sem], HR.out.below B3⟩
  obtain ⟨lb, ys, hlb, hy, hP, hseq⟩ := hk3.seq hl
  refine ⟨_, _, rfl, B3, enters_values, ?_⟩
  cases hlb
  have h := toEl (hseq 5 (by omega)) (Below.refl _ _) hP
  rw [hy] at h
  exact h
end Go.Proofs.YtanfllednlpbaaaGreat
