/-
  Contracts of chosen, keptOf, joinedOn, oneBehindOther, firstOf, eachOnce: the function each hands back; and of what a filter takes, and a sort's order. Contract of rowsOver at a filter. For every filter and every child. Contract of rowsOver at a keep. For every keep and every child. Contract of rowsOver at a limit. For every limit and every child. Contract of rowsOver at a once. For every child. Contract of rowsOver at a join. For every join and every two children.
-/
import Derived.Test.YtanfllednlpbaaaGreatM25x
import Derived.Test.YtanfllednlpbaaaGreatM17x
import Derived.BigQuiet
import Derived.Deep.RegionWith
import Derived.Test.YtanfllednlpbaaaGreatM33x
import Derived.Test.YtanfllednlpbaaaGreatM24x
import Derived.Test.YtanfllednlpbaaaGreatM4x
import Derived.Test.YtanfllednlpbaaaGreatM5x
namespace Go.Proofs.YtanfllednlpbaaaGreat
open Go.RowKit
set_option linter.unusedSimpArgs false
set_option linter.unusedVariables false
theorem chosenO_any (g k : Nat) (lb lk : Array Value) (w : World) : Calls Tryz.prog 139 #[.func (.func g) #[] lb, .func (.func k) #[] lk] w fun e w' =>
    e = .returned (.func (.func 160) #[] #[.pointer (some ⟨w.heap.size, 0, none⟩), .pointer (some ⟨w.heap.size + 1, 0, none⟩)]) ∧ w' = (w.alloc (.cells #[.func (.func g) #[] lb] 82)).alloc (.cells #[.func (.func k) #[] lk] 134) := by
  go_enter Tryz.func139, Tryz.ntmps139
  go_wp2
  go_ret
  exact ⟨rfl, rfl⟩
theorem keptO_any (g : Nat) (lb : Array Value) (a : Option Addr) (m c : Nat) (w : World) : Calls Tryz.prog 142 #[.func (.func g) #[] lb, .slice a m c] w fun e w' =>
    e = .returned (.func (.func 161) #[] #[.pointer (some ⟨w.heap.size, 0, none⟩), .pointer (some ⟨w.heap.size + 1, 0, none⟩)]) ∧ w' = (w.alloc (.cells #[.func (.func g) #[] lb] 82)).alloc (.cells #[.slice a m c] 34) := by
  go_enter Tryz.func142, Tryz.ntmps142
  go_wp2
  go_ret
  exact ⟨rfl, rfl⟩
theorem joinO_any (g k : Nat) (lb lk : Array Value) (x y : Int) (w : World) : Calls Tryz.prog 143 #[.func (.func g) #[] lb, .func (.func k) #[] lk, .int .i64 x, .int .i64 y] w fun e w' =>
    e = .returned (.func (.func 162) #[] #[.pointer (some ⟨w.heap.size, 0, none⟩), .pointer (some ⟨w.heap.size + 1, 0, none⟩), .pointer (some ⟨w.heap.size + 1 + 1, 0, none⟩), .pointer (some ⟨w.heap.size + 1 + 1 + 1, 0, none⟩)]) ∧
      w' = (((w.alloc (.cells #[.func (.func g) #[] lb] 82)).alloc (.cells #[.func (.func k) #[] lk] 82)).alloc (.cells #[.int .i64 x] 3)).alloc (.cells #[.int .i64 y] 3) := by
  go_enter Tryz.func143, Tryz.ntmps143
  go_wp2
  go_ret
  exact ⟨rfl, rfl⟩
theorem bothO_any (a : Option Addr) (m c : Nat) (w : World) : Calls Tryz.prog 144 #[.slice a m c] w fun e w' =>
    e = .returned (.func (.func 164) #[] #[.pointer (some ⟨w.heap.size, 0, none⟩)]) ∧ w' = w.alloc (.cells #[.slice a m c] 145) := by
  go_enter Tryz.func144, Tryz.ntmps144
  go_wp2
  go_ret
  exact ⟨rfl, rfl⟩
theorem firstO_any (g : Nat) (lb : Array Value) (x : Int) (w : World) : Calls Tryz.prog 146 #[.func (.func g) #[] lb, .int .i64 x] w fun e w' =>
    e = .returned (.func (.func 165) #[] #[.pointer (some ⟨w.heap.size, 0, none⟩), .pointer (some ⟨w.heap.size + 1, 0, none⟩)]) ∧ w' = (w.alloc (.cells #[.func (.func g) #[] lb] 82)).alloc (.cells #[.int .i64 x] 3) := by
  go_enter Tryz.func146, Tryz.ntmps146
  go_wp2
  go_ret
  exact ⟨rfl, rfl⟩
theorem onceO_any (g : Nat) (lb : Array Value) (w : World) : Calls Tryz.prog 147 #[.func (.func g) #[] lb] w fun e w' =>
    e = .returned (.func (.func 166) #[] #[.pointer (some ⟨w.heap.size, 0, none⟩)]) ∧ w' = w.alloc (.cells #[.func (.func g) #[] lb] 82) := by
  go_enter Tryz.func147, Tryz.ntmps147
  go_wp2
  go_ret
  exact ⟨rfl, rfl⟩
set_option maxRecDepth 100000 in
set_option maxHeartbeats 1600000 in
theorem takes_any (n : Nd) (ho : n.op = 0 ∨ n.op = 1 ∨ n.op = 2 ∨ n.op = 3) (v : Int) (w : World) : Calls Tryz.prog 141 #[.agg #[.int .i64 n.col, .int .i64 n.op, .int .i64 n.num, .bool n.slot], .int .i64 v] w fun e w' =>
    e = .returned (.bool (holdV n v)) ∧ Below w.heap.size w w' := by
  obtain ⟨r, hr⟩ : ∃ r, holdV n v = r := ⟨_, rfl⟩
  rw [hr]
  have HR := Lib.hid hr
  clear hr
  have B0 := Lib.hid ((Below.refl w.heap.size w).alloc (Nat.le_refl _) (.cells #[.int .i64 n.col, .int .i64 n.op, .int .i64 n.num, .bool n.slot] 153))
  by_cases hv : v = -2000000
  · subst hv
    rcases ho with h | h | h | h <;> rw [h] at B0 ⊢ <;> (
      have E : r = decide (n.op = 3) := by rw [← HR.out]; unfold holdV; rw [if_pos rfl]
      rw [h] at E
      subst E
      go_enter Tryz.func141, Tryz.ntmps141
      go_wp2
      go_ret
      exact ⟨rfl, B0.out⟩)
  · rcases ho with h | h | h | h
    · have E : r = decide (v = n.num) := by rw [← HR.out]; unfold holdV; rw [if_neg hv, if_pos h]
      rw [h] at B0 ⊢
      go_enter Tryz.func141, Tryz.ntmps141
      go_wp2
      go_ret
      exact ⟨ret_bool (by subst E; first | rfl | simp), B0.out⟩
    · have E : r = decide (v < n.num) := by rw [← HR.out]; unfold holdV; rw [if_neg hv, if_neg (by omega), if_pos h]
      rw [h] at B0 ⊢
      go_enter Tryz.func141, Tryz.ntmps141
      go_wp2
      go_ret
      exact ⟨ret_bool (by rw [E]), B0.out⟩
    · have E : r = decide (n.num < v) := by rw [← HR.out]; unfold holdV; rw [if_neg hv, if_neg (by omega), if_neg (by omega), if_pos h]
      rw [h] at B0 ⊢
      go_enter Tryz.func141, Tryz.ntmps141
      go_wp2
      go_ret
      exact ⟨ret_bool (by rw [E]), B0.out⟩
    · have E : r = false := by rw [← HR.out]; unfold holdV; rw [if_neg hv, if_neg (by omega), if_neg (by omega), if_neg (by omega)]
      rw [h] at B0 ⊢
      subst E
      go_enter Tryz.func141, Tryz.ntmps141
      go_wp2
      go_ret
      exact ⟨rfl, B0.out⟩
theorem cellV_nat {r : List Int} {c : Int} (h0 : 0 ≤ c) (h1 : c < (r.length : Int)) : ∃ k : Nat, c = (k : Int) ∧ k < r.length ∧ cellV r c = r.getD k 0 :=
  ⟨c.toNat, (Int.toNat_of_nonneg h0).symm, by omega, by unfold cellV; rw [List.getD_eq_getElem?_getD]⟩
set_option maxRecDepth 100000 in
set_option maxHeartbeats 3200000 in
theorem over1_takes (n : Nd) (ho : n.op = 0 ∨ n.op = 1 ∨ n.op = 2 ∨ n.op = 3) (xa : Option Addr) (xr : List Int) (xc Bk : Nat) (w : World) (hx : Rd w .i64 xa xr) (h0 : 0 ≤ n.col) (h1 : n.col < (xr.length : Int))
    (k0 : w.cell? ⟨Bk, 0, none⟩ = some (.int .i64 n.col)) (k1 : w.cell? ⟨Bk, 1, none⟩ = some (.int .i64 n.op)) (k2 : w.cell? ⟨Bk, 2, none⟩ = some (.int .i64 n.num)) (k3 : w.cell? ⟨Bk, 3, none⟩ = some (.bool n.slot)) :
    Calls Tryz.prog 140 #[.slice xa xr.length xc, .pointer (some ⟨Bk, 0, none⟩)] w fun e w' => e = .returned (.bool (holdV n (cellV xr n.col))) ∧ Below w.heap.size w w' := by
  obtain ⟨k, hk, hk1, hk2⟩ := cellV_nat h0 h1
  rcases hx with h | ⟨b, off, rfl, hc⟩
  · rw [h] at hk1; cases hk1
  · have c0 := hc k hk1
    rw [← hk2] at c0
    have TK := Lib.hid (fun W => takes_any n ho (cellV xr n.col) W)
    generalize cellV xr n.col = v at c0 TK ⊢
    generalize holdV n v = r at TK ⊢
    clear hc hk2
    rw [hk] at k0 TK
    generalize hop : n.op = op at k1 TK
    generalize hnum : n.num = num at k2 TK
    generalize hsl : n.slot = sl at k3 TK
    generalize hxl : xr.length = xl at hk1 ⊢
    have B0 := Lib.hid ((Below.refl w.heap.size w).drew)
    clear h0 h1 hk hop hnum hsl ho
    go_enter Tryz.func140, Tryz.ntmps140
    go_wp2_with fail
    go_region_with (go_at_call 141; refine (TK.out _).mono ?_; rintro e w1 ⟨rfl, b1⟩; have B1 := Lib.hid (below_step B0.out (Nat.le_refl _) b1); clear b1)
    all_goals (go_wp2_with fail; go_ret; exact ⟨rfl, B1.out⟩)
set_option maxRecDepth 100000 in
set_option maxHeartbeats 3200000 in
theorem over2_less (col : Int) (xa ya : Option Addr) (xr yr : List Int) (xc yc Bk : Nat) (w : World) (hx : Rd w .i64 xa xr) (hy : Rd w .i64 ya yr) (h0 : 0 ≤ col) (h1 : col < (xr.length : Int)) (h2 : col < (yr.length : Int))
    (k0 : w.cell? ⟨Bk, 0, none⟩ = some (.int .i64 col)) :
    Calls Tryz.prog 145 #[.slice xa xr.length xc, .slice ya yr.length yc, .pointer (some ⟨Bk, 0, none⟩)] w fun e w' => e = .returned (.bool (lessC col xr yr)) ∧ ∃ q, w' = w.drewN q := by
  obtain ⟨k, hk, hk1, hk2⟩ := cellV_nat h0 h1
  obtain ⟨j, hj, hj1, hj2⟩ := cellV_nat h0 h2
  obtain rfl : k = j := by omega
  rcases hx with h | ⟨b, off, rfl, hc⟩
  · rw [h] at hk1; cases hk1
  · rcases hy with h | ⟨b', off', rfl, hc'⟩
    · rw [h] at hj1; cases hj1
    · have c0 := hc k hk1
      have c1 := hc' k hj1
      have E := Lib.hid (show lessC col xr yr = decide (cellV xr col < cellV yr col) from rfl)
      rw [hk2, hj2] at E
      generalize lessC col xr yr = r at E ⊢
      generalize xr.getD k 0 = u at c0 E
      generalize yr.getD k 0 = v at c1 E
      generalize hxl : xr.length = xl at hk1 ⊢
      generalize hyl : yr.length = yl at hj1 ⊢
      clear hc hc' hk2 hj2 h0 h1 h2
      rw [hk] at k0
      clear hk hj
      go_enter Tryz.func145, Tryz.ntmps145
      go_wp2_with fail
      go_quiet (fail)
      go_wp2_with fail
      go_ret
      rw [E.out]
      exact ⟨rfl, _, rfl⟩
theorem filt_els {n : Nd} {w : World} {zs : List (Els w)} {l : RowsL} (h : rowsE zs = l) : rowsE (zs.filter fun x => holdV n (cellV x.1.r n.col)) = filtL n l := by
  subst h
  unfold rowsE filtL
  rw [List.filter_map]
  rfl
set_option maxRecDepth 100000 in
set_option maxHeartbeats 3200000 in
theorem overFilter_any (z : Nat → Prop) (n : Nd) (hk : n.kind = 1) (ho : n.op = 0 ∨ n.op = 1 ∨ n.op = 2 ∨ n.op = 3) (a : Option Addr) (c : Nat) (mm : Option Nat) (sa : Option Addr) (sl sc : Nat) (gb cb : Nat) (v : Value) (l : RowsL) (w : World) (hzw : ∀ k, z k → k < w.heap.size) (hv : w.cell? ⟨gb, 0, none⟩ = some v) (K : KidAt z w v l) (hl : l.length ≤ 1048576) (h0 : 0 ≤ n.col) (hfit : ∀ r ∈ l, n.col < (r.length : Int)) :
    Calls Tryz.prog 122 #[.agg #[.map mm, .slice sa sl sc], kindV n a c, .slice (some ⟨gb, 0, none⟩) 1 cb] w (OverPost z w (filtL n l)) := by
  rw [show kindV n a c = .iface 153 (.agg #[.int .i64 n.col, .int .i64 n.op, .int .i64 n.num, .bool n.slot]) by unfold kindV; simp [hk]]
  have A0 := Tryz.as_filterNode_filterNode
  have hgb : gb < w.heap.size := World.block_lt_of_cell? w ⟨gb, 0, none⟩ hv
  have KK := Lib.hid K
  obtain ⟨Bs, aa, ac, rfl, -, -, -⟩ := K
  have CH := Lib.hid (fun (k : Nat) W => chosenO_any 106 140 #[.pointer (some ⟨Bs, 0, none⟩)] #[.pointer (some ⟨k, 0, none⟩)] W)
  have HO := Lib.hid ho
  have HF := Lib.hid hfit
  clear ho hfit hk
  go_enter Tryz.func122, Tryz.ntmps122
  go_wp2_with (go_at_call 139; refine (CH.out _ _).mono ?_; rintro e w2 ⟨rfl, rfl⟩)
  go_ret
  show OverPost z w (filtL n l) (.returned (.func (.func 160) #[] #[.pointer (some ⟨w.heap.size + 1 + 1, 0, none⟩), .pointer (some ⟨w.heap.size + 1 + 1 + 1, 0, none⟩)])) _
  obtain ⟨w1, hw1⟩ : ∃ w1, ((((w.alloc (.cells #[.map mm, .slice sa sl sc] 116)).alloc (.cells #[.int .i64 n.col, .int .i64 n.op, .int .i64 n.num, .bool n.slot] 153)).alloc (.cells #[.func (.func 106) #[] #[.pointer (some ⟨Bs, 0, none⟩)]] 82)).alloc (.cells #[.func (.func 140) #[] #[.pointer (some ⟨w.heap.size + 1, 0, none⟩)]] 134)) = w1 := ⟨_, rfl⟩
  have B : Below w.heap.size w w1 := by rw [← hw1]; exact ((((Below.refl _ w).alloc (Nat.le_refl _) _).alloc (by simp) _).alloc (by simp; omega) _).alloc (by simp; omega) _
  have c1 : w1.cell? ⟨w.heap.size + 1 + 1, 0, none⟩ = some (.func (.func 106) #[] #[.pointer (some ⟨Bs, 0, none⟩)]) := by rw [← hw1]; simp [go_sem]
  have c2 : w1.cell? ⟨w.heap.size + 1 + 1 + 1, 0, none⟩ = some (.func (.func 140) #[] #[.pointer (some ⟨w.heap.size + 1, 0, none⟩)]) := by rw [← hw1]; simp [go_sem]
  have k0 : w1.cell? ⟨w.heap.size + 1, 0, none⟩ = some (.int .i64 n.col) := by rw [← hw1]; simp [go_sem]
  have k1 : w1.cell? ⟨w.heap.size + 1, 1, none⟩ = some (.int .i64 n.op) := by rw [← hw1]; simp [go_sem]
  have k2 : w1.cell? ⟨w.heap.size + 1, 2, none⟩ = some (.int .i64 n.num) := by rw [← hw1]; simp [go_sem]
  have k3 : w1.cell? ⟨w.heap.size + 1, 3, none⟩ = some (.bool n.slot) := by rw [← hw1]; simp [go_sem]
  rw [hw1]
  obtain ⟨lb, zs, hlb, hz, hP, hseq⟩ := (KK.out.below B).seq hl
  cases hlb
  refine ⟨_, _, rfl, B, enters_of Tryz.func160 (by kernel_rfl) rfl, ?_⟩
  rw [← filt_els hz]
  have lt := World.block_lt_of_cell? w1 _ k0
  refine toEl (chosen_sep Fence.wide 5 trivial trivial rfl rfl (by omega) _ _ trivial enters_values zs _ _ (w.heap.size + 1) w1 (Below.refl _ _) (hseq 4 (by omega)) c1 c2 _ ?_) (Below.refl _ _) (fun x hx => hP x (List.mem_filter.1 hx).1)
  intro m X x hx hbX hg
  have hm : x.1.r ∈ l := by rw [← hz]; exact List.mem_map.2 ⟨x, hx, rfl⟩
  exact callsIn_wide.2 (over1_takes n HO.out x.1.a x.1.r x.1.c _ X hg.1 h0 (HF.out _ hm) ((hbX.cell (p := ⟨w.heap.size + 1, 0, none⟩) lt).trans k0) ((hbX.cell (p := ⟨w.heap.size + 1, 1, none⟩) lt).trans k1) ((hbX.cell (p := ⟨w.heap.size + 1, 2, none⟩) lt).trans k2) ((hbX.cell (p := ⟨w.heap.size + 1, 3, none⟩) lt).trans k3))
set_option maxRecDepth 100000 in
set_option maxHeartbeats 3200000 in
theorem overKeep_any (z : Nat → Prop) (n : Nd) (hk : n.kind = 2) (a : Option Addr) (c : Nat) (mm : Option Nat) (sa : Option Addr) (sl sc : Nat) (gb cb : Nat) (v : Value) (l : RowsL) (w : World) (hzw : ∀ k, z k → k < w.heap.size) (hv : w.cell? ⟨gb, 0, none⟩ = some v) (K : KidAt z w v l) (hl : l.length ≤ 1048576) (hcols : Rd w .i64 a n.cols) (hlen : n.cols.length ≤ 1048576) (hfit : ∀ r ∈ l, ∀ cc ∈ n.cols, 0 ≤ cc ∧ cc < (r.length : Int)) :
    Calls Tryz.prog 122 #[.agg #[.map mm, .slice sa sl sc], kindV n a c, .slice (some ⟨gb, 0, none⟩) 1 cb] w (OverPost z w (keepL n l)) := by
  rw [show kindV n a c = .iface 156 (.agg #[.slice a n.cols.length c]) by unfold kindV; simp [hk]]
  have A0 := Tryz.as_keepNode_filterNode
  have A1 := Tryz.as_keepNode_keepNode
  have hgb : gb < w.heap.size := World.block_lt_of_cell? w ⟨gb, 0, none⟩ hv
  have KK := Lib.hid K
  obtain ⟨Bs, aa, ac, rfl, -, -, -⟩ := K
  have CH := Lib.hid (fun (m : Nat) W => keptO_any 106 #[.pointer (some ⟨Bs, 0, none⟩)] a m c W)
  have HF := Lib.hid hfit
  have HC := Lib.hid hcols
  have HL := Lib.hid hlen
  obtain ⟨nl, hnl⟩ : ∃ nl, n.cols.length = nl := ⟨_, rfl⟩
  rw [hnl]
  have HN := Lib.hid hnl
  clear hfit hk hcols hlen hnl
  go_enter Tryz.func122, Tryz.ntmps122
  go_wp2_with fail
  obtain ⟨w0, hw0⟩ : ∃ w0, (w.alloc (.cells #[.map mm, .slice sa sl sc] 116)).alloc (.cells #[.slice a nl c] 156) = w0 := ⟨_, rfl⟩
  have b0 : Below w.heap.size w w0 := by rw [← hw0]; exact ((Below.refl _ w).alloc (Nat.le_refl _) _).alloc (by simp) _
  have d1 : w0.cell? ⟨w.heap.size + 1, 0, none⟩ = some (.slice a nl c) := by rw [← hw0]; simp [go_sem]
  have d2 := (b0.cell (p := ⟨gb, 0, none⟩) hgb).trans hv
  have B0 := Lib.hid (b0.trans (Below.refl _ _).drew)
  rw [hw0]
  clear hw0 b0
  go_region_with (go_at_call 142; refine (CH.out _ _).mono ?_; rintro e w2 ⟨rfl, rfl⟩)
  all_goals (
    go_wp2_with fail
    go_ret
    show OverPost z w (keepL n l) (.returned (.func (.func 161) #[] #[.pointer (some ⟨w0.drew.heap.size, 0, none⟩), .pointer (some ⟨w0.drew.heap.size + 1, 0, none⟩)])) ((w0.drew.alloc (.cells #[.func (.func 106) #[] #[.pointer (some ⟨Bs, 0, none⟩)]] 82)).alloc (.cells #[.slice a nl c] 34))
    have B1 := B0.out
    generalize w0.drew = u0 at B1 ⊢
    have c1 : ((u0.alloc (.cells #[.func (.func 106) #[] #[.pointer (some ⟨Bs, 0, none⟩)]] 82)).alloc (.cells #[.slice a nl c] 34)).cell? ⟨u0.heap.size, 0, none⟩ = some (.func (.func 106) #[] #[.pointer (some ⟨Bs, 0, none⟩)]) := by simp [go_sem]
    have c2 : ((u0.alloc (.cells #[.func (.func 106) #[] #[.pointer (some ⟨Bs, 0, none⟩)]] 82)).alloc (.cells #[.slice a nl c] 34)).cell? ⟨u0.heap.size + 1, 0, none⟩ = some (.slice a nl c) := by simp [go_sem]
    have B : Below w.heap.size w ((u0.alloc (.cells #[.func (.func 106) #[] #[.pointer (some ⟨Bs, 0, none⟩)]] 82)).alloc (.cells #[.slice a nl c] 34)) := (B1.alloc B1.size _).alloc (by have := B1.size; simp; omega) _
    generalize ((u0.alloc (.cells #[.func (.func 106) #[] #[.pointer (some ⟨Bs, 0, none⟩)]] 82)).alloc (.cells #[.slice a nl c] 34)) = w1 at c1 c2 B ⊢
    obtain ⟨lb, zs, hlb, hz, hP, hseq⟩ := (KK.out.below B).seq hl
    cases hlb
    refine ⟨_, _, rfl, B, enters_of Tryz.func161 (by kernel_rfl) rfl, ?_⟩
    have hz' : keepL n l = (rowsE zs).map (keepR n.cols) := by rw [hz]; rfl
    rw [hz']
    rw [← HN.out] at c2
    exact newEl (keptOf_sep Fence.wide 5 trivial rfl rfl (by omega) _ _ trivial enters_values zs _ _ a c n.cols w1 (Below.refl _ _) (hseq 4 (by omega)) c1 c2 (HC.out.below B) HL.out (fun x hx cc hcc => HF.out x.1.r (by rw [← hz]; exact List.mem_map.2 ⟨x, hx, rfl⟩) cc hcc)) (fun k hk => Nat.lt_of_lt_of_le (hzw k hk) B.size))
set_option maxRecDepth 100000 in
set_option maxHeartbeats 3200000 in
theorem overLimit_any (z : Nat → Prop) (n : Nd) (hk : n.kind = 6) (a : Option Addr) (c : Nat) (mm : Option Nat) (sa : Option Addr) (sl sc : Nat) (gb cb : Nat) (v : Value) (l : RowsL) (w : World) (hzw : ∀ k, z k → k < w.heap.size) (hv : w.cell? ⟨gb, 0, none⟩ = some v) (K : KidAt z w v l) (hl : l.length ≤ 1048576) (h0 : 0 ≤ n.num) :
    Calls Tryz.prog 122 #[.agg #[.map mm, .slice sa sl sc], kindV n a c, .slice (some ⟨gb, 0, none⟩) 1 cb] w (OverPost z w (l.take n.num.toNat)) := by
  rw [show kindV n a c = .iface 178 (.agg #[.int .i64 n.num, .bool n.slot]) by unfold kindV; simp [hk]]
  have A0 := Tryz.as_limitNode_filterNode
  have A1 := Tryz.as_limitNode_keepNode
  have A2 := Tryz.as_limitNode_joinNode
  have A3 := Tryz.as_limitNode_bothNode
  have A4 := Tryz.as_limitNode_sortNode
  have A5 := Tryz.as_limitNode_limitNode
  have hgb : gb < w.heap.size := World.block_lt_of_cell? w ⟨gb, 0, none⟩ hv
  have KK := Lib.hid K
  obtain ⟨Bs, aa, ac, rfl, -, -, -⟩ := K
  obtain ⟨k, hkn⟩ : ∃ k : Nat, n.num = (k : Int) := ⟨_, (Int.toNat_of_nonneg h0).symm⟩
  rw [hkn, Int.toNat_natCast]
  have CH := Lib.hid (fun W => firstO_any 106 #[.pointer (some ⟨Bs, 0, none⟩)] (k : Int) W)
  generalize n.slot = sl'
  clear hk h0 hkn
  go_enter Tryz.func122, Tryz.ntmps122
  go_wp2_with fail
  obtain ⟨w0, hw0⟩ : ∃ w0, (w.alloc (.cells #[.map mm, .slice sa sl sc] 116)).alloc (.cells #[.int .i64 (k : Int), .bool sl'] 178) = w0 := ⟨_, rfl⟩
  have b0 : Below w.heap.size w w0 := by rw [← hw0]; exact ((Below.refl _ w).alloc (Nat.le_refl _) _).alloc (by simp) _
  have d1 : w0.cell? ⟨w.heap.size + 1, 0, none⟩ = some (.int .i64 (k : Int)) := by rw [← hw0]; simp [go_sem]
  have d2 := (b0.cell (p := ⟨gb, 0, none⟩) hgb).trans hv
  have B0 := Lib.hid (b0.trans (Below.refl _ _).drew)
  rw [hw0]
  clear hw0 b0
  go_region_with (go_at_call 146; refine (CH.out _).mono ?_; rintro e w2 ⟨rfl, rfl⟩)
  all_goals (
    go_wp2_with fail
    go_ret
    show OverPost z w (l.take k) (.returned (.func (.func 165) #[] #[.pointer (some ⟨w0.drew.heap.size, 0, none⟩), .pointer (some ⟨w0.drew.heap.size + 1, 0, none⟩)])) ((w0.drew.alloc (.cells #[.func (.func 106) #[] #[.pointer (some ⟨Bs, 0, none⟩)]] 82)).alloc (.cells #[.int .i64 (k : Int)] 3))
    have B1 := B0.out
    generalize w0.drew = u0 at B1 ⊢
    have c1 : ((u0.alloc (.cells #[.func (.func 106) #[] #[.pointer (some ⟨Bs, 0, none⟩)]] 82)).alloc (.cells #[.int .i64 (k : Int)] 3)).cell? ⟨u0.heap.size, 0, none⟩ = some (.func (.func 106) #[] #[.pointer (some ⟨Bs, 0, none⟩)]) := by simp [go_sem]
    have c2 : ((u0.alloc (.cells #[.func (.func 106) #[] #[.pointer (some ⟨Bs, 0, none⟩)]] 82)).alloc (.cells #[.int .i64 (k : Int)] 3)).cell? ⟨u0.heap.size + 1, 0, none⟩ = some (.int .i64 (k : Int)) := by simp [go_sem]
    have B : Below w.heap.size w ((u0.alloc (.cells #[.func (.func 106) #[] #[.pointer (some ⟨Bs, 0, none⟩)]] 82)).alloc (.cells #[.int .i64 (k : Int)] 3)) := (B1.alloc B1.size _).alloc (by have := B1.size; simp; omega) _
    generalize ((u0.alloc (.cells #[.func (.func 106) #[] #[.pointer (some ⟨Bs, 0, none⟩)]] 82)).alloc (.cells #[.int .i64 (k : Int)] 3)) = w1 at c1 c2 B ⊢
    obtain ⟨lb, zs, hlb, hz, hP, hseq⟩ := (KK.out.below B).seq hl
    cases hlb
    refine ⟨_, _, rfl, B, enters_of Tryz.func165 (by kernel_rfl) rfl, ?_⟩
    have hz' : l.take k = rowsE (zs.take k) := by rw [← hz]; unfold rowsE; rw [List.map_take]
    rw [hz']
    exact toEl (firstOf_sep Fence.wide 5 trivial rfl rfl (by omega) _ _ trivial enters_values zs _ _ k w1 (hseq 4 (by omega)) c1 c2 (by rw [← rowsE_len, hz]; exact hl)) (Below.refl _ _) (fun x hx => hP x (List.mem_of_mem_take hx)))
theorem onceE_rows {wb : World} (zs : List (Els wb)) : rowsE (onceE zs) = onceL (rowsE zs) := by
  have key : ∀ (l acc : List (Els wb)), rowsE (l.foldl (fun out x => if countL (rowsE out) x.1.r = 0 then out ++ [x] else out) acc) = (rowsE l).foldl (fun out r => if countL out r = 0 then out ++ [r] else out) (rowsE acc) := by
    intro l
    induction l with
    | nil => intro acc; rfl
    | cons x l ih =>
      intro acc
      rw [List.foldl_cons, ih]
      show _ = (x.1.r :: rowsE l).foldl _ _
      rw [List.foldl_cons]
      congr 1
      split
      · simp [rowsE]
      · rfl
  exact key zs []
theorem onceE_mem {wb : World} {zs : List (Els wb)} {x : Els wb} (h : x ∈ onceE zs) : x ∈ zs := by
  have key : ∀ (l acc : List (Els wb)), x ∈ l.foldl (fun out x => if countL (rowsE out) x.1.r = 0 then out ++ [x] else out) acc → x ∈ acc ∨ x ∈ l := by
    intro l
    induction l with
    | nil => intro acc h; exact .inl h
    | cons y l ih =>
      intro acc h
      rw [List.foldl_cons] at h
      rcases ih _ h with h1 | h1
      · split at h1
        · rcases List.mem_append.1 h1 with h2 | h2
          · exact .inl h2
          · rw [List.mem_singleton] at h2; subst h2; exact .inr (List.mem_cons_self ..)
        · exact .inl h1
      · exact .inr (List.mem_cons_of_mem _ h1)
  rcases key zs [] h with h | h
  · cases h
  · exact h
set_option maxRecDepth 100000 in
set_option maxHeartbeats 3200000 in
theorem overOnce_any (z : Nat → Prop) (n : Nd) (hk : n.kind = 7) (a : Option Addr) (c : Nat) (mm : Option Nat) (sa : Option Addr) (sl sc : Nat) (gb cb : Nat) (v : Value) (l : RowsL) (w : World) (hzw : ∀ k, z k → k < w.heap.size) (hv : w.cell? ⟨gb, 0, none⟩ = some v) (K : KidAt z w v l) (hl : l.length ≤ 1048576) :
    Calls Tryz.prog 122 #[.agg #[.map mm, .slice sa sl sc], kindV n a c, .slice (some ⟨gb, 0, none⟩) 1 cb] w (OverPost z w (onceL l)) := by
  rw [show kindV n a c = .iface 180 (.agg #[]) by unfold kindV; simp [hk]]
  have A0 := Tryz.as_onceNode_filterNode
  have A1 := Tryz.as_onceNode_keepNode
  have A2 := Tryz.as_onceNode_joinNode
  have A3 := Tryz.as_onceNode_bothNode
  have A4 := Tryz.as_onceNode_sortNode
  have A5 := Tryz.as_onceNode_limitNode
  have A6 := Tryz.as_onceNode_onceNode
  have hgb : gb < w.heap.size := World.block_lt_of_cell? w ⟨gb, 0, none⟩ hv
  have KK := Lib.hid K
  obtain ⟨Bs, aa, ac, rfl, -, -, -⟩ := K
  have CH := Lib.hid (fun W => onceO_any 106 #[.pointer (some ⟨Bs, 0, none⟩)] W)
  clear hk
  go_enter Tryz.func122, Tryz.ntmps122
  go_wp2_with (go_at_call 147; refine (CH.out _).mono ?_; rintro e w2 ⟨rfl, rfl⟩)
  go_ret
  show OverPost z w (onceL l) (.returned (.func (.func 166) #[] #[.pointer (some ⟨w.heap.size + 1 + 1, 0, none⟩)])) _
  obtain ⟨w1, hw1⟩ : ∃ w1, (((w.alloc (.cells #[.map mm, .slice sa sl sc] 116)).alloc (.cells #[] 180)).alloc (.cells #[.func (.func 106) #[] #[.pointer (some ⟨Bs, 0, none⟩)]] 82)) = w1 := ⟨_, rfl⟩
  have B : Below w.heap.size w w1 := by rw [← hw1]; exact (((Below.refl _ w).alloc (Nat.le_refl _) _).alloc (by simp) _).alloc (by simp; omega) _
  have c1 : w1.cell? ⟨w.heap.size + 1 + 1, 0, none⟩ = some (.func (.func 106) #[] #[.pointer (some ⟨Bs, 0, none⟩)]) := by rw [← hw1]; simp [go_sem]
  rw [hw1]
  obtain ⟨lb, zs, hlb, hz, hP, hseq⟩ := (KK.out.below B).seq hl
  cases hlb
  refine ⟨_, _, rfl, B, enters_of Tryz.func166 (by kernel_rfl) rfl, ?_⟩
  rw [← hz, ← onceE_rows]
  refine toEl (eachOnce_sep Fence.wide 5 trivial trivial rfl rfl (by omega) _ _ trivial enters_values zs (by rw [← rowsE_len, hz]; exact hl) _ w1 (Below.refl _ _) (hseq 4 (by omega)) c1 ?_) (Below.refl _ _) (fun x hx => hP x (onceE_mem hx))
  intro m X xa xb xc xd q r k hkq hq hr hql hrl
  subst hkq
  exact callsIn_wide.2 (implCountSame_any xa xb xc xd q r X hq hr hql hrl)
theorem concat_in (m : Nat) (X : World) (bv b0 o0 c0 b1 o1 c1 : Nat) (l0 l1 : List Int) (h0 : ∀ i, i < l0.length → X.cell? ⟨b0, o0 + i, none⟩ = some (.int .i64 (l0.getD i 0))) (h1 : ∀ i, i < l1.length → X.cell? ⟨b1, o1 + i, none⟩ = some (.int .i64 (l1.getD i 0)))
    (v0 : X.cell? ⟨bv, 0, none⟩ = some (.slice (some ⟨b0, o0, none⟩) l0.length c0)) (v1 : X.cell? ⟨bv, 1, none⟩ = some (.slice (some ⟨b1, o1, none⟩) l1.length c1)) (k0 : 0 < l0.length) (k1 : 0 < l1.length) (k2 : l0.length ≤ 1048576) (k3 : l1.length ≤ 1048576) :
    CallsIn Fence.wide m Tryz.prog 163 #[.slice (some ⟨bv, 0, none⟩) 2 2] X (CatI X (l0 ++ l1)) :=
  callsIn_wide.2 (concatI_any bv b0 o0 c0 b1 o1 c1 l0 l1 X h0 h1 v0 v1 k0 k1 k2 k3)
theorem join_end {z : Nat → Prop} {n : Nd} {Bs Bs' cl cr : Nat} {l m : RowsL} {w u0 : World} (hzw : ∀ k, z k → k < w.heap.size) (B1 : Below w.heap.size w u0) (K : KidAt z w (.func (.func 106) #[] #[.pointer (some ⟨Bs, 0, none⟩)]) l) (K' : KidAt z w (.func (.func 106) #[] #[.pointer (some ⟨Bs', 0, none⟩)]) m) (hl : l.length ≤ 1048576) (hm : m.length ≤ 1048576)
    (hcl : n.col = (cl : Int)) (hcr : n.num = (cr : Int)) (hf : ∀ r ∈ l, n.col < (r.length : Int) ∧ r.length ≤ 1048576) (hf' : ∀ r ∈ m, n.num < (r.length : Int) ∧ r.length ≤ 1048576) :
    OverPost z w (joinL n l m) (.returned (.func (.func 162) #[] #[.pointer (some ⟨u0.heap.size, 0, none⟩), .pointer (some ⟨u0.heap.size + 1, 0, none⟩), .pointer (some ⟨u0.heap.size + 1 + 1, 0, none⟩), .pointer (some ⟨u0.heap.size + 1 + 1 + 1, 0, none⟩)])) ((((u0.alloc (.cells #[.func (.func 106) #[] #[.pointer (some ⟨Bs, 0, none⟩)]] 82)).alloc (.cells #[.func (.func 106) #[] #[.pointer (some ⟨Bs', 0, none⟩)]] 82)).alloc (.cells #[.int .i64 (cl : Int)] 3)).alloc (.cells #[.int .i64 (cr : Int)] 3)) := by
  obtain ⟨w1, hw1⟩ : ∃ w1, ((((u0.alloc (.cells #[.func (.func 106) #[] #[.pointer (some ⟨Bs, 0, none⟩)]] 82)).alloc (.cells #[.func (.func 106) #[] #[.pointer (some ⟨Bs', 0, none⟩)]] 82)).alloc (.cells #[.int .i64 (cl : Int)] 3)).alloc (.cells #[.int .i64 (cr : Int)] 3)) = w1 := ⟨_, rfl⟩
  have c1 : w1.cell? ⟨u0.heap.size, 0, none⟩ = some (.func (.func 106) #[] #[.pointer (some ⟨Bs, 0, none⟩)]) := by rw [← hw1]; simp [go_sem]
  have c2 : w1.cell? ⟨u0.heap.size + 1, 0, none⟩ = some (.func (.func 106) #[] #[.pointer (some ⟨Bs', 0, none⟩)]) := by rw [← hw1]; simp [go_sem]
  have c3 : w1.cell? ⟨u0.heap.size + 1 + 1, 0, none⟩ = some (.int .i64 (cl : Int)) := by rw [← hw1]; simp [go_sem]
  have c4 : w1.cell? ⟨u0.heap.size + 1 + 1 + 1, 0, none⟩ = some (.int .i64 (cr : Int)) := by rw [← hw1]; simp [go_sem]
  have B : Below w.heap.size w w1 := by
    have h := B1.size
    rw [← hw1]; exact (((B1.alloc h _).alloc (by simp; omega) _).alloc (by simp; omega) _).alloc (by simp; omega) _
  rw [hw1]
  obtain ⟨lb, zs, hlb, hz, hP, hseq⟩ := (K.below B).seq hl
  obtain ⟨lb', ys, hlb', hy, hP', hseq'⟩ := (K'.below B).seq hm
  cases hlb
  cases hlb'
  refine ⟨_, _, rfl, B, enters_of Tryz.func162 (by kernel_rfl) rfl, ?_⟩
  rw [← hz, ← hy]
  refine newEl (joinedOn_sep Fence.wide 5 trivial trivial rfl rfl (by omega) _ _ _ _ trivial enters_values trivial enters_values zs ys _ _ _ _ n cl cr hcl hcr w1 (Below.refl _ _) (hseq 4 (by omega)) (hseq' 2 (by omega)) c1 c2 c3 c4
    (fun x hx => by have := hf x.1.r (by rw [← hz]; exact List.mem_map.2 ⟨x, hx, rfl⟩); omega) (fun x hx => by have := hf' x.1.r (by rw [← hy]; exact List.mem_map.2 ⟨x, hx, rfl⟩); omega) concat_in) (fun k hk => Nat.lt_of_lt_of_le (hzw k hk) B.size)
set_option maxRecDepth 100000 in
set_option maxHeartbeats 6400000 in
theorem overJoin_any (z : Nat → Prop) (n : Nd) (hk : n.kind = 3) (a : Option Addr) (c : Nat) (mm : Option Nat) (sa : Option Addr) (sl sc : Nat) (gb cb : Nat) (v v' : Value) (l m : RowsL) (w : World) (hzw : ∀ k, z k → k < w.heap.size) (hv : w.cell? ⟨gb, 0, none⟩ = some v) (hv' : w.cell? ⟨gb, 1, none⟩ = some v') (K : KidAt z w v l) (K' : KidAt z w v' m) (hl : l.length ≤ 1048576) (hm : m.length ≤ 1048576) (h0 : 0 ≤ n.col) (h1 : 0 ≤ n.num) (hfit : ∀ r ∈ l, n.col < (r.length : Int) ∧ r.length ≤ 1048576) (hfit' : ∀ r ∈ m, n.num < (r.length : Int) ∧ r.length ≤ 1048576) :
    Calls Tryz.prog 122 #[.agg #[.map mm, .slice sa sl sc], kindV n a c, .slice (some ⟨gb, 0, none⟩) 2 cb] w (OverPost z w (joinL n l m)) := by
  rw [show kindV n a c = .iface 158 (.agg #[.int .i64 n.col, .int .i64 n.num]) by unfold kindV; simp [hk]]
  have A0 := Tryz.as_joinNode_filterNode
  have A1 := Tryz.as_joinNode_keepNode
  have A2 := Tryz.as_joinNode_joinNode
  have hgb : gb < w.heap.size := World.block_lt_of_cell? w ⟨gb, 0, none⟩ hv
  have KK := Lib.hid K
  have KK' := Lib.hid K'
  obtain ⟨Bs, aa, ac, rfl, -, -, -⟩ := K
  obtain ⟨Bs', aa', ac', rfl, -, -, -⟩ := K'
  obtain ⟨cl, hcl⟩ : ∃ k : Nat, n.col = (k : Int) := ⟨_, (Int.toNat_of_nonneg h0).symm⟩
  obtain ⟨cr, hcr⟩ : ∃ k : Nat, n.num = (k : Int) := ⟨_, (Int.toNat_of_nonneg h1).symm⟩
  rw [hcl, hcr]
  have CH := Lib.hid (fun W => joinO_any 106 106 #[.pointer (some ⟨Bs, 0, none⟩)] #[.pointer (some ⟨Bs', 0, none⟩)] (cl : Int) (cr : Int) W)
  have HF := Lib.hid hfit
  have HF' := Lib.hid hfit'
  have HCL := Lib.hid hcl
  have HCR := Lib.hid hcr
  clear hk h0 h1 hfit hfit' hcl hcr
  go_enter Tryz.func122, Tryz.ntmps122
  go_wp2_with fail
  obtain ⟨w0, hw0⟩ : ∃ w0, (w.alloc (.cells #[.map mm, .slice sa sl sc] 116)).alloc (.cells #[.int .i64 (cl : Int), .int .i64 (cr : Int)] 158) = w0 := ⟨_, rfl⟩
  have b0 : Below w.heap.size w w0 := by rw [← hw0]; exact ((Below.refl _ w).alloc (Nat.le_refl _) _).alloc (by simp) _
  have d1 : w0.cell? ⟨w.heap.size + 1, 0, none⟩ = some (.int .i64 (cl : Int)) := by rw [← hw0]; simp [go_sem]
  have d2 : w0.cell? ⟨w.heap.size + 1, 1, none⟩ = some (.int .i64 (cr : Int)) := by rw [← hw0]; simp [go_sem]
  have d3 := (b0.cell (p := ⟨gb, 0, none⟩) hgb).trans hv
  have d4 := (b0.cell (p := ⟨gb, 1, none⟩) hgb).trans hv'
  have B0 := Lib.hid (b0.trans (Below.refl _ _).drew)
  rw [hw0]
  clear hw0 b0
  go_region_with (go_at_call 143; refine (CH.out _).mono ?_; rintro e w2 ⟨rfl, rfl⟩)
  all_goals (
    go_wp2_with fail
    go_ret
    show OverPost z w (joinL n l m) (.returned (.func (.func 162) #[] #[.pointer (some ⟨w0.drew.heap.size, 0, none⟩), .pointer (some ⟨w0.drew.heap.size + 1, 0, none⟩), .pointer (some ⟨w0.drew.heap.size + 1 + 1, 0, none⟩), .pointer (some ⟨w0.drew.heap.size + 1 + 1 + 1, 0, none⟩)])) ((((w0.drew.alloc (.cells #[.func (.func 106) #[] #[.pointer (some ⟨Bs, 0, none⟩)]] 82)).alloc (.cells #[.func (.func 106) #[] #[.pointer (some ⟨Bs', 0, none⟩)]] 82)).alloc (.cells #[.int .i64 (cl : Int)] 3)).alloc (.cells #[.int .i64 (cr : Int)] 3))
    exact join_end hzw B0.out KK.out KK'.out hl hm HCL.out HCR.out HF.out HF'.out)
end Go.Proofs.YtanfllednlpbaaaGreat
