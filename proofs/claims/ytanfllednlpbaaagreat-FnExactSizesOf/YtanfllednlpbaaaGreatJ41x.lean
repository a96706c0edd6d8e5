/-
  What reads so goes on reading so where every cell that stands goes on standing. Contracts of chosen, keptOf, joinedOn, oneBehindOther, firstOf, eachOnce: the function each hands back; and of what a filter takes, and a sort's order. Contract of rowsOver at a once. For every child. Contract of spec.l04Once. For every slice of rows.
-/
import Derived.Test.YtanfllednlpbaaaGreatJ40x
import Derived.Test.YtanfllednlpbaaaGreatJ29x
import Derived.Test.YtanfllednlpbaaaGreatJ3x
import Derived.BigQuiet
import Derived.Deep.RegionWith
import Derived.Test.YtanfllednlpbaaaGreatJ37x
import Derived.Test.YtanfllednlpbaaaGreatJ28x
import Derived.Test.YtanfllednlpbaaaGreatJ11x
import Derived.Test.YtanfllednlpbaaaGreatJ38x
import Derived.Test.YtanfllednlpbaaaGreatJ36x
namespace Go.Proofs.YtanfllednlpbaaaGreat
open Go.RowKit
set_option linter.unusedSimpArgs false
set_option linter.unusedVariables false

/-- Every cell of w that holds anything holds it in w'. -/
def Stays (w w' : World) : Prop := ∀ (b i : Nat) (v : Value), w.cell? ⟨b, i, none⟩ = some v → w'.cell? ⟨b, i, none⟩ = some v
theorem Rd.stays {w w' : World} {k : IntKind} {a : Option Addr} {l : List Int} (h : Rd w k a l) (hk : Stays w w') : Rd w' k a l := by
  rcases h with h | ⟨b, off, rfl, hc⟩
  · exact .inl h
  · exact .inr ⟨b, off, rfl, fun i hi => hk _ _ _ (hc i hi)⟩
theorem RdR.stays {w w' : World} {a : Option Addr} {l : RowsL} (h : RdR w a l) (hk : Stays w w') : RdR w' a l := by
  rcases h with h | ⟨b, off, rfl, hc⟩
  · exact .inl h
  · refine .inr ⟨b, off, rfl, fun i r hr => ?_⟩
    obtain ⟨a, c, h1, h2, h3⟩ := hc i r hr
    exact ⟨a, c, hk _ _ _ h1, h2.stays hk, h3⟩
theorem RdX.staysX {z : Nat → Prop} {w w' : World} {a : Option Addr} {l : RowsL} (h : RdX z w a l) (hk : Stays w w') : RdX z w' a l := by
  rcases h with h | ⟨b, off, rfl, hb, hc⟩
  · exact .inl h
  · refine .inr ⟨b, off, rfl, hb, fun i r hr => ?_⟩
    obtain ⟨a, c, h1, h2, h3⟩ := hc i r hr
    exact ⟨a, c, hk _ _ _ h1, h2.stays hk, h3⟩
/-- An append onto a slice that has room for nothing leaves every cell. -/
theorem stays_grown {w w5 : World} {base : Nat} {e : TypeId} {g c : Nat} {xs : List Value} {o : Obj} (ho : OwnV w base e (some ⟨g, 0, none⟩) c xs) (hc : c = 0) (hg : (w.alloc o).grownBy w5 (some g)) : Stays w w5 := by
  subst hc
  intro b i v hv
  have hb : b < w.heap.size := World.block_lt_of_cell? w ⟨b, i, none⟩ hv
  by_cases hbg : b = g
  · subst hbg
    exfalso
    rcases ho.2 with ⟨hv', _⟩ | ⟨q, cap, cur, he, _, h2, _, _, h5, _⟩
    · cases hv'
    · simp only [Value.slice.injEq, Option.some.injEq, Addr.mk.injEq] at he
      obtain ⟨⟨rfl, _⟩, _, rfl⟩ := he
      have hz : cur.size = 0 := by simpa using h5
      have : cur = #[] := Array.eq_empty_of_size_eq_zero hz
      subst this
      simp [World.cell?, h2] at hv
  · have h1 : (w.alloc o).cell? ⟨b, i, none⟩ = some v := (((Below.refl w.heap.size w).alloc (Nat.le_refl _) o).cell (p := ⟨b, i, none⟩) hb).trans hv
    exact (World.cell?_of_block (hg.block b (by simp; omega) (by simpa using hbg))).trans h1
/-- Rows that can be read lie outside a block that holds nothing. -/
theorem RdX.off {z : Nat → Prop} {w w' : World} {a : Option Addr} {l : RowsL} {g : Nat} (h : RdX z w a l) (hk : Stays w w') (hno : ∀ (i : Nat) (v : Value), w.cell? ⟨g, i, none⟩ ≠ some v) : RdX (fun k => z k ∨ k = g) w' a l := by
  rcases h with h | ⟨b, off, rfl, hb, hc⟩
  · exact .inl h
  · by_cases hl : l = []
    · exact .inl hl
    · refine .inr ⟨b, off, rfl, ?_, fun i r hr => ?_⟩
      · rintro (h | h)
        · exact hb h
        · obtain ⟨a, c, h1, _⟩ := hc 0 _ (List.getElem?_eq_getElem (List.length_pos_iff.2 hl))
          rw [h] at h1
          exact hno _ _ h1
      · obtain ⟨a, c, h1, h2, h3, h4, h5⟩ := hc i r hr
        refine ⟨a, c, hk _ _ _ h1, h2.stays hk, h3, h4, fun hr x hx => ?_⟩
        rintro (h | h)
        · exact h5 hr x hx h
        · rcases h2 with h2 | ⟨b2, o2, h6, h7⟩
          · exact hr h2
          · have h8 := h7 0 (List.length_pos_iff.2 hr)
            have : b2 = g := by
              have e : a = some x := hx
              rw [h6, Option.some.injEq] at e
              rw [← h, ← e]
            rw [this] at h8
            exact hno _ _ h8
/-- The block that an append onto a slice of capacity 0 hands back held nothing. -/
theorem held_none {w : World} {base : Nat} {e : TypeId} {g c g' : Nat} {xs : List Value} (ho : OwnV w base e (some ⟨g, 0, none⟩) c xs) (hc : c = 0) (hg : g' = g ∨ w.heap.size ≤ g') : ∀ (i : Nat) (v : Value), w.cell? ⟨g', i, none⟩ ≠ some v := by
  subst hc
  intro i v hv
  have hb : g' < w.heap.size := World.block_lt_of_cell? w ⟨g', i, none⟩ hv
  rcases hg with rfl | hg
  · rcases ho.2 with ⟨hv', _⟩ | ⟨q, cap, cur, he, _, h2, _, _, h5, _⟩
    · cases hv'
    · simp only [Value.slice.injEq, Option.some.injEq, Addr.mk.injEq] at he
      obtain ⟨⟨rfl, _⟩, _, rfl⟩ := he
      have hz : cur.size = 0 := by simpa using h5
      have : cur = #[] := Array.eq_empty_of_size_eq_zero hz
      subst this
      simp [World.cell?, h2] at hv
  · omega
theorem joinL_len (n : Nd) (l m : RowsL) : (joinL n l m).length ≤ l.length * m.length := by
  induction l with
  | nil => simp [joinL]
  | cons a l ih =>
    have e : joinL n (a :: l) m = joinRow n a m ++ joinL n l m := rfl
    have h1 : (joinRow n a m).length ≤ m.length := by unfold joinRow; rw [List.length_map]; exact List.length_filter_le _ _
    rw [e, List.length_append, List.length_cons, Nat.add_mul, Nat.one_mul]
    omega
end Go.Proofs.YtanfllednlpbaaaGreat
namespace Go.Proofs.YtanfllednlpbaaaGreat
open Go.RowKit
set_option linter.unusedSimpArgs false
set_option linter.unusedVariables false

theorem chosenO_any (g k : Nat) (lb lk : Array Value) (w : World) : Calls Tryz.prog 139 #[.func (.func g) #[] lb, .func (.func k) #[] lk] w fun e w' =>
    e = .returned (.func (.func 160) #[] #[.pointer (some ⟨w.heap.size, 0, none⟩), .pointer (some ⟨w.heap.size + 1, 0, none⟩)]) ∧ w' = (w.alloc (.cells #[.func (.func g) #[] lb] 82)).alloc (.cells #[.func (.func k) #[] lk] 134) := by
  go_enter Tryz.func139, Tryz.ntmps139
  go_wp2
  go_ret
  exact ⟨rfl, rfl⟩
theorem keptO_any (g : Nat) (lb : Array Value) (a : Option Addr) (m c : Nat) (w : World) : Calls Tryz.prog 142 #[.func (.func g) #[] lb, .slice a m c] w fun e w' =>
    e = .returned (.func (.func 161) #[] #[.pointer (some ⟨w.heap.size, 0, none⟩), .pointer (some ⟨w.heap.size + 1, 0, none⟩)]) ∧ w' = (w.alloc (.cells #[.func (.func g) #[] lb] 82)).alloc (.cells #[.slice a m c] 34) := by
  go_enter Tryz.func142, Tryz.ntmps142
  go_wp2
  go_ret
  exact ⟨rfl, rfl⟩
theorem joinO_any (g k : Nat) (lb lk : Array Value) (x y : Int) (w : World) : Calls Tryz.prog 143 #[.func (.func g) #[] lb, .func (.func k) #[] lk, .int .i64 x, .int .i64 y] w fun e w' =>
    e = .returned (.func (.func 162) #[] #[.pointer (some ⟨w.heap.size, 0, none⟩), .pointer (some ⟨w.heap.size + 1, 0, none⟩), .pointer (some ⟨w.heap.size + 1 + 1, 0, none⟩), .pointer (some ⟨w.heap.size + 1 + 1 + 1, 0, none⟩)]) ∧
      w' = (((w.alloc (.cells #[.func (.func g) #[] lb] 82)).alloc (.cells #[.func (.func k) #[] lk] 82)).alloc (.cells #[.int .i64 x] 3)).alloc (.cells #[.int .i64 y] 3) := by
  go_enter Tryz.func143, Tryz.ntmps143
  go_wp2
  go_ret
  exact ⟨rfl, rfl⟩
theorem bothO_any (a : Option Addr) (m c : Nat) (w : World) : Calls Tryz.prog 144 #[.slice a m c] w fun e w' =>
    e = .returned (.func (.func 164) #[] #[.pointer (some ⟨w.heap.size, 0, none⟩)]) ∧ w' = w.alloc (.cells #[.slice a m c] 145) := by
  go_enter Tryz.func144, Tryz.ntmps144
  go_wp2
  go_ret
  exact ⟨rfl, rfl⟩
theorem firstO_any (g : Nat) (lb : Array Value) (x : Int) (w : World) : Calls Tryz.prog 146 #[.func (.func g) #[] lb, .int .i64 x] w fun e w' =>
    e = .returned (.func (.func 165) #[] #[.pointer (some ⟨w.heap.size, 0, none⟩), .pointer (some ⟨w.heap.size + 1, 0, none⟩)]) ∧ w' = (w.alloc (.cells #[.func (.func g) #[] lb] 82)).alloc (.cells #[.int .i64 x] 3) := by
  go_enter Tryz.func146, Tryz.ntmps146
  go_wp2
  go_ret
  exact ⟨rfl, rfl⟩
theorem onceO_any (g : Nat) (lb : Array Value) (w : World) : Calls Tryz.prog 147 #[.func (.func g) #[] lb] w fun e w' =>
    e = .returned (.func (.func 166) #[] #[.pointer (some ⟨w.heap.size, 0, none⟩)]) ∧ w' = w.alloc (.cells #[.func (.func g) #[] lb] 82) := by
  go_enter Tryz.func147, Tryz.ntmps147
  go_wp2
  go_ret
  exact ⟨rfl, rfl⟩

set_option maxRecDepth 100000 in
set_option maxHeartbeats 1600000 in
theorem takes_any (n : Nd) (ho : n.op = 0 ∨ n.op = 1 ∨ n.op = 2 ∨ n.op = 3) (v : Int) (w : World) : Calls Tryz.prog 141 #[.agg #[.int .i64 n.col, .int .i64 n.op, .int .i64 n.num, .bool n.slot], .int .i64 v] w fun e w' =>
    e = .returned (.bool (holdV n v)) ∧ Below w.heap.size w w' := by
  obtain ⟨r, hr⟩ : ∃ r, holdV n v = r := ⟨_, rfl⟩
  rw [hr]
  have HR := Lib.hid hr
  clear hr
  have B0 := Lib.hid ((Below.refl w.heap.size w).alloc (Nat.le_refl _) (.cells #[.int .i64 n.col, .int .i64 n.op, .int .i64 n.num, .bool n.slot] 153))
  by_cases hv : v = -2000000
  · subst hv
    rcases ho with h | h | h | h <;> rw [h] at B0 ⊢ <;> (
      have E : r = decide (n.op = 3) := by rw [← HR.out]; unfold holdV; rw [if_pos rfl]
      rw [h] at E
      subst E
      go_enter Tryz.func141, Tryz.ntmps141
      go_wp2
      go_ret
      exact ⟨rfl, B0.out⟩)
  · rcases ho with h | h | h | h
    · have E : r = decide (v = n.num) := by rw [← HR.out]; unfold holdV; rw [if_neg hv, if_pos h]
      rw [h] at B0 ⊢
      go_enter Tryz.func141, Tryz.ntmps141
      go_wp2
      go_ret
      exact ⟨ret_bool (by subst E; first | rfl | simp), B0.out⟩
    · have E : r = decide (v < n.num) := by rw [← HR.out]; unfold holdV; rw [if_neg hv, if_neg (by omega), if_pos h]
      rw [h] at B0 ⊢
      go_enter Tryz.func141, Tryz.ntmps141
      go_wp2
      go_ret
      exact ⟨ret_bool (by rw [E]), B0.out⟩
    · have E : r = decide (n.num < v) := by rw [← HR.out]; unfold holdV; rw [if_neg hv, if_neg (by omega), if_neg (by omega), if_pos h]
      rw [h] at B0 ⊢
      go_enter Tryz.func141, Tryz.ntmps141
      go_wp2
      go_ret
      exact ⟨ret_bool (by rw [E]), B0.out⟩
    · have E : r = false := by rw [← HR.out]; unfold holdV; rw [if_neg hv, if_neg (by omega), if_neg (by omega), if_neg (by omega)]
      rw [h] at B0 ⊢
      subst E
      go_enter Tryz.func141, Tryz.ntmps141
      go_wp2
      go_ret
      exact ⟨rfl, B0.out⟩

theorem cellV_nat {r : List Int} {c : Int} (h0 : 0 ≤ c) (h1 : c < (r.length : Int)) : ∃ k : Nat, c = (k : Int) ∧ k < r.length ∧ cellV r c = r.getD k 0 :=
  ⟨c.toNat, (Int.toNat_of_nonneg h0).symm, by omega, by unfold cellV; rw [List.getD_eq_getElem?_getD]⟩

set_option maxRecDepth 100000 in
set_option maxHeartbeats 3200000 in
theorem over1_takes (n : Nd) (ho : n.op = 0 ∨ n.op = 1 ∨ n.op = 2 ∨ n.op = 3) (xa : Option Addr) (xr : List Int) (xc Bk : Nat) (w : World) (hx : Rd w .i64 xa xr) (h0 : 0 ≤ n.col) (h1 : n.col < (xr.length : Int))
    (k0 : w.cell? ⟨Bk, 0, none⟩ = some (.int .i64 n.col)) (k1 : w.cell? ⟨Bk, 1, none⟩ = some (.int .i64 n.op)) (k2 : w.cell? ⟨Bk, 2, none⟩ = some (.int .i64 n.num)) (k3 : w.cell? ⟨Bk, 3, none⟩ = some (.bool n.slot)) :
    Calls Tryz.prog 140 #[.slice xa xr.length xc, .pointer (some ⟨Bk, 0, none⟩)] w fun e w' => e = .returned (.bool (holdV n (cellV xr n.col))) ∧ Below w.heap.size w w' := by
  obtain ⟨k, hk, hk1, hk2⟩ := cellV_nat h0 h1
  rcases hx with h | ⟨b, off, rfl, hc⟩
  · rw [h] at hk1; cases hk1
  · have c0 := hc k hk1
    rw [← hk2] at c0
    have TK := Lib.hid (fun W => takes_any n ho (cellV xr n.col) W)
    generalize cellV xr n.col = v at c0 TK ⊢
    generalize holdV n v = r at TK ⊢
    clear hc hk2
    rw [hk] at k0 TK
    generalize hop : n.op = op at k1 TK
    generalize hnum : n.num = num at k2 TK
    generalize hsl : n.slot = sl at k3 TK
    generalize hxl : xr.length = xl at hk1 ⊢
    have B0 := Lib.hid ((Below.refl w.heap.size w).drew)
    clear h0 h1 hk hop hnum hsl ho
    go_enter Tryz.func140, Tryz.ntmps140
    go_wp2_with fail
    go_region_with (go_at_call 141; refine (TK.out _).mono ?_; rintro e w1 ⟨rfl, b1⟩; have B1 := Lib.hid (below_step B0.out (Nat.le_refl _) b1); clear b1)
    all_goals (go_wp2_with fail; go_ret; exact ⟨rfl, B1.out⟩)

set_option maxRecDepth 100000 in
set_option maxHeartbeats 3200000 in
theorem over2_less (col : Int) (xa ya : Option Addr) (xr yr : List Int) (xc yc Bk : Nat) (w : World) (hx : Rd w .i64 xa xr) (hy : Rd w .i64 ya yr) (h0 : 0 ≤ col) (h1 : col < (xr.length : Int)) (h2 : col < (yr.length : Int))
    (k0 : w.cell? ⟨Bk, 0, none⟩ = some (.int .i64 col)) :
    Calls Tryz.prog 145 #[.slice xa xr.length xc, .slice ya yr.length yc, .pointer (some ⟨Bk, 0, none⟩)] w fun e w' => e = .returned (.bool (lessC col xr yr)) ∧ ∃ q, w' = w.drewN q := by
  obtain ⟨k, hk, hk1, hk2⟩ := cellV_nat h0 h1
  obtain ⟨j, hj, hj1, hj2⟩ := cellV_nat h0 h2
  obtain rfl : k = j := by omega
  rcases hx with h | ⟨b, off, rfl, hc⟩
  · rw [h] at hk1; cases hk1
  · rcases hy with h | ⟨b', off', rfl, hc'⟩
    · rw [h] at hj1; cases hj1
    · have c0 := hc k hk1
      have c1 := hc' k hj1
      have E := Lib.hid (show lessC col xr yr = decide (cellV xr col < cellV yr col) from rfl)
      rw [hk2, hj2] at E
      generalize lessC col xr yr = r at E ⊢
      generalize xr.getD k 0 = u at c0 E
      generalize yr.getD k 0 = v at c1 E
      generalize hxl : xr.length = xl at hk1 ⊢
      generalize hyl : yr.length = yl at hj1 ⊢
      clear hc hc' hk2 hj2 h0 h1 h2
      rw [hk] at k0
      clear hk hj
      go_enter Tryz.func145, Tryz.ntmps145
      go_wp2_with fail
      go_quiet (fail)
      go_wp2_with fail
      go_ret
      rw [E.out]
      exact ⟨rfl, _, rfl⟩
end Go.Proofs.YtanfllednlpbaaaGreat
namespace Go.Proofs.YtanfllednlpbaaaGreat
open Go.RowKit
set_option linter.unusedSimpArgs false
set_option linter.unusedVariables false

theorem onceE_rows {wb : World} (zs : List (Els wb)) : rowsE (onceE zs) = onceL (rowsE zs) := by
  have key : ∀ (l acc : List (Els wb)), rowsE (l.foldl (fun out x => if countL (rowsE out) x.1.r = 0 then out ++ [x] else out) acc) = (rowsE l).foldl (fun out r => if countL out r = 0 then out ++ [r] else out) (rowsE acc) := by
    intro l
    induction l with
    | nil => intro acc; rfl
    | cons x l ih =>
      intro acc
      rw [List.foldl_cons, ih]
      show _ = (x.1.r :: rowsE l).foldl _ _
      rw [List.foldl_cons]
      congr 1
      split
      · simp [rowsE]
      · rfl
  exact key zs []
theorem onceE_mem {wb : World} {zs : List (Els wb)} {x : Els wb} (h : x ∈ onceE zs) : x ∈ zs := by
  have key : ∀ (l acc : List (Els wb)), x ∈ l.foldl (fun out x => if countL (rowsE out) x.1.r = 0 then out ++ [x] else out) acc → x ∈ acc ∨ x ∈ l := by
    intro l
    induction l with
    | nil => intro acc h; exact .inl h
    | cons y l ih =>
      intro acc h
      rw [List.foldl_cons] at h
      rcases ih _ h with h1 | h1
      · split at h1
        · rcases List.mem_append.1 h1 with h2 | h2
          · exact .inl h2
          · rw [List.mem_singleton] at h2; subst h2; exact .inr (List.mem_cons_self ..)
        · exact .inl h1
      · exact .inr (List.mem_cons_of_mem _ h1)
  rcases key zs [] h with h | h
  · cases h
  · exact h
set_option maxRecDepth 100000 in
set_option maxHeartbeats 3200000 in
theorem overOnce_any (z : Nat → Prop) (n : Nd) (hk : n.kind = 7) (a : Option Addr) (c : Nat) (mm : Option Nat) (sa : Option Addr) (sl sc : Nat) (gb cb : Nat) (v : Value) (l : RowsL) (w : World) (hzw : ∀ k, z k → k < w.heap.size) (hv : w.cell? ⟨gb, 0, none⟩ = some v) (K : KidAt z w v l) (hl : l.length ≤ 1048576) :
    Calls Tryz.prog 122 #[.agg #[.map mm, .slice sa sl sc], kindV n a c, .slice (some ⟨gb, 0, none⟩) 1 cb] w (OverPost z w (onceL l)) := by
  rw [show kindV n a c = .iface 180 (.agg #[]) by unfold kindV; simp [hk]]
  have A0 := Tryz.as_onceNode_filterNode
  have A1 := Tryz.as_onceNode_keepNode
  have A2 := Tryz.as_onceNode_joinNode
  have A3 := Tryz.as_onceNode_bothNode
  have A4 := Tryz.as_onceNode_sortNode
  have A5 := Tryz.as_onceNode_limitNode
  have A6 := Tryz.as_onceNode_onceNode
  have hgb : gb < w.heap.size := World.block_lt_of_cell? w ⟨gb, 0, none⟩ hv
  have KK := Lib.hid K
  obtain ⟨Bs, aa, ac, rfl, -, -, -⟩ := K
  have CH := Lib.hid (fun W => onceO_any 106 #[.pointer (some ⟨Bs, 0, none⟩)] W)
  clear hk
  go_enter Tryz.func122, Tryz.ntmps122
  go_wp2_with (go_at_call 147; refine (CH.out _).mono ?_; rintro e w2 ⟨rfl, rfl⟩)
  go_ret
  show OverPost z w (onceL l) (.returned (.func (.func 166) #[] #[.pointer (some ⟨w.heap.size + 1 + 1, 0, none⟩)])) _
  obtain ⟨w1, hw1⟩ : ∃ w1, (((w.alloc (.cells #[.map mm, .slice sa sl sc] 116)).alloc (.cells #[] 180)).alloc (.cells #[.func (.func 106) #[] #[.pointer (some ⟨Bs, 0, none⟩)]] 82)) = w1 := ⟨_, rfl⟩
  have B : Below w.heap.size w w1 := by rw [← hw1]; exact (((Below.refl _ w).alloc (Nat.le_refl _) _).alloc (by simp) _).alloc (by simp; omega) _
  have c1 : w1.cell? ⟨w.heap.size + 1 + 1, 0, none⟩ = some (.func (.func 106) #[] #[.pointer (some ⟨Bs, 0, none⟩)]) := by rw [← hw1]; simp [go_sem]
  rw [hw1]
  obtain ⟨lb, zs, hlb, hz, hP, hseq⟩ := (KK.out.below B).seq hl
  cases hlb
  refine ⟨_, _, rfl, B, enters_of Tryz.func166 (by kernel_rfl) rfl, ?_⟩
  rw [← hz, ← onceE_rows]
  refine toEl (eachOnce_sep Fence.wide 5 trivial trivial rfl rfl (by omega) _ _ trivial enters_values zs (by rw [← rowsE_len, hz]; exact hl) _ w1 (Below.refl _ _) (hseq 4 (by omega)) c1 ?_) (Below.refl _ _) (fun x hx => hP x (onceE_mem hx))
  intro m X xa xb xc xd q r k hkq hq hr hql hrl
  subst hkq
  exact callsIn_wide.2 (implCountSame_any xa xb xc xd q r X hq hr hql hrl)
end Go.Proofs.YtanfllednlpbaaaGreat
namespace Go.Proofs.YtanfllednlpbaaaGreat
open Go.RowKit
set_option linter.unusedSimpArgs false
set_option linter.unusedVariables false

set_option maxRecDepth 100000 in
set_option maxHeartbeats 6400000 in
theorem specOnce_any (z : Nat → Prop) (a : Option Addr) (c : Nat) (l : RowsL) (w : World) (h : RdX z w a l) (hzw : ∀ k, z k → k < w.heap.size) (hl : l.length ≤ 1048576) :
    Calls Tryz.prog 84 #[.slice a l.length c] w (GivesR z w (onceL l)) := by
  obtain ⟨zs, hz, hL, hPX⟩ := h.els c
  have HPX := Lib.hid hPX
  have HZW := Lib.hid hzw
  clear hPX hzw
  have hzl : zs.length = l.length := by rw [← hz, rowsE_len]
  have FE := Lib.hid (show rowsE (onceE zs) = onceL l by rw [onceE_rows, hz])
  have HL := Lib.hid hL
  have HZL := Lib.hid hzl
  generalize onceL l = L at FE ⊢
  have O0 := Lib.hid (show OwnV (w.alloc (.cells #[] 34)) w.heap.size 34 (some ⟨w.heap.size, 0, none⟩) 0 (([] : List (Els w)).map encE) from World.ownsRow_lit w #[] 0 (Nat.le_refl _) (Nat.zero_le _) rfl)
  have B0 := Lib.hid ((Below.refl w.heap.size w).alloc (Nat.le_refl _) (.cells #[] 34))
  clear h hL hz hzl
  go_enter Tryz.func84, Tryz.ntmps84
  go_wp2_with fail
  go_loopw [3, 4] (fun s i wr => ∃ (j : Nat) (ao : Option Addr) (m cc : Nat) (Y : List (Els w)), j ≤ l.length ∧ i = .int .i64 j ∧ s = .slice ao m cc ∧ m = Y.length ∧ Y = onceE (zs.take j) ∧ OwnV wr w.heap.size 34 ao cc (Y.map encE) ∧ Below w.heap.size w wr) (fun _ i _ => l.length - (intOf i).toNat)
  case atStart => exact ⟨0, _, _, _, [], Nat.zero_le _, rfl, rfl, rfl, by simp [onceE], O0.out, B0.out⟩
  case round =>
    clear O0 B0
    obtain ⟨j, ao, m, cc, Y, hj, rfl, rfl, hm, hY, ho, hb⟩ := hrel
    have YL := Lib.hid (show Y.length ≤ 1048576 by rw [hY]; have := onceE_len (zs.take j); have := List.length_take_le j zs; have := HZL.out; omega)
    have RY := Lib.hid (show RdR wr ao (rowsE Y) from by
      have h := ho
      unfold OwnV at h
      rw [List.length_map] at h
      exact owns_rdR (v := .slice ao Y.length cc) h hb)
    have HM := Lib.hid hm
    have HY := Lib.hid hY
    have HO := Lib.hid ho
    have HB := Lib.hid hb
    clear hm hY ho
    by_cases hlt : j < l.length
    · have hlz : (j : Int) < (l.length : Int) := by omega
      obtain ⟨x, hx⟩ : ∃ x, zs[j]? = some x := ⟨_, List.getElem?_eq_getElem (by have := HZL.out; omega)⟩
      obtain ⟨b1, o1, a0, hb1, hcx⟩ : ∃ b off, a = some ⟨b, off, none⟩ ∧ b < w.heap.size ∧ w.cell? ⟨b, off + j, none⟩ = some (encE x) := by
        rcases HL.out with ⟨_, _, e, rfl⟩ | ⟨b, off, cap, e, hb, hc⟩
        · simp at hx
        · simp only [Value.slice.injEq] at e
          exact ⟨b, off, e.1, hb, hc j x hx⟩
      subst a0
      have hcr := (hb.cell (p := ⟨b1, o1 + j, none⟩) hb1).trans hcx
      have hxg : Good wr x.1 := ⟨x.2.1.below hb, x.2.2⟩
      have CS := Lib.hid (show Calls Tryz.prog 117 #[.slice ao m cc, .slice x.1.a x.1.r.length x.1.c] wr fun e w' => e = .returned (.int .i64 (countL (rowsE Y) x.1.r)) ∧ Below wr.heap.size wr w' from by
        rw [HM.out, ← rowsE_len Y]
        exact specCountSame_any ao x.1.a cc x.1.c (rowsE Y) x.1.r wr RY.out hxg.1 (by rw [rowsE_len]; exact YL.out) (Nat.le_trans hxg.2.1 hxg.2.2))
      have TAKE := Lib.hid (show zs.take (j + 1) = zs.take j ++ [x] by rw [List.take_add_one, hx]; rfl)
      have e1y := Lib.hid (show countL (rowsE Y) x.1.r = 0 → Y ++ [x] = onceE (zs.take (j + 1)) from fun h => by rw [TAKE.out]; rw [HY.out] at h ⊢; exact (onceE_y h).symm)
      have e1n := Lib.hid (show ¬ countL (rowsE Y) x.1.r = 0 → Y = onceE (zs.take (j + 1)) from fun h => by rw [TAKE.out, onceE_n (by rw [← HY.out]; exact h)]; exact HY.out)
      unfold encE at hcr
      clear hcx hx hxg hb
      generalize countL (rowsE Y) x.1.r = cn at CS e1y e1n
      by_cases h : cn = 0
      · have NY := Lib.hid (e1y.out h)
        subst h
        clear e1n
        go_wp2_with (first | (go_at_call 117; refine CS.out.mono ?_; rintro e w3 ⟨rfl, b3⟩; have B3 := Lib.hid b3; have hcr3 := (b3.cell (p := ⟨b1, o1 + j, none⟩) (World.block_lt_of_cell? wr _ hcr)).trans hcr; have O3 := Lib.hid (HO.out.below b3); have HB3 := Lib.hid (below_step HB.out (Nat.le_refl _) b3); clear b3 hcr) | (at_builtin; refine wpList_appendV _ rfl (.tmp 19) (.tmp 24) 29 rfl w.heap.size 34 (.slice none 0 0) 24 Tryz.underlying29 infoRw rfl _ _ _ (Y.map encE) rfl (by rw [HM.out, List.length_map]) (O3.out.alloc _) _ 1 (encE x) rfl (cell_one _ _ _) rfl (by have := YL.out; unfold maxLen; rw [List.length_map]; omega) (by have := YL.out; rw [List.length_map]; omega) (by have := HB3.out.size; simp; omega) ?_; intro qa qc qw qo qg qk; have QO := Lib.hid qo; have QB := Lib.hid (below_appV HB3.out HB3.out.size O3.out qg); clear qo qg qk))
        go_roundw
        case rel => exact ⟨j + 1, _, _, _, Y ++ [x], by omega, by go_num, rfl, by simp, NY.out, by simpa using QO.out, QB.out⟩
        case measure => simp [intOf]; omega
      · have NY := Lib.hid (e1n.out h)
        have h' : ¬ ((cn : Int) = 0) := by omega
        clear e1y
        go_wp2_with (go_at_call 117; refine CS.out.mono ?_; rintro e w3 ⟨rfl, b3⟩; have B3 := Lib.hid b3; have O3 := Lib.hid (HO.out.below b3); have HB3 := Lib.hid (below_step HB.out (Nat.le_refl _) b3); clear b3)
        go_roundw
        case rel => exact ⟨j + 1, _, _, _, Y, by omega, by go_num, rfl, HM.out, NY.out, O3.out, HB3.out⟩
        case measure => simp [intOf]; omega
    · obtain rfl : j = l.length := by omega
      clear hb
      go_wp2_with fail
      go_ret
      have e : zs.take l.length = zs := List.take_of_length_le (by rw [HZL.out]; exact Nat.le_refl _)
      have hYL : rowsE Y = L := by rw [HY.out, e]; exact FE.out
      rw [HM.out]
      exact gives_els hYL HO.out HB.out HB.out HZW.out (fun x hx => by rw [HY.out] at hx; exact HPX.out x (List.mem_of_mem_take (onceE_mem hx)))
end Go.Proofs.YtanfllednlpbaaaGreat
