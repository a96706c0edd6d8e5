/-
  Contracts of spec.l04Holds and spec.l04Filter. For every filter and every rows. Contract of spec.l04Keep. For every keep and every rows. A row as a text: plain facts. No program, no walk. A text parted at each byte of one kind. Plain facts; no walk. append of strings to a row of strings of the call's own: one string, or a whole slice of them. No walk. Contract of spec.l01Parts: a text parted at each byte of one kind. For every text that is not too long, and every byte. Digits and what they are worth. Plain facts; no walk. Contract of spec.l01Read: the number that a word writes. For every text. When a text is a row's. Plain facts; no walk. The contracts of the law's own helpers: same, sameBytes, at, alt; and of the model's draws of a list, a word and a body: some list, some text, in memory of its own. For every slice of bytes. The contracts of the model's DrawPutNums, DrawPutWord and DrawFrame: some list of numbers, some text, some bytes, in memory of their own. For every slice of bytes.
-/
import Derived.Test.YtanfllednlpbaaaGreatM24x
import Derived.Test.YtanfllednlpbaaaGreatM25x
import Derived.Test.YtanfllednlpbaaaGreatM33x
import Derived.Deep.RegionWith
import Derived.Test.YtanfllednlpbaaaGreatM23x
import Derived.Test.YtanfllednlpbaaaGreatM27x
import Derived.Test.YtanfllednlpbaaaGreatM32x
import Derived.Deep.AppendLies
import Derived.Deep.RegionLaw
import Derived.Test.YtanfllednlpbaaaGreatM2x
import Derived.Lib.Join
import Derived.Test.YtanfllednlpbaaaGreatM1x
import Derived.Maps.AppendAt
import Derived.OwnWalk
import Derived.WalkKit
import Derived.Test.YtanfllednlpbaaaGreatM3x
namespace Go.Proofs.YtanfllednlpbaaaGreat
open Go.RowKit
set_option linter.unusedSimpArgs false
set_option linter.unusedVariables false
def GivesR (z : Nat → Prop) (w : World) (L : List (List Int)) (e : Ending) (w' : World) : Prop :=
  ∃ ao cc, e = .returned (.slice ao L.length cc) ∧ RdX z w' ao L ∧ Below w.heap.size w w' ∧ L.length ≤ cc
set_option maxRecDepth 100000 in
set_option maxHeartbeats 1600000 in
theorem specHolds_any (n : Nd) (ho : n.op = 0 ∨ n.op = 1 ∨ n.op = 2 ∨ n.op = 3) (a : Option Addr) (c : Nat) (v : Int) (w : World) : Calls Tryz.prog 116 #[.agg #[.int .i64 n.kind, .string n.name, .int .i64 n.col, .int .i64 n.op, .int .i64 n.num, .bool n.slot, .slice a n.cols.length c], .int .i64 v] w fun e w' =>
    e = .returned (.bool (holdV n v)) ∧ Below w.heap.size w w' := by
  obtain ⟨r, hr⟩ : ∃ r, holdV n v = r := ⟨_, rfl⟩
  rw [hr]
  have HR := Lib.hid hr
  clear hr
  have B0 := Lib.hid ((Below.refl w.heap.size w).alloc (Nat.le_refl _) (.cells #[.int .i64 n.kind, .string n.name, .int .i64 n.col, .int .i64 n.op, .int .i64 n.num, .bool n.slot, .slice a n.cols.length c] 39))
  by_cases hv : v = -2000000
  · subst hv
    rcases ho with h | h | h | h <;> rw [h] at B0 ⊢ <;> (
      have E : r = decide (n.op = 3) := by rw [← HR.out]; unfold holdV; rw [if_pos rfl]
      rw [h] at E
      subst E
      go_enter Tryz.func116, Tryz.ntmps116
      go_wp2
      go_ret
      exact ⟨rfl, B0.out⟩)
  · rcases ho with h | h | h | h
    · have E : r = decide (v = n.num) := by rw [← HR.out]; unfold holdV; rw [if_neg hv, if_pos h]
      rw [h] at B0 ⊢
      go_enter Tryz.func116, Tryz.ntmps116
      go_wp2
      go_ret
      exact ⟨ret_bool (by subst E; first | rfl | simp), B0.out⟩
    · have E : r = decide (v < n.num) := by rw [← HR.out]; unfold holdV; rw [if_neg hv, if_neg (by omega), if_pos h]
      rw [h] at B0 ⊢
      go_enter Tryz.func116, Tryz.ntmps116
      go_wp2
      go_ret
      exact ⟨ret_bool (by rw [E]), B0.out⟩
    · have E : r = decide (n.num < v) := by rw [← HR.out]; unfold holdV; rw [if_neg hv, if_neg (by omega), if_neg (by omega), if_pos h]
      rw [h] at B0 ⊢
      go_enter Tryz.func116, Tryz.ntmps116
      go_wp2
      go_ret
      exact ⟨ret_bool (by rw [E]), B0.out⟩
    · have E : r = false := by rw [← HR.out]; unfold holdV; rw [if_neg hv, if_neg (by omega), if_neg (by omega), if_neg (by omega)]
      rw [h] at B0 ⊢
      subst E
      go_enter Tryz.func116, Tryz.ntmps116
      go_wp2
      go_ret
      exact ⟨rfl, B0.out⟩
theorem filt_els' {n : Nd} {w : World} {zs : List (Els w)} {l : RowsL} (h : rowsE zs = l) : rowsE (zs.filter fun x => holdV n (cellV x.1.r n.col)) = filtL n l := by
  subst h
  unfold rowsE filtL
  rw [List.filter_map]
  rfl
theorem gives_els {z : Nat → Prop} {w wb u wr : World} {Y : List (Els wb)} {L : RowsL} {ao : Option Addr} {cc : Nat} (hY : rowsE Y = L) (ho : OwnV wr u.heap.size 34 ao cc (Y.map encE)) (hb : Below wb.heap.size wb wr) (hb' : Below w.heap.size w wr) (hzu : ∀ k, z k → k < u.heap.size) (hP : ∀ x ∈ Y, PX z x.1) : GivesR z w L (.returned (.slice ao Y.length cc)) wr := by
  subst hY
  have hcap : Y.length ≤ cc := by
    rcases ho.2 with ⟨hv, hxs⟩ | ⟨q, cap, cur, e, _, _, h1, _⟩
    · simp only [Value.slice.injEq, List.length_map] at hv
      omega
    · simp only [Value.slice.injEq] at e; rw [e.2.2]; simpa using h1
  refine ⟨ao, cc, by rw [rowsE_len], ?_, hb', by rw [rowsE_len]; exact hcap⟩
  unfold OwnV at ho
  rw [List.length_map] at ho
  have e : Y.map encE = (Y.map fun x => x.1).map El.val := by rw [List.map_map]; rfl
  rw [e] at ho
  have := owns_rdX ho (fun y hy => by
    obtain ⟨x, hx, rfl⟩ := List.mem_map.1 hy
    exact ⟨x.2.1.below hb, x.2.2⟩) hzu (fun y hy => by
    obtain ⟨x, hx, rfl⟩ := List.mem_map.1 hy
    exact hP x hx)
  rwa [rowsV_els] at this
set_option maxRecDepth 100000 in
set_option maxHeartbeats 6400000 in
theorem specFilter_any (z : Nat → Prop) (n : Nd) (hop : n.op = 0 ∨ n.op = 1 ∨ n.op = 2 ∨ n.op = 3) (na : Option Addr) (nc : Nat) (a : Option Addr) (c : Nat) (l : RowsL) (w : World) (h : RdX z w a l) (hzw : ∀ k, z k → k < w.heap.size) (hl : l.length ≤ 1048576) (h0 : 0 ≤ n.col) (hfit : ∀ r ∈ l, n.col < (r.length : Int)) :
    Calls Tryz.prog 80 #[.agg #[.int .i64 n.kind, .string n.name, .int .i64 n.col, .int .i64 n.op, .int .i64 n.num, .bool n.slot, .slice na n.cols.length nc], .slice a l.length c] w (GivesR z w (filtL n l)) := by
  obtain ⟨zs, hz, hL, hPX⟩ := h.els c
  have HPX := Lib.hid hPX
  have HZW := Lib.hid hzw
  clear hPX hzw
  have hzl : zs.length = l.length := by rw [← hz, rowsE_len]
  obtain ⟨k, hk⟩ : ∃ k : Nat, n.col = (k : Int) := ⟨_, (Int.toNat_of_nonneg h0).symm⟩
  have HD := Lib.hid (fun v W => specHolds_any n hop na nc v W)
  have FE := Lib.hid (filt_els' (n := n) hz)
  have HL := Lib.hid hL
  have HZL := Lib.hid hzl
  have HF := Lib.hid (show ∀ x ∈ zs, ∃ v, k < x.1.r.length ∧ x.1.r.getD k 0 = v ∧ cellV x.1.r n.col = v from fun x hx => by
    have h1 := hfit x.1.r (by rw [← hz]; exact List.mem_map.2 ⟨x, hx, rfl⟩)
    refine ⟨_, by omega, rfl, ?_⟩
    unfold cellV; rw [hk, Int.toNat_natCast, List.getD_eq_getElem?_getD])
  generalize filtL n l = L at FE ⊢
  have HK := Lib.hid hk
  clear h hL hz hzl h0 hfit hop hk
  go_enter Tryz.func80, Tryz.ntmps80
  go_wp2_with fail
  obtain ⟨u, hu⟩ : ∃ u, w.alloc (.cells #[.int .i64 n.kind, .string n.name, .int .i64 n.col, .int .i64 n.op, .int .i64 n.num, .bool n.slot, .slice na n.cols.length nc] 39) = u := ⟨_, rfl⟩
  have bu : Below w.heap.size w u := by rw [← hu]; exact (Below.refl _ w).alloc (Nat.le_refl _) _
  have su : u.heap.size = w.heap.size + 1 := by rw [← hu]; simp
  have q0 : u.cell? ⟨w.heap.size, 0, none⟩ = some (.int .i64 n.kind) := by rw [← hu]; simp
  have q1 : u.cell? ⟨w.heap.size, 1, none⟩ = some (.string n.name) := by rw [← hu]; simp
  have q2 : u.cell? ⟨w.heap.size, 2, none⟩ = some (.int .i64 n.col) := by rw [← hu]; simp
  have q3 : u.cell? ⟨w.heap.size, 3, none⟩ = some (.int .i64 n.op) := by rw [← hu]; simp
  have q4 : u.cell? ⟨w.heap.size, 4, none⟩ = some (.int .i64 n.num) := by rw [← hu]; simp
  have q5 : u.cell? ⟨w.heap.size, 5, none⟩ = some (.bool n.slot) := by rw [← hu]; simp
  have q6 : u.cell? ⟨w.heap.size, 6, none⟩ = some (.slice na n.cols.length nc) := by rw [← hu]; simp
  have O0 := Lib.hid (show OwnV (u.alloc (.cells #[] 34)) u.heap.size 34 (some ⟨w.heap.size + 1, 0, none⟩) 0 (([] : List (Els w)).map encE) from by rw [← su]; exact World.ownsRow_lit u #[] 0 (Nat.le_refl _) (Nat.zero_le _) rfl)
  have B0 := Lib.hid ((Below.refl u.heap.size u).alloc (Nat.le_refl _) (.cells #[] 34))
  have BU := Lib.hid bu
  have SU := Lib.hid su
  try rw [hu]
  have HS : w.heap.size < u.heap.size := by omega
  clear hu bu su
  obtain ⟨T, hTT⟩ : ∃ T : Els w → Bool, T = fun x => holdV n (cellV x.1.r n.col) := ⟨_, rfl⟩
  have TT := Lib.hid hTT
  clear hTT
  go_loopw [5, 6] (fun s i wr => ∃ (j : Nat) (ao : Option Addr) (m cc : Nat) (Y : List (Els w)), j ≤ l.length ∧ i = .int .i64 j ∧ s = .slice ao m cc ∧ m = Y.length ∧ Y = (zs.take j).filter T ∧ OwnV wr u.heap.size 34 ao cc (Y.map encE) ∧ Below u.heap.size u wr) (fun _ i _ => l.length - (intOf i).toNat)
  case atStart => exact ⟨0, _, _, _, [], Nat.zero_le _, rfl, rfl, rfl, by simp, O0.out, B0.out⟩
  case round =>
    clear O0 B0
    obtain ⟨j, ao, m, cc, Y, hj, rfl, rfl, hm, hY, ho, hb⟩ := hrel
    have HM := Lib.hid hm
    have HY := Lib.hid hY
    have HO := Lib.hid ho
    have HB := Lib.hid hb
    have YL := Lib.hid (show Y.length ≤ 1048576 by rw [hY]; have := List.length_filter_le T (zs.take j); have := List.length_take_le j zs; have := HZL.out; omega)
    clear hm hY ho
    by_cases hlt : j < l.length
    · have hlz : (j : Int) < (l.length : Int) := by omega
      obtain ⟨x, hx⟩ : ∃ x, zs[j]? = some x := ⟨_, List.getElem?_eq_getElem (by have := HZL.out; omega)⟩
      obtain ⟨v, hv1, hv2, hv3⟩ := HF.out x (List.mem_of_getElem? hx)
      obtain ⟨b1, o1, a0, hb1, hcx⟩ : ∃ b off, a = some ⟨b, off, none⟩ ∧ b < w.heap.size ∧ w.cell? ⟨b, off + j, none⟩ = some (encE x) := by
        rcases HL.out with ⟨_, _, e, rfl⟩ | ⟨b, off, cap, e, hb, hc⟩
        · simp at hx
        · simp only [Value.slice.injEq] at e
          exact ⟨b, off, e.1, hb, hc j x hx⟩
      subst a0
      have BW := Lib.hid (BU.out.trans (hb.mono BU.out.size))
      have hcr := (BW.out.cell (p := ⟨b1, o1 + j, none⟩) hb1).trans hcx
      have hxg : Good wr x.1 := ⟨x.2.1.below BW.out, x.2.2⟩
      obtain ⟨xb, xo, hxa, hxc⟩ : ∃ b off, x.1.a = some ⟨b, off, none⟩ ∧ ∀ i, i < x.1.r.length → wr.cell? ⟨b, off + i, none⟩ = some (.int .i64 (x.1.r.getD i 0)) := by
        rcases hxg.1 with h | h
        · rw [h] at hv1; cases hv1
        · exact h
      have hcv := hxc k hv1
      rw [hv2] at hcv
      have ex : encE x = .slice (some ⟨xb, xo, none⟩) x.1.r.length x.1.c := by unfold encE; rw [hxa]
      rw [ex] at hcr
      have p0 := (hb.cell (p := ⟨w.heap.size, 0, none⟩) HS).trans q0
      have p1 := (hb.cell (p := ⟨w.heap.size, 1, none⟩) HS).trans q1
      have p2 := (hb.cell (p := ⟨w.heap.size, 2, none⟩) HS).trans q2
      have p3 := (hb.cell (p := ⟨w.heap.size, 3, none⟩) HS).trans q3
      have p4 := (hb.cell (p := ⟨w.heap.size, 4, none⟩) HS).trans q4
      have p5 := (hb.cell (p := ⟨w.heap.size, 5, none⟩) HS).trans q5
      have p6 := (hb.cell (p := ⟨w.heap.size, 6, none⟩) HS).trans q6
      have HX := Lib.hid hx
      have EX := Lib.hid ex
      have HD' := Lib.hid (HD.out v)
      have TX := Lib.hid (show T x = holdV n v by rw [TT.out]; show holdV n (cellV x.1.r n.col) = _; rw [hv3])
      generalize hxl : x.1.r.length = xl at hcr hv1
      have XL := Lib.hid hxl
      have BD := Lib.hid (Below.refl wr.heap.size wr).drew
      clear hxc hxg hxa hv2 hv3 hcx hx ex hxl hb
      rw [HK.out] at p2 HD'
      have TAKE := Lib.hid (show zs.take (j + 1) = zs.take j ++ [x] by rw [List.take_add_one, HX.out]; rfl)
      cases hbv : holdV n v with
      | false =>
        have NY := Lib.hid (show Y = (zs.take (j + 1)).filter T by rw [TAKE.out, List.filter_append, ← HY.out]; simp [TX.out, hbv])
        rw [hbv] at HD'
        clear hbv
        go_wp2_with fail
        go_region_with (go_at_call 116; refine (HD'.out _).mono ?_; rintro e w3 ⟨rfl, b3⟩; have B3 := Lib.hid (below_step BD.out (Nat.le_refl _) b3); clear b3)
        all_goals (
          go_wp2_with fail
          go_roundw
          case rel => exact ⟨j + 1, _, _, _, Y, by omega, by go_num, rfl, HM.out, NY.out, HO.out.below B3.out, HB.out.trans (B3.out.mono HB.out.size)⟩
          case measure => simp [intOf]; omega)
      | true =>
        have NY := Lib.hid (show Y ++ [x] = (zs.take (j + 1)).filter T by rw [TAKE.out, List.filter_append, ← HY.out]; simp [TX.out, hbv])
        rw [hbv] at HD'
        clear hbv
        go_wp2_with fail
        go_region_with (go_at_call 116; refine (HD'.out _).mono ?_; rintro e w3 ⟨rfl, b3⟩; have B3 := Lib.hid (below_step BD.out (Nat.le_refl _) b3); have hcr3 := (b3.cell (p := ⟨b1, o1 + j, none⟩) (World.block_lt_of_cell? wr _ hcr)).trans hcr; clear b3)
        all_goals (
          have O3 := Lib.hid (HO.out.below B3.out)
          have HB3 := Lib.hid (HB.out.trans (B3.out.mono HB.out.size))
          clear hcr hcv p0 p1 p2 p3 p4 p5 p6
          go_wp2_with (at_builtin; refine wpList_appendV _ rfl (.tmp 24) (.tmp 29) 29 rfl u.heap.size 34 (.slice none 0 0) 24 Tryz.underlying29 infoRw rfl _ _ _ (Y.map encE) rfl (by rw [HM.out, List.length_map]) (O3.out.alloc _) _ 1 (.slice (some ⟨xb, xo, none⟩) xl x.1.c) rfl (cell_one _ _ _) rfl (by have := YL.out; unfold maxLen; rw [List.length_map]; omega) (by have := YL.out; rw [List.length_map]; omega) (by have := HB3.out.size; simp; omega) ?_; intro qa qc qw qo qg qk; have QO := Lib.hid qo; have QB := Lib.hid (below_appV HB3.out HB3.out.size O3.out qg); clear qo qg qk)
          go_roundw
          case rel =>
            refine ⟨j + 1, _, _, _, Y ++ [x], by omega, by go_num, rfl, by simp, NY.out, ?_, QB.out⟩
            have h := QO.out
            rw [← XL.out, ← EX.out] at h
            simpa using h
          case measure => simp [intOf]; omega)
    · obtain rfl : j = l.length := by omega
      clear hb
      have BW := Lib.hid (BU.out.trans (HB.out.mono BU.out.size))
      go_wp2_with fail
      go_ret
      have e : (zs.take l.length).filter T = zs.filter T := by rw [List.take_of_length_le (by rw [HZL.out]; exact Nat.le_refl _)]
      have hYL : rowsE Y = L := by rw [HY.out, e, TT.out]; exact FE.out
      rw [HM.out]
      exact gives_els hYL HO.out BW.out BW.out (fun k hk => Nat.lt_trans (HZW.out k hk) HS) (fun x hx => by rw [HY.out] at hx; exact HPX.out x (List.mem_of_mem_take (List.mem_filter.1 hx).1))
theorem keepR_take {cols r : List Int} {k : Nat} (hk : k < cols.length) : (keepR cols r).take (k + 1) = (keepR cols r).take k ++ [cellV r (cols.getD k 0)] := by
  unfold keepR
  rw [List.take_add_one, List.getElem?_map, List.getElem?_eq_getElem hk, List.getD_eq_getElem?_getD, List.getElem?_eq_getElem hk]; rfl
theorem keepL_at {n : Nd} {l : RowsL} {j : Nat} {r : List Int} (h : l[j]? = some r) : (keepL n l)[j]? = some (keepR n.cols r) := by
  unfold keepL; rw [List.getElem?_map, h]; rfl
theorem keep_next {cols r : List Int} {k gg cap : Nat} {base : Nat} {w4 : World} {vv x y : Int} {XS : List Value} (hl : ((keepR cols r).take k).length = k) (ht : (keepR cols r).take (k + 1) = (keepR cols r).take k ++ [x]) (hx : x = y) (hy : y = vv) (hX : (((keepR cols r).take k).map (Value.int .i64)) = XS) (o : w4.ownsRow base 3 1 (.slice (some ⟨gg, 0, none⟩) (k + 1) cap) (k + 1) (XS ++ [.int .i64 vv])) : Own w4 base 3 .i64 (some ⟨gg, 0, none⟩) cap ((keepR cols r).take (k + 1)) := by
  subst hx; subst hy; subst hX
  rw [ht]
  unfold Own
  rw [List.length_append, hl, List.map_append]
  exact o
theorem keep_push {w w1 w4 : World} {base g c j m : Nat} {l : List (List Int)} {xs : List Value} {A : Nat → Option Addr} {C : Nat → Nat} (h : PartR w base g c j l j xs A C) {r : List Int} {a1 : Option Addr} {c1 c' : Nat} {ao' : Option Addr} (hn : l[j]? = some r) (hb : Below w.heap.size w w1)
    (ho : Own w1 w.heap.size 3 .i64 a1 c1 r) (hm : r.length = m) (hbase : base ≤ w.heap.size) (ho4 : OwnV w4 base 34 ao' c' (xs ++ [.slice a1 m c1])) (hg4 : w1.grownBy w4 (some g)) (hao : ao' = some ⟨g, 0, none⟩ ∨ ao' = some ⟨w1.heap.size, 0, none⟩) :
    ∃ g', ao' = some ⟨g', 0, none⟩ ∧ PartR w4 base g' c' (j + 1) l (j + 1) (xs ++ [.slice a1 m c1]) (fun i => if i = j then a1 else A i) (fun i => if i = j then c1 else C i) := by
  subst hm; exact h.push hn hb ho hbase ho4 hg4 hao
theorem Own.lowX {w : World} {base : Nat} {a : Option Addr} {c : Nat} {r : List Int} (h : Own w base 3 .i64 a c r) : ∀ x, a = some x → base ≤ x.block := by
  intro x hx
  subst hx
  rcases h.2 with ⟨e, _⟩ | ⟨q, cap, cur, e, h1, _⟩
  · cases e
  · simp only [Value.slice.injEq, Option.some.injEq] at e
    rw [e.1]; exact h1
theorem PartR.rdZ {z : Nat → Prop} {w : World} {base g c : Nat} {l : List (List Int)} {xs : List Value} {A : Nat → Option Addr} {C : Nat → Nat} (h : PartR w base g c l.length l l.length xs A C) (hz : ∀ k, z k → k < base) : RdX z w (some ⟨g, 0, none⟩) l := by
  have hg : base ≤ g := by
    rcases h.own.2 with ⟨e, _⟩ | ⟨q, cap, cur, e, h1, _⟩
    · cases e
    · simp only [Value.slice.injEq, Option.some.injEq, Addr.mk.injEq] at e
      rw [e.1.1]; exact h1
  refine .inr ⟨g, 0, rfl, fun hk => by have := hz _ hk; omega, fun i r hi => ?_⟩
  have hlt := (List.getElem?_eq_some_iff.1 hi).1
  obtain ⟨h1, h2, h3, h4⟩ := h.at_ hlt hlt hi
  refine ⟨_, _, h1, h2, h3, h4, fun _ x hx hk => ?_⟩
  have := (h.cols i r hlt hi).lowX x hx
  have := hz _ hk
  omega
theorem keepL_len (n : Nd) (l : RowsL) : (keepL n l).length = l.length := by simp [keepL]
set_option maxRecDepth 100000 in
set_option maxHeartbeats 12800000 in
theorem specKeep_any (z : Nat → Prop) (n : Nd) (na : Option Addr) (nc : Nat) (a : Option Addr) (c : Nat) (l : RowsL) (w : World) (h : RdR w a l) (hzw : ∀ k, z k → k < w.heap.size) (hl : l.length ≤ 1048576) (hcols : Rd w .i64 na n.cols) (hlen : n.cols.length ≤ 1048576) (hfit : ∀ r ∈ l, ∀ cc ∈ n.cols, 0 ≤ cc ∧ cc < (r.length : Int)) :
    Calls Tryz.prog 81 #[.agg #[.int .i64 n.kind, .string n.name, .int .i64 n.col, .int .i64 n.op, .int .i64 n.num, .bool n.slot, .slice na n.cols.length nc], .slice a l.length c] w (GivesR z w (keepL n l)) := by
  have H := Lib.hid h
  have HC := Lib.hid hcols
  have HF := Lib.hid hfit
  have HLN := Lib.hid hlen
  clear h hcols hfit
  obtain ⟨i0, hi0, hz0, hz1, hz2⟩ := info_parts Tryz.infoInt
  go_enter Tryz.func81, Tryz.ntmps81
  go_wp2_with fail
  obtain ⟨u, hu⟩ : ∃ u, w.alloc (.cells #[.int .i64 n.kind, .string n.name, .int .i64 n.col, .int .i64 n.op, .int .i64 n.num, .bool n.slot, .slice na n.cols.length nc] 39) = u := ⟨_, rfl⟩
  have bu : Below w.heap.size w u := by rw [← hu]; exact (Below.refl _ w).alloc (Nat.le_refl _) _
  have su : u.heap.size = w.heap.size + 1 := by rw [← hu]; simp
  have q6 : u.cell? ⟨w.heap.size, 6, none⟩ = some (.slice na n.cols.length nc) := by rw [← hu]; simp
  have P0 : Hid (∃ xs A C, PartR (u.alloc (.cells #[] 34)) u.heap.size (w.heap.size + 1) 0 0 (keepL n l) 0 xs A C) := ⟨_, _, _, by rw [← su]; exact PartR.start u (keepL n l)⟩
  have B0 := Lib.hid ((Below.refl u.heap.size u).alloc (Nat.le_refl _) (.cells #[] 34))
  have BU := Lib.hid bu
  have HS : w.heap.size < u.heap.size := by omega
  try rw [hu]
  clear hu bu su
  go_loopw [5, 6, 7, 8] (fun s i _ _ wr => ∃ (j g cc : Nat), j ≤ l.length ∧ i = .int .i64 j ∧ s = .slice (some ⟨g, 0, none⟩) j cc ∧ cc ≤ maxLen ∧ (∃ xs A C, PartR wr u.heap.size g cc j (keepL n l) j xs A C) ∧ Below u.heap.size u wr) (fun _ i _ _ _ => l.length - (intOf i).toNat)
  case atStart => exact ⟨0, _, _, Nat.zero_le _, rfl, rfl, Nat.zero_le _, P0.out, B0.out⟩
  case round =>
    clear P0 B0
    obtain ⟨j, g, cc, hj, rfl, rfl, hcc, ⟨xs, A, C, hp⟩, hb⟩ := hrel
    obtain ⟨wo, rfl⟩ : ∃ wo, wo = wr := ⟨_, rfl⟩
    have HP := Lib.hid hp
    have HB := Lib.hid hb
    have HCC := Lib.hid hcc
    have BW := Lib.hid (BU.out.trans (hb.mono BU.out.size))
    by_cases hlt : j < l.length
    · have hlz : (j : Int) < (l.length : Int) := by omega
      obtain ⟨b, off, r, xa, xc, rfl, hn, ⟨c0, rd, cx, mx⟩⟩ := (H.out.below BW.out).at_ hlt
      have KA := Lib.hid (keepL_at (n := n) hn)
      have RD := Lib.hid rd
      have hfr := Lib.hid (HF.out r (List.mem_of_getElem? hn))
      have XL : Hid (xs.length = j) := by have := hp.own.1; show _ = _; omega
      have q6o := (hb.cell (p := ⟨w.heap.size, 6, none⟩) HS).trans q6
      have HCo := Lib.hid (HC.out.below BW.out)
      have O0 := Lib.hid (own_empty (w := wo) (base := wo.heap.size) (e := 3) (k := .i64) (Nat.le_refl _))
      have B0 := Lib.hid ((Below.refl wo.heap.size wo).alloc (Nat.le_refl _) (.cells #[] 3))
      have CB := Lib.hid (World.block_lt_of_cell? wo _ c0)
      have C0 := Lib.hid c0
      have Q6 := Lib.hid q6o
      have HSo := Lib.hid (show w.heap.size < wo.heap.size from Nat.lt_of_lt_of_le HS hb.size)
      generalize hrl : r.length = rl at c0
      have RL := Lib.hid hrl
      clear hn hp hb rd cx mx hcc hrl
      go_wp2_with fail
      go_loopw [7, 8] (fun s i w2 => ∃ (k : Nat) (ra : Option Addr) (rc : Nat), k ≤ n.cols.length ∧ i = .int .i64 k ∧ s = .slice ra k rc ∧ Own w2 wo.heap.size 3 .i64 ra rc ((keepR n.cols r).take k) ∧ Below wo.heap.size wo w2) (fun _ i _ => n.cols.length - (intOf i).toNat)
      case atStart => exact ⟨0, _, _, Nat.zero_le _, rfl, rfl, O0.out, B0.out⟩
      case round =>
        clear O0 B0
        obtain ⟨k, ra, rc, hk, rfl, rfl, ho, hb2⟩ := hrel
        have HO := Lib.hid ho
        have HB2 := Lib.hid hb2
        have z6 := (hb2.cell (p := ⟨w.heap.size, 6, none⟩) HSo.out).trans Q6.out
        have zr := (hb2.cell (p := ⟨b, off + j, none⟩) CB.out).trans C0.out
        clear ho
        by_cases hk2 : k < n.cols.length
        · rcases HCo.out with h0 | ⟨bc, oc, rfl, hcc⟩
          · rw [h0] at hk2; cases hk2
          · have hmem : n.cols.getD k 0 ∈ n.cols := by rw [List.getD_eq_getElem?_getD, List.getElem?_eq_getElem hk2]; exact List.getElem_mem hk2
            obtain ⟨f1, f2⟩ := hfr.out _ hmem
            obtain ⟨cn, hcn⟩ : ∃ cn : Nat, n.cols.getD k 0 = (cn : Int) := ⟨_, (Int.toNat_of_nonneg f1).symm⟩
            have hcx : cn < r.length := by omega
            rcases RD.out with h0 | ⟨bx, ox, rfl, hxc⟩
            · rw [h0] at hcx; cases hcx
            · have l1 := World.block_lt_of_cell? wo _ (hcc k hk2)
              have l2 := World.block_lt_of_cell? wo _ (hxc cn hcx)
              have z1 := (hb2.cell (p := ⟨bc, oc + k, none⟩) l1).trans (hcc k hk2)
              have z2 := (hb2.cell (p := ⟨bx, ox + cn, none⟩) l2).trans (hxc cn hcx)
              rw [hcn] at z1
              have TK := Lib.hid (keepR_take (r := r) hk2)
              have CV : cellV r (n.cols.getD k 0) = r.getD cn 0 := by rw [hcn]; unfold cellV; rw [Int.toNat_natCast, List.getD_eq_getElem?_getD]
              have CVH := Lib.hid CV
              have KL : ((keepR n.cols r).take k).length = k := by rw [List.length_take]; simp [keepR]; omega
              have OWr : wr.ownsRow wo.heap.size 3 1 (.slice ra k rc) k (((keepR n.cols r).take k).map (.int .i64)) := by
                have h := HO.out
                unfold Own at h
                rwa [KL] at h
              have OWH := Lib.hid OWr
              have WD := Lib.hid (fun o => ((Below.refl wr.heap.size wr).drew).alloc (Nat.le_refl _) o)
              have KLH := Lib.hid KL
              rw [RL.out] at zr hcx
              generalize hvv : r.getD cn 0 = vv at z2
              have VV := Lib.hid hvv
              have KB : k ≤ 1048576 := by have := HLN.out; omega
              have hwz := HB2.out.size
              clear hcc hxc hmem f1 f2 hcn l1 l2 CV OWr KL hvv hb2
              generalize hXS : (((keepR n.cols r).take k).map (Value.int .i64)) = XS at OWH
              have XSH := Lib.hid hXS
              clear hXS
              go_wp2_with fail
              go_region_law (refine step_append_lies _ rfl (.tmp 24) (.tmp 36) 34 rfl wo.heap.size 3 i0 _ 1 8 Tryz.underlying34 hi0 hz0 hz1 hz2 rfl (by omega) (.slice ra k rc) k XS (by simp [Act.eval, Act.put]) (World.ownsRow.alloc (w := wr.drew) OWH.out _) ⟨wr.heap.size, 0, none⟩ 1 1 [.int .i64 vv] (by simp [Act.eval, Act.put]) rfl (by intro jj uu hu; exact cell_one_new wr _ _ jj uu hu) (by intro uu hu; simp at hu; subst hu; rfl) (by omega) (by unfold maxLen; omega) (by omega) (by simp; omega) _ rfl ?_; intro gg cap w4 o4 g4 _ _; have O4 := Lib.hid o4; have B4 := Lib.hid ((HB2.out.trans ((WD.out _).mono HB2.out.size)).grown g4 (by simp; omega) (by intro q hq; exact (row_at OWH.out q hq).1)); clear o4 g4)
              all_goals
                go_wp2_with fail
                go_roundw
                case rel => exact ⟨k + 1, _, _, by omega, by go_num, rfl, keep_next KLH.out TK.out CVH.out VV.out XSH.out O4.out, B4.out⟩
                case measure => simp [intOf]; omega
        · obtain rfl : k = n.cols.length := by omega
          have KL : (keepR n.cols r).length = n.cols.length := by simp [keepR]
          have KT : (keepR n.cols r).take n.cols.length = keepR n.cols r := List.take_of_length_le (Nat.le_of_eq KL)
          have HO2 : Hid (Own wr wo.heap.size 3 .i64 ra rc (keepR n.cols r)) := by have := HO.out; rw [KT] at this; exact this
          have OV : Hid (OwnV wr u.heap.size 34 (some ⟨g, 0, none⟩) cc xs) := by
            have := (HP.out.below HB2.out).own
            show World.ownsRow _ _ _ _ _ _ _
            rw [XL.out]
            exact this
          have KLH := Lib.hid KL
          clear HO KT KL hfr zr hb2
          go_wp2_with (at_builtin; refine wpList_appendV _ rfl (.tmp 38) (.tmp 40) 29 rfl u.heap.size 34 (.slice none 0 0) 24 Tryz.underlying29 infoRw rfl (some ⟨g, 0, none⟩) cc j xs rfl XL.out.symm (OV.out.alloc _) wr.heap.size 1 (.slice ra n.cols.length rc) rfl (cell_one _ _ _) rfl (by have := XL.out; unfold maxLen; omega) (by have := XL.out; omega) (by have := HB.out.size; have := HB2.out.size; simp; omega) ?_; intro ao3 c3 w3 o3 g3 k3; obtain ⟨g', rfl, hp'⟩ := keep_push HP.out KA.out (HB2.out.trans ((Below.refl _ wr).alloc HB2.out.size _)) (HO2.out.alloc _) KLH.out HB.out.size o3 g3 k3; have P3 := Lib.hid hp'; have M3 := Lib.hid o3.cap_le; have B3 := Lib.hid (below_appV (o := .cells #[.slice ra n.cols.length rc] 34) (below_step HB.out (Nat.le_refl _) HB2.out) (Nat.le_trans HB.out.size HB2.out.size) OV.out g3); clear o3 g3 k3 hp')
          rw [XL.out]
          go_roundw
          case rel => exact ⟨j + 1, g', c3, by omega, by go_num, rfl, M3.out, ⟨_, _, _, P3.out⟩, B3.out⟩
          case measure => simp [intOf]; omega
    · obtain rfl : j = l.length := by omega
      have CG : Hid (l.length ≤ cc) := by
        rcases hp.own.2 with ⟨e, _⟩ | ⟨q, cap, cur, e, _, _, h1, _⟩
        · cases e
        · simp only [Value.slice.injEq] at e; rw [e.2.2]; exact h1
      clear hp hb hcc
      go_wp2_with fail
      go_ret
      have E := keepL_len n l
      refine ⟨some ⟨g, 0, none⟩, cc, (by rw [E]; rfl), ?_, (BU.out.trans (HB.out.mono BU.out.size)), by rw [E]; exact CG.out⟩
      have hp := HP.out
      rw [← E] at hp
      exact hp.rdZ (fun k hk => Nat.lt_trans (hzw k hk) HS)
def vT (x : Int) : ByteArray := if x = -2000000 then ⟨#[45]⟩ else numT x
def vL (x : Int) : List UInt8 := (vT x).data.toList
end Go.Proofs.YtanfllednlpbaaaGreat
namespace Go.Proofs.YtanfllednlpbaaaGreat
set_option linter.unusedSimpArgs false
set_option linter.unusedVariables false
end Go.Proofs.YtanfllednlpbaaaGreat
namespace Go.Proofs.YtanfllednlpbaaaGreat
open Go.RowKit
set_option linter.unusedSimpArgs false
set_option linter.unusedVariables false
end Go.Proofs.YtanfllednlpbaaaGreat
namespace Go.Proofs.YtanfllednlpbaaaGreat
set_option linter.unusedSimpArgs false
set_option linter.unusedVariables false
end Go.Proofs.YtanfllednlpbaaaGreat
namespace Go.Proofs.YtanfllednlpbaaaGreat
open Go.RowKit
set_option linter.unusedSimpArgs false
set_option linter.unusedVariables false
def valR (x : Int) : Prop := (-1000000 ≤ x ∧ x ≤ 1000000) ∨ x = -2000000
end Go.Proofs.YtanfllednlpbaaaGreat
