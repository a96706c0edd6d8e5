/-
  Contracts of spec.l04Holds and spec.l04Filter. For every filter and every rows. Contracts of the helpers over slices of lists of rows: szIntSSS, toIntSSS, eqIntSSS. For every such slice. Plain facts on stores: when lists of rows are a store of a schema. No program, no walk.
-/
import Derived.Test.YtanfllednlpbaaaGreatJ28x
import Derived.Test.YtanfllednlpbaaaGreatJ29x
import Derived.Test.YtanfllednlpbaaaGreatJ37x
import Derived.Deep.RegionWith
import Derived.Test.YtanfllednlpbaaaGreatJ5x
import Derived.Test.YtanfllednlpbaaaGreatJ6x
import Derived.Test.YtanfllednlpbaaaGreatJ15x
namespace Go.Proofs.YtanfllednlpbaaaGreat
open Go.RowKit
set_option linter.unusedSimpArgs false
set_option linter.unusedVariables false

/-- Rows that can be read. -/
def GivesR (z : Nat → Prop) (w : World) (L : List (List Int)) (e : Ending) (w' : World) : Prop :=
  ∃ ao cc, e = .returned (.slice ao L.length cc) ∧ RdX z w' ao L ∧ Below w.heap.size w w' ∧ L.length ≤ cc
set_option maxRecDepth 100000 in
set_option maxHeartbeats 1600000 in
theorem specHolds_any (n : Nd) (ho : n.op = 0 ∨ n.op = 1 ∨ n.op = 2 ∨ n.op = 3) (a : Option Addr) (c : Nat) (v : Int) (w : World) : Calls Tryz.prog 116 #[.agg #[.int .i64 n.kind, .string n.name, .int .i64 n.col, .int .i64 n.op, .int .i64 n.num, .bool n.slot, .slice a n.cols.length c], .int .i64 v] w fun e w' =>
    e = .returned (.bool (holdV n v)) ∧ Below w.heap.size w w' := by
  obtain ⟨r, hr⟩ : ∃ r, holdV n v = r := ⟨_, rfl⟩
  rw [hr]
  have HR := Lib.hid hr
  clear hr
  have B0 := Lib.hid ((Below.refl w.heap.size w).alloc (Nat.le_refl _) (.cells #[.int .i64 n.kind, .string n.name, .int .i64 n.col, .int .i64 n.op, .int .i64 n.num, .bool n.slot, .slice a n.cols.length c] 39))
  by_cases hv : v = -2000000
  · subst hv
    rcases ho with h | h | h | h <;> rw [h] at B0 ⊢ <;> (
      have E : r = decide (n.op = 3) := by rw [← HR.out]; unfold holdV; rw [if_pos rfl]
      rw [h] at E
      subst E
      go_enter Tryz.func116, Tryz.ntmps116
      go_wp2
      go_ret
      exact ⟨rfl, B0.out⟩)
  · rcases ho with h | h | h | h
    · have E : r = decide (v = n.num) := by rw [← HR.out]; unfold holdV; rw [if_neg hv, if_pos h]
      rw [h] at B0 ⊢
      go_enter Tryz.func116, Tryz.ntmps116
      go_wp2
      go_ret
      exact ⟨ret_bool (by subst E; first | rfl | simp), B0.out⟩
    · have E : r = decide (v < n.num) := by rw [← HR.out]; unfold holdV; rw [if_neg hv, if_neg (by omega), if_pos h]
      rw [h] at B0 ⊢
      go_enter Tryz.func116, Tryz.ntmps116
      go_wp2
      go_ret
      exact ⟨ret_bool (by rw [E]), B0.out⟩
    · have E : r = decide (n.num < v) := by rw [← HR.out]; unfold holdV; rw [if_neg hv, if_neg (by omega), if_neg (by omega), if_pos h]
      rw [h] at B0 ⊢
      go_enter Tryz.func116, Tryz.ntmps116
      go_wp2
      go_ret
      exact ⟨ret_bool (by rw [E]), B0.out⟩
    · have E : r = false := by rw [← HR.out]; unfold holdV; rw [if_neg hv, if_neg (by omega), if_neg (by omega), if_neg (by omega)]
      rw [h] at B0 ⊢
      subst E
      go_enter Tryz.func116, Tryz.ntmps116
      go_wp2
      go_ret
      exact ⟨rfl, B0.out⟩
theorem filt_els' {n : Nd} {w : World} {zs : List (Els w)} {l : RowsL} (h : rowsE zs = l) : rowsE (zs.filter fun x => holdV n (cellV x.1.r n.col)) = filtL n l := by
  subst h
  unfold rowsE filtL
  rw [List.filter_map]
  rfl
theorem gives_els {z : Nat → Prop} {w wb u wr : World} {Y : List (Els wb)} {L : RowsL} {ao : Option Addr} {cc : Nat} (hY : rowsE Y = L) (ho : OwnV wr u.heap.size 34 ao cc (Y.map encE)) (hb : Below wb.heap.size wb wr) (hb' : Below w.heap.size w wr) (hzu : ∀ k, z k → k < u.heap.size) (hP : ∀ x ∈ Y, PX z x.1) : GivesR z w L (.returned (.slice ao Y.length cc)) wr := by
  subst hY
  have hcap : Y.length ≤ cc := by
    rcases ho.2 with ⟨hv, hxs⟩ | ⟨q, cap, cur, e, _, _, h1, _⟩
    · simp only [Value.slice.injEq, List.length_map] at hv
      omega
    · simp only [Value.slice.injEq] at e; rw [e.2.2]; simpa using h1
  refine ⟨ao, cc, by rw [rowsE_len], ?_, hb', by rw [rowsE_len]; exact hcap⟩
  unfold OwnV at ho
  rw [List.length_map] at ho
  have e : Y.map encE = (Y.map fun x => x.1).map El.val := by rw [List.map_map]; rfl
  rw [e] at ho
  have := owns_rdX ho (fun y hy => by
    obtain ⟨x, hx, rfl⟩ := List.mem_map.1 hy
    exact ⟨x.2.1.below hb, x.2.2⟩) hzu (fun y hy => by
    obtain ⟨x, hx, rfl⟩ := List.mem_map.1 hy
    exact hP x hx)
  rwa [rowsV_els] at this
set_option maxRecDepth 100000 in
set_option maxHeartbeats 6400000 in
theorem specFilter_any (z : Nat → Prop) (n : Nd) (hop : n.op = 0 ∨ n.op = 1 ∨ n.op = 2 ∨ n.op = 3) (na : Option Addr) (nc : Nat) (a : Option Addr) (c : Nat) (l : RowsL) (w : World) (h : RdX z w a l) (hzw : ∀ k, z k → k < w.heap.size) (hl : l.length ≤ 1048576) (h0 : 0 ≤ n.col) (hfit : ∀ r ∈ l, n.col < (r.length : Int)) :
    Calls Tryz.prog 80 #[.agg #[.int .i64 n.kind, .string n.name, .int .i64 n.col, .int .i64 n.op, .int .i64 n.num, .bool n.slot, .slice na n.cols.length nc], .slice a l.length c] w (GivesR z w (filtL n l)) := by
  obtain ⟨zs, hz, hL, hPX⟩ := h.els c
  have HPX := Lib.hid hPX
  have HZW := Lib.hid hzw
  clear hPX hzw
  have hzl : zs.length = l.length := by rw [← hz, rowsE_len]
  obtain ⟨k, hk⟩ : ∃ k : Nat, n.col = (k : Int) := ⟨_, (Int.toNat_of_nonneg h0).symm⟩
  have HD := Lib.hid (fun v W => specHolds_any n hop na nc v W)
  have FE := Lib.hid (filt_els' (n := n) hz)
  have HL := Lib.hid hL
  have HZL := Lib.hid hzl
  have HF := Lib.hid (show ∀ x ∈ zs, ∃ v, k < x.1.r.length ∧ x.1.r.getD k 0 = v ∧ cellV x.1.r n.col = v from fun x hx => by
    have h1 := hfit x.1.r (by rw [← hz]; exact List.mem_map.2 ⟨x, hx, rfl⟩)
    refine ⟨_, by omega, rfl, ?_⟩
    unfold cellV; rw [hk, Int.toNat_natCast, List.getD_eq_getElem?_getD])
  generalize filtL n l = L at FE ⊢
  have HK := Lib.hid hk
  clear h hL hz hzl h0 hfit hop hk
  go_enter Tryz.func80, Tryz.ntmps80
  go_wp2_with fail
  obtain ⟨u, hu⟩ : ∃ u, w.alloc (.cells #[.int .i64 n.kind, .string n.name, .int .i64 n.col, .int .i64 n.op, .int .i64 n.num, .bool n.slot, .slice na n.cols.length nc] 39) = u := ⟨_, rfl⟩
  have bu : Below w.heap.size w u := by rw [← hu]; exact (Below.refl _ w).alloc (Nat.le_refl _) _
  have su : u.heap.size = w.heap.size + 1 := by rw [← hu]; simp
  have q0 : u.cell? ⟨w.heap.size, 0, none⟩ = some (.int .i64 n.kind) := by rw [← hu]; simp
  have q1 : u.cell? ⟨w.heap.size, 1, none⟩ = some (.string n.name) := by rw [← hu]; simp
  have q2 : u.cell? ⟨w.heap.size, 2, none⟩ = some (.int .i64 n.col) := by rw [← hu]; simp
  have q3 : u.cell? ⟨w.heap.size, 3, none⟩ = some (.int .i64 n.op) := by rw [← hu]; simp
  have q4 : u.cell? ⟨w.heap.size, 4, none⟩ = some (.int .i64 n.num) := by rw [← hu]; simp
  have q5 : u.cell? ⟨w.heap.size, 5, none⟩ = some (.bool n.slot) := by rw [← hu]; simp
  have q6 : u.cell? ⟨w.heap.size, 6, none⟩ = some (.slice na n.cols.length nc) := by rw [← hu]; simp
  have O0 := Lib.hid (show OwnV (u.alloc (.cells #[] 34)) u.heap.size 34 (some ⟨w.heap.size + 1, 0, none⟩) 0 (([] : List (Els w)).map encE) from by rw [← su]; exact World.ownsRow_lit u #[] 0 (Nat.le_refl _) (Nat.zero_le _) rfl)
  have B0 := Lib.hid ((Below.refl u.heap.size u).alloc (Nat.le_refl _) (.cells #[] 34))
  have BU := Lib.hid bu
  have SU := Lib.hid su
  try rw [hu]
  have HS : w.heap.size < u.heap.size := by omega
  clear hu bu su
  obtain ⟨T, hTT⟩ : ∃ T : Els w → Bool, T = fun x => holdV n (cellV x.1.r n.col) := ⟨_, rfl⟩
  have TT := Lib.hid hTT
  clear hTT
  go_loopw [5, 6] (fun s i wr => ∃ (j : Nat) (ao : Option Addr) (m cc : Nat) (Y : List (Els w)), j ≤ l.length ∧ i = .int .i64 j ∧ s = .slice ao m cc ∧ m = Y.length ∧ Y = (zs.take j).filter T ∧ OwnV wr u.heap.size 34 ao cc (Y.map encE) ∧ Below u.heap.size u wr) (fun _ i _ => l.length - (intOf i).toNat)
  case atStart => exact ⟨0, _, _, _, [], Nat.zero_le _, rfl, rfl, rfl, by simp, O0.out, B0.out⟩
  case round =>
    clear O0 B0
    obtain ⟨j, ao, m, cc, Y, hj, rfl, rfl, hm, hY, ho, hb⟩ := hrel
    have HM := Lib.hid hm
    have HY := Lib.hid hY
    have HO := Lib.hid ho
    have HB := Lib.hid hb
    have YL := Lib.hid (show Y.length ≤ 1048576 by rw [hY]; have := List.length_filter_le T (zs.take j); have := List.length_take_le j zs; have := HZL.out; omega)
    clear hm hY ho
    by_cases hlt : j < l.length
    · have hlz : (j : Int) < (l.length : Int) := by omega
      obtain ⟨x, hx⟩ : ∃ x, zs[j]? = some x := ⟨_, List.getElem?_eq_getElem (by have := HZL.out; omega)⟩
      obtain ⟨v, hv1, hv2, hv3⟩ := HF.out x (List.mem_of_getElem? hx)
      obtain ⟨b1, o1, a0, hb1, hcx⟩ : ∃ b off, a = some ⟨b, off, none⟩ ∧ b < w.heap.size ∧ w.cell? ⟨b, off + j, none⟩ = some (encE x) := by
        rcases HL.out with ⟨_, _, e, rfl⟩ | ⟨b, off, cap, e, hb, hc⟩
        · simp at hx
        · simp only [Value.slice.injEq] at e
          exact ⟨b, off, e.1, hb, hc j x hx⟩
      subst a0
      have BW := Lib.hid (BU.out.trans (hb.mono BU.out.size))
      have hcr := (BW.out.cell (p := ⟨b1, o1 + j, none⟩) hb1).trans hcx
      have hxg : Good wr x.1 := ⟨x.2.1.below BW.out, x.2.2⟩
      obtain ⟨xb, xo, hxa, hxc⟩ : ∃ b off, x.1.a = some ⟨b, off, none⟩ ∧ ∀ i, i < x.1.r.length → wr.cell? ⟨b, off + i, none⟩ = some (.int .i64 (x.1.r.getD i 0)) := by
        rcases hxg.1 with h | h
        · rw [h] at hv1; cases hv1
        · exact h
      have hcv := hxc k hv1
      rw [hv2] at hcv
      have ex : encE x = .slice (some ⟨xb, xo, none⟩) x.1.r.length x.1.c := by unfold encE; rw [hxa]
      rw [ex] at hcr
      have p0 := (hb.cell (p := ⟨w.heap.size, 0, none⟩) HS).trans q0
      have p1 := (hb.cell (p := ⟨w.heap.size, 1, none⟩) HS).trans q1
      have p2 := (hb.cell (p := ⟨w.heap.size, 2, none⟩) HS).trans q2
      have p3 := (hb.cell (p := ⟨w.heap.size, 3, none⟩) HS).trans q3
      have p4 := (hb.cell (p := ⟨w.heap.size, 4, none⟩) HS).trans q4
      have p5 := (hb.cell (p := ⟨w.heap.size, 5, none⟩) HS).trans q5
      have p6 := (hb.cell (p := ⟨w.heap.size, 6, none⟩) HS).trans q6
      have HX := Lib.hid hx
      have EX := Lib.hid ex
      have HD' := Lib.hid (HD.out v)
      have TX := Lib.hid (show T x = holdV n v by rw [TT.out]; show holdV n (cellV x.1.r n.col) = _; rw [hv3])
      generalize hxl : x.1.r.length = xl at hcr hv1
      have XL := Lib.hid hxl
      have BD := Lib.hid (Below.refl wr.heap.size wr).drew
      clear hxc hxg hxa hv2 hv3 hcx hx ex hxl hb
      rw [HK.out] at p2 HD'
      have TAKE := Lib.hid (show zs.take (j + 1) = zs.take j ++ [x] by rw [List.take_add_one, HX.out]; rfl)
      cases hbv : holdV n v with
      | false =>
        have NY := Lib.hid (show Y = (zs.take (j + 1)).filter T by rw [TAKE.out, List.filter_append, ← HY.out]; simp [TX.out, hbv])
        rw [hbv] at HD'
        clear hbv
        go_wp2_with fail
        go_region_with (go_at_call 116; refine (HD'.out _).mono ?_; rintro e w3 ⟨rfl, b3⟩; have B3 := Lib.hid (below_step BD.out (Nat.le_refl _) b3); clear b3)
        all_goals (
          go_wp2_with fail
          go_roundw
          case rel => exact ⟨j + 1, _, _, _, Y, by omega, by go_num, rfl, HM.out, NY.out, HO.out.below B3.out, HB.out.trans (B3.out.mono HB.out.size)⟩
          case measure => simp [intOf]; omega)
      | true =>
        have NY := Lib.hid (show Y ++ [x] = (zs.take (j + 1)).filter T by rw [TAKE.out, List.filter_append, ← HY.out]; simp [TX.out, hbv])
        rw [hbv] at HD'
        clear hbv
        go_wp2_with fail
        go_region_with (go_at_call 116; refine (HD'.out _).mono ?_; rintro e w3 ⟨rfl, b3⟩; have B3 := Lib.hid (below_step BD.out (Nat.le_refl _) b3); have hcr3 := (b3.cell (p := ⟨b1, o1 + j, none⟩) (World.block_lt_of_cell? wr _ hcr)).trans hcr; clear b3)
        all_goals (
          have O3 := Lib.hid (HO.out.below B3.out)
          have HB3 := Lib.hid (HB.out.trans (B3.out.mono HB.out.size))
          clear hcr hcv p0 p1 p2 p3 p4 p5 p6
          go_wp2_with (at_builtin; refine wpList_appendV _ rfl (.tmp 24) (.tmp 29) 29 rfl u.heap.size 34 (.slice none 0 0) 24 Tryz.underlying29 infoRw rfl _ _ _ (Y.map encE) rfl (by rw [HM.out, List.length_map]) (O3.out.alloc _) _ 1 (.slice (some ⟨xb, xo, none⟩) xl x.1.c) rfl (cell_one _ _ _) rfl (by have := YL.out; unfold maxLen; rw [List.length_map]; omega) (by have := YL.out; rw [List.length_map]; omega) (by have := HB3.out.size; simp; omega) ?_; intro qa qc qw qo qg qk; have QO := Lib.hid qo; have QB := Lib.hid (below_appV HB3.out HB3.out.size O3.out qg); clear qo qg qk)
          go_roundw
          case rel =>
            refine ⟨j + 1, _, _, _, Y ++ [x], by omega, by go_num, rfl, by simp, NY.out, ?_, QB.out⟩
            have h := QO.out
            rw [← XL.out, ← EX.out] at h
            simpa using h
          case measure => simp [intOf]; omega)
    · obtain rfl : j = l.length := by omega
      clear hb
      have BW := Lib.hid (BU.out.trans (HB.out.mono BU.out.size))
      go_wp2_with fail
      go_ret
      have e : (zs.take l.length).filter T = zs.filter T := by rw [List.take_of_length_le (by rw [HZL.out]; exact Nat.le_refl _)]
      have hYL : rowsE Y = L := by rw [HY.out, e, TT.out]; exact FE.out
      rw [HM.out]
      exact gives_els hYL HO.out BW.out BW.out (fun k hk => Nat.lt_trans (HZW.out k hk) HS) (fun x hx => by rw [HY.out] at hx; exact HPX.out x (List.mem_of_mem_take (List.mem_filter.1 hx).1))
end Go.Proofs.YtanfllednlpbaaaGreat
namespace Go.Proofs.YtanfllednlpbaaaGreat
open Go.RowKit
set_option linter.unusedSimpArgs false
set_option linter.unusedVariables false

theorem Tryz.infoSSl : (Tryz.prog.info? 29).map (fun i => (i.zero, i.size, i.bytes)) = some (some (.slice none 0 0), 1, 24) := by kernel_rfl

/-- How many rows and values there are. -/
def totRR (l : List (List (List Int))) : Nat := (l.map fun r => r.length + totR r).sum
theorem totRR_take {l : List (List (List Int))} {k : Nat} {r : List (List Int)} (h : l[k]? = some r) : totRR (l.take (k + 1)) = totRR (l.take k) + (r.length + totR r) := by
  rw [List.take_add_one, h]; simp [totRR]
theorem totRR_mem {l : List (List (List Int))} {r : List (List Int)} (h : r ∈ l) : r.length + totR r ≤ totRR l := by
  unfold totRR
  induction l with
  | nil => cases h
  | cons m l ih =>
    rcases List.mem_cons.1 h with rfl | h
    · simp only [List.map_cons, List.sum_cons]; omega
    · have := ih h; simp only [List.map_cons, List.sum_cons]; omega
theorem smallRR {l : List (List (List Int))} {r left : Int} (h0 : 0 ≤ r) (h : r + l.length + totRR l = left) (hl : left ≤ 1048576) : ∀ x ∈ l, x.length ≤ 1048576 ∧ ∀ y ∈ x, y.length ≤ 1048576 := by
  intro x hx
  have h1 := totRR_mem hx
  refine ⟨by omega, fun y hy => ?_⟩
  have := totR_mem hy
  omega
def SzPostRR (w : World) (l : List (List (List Int))) (left : Int) (e : Ending) (w' : World) : Prop :=
  ∃ r : Int, e = .returned (.int .i64 r) ∧ w = w' ∧ (r = -1 ∨ (0 ≤ r ∧ r + l.length + totRR l = left))

set_option maxHeartbeats 800000 in
theorem szIntSSS_any (ao : Option Addr) (c : Nat) (l : List (List (List Int))) (left : Int) (w : World) (h : RdRR w ao l) (hl : l.length ≤ maxLen) (h0 : 0 ≤ left) (h1 : left ≤ 1048576) :
    Calls Tryz.prog 19 #[.slice ao l.length c, .int .i64 left] w (SzPostRR w l left) := by
  have hl' := hl; unfold maxLen at hl'
  have H := Lib.hid h; clear h
  by_cases hlt : left < (l.length : Int)
  · have h2 : left - (l.length : Int) < 0 := by omega
    go_enter Tryz.func19, Tryz.ntmps19
    go_wp2_with fail
    go_ret
    exact ⟨-1, rfl, rfl, .inl rfl⟩
  · have h2 : 0 ≤ left - (l.length : Int) := by omega
    have h3 : (l.length : Int) ≤ left := by omega
    clear hl' hl
    go_enter Tryz.func19, Tryz.ntmps19
    go_wp2_with fail
    go_loop [1, 5] (fun r i => ∃ (k : Nat) (q : Int), k ≤ l.length ∧ i = .int .i64 k ∧ r = .int .i64 q ∧ 0 ≤ q ∧ q + l.length + totRR (l.take k) = left) (fun _ i => l.length - (intOf i).toNat)
    case atStart => exact ⟨0, _, Nat.zero_le _, rfl, rfl, by omega, by simp [totRR]⟩
    case round =>
      obtain ⟨k, q, hk, rfl, rfl, hq0, hq⟩ := hrel
      have HQ := Lib.hid hq; clear hq
      have hq1 : q ≤ 1048576 := by have := HQ.out; omega
      by_cases hlt2 : k < l.length
      · obtain ⟨b, off, n, a, c', rfl, hn, hat⟩ := H.out.at_ hlt2
        have HN := Lib.hid hn; clear hn
        obtain ⟨c0, rd, cap, mx⟩ := hat
        have cl : n.length ≤ maxLen := Nat.le_trans cap mx
        have Z := Lib.hid (szIntSS_any a c' n q)
        have RD := Lib.hid rd
        clear cap mx rd
        go_wp2_with fail
        refine (Z.out _ RD.out cl hq0 hq1).mono ?_
        rintro e w1 ⟨q', rfl, rfl, hs⟩
        rcases hs with rfl | ⟨hs', hs⟩
        · go_wp2_with fail
          go_ret
          exact ⟨-1, rfl, rfl, .inl rfl⟩
        · have S := Lib.hid hs; clear hs
          go_wp2_with fail
          go_round
          case rel => exact ⟨k + 1, q', by omega, by go_num, rfl, hs', by have := S.out; have := HQ.out; rw [totRR_take HN.out]; omega⟩
          case measure => simp [intOf]; omega
      · have e : k = l.length := by omega
        subst e
        go_wp2_with fail
        go_ret
        exact ⟨q, rfl, rfl, .inr ⟨hq0, by have := HQ.out; rwa [List.take_length] at this⟩⟩

set_option maxRecDepth 100000 in
set_option maxHeartbeats 1600000 in
theorem toIntSSS_any (ao : Option Addr) (c : Nat) (l : List (List (List Int))) (w : World) (h : RdRR w ao l) (hl : l.length ≤ 1048576) (hc : ∀ r ∈ l, r.length ≤ 1048576 ∧ ∀ y ∈ r, y.length ≤ 1048576) :
    Calls Tryz.prog 22 #[.slice ao l.length c] w (MadeRR w l) := by
  obtain ⟨i0, hi, hz0, hz1, hz2⟩ := info_parts Tryz.infoSSl
  have H := Lib.hid h; clear h
  have HC := Lib.hid hc; clear hc
  go_enter Tryz.func22, Tryz.ntmps22
  go_wp2_with (at_make; refine wpList_make_full _ rfl (.tmp 6) (.tmp 6) 25 rfl w.heap.size 29 i0 _ 1 Tryz.underlying25 hi hz0 hz1 .i64 .i64 _ _ l.length rfl rfl rfl rfl (by rw [hz2]; omega) (by unfold maxLen; omega) (Nat.le_refl _) ?_; intro w1 hown hgrow)
  have hbel : Below w.heap.size w w1 := below_of_grown hgrow (Nat.le_refl _) (by intro g hg; cases hg)
  clear hgrow hi hz0 hz1 hz2
  have P0 : Hid (∃ xs A C R, PartRR w1 w.heap.size w.heap.size l.length l.length l 0 xs A C R) :=
    ⟨_, fun _ => none, fun _ => 0, fun _ => w.heap.size + 1, hown, fun i n hi => absurd hi (Nat.not_lt_zero _), fun i n hi => absurd hi (Nat.not_lt_zero _), fun i hi => absurd hi (Nat.not_lt_zero _), Nat.lt_succ_self _, (owns_block hown).2⟩
  clear hown
  go_loopw [4] (fun i wr => ∃ j : Nat, j ≤ l.length ∧ i = .int .i64 j ∧ (∃ xs A C R, PartRR wr w.heap.size w.heap.size l.length l.length l j xs A C R) ∧ Below w.heap.size w wr) (fun i _ => l.length - (intOf i).toNat)
  case atStart => exact ⟨0, Nat.zero_le _, rfl, P0.out, hbel⟩
  case round =>
    clear P0 hbel
    obtain ⟨j, hj, rfl, ⟨xs, A, C, R, hp⟩, hb⟩ := hrel
    by_cases hlt : j < l.length
    · obtain ⟨b, off, n, a, c', rfl, hn, hat⟩ := (H.out.below hb).at_ hlt
      have hcl := HC.out n (List.mem_of_getElem? hn)
      have HN := Lib.hid hn; clear hn
      have HB := Lib.hid hb; clear hb
      have HP := Lib.hid hp; clear hp
      obtain ⟨c0, rd, cap, mx⟩ := hat
      have RD := Lib.hid rd; clear rd cap mx
      have T := Lib.hid (toIntSS_any a c' n)
      go_wp2_with fail
      refine (T.out _ RD.out hcl.1 hcl.2).mono ?_
      rintro e w2 ⟨a2, c2', rfl, o2, k1, k2, b2⟩
      have hg : w.heap.size < w2.heap.size := Nat.lt_of_lt_of_le (owns_block HP.out.own).2 b2.size
      have HP2 := Lib.hid (HP.out.below b2)
      obtain ⟨y0, e0⟩ := HP2.out.some_ (o := j) (by omega)
      have hf := HP2.out.frozen
      have RR := Lib.hid (HP.out.put hlt HN.out b2 o2 k1 k2)
      have T2 := Lib.hid ((below_step HB.out (Nat.le_refl _) b2).setCell (p := ⟨w.heap.size, j, none⟩) (Nat.le_refl _) (.slice a2 n.length c2'))
      clear o2 b2 c0
      go_wp2_with fail
      go_roundw
      case rel => exact ⟨j + 1, by omega, by go_num, ⟨_, _, _, _, RR.out⟩, T2.out⟩
      case measure => simp [intOf]; omega
    · have e : j = l.length := by omega
      subst e
      have HB := Lib.hid hb; have HP := Lib.hid hp; clear hb hp
      go_wp2_with fail
      go_ret
      exact ⟨_, _, rfl, .inr ⟨_, _, _, _, _, rfl, HP.out⟩, Nat.le_refl _, by unfold maxLen; omega, HB.out⟩

/-- Whether two lists of lists of rows are the same. -/
def eqRR (l m : List (List (List Int))) : Bool := decide (l = m)
theorem eqRR_refl (l : List (List (List Int))) : eqRR l l = true := by simp [eqRR]
theorem eqR_eq {x y : List (List Int)} (h : eqR x y = true) : x = y := by unfold eqR at h; simpa using h
theorem eqRR_no {l m : List (List (List Int))} {j : Nat} {x y : List (List Int)} (hx : l[j]? = some x) (hy : m[j]? = some y) (h : eqR x y = false) : eqRR l m = false := by
  unfold eqRR; simp; rintro rfl; rw [hx] at hy; cases hy; rw [eqR_refl] at h; cases h
theorem eqRR_yes {l m : List (List (List Int))} {j : Nat} (h : l.length = m.length) (hj : l.length ≤ j) (ht : l.take j = m.take j) : eqRR l m = true := by
  unfold eqRR; simp; rw [List.take_of_length_le hj, List.take_of_length_le (by omega)] at ht; exact ht
theorem eqRR_len {l m : List (List (List Int))} (h : l.length ≠ m.length) : eqRR l m = false := by
  unfold eqRR; simp; rintro rfl; exact h rfl

set_option maxRecDepth 100000 in
set_option maxHeartbeats 1600000 in
theorem eqIntSSS_any (a b : Option Addr) (c d : Nat) (l m : List (List (List Int))) (w : World) (h : RdRR w a l) (k : RdRR w b m) (hn : l.length ≤ maxLen) (hm : m.length ≤ maxLen) :
    Calls Tryz.prog 26 #[.slice a l.length c, .slice b m.length d] w fun e w' => e = .returned (.bool (eqRR l m)) ∧ Below w.heap.size w w' := by
  unfold maxLen at hn hm
  have H := Lib.hid h; clear h
  have K := Lib.hid k; clear k
  by_cases hlen : l.length = m.length
  · have hne : ((l.length : Int) != (m.length : Int)) = false := by simp [hlen]
    have HL := Lib.hid hlen; clear hlen
    go_enter Tryz.func26, Tryz.ntmps26
    go_wp2_with fail
    go_loopw [5] (fun i wr => ∃ j : Nat, j ≤ l.length ∧ i = .int .i64 j ∧ l.take j = m.take j ∧ Below w.heap.size w wr) (fun i _ => l.length - (intOf i).toNat)
    case atStart => exact ⟨0, Nat.zero_le _, rfl, rfl, Below.refl _ _⟩
    case round =>
      obtain ⟨j, hj, rfl, ht, hb⟩ := hrel
      have HT := Lib.hid ht; clear ht
      by_cases hlt : j < l.length
      · have hlt2 : j < m.length := by have := HL.out; omega
        obtain ⟨b1, o1, x, a1, c1, rfl, hx, ⟨e0, rx, cx, mx⟩⟩ := (H.out.below hb).at_ hlt
        obtain ⟨b2, o2, y, a2, c2, rfl, hy, ⟨f0, ry, cy, my⟩⟩ := (K.out.below hb).at_ hlt2
        have X := Lib.hid hx; have Y := Lib.hid hy; have HB := Lib.hid hb
        have RX := Lib.hid rx; have RY := Lib.hid ry
        clear hx hy hb rx ry
        have lx := Nat.le_trans cx mx
        have ly := Nat.le_trans cy my
        have E := Lib.hid (fun W h1 h2 => eqIntSS_any a1 a2 c1 c2 x y W h1 h2 lx ly)
        clear cx mx cy my lx ly
        have i1 : (j : Int) < (l.length : Int) := by omega
        have i2 : (j : Int) < (m.length : Int) := by omega
        cases hxy : eqR x y with
        | true =>
          have Q := Lib.hid hxy; clear hxy
          go_wp2_with fail
          go_region_with (go_at_call 24; refine (E.out _ (RX.out.below ((Below.refl _ _).drew)) (RY.out.below ((Below.refl _ _).drew))).mono ?_; rintro e w1 ⟨rfl, b1⟩; rw [Q.out]; have T1 := Lib.hid (below_step HB.out.drew (Nat.le_refl _) b1); clear b1)
          all_goals
            go_wp2_with fail
            go_roundw
            case rel => exact ⟨j + 1, by omega, by go_num, take_eq_step HT.out X.out (by rw [eqR_eq Q.out]; exact Y.out), T1.out⟩
            case measure => simp [intOf]; omega
        | false =>
          have Q := Lib.hid hxy; clear hxy
          have F := Lib.hid (eqRR_no X.out Y.out Q.out)
          go_wp2_with fail
          go_region_with (go_at_call 24; refine (E.out _ (RX.out.below ((Below.refl _ _).drew)) (RY.out.below ((Below.refl _ _).drew))).mono ?_; rintro e w1 ⟨rfl, b1⟩; rw [Q.out]; have T1 := Lib.hid (below_step HB.out.drew (Nat.le_refl _) b1); clear b1)
          all_goals
            go_wp2_with fail
            go_ret
            exact ⟨ret_bool F.out.symm, T1.out⟩
      · have HB := Lib.hid hb; clear hb
        go_wp2_with fail
        go_ret
        exact ⟨ret_bool (eqRR_yes HL.out (by omega) HT.out).symm, HB.out⟩
  · have hne : ((l.length : Int) != (m.length : Int)) = true := by simp; omega
    have HF := Lib.hid (eqRR_len hlen)
    go_enter Tryz.func26, Tryz.ntmps26
    go_wp2_with fail
    go_ret
    exact ⟨ret_bool HF.out.symm, Below.refl _ _⟩
end Go.Proofs.YtanfllednlpbaaaGreat
namespace Go.Proofs.YtanfllednlpbaaaGreat
open Go.RowKit
set_option linter.unusedSimpArgs false
set_option linter.unusedVariables false

/-- A value. -/
def valB (x : Int) : Bool := numI x || (x == -2000000)
/-- Rows of a table of this width. -/
def rowsB (wd : Int) (l : List (List Int)) : Bool := decide (l.length ≤ 40) && l.all fun r => decide ((r.length : Int) = wd) && r.all valB
def fitsB : List Tb → List (List (List Int)) → Bool
  | [], [] => true
  | t :: s, r :: l => rowsB t.width r && fitsB s l
  | _, _ => false
/-- A store of a schema. -/
def storeB (s : List Tb) (l : List (List (List Int))) : Bool := schemaB s && fitsB s l

theorem fitsB_len : ∀ (s : List Tb) (l : List (List (List Int))), s.length ≠ l.length → fitsB s l = false
  | [], [], h => absurd rfl h
  | [], _ :: _, _ => rfl
  | _ :: _, [], _ => rfl
  | t :: s, r :: l, h => by simp only [fitsB]; rw [fitsB_len s l (by simpa using h)]; simp
theorem fitsB_no : ∀ (s : List Tb) (l : List (List (List Int))) (j : Nat) (t : Tb) (r : List (List Int)), s[j]? = some t → l[j]? = some r → rowsB t.width r = false → fitsB s l = false
  | [], _, j, t, r, h, _, _ => by simp at h
  | _ :: _, [], j, t, r, _, h, _ => by simp at h
  | t' :: s, r' :: l, 0, t, r, ht, hr, h => by simp at ht hr; subst ht hr; simp [fitsB, h]
  | t' :: s, r' :: l, j + 1, t, r, ht, hr, h => by simp at ht hr; simp [fitsB, fitsB_no s l j t r ht hr h]
theorem fitsB_yes : ∀ (s : List Tb) (l : List (List (List Int))), s.length = l.length → (∀ (j : Nat) (t : Tb) (r : List (List Int)), s[j]? = some t → l[j]? = some r → rowsB t.width r = true) → fitsB s l = true
  | [], [], _, _ => rfl
  | [], _ :: _, h, _ => by simp at h
  | _ :: _, [], h, _ => by simp at h
  | t :: s, r :: l, h, hh => by
    simp only [fitsB]
    rw [hh 0 t r rfl rfl, fitsB_yes s l (by simpa using h) fun j x y hx hy => hh (j + 1) x y hx hy]; rfl
theorem storeB_schema {s : List Tb} {l : List (List (List Int))} (h : schemaB s = false) : storeB s l = false := by simp [storeB, h]
theorem storeB_len {s : List Tb} {l : List (List (List Int))} (h : l.length ≠ s.length) : storeB s l = false := by simp [storeB, fitsB_len s l (Ne.symm h)]
theorem storeB_no {s : List Tb} {l : List (List (List Int))} {j : Nat} {t : Tb} {r : List (List Int)} (ht : s[j]? = some t) (hr : l[j]? = some r) (h : rowsB t.width r = false) : storeB s l = false := by
  simp [storeB, fitsB_no s l j t r ht hr h]
/-- The first j tables' rows fit. -/
def FitTo (s : List Tb) (l : List (List (List Int))) (j : Nat) : Prop := ∀ (i : Nat) (t : Tb) (r : List (List Int)), i < j → s[i]? = some t → l[i]? = some r → rowsB t.width r = true
theorem FitTo.zero {s : List Tb} {l : List (List (List Int))} : FitTo s l 0 := fun _ _ _ h => absurd h (Nat.not_lt_zero _)
theorem FitTo.next {s : List Tb} {l : List (List (List Int))} {j : Nat} {t : Tb} {r : List (List Int)} (h : FitTo s l j) (ht : s[j]? = some t) (hr : l[j]? = some r) (hh : rowsB t.width r = true) : FitTo s l (j + 1) := by
  intro i t' r' hi ht' hr'
  by_cases hij : i = j
  · subst hij; rw [ht] at ht'; rw [hr] at hr'; cases ht'; cases hr'; exact hh
  · exact h i t' r' (by omega) ht' hr'
theorem FitTo.all {s : List Tb} {l : List (List (List Int))} {j : Nat} (h : FitTo s l j) (hj : s.length ≤ j) (hs : schemaB s = true) (hl : l.length = s.length) : storeB s l = true := by
  unfold storeB
  rw [hs, fitsB_yes s l hl.symm fun i t r ht hr => h i t r (by have := lt_of_get ht; omega) ht hr]; rfl
/-- One row fits. -/
def rowB (wd : Int) (r : List Int) : Bool := decide ((r.length : Int) = wd) && r.all valB
theorem rowsB_big {wd : Int} {l : List (List Int)} (h : 40 < l.length) : rowsB wd l = false := by
  unfold rowsB
  have : ¬ l.length ≤ 40 := by omega
  simp [this]
theorem rowsB_no {wd : Int} {l : List (List Int)} {j : Nat} {r : List Int} (hr : l[j]? = some r) (h : rowB wd r = false) : rowsB wd l = false := by
  unfold rowsB
  have : (l.all fun r => decide ((r.length : Int) = wd) && r.all valB) = false := by
    rw [List.all_eq_false]
    exact ⟨r, List.mem_of_getElem? hr, by unfold rowB at h; rw [h]; simp⟩
  rw [this]; simp
theorem rowsB_yes {wd : Int} {l : List (List Int)} {j : Nat} (h : l.length ≤ 40) (hj : l.length ≤ j) (hh : ∀ r ∈ l.take j, rowB wd r = true) : rowsB wd l = true := by
  unfold rowsB
  have h1 : (l.all fun r => decide ((r.length : Int) = wd) && r.all valB) = true := by
    rw [List.all_eq_true]
    intro r hr
    have := hh r (by rw [List.take_of_length_le hj]; exact hr)
    unfold rowB at this; exact this
  rw [h1]; simp [h]
theorem rowB_len {wd : Int} {r : List Int} (h : ¬ (r.length : Int) = wd) : rowB wd r = false := by simp [rowB, h]
theorem rowB_no {wd : Int} {r : List Int} {k : Nat} {z : Int} (hz : r[k]? = some z) (h : valB z = false) : rowB wd r = false := by
  unfold rowB
  have : r.all valB = false := by rw [List.all_eq_false]; exact ⟨z, List.mem_of_getElem? hz, by rw [h]; simp⟩
  rw [this]; simp
theorem rowB_yes {wd : Int} {r : List Int} {k : Nat} (h : (r.length : Int) = wd) (hk : r.length ≤ k) (hh : ∀ z ∈ r.take k, valB z = true) : rowB wd r = true := by
  unfold rowB
  have h1 : r.all valB = true := by rw [List.all_eq_true]; intro z hz; exact hh z (by rw [List.take_of_length_le hk]; exact hz)
  rw [h1]; simp [h]
theorem rowB_rest {wd : Int} {r : List Int} (h : (r.length : Int) = wd) : rowB wd r = r.all valB := by simp [rowB, h]
theorem all_take_snoc {α : Type} {l : List α} {k : Nat} {z : α} {p : α → Bool} (hz : l[k]? = some z) (h : p z = true) (hh : ∀ y ∈ l.take k, p y = true) : ∀ y ∈ l.take (k + 1), p y = true := by
  intro y hy
  rw [List.take_add_one, hz] at hy
  rcases List.mem_append.1 hy with h1 | h1
  · exact hh y h1
  · simp at h1; subst h1; exact h
end Go.Proofs.YtanfllednlpbaaaGreat
