/-
  Contract of spec.l04Keep. For every keep and every rows. Contract of spec.l04Sort. For every sort and every slice of rows. Contract of rowsOver at a filter. For every filter and every child.
-/
import Derived.Test.YtanfllednlpbaaaGreatJ38x
import Derived.Test.YtanfllednlpbaaaGreatJ27x
import Derived.Test.YtanfllednlpbaaaGreatJ31x
import Derived.Test.YtanfllednlpbaaaGreatJ36x
import Derived.Deep.AppendLies
import Derived.Deep.RegionLaw
import Derived.Test.YtanfllednlpbaaaGreatJ28x
import Derived.Test.YtanfllednlpbaaaGreatJ37x
import Derived.Test.YtanfllednlpbaaaGreatJ41x
import Derived.Test.YtanfllednlpbaaaGreatJ11x
namespace Go.Proofs.YtanfllednlpbaaaGreat
open Go.RowKit
set_option linter.unusedSimpArgs false
set_option linter.unusedVariables false

theorem keepR_take {cols r : List Int} {k : Nat} (hk : k < cols.length) : (keepR cols r).take (k + 1) = (keepR cols r).take k ++ [cellV r (cols.getD k 0)] := by
  unfold keepR
  rw [List.take_add_one, List.getElem?_map, List.getElem?_eq_getElem hk, List.getD_eq_getElem?_getD, List.getElem?_eq_getElem hk]; rfl
theorem keepL_at {n : Nd} {l : RowsL} {j : Nat} {r : List Int} (h : l[j]? = some r) : (keepL n l)[j]? = some (keepR n.cols r) := by
  unfold keepL; rw [List.getElem?_map, h]; rfl
theorem keep_next {cols r : List Int} {k gg cap : Nat} {base : Nat} {w4 : World} {vv x y : Int} {XS : List Value} (hl : ((keepR cols r).take k).length = k) (ht : (keepR cols r).take (k + 1) = (keepR cols r).take k ++ [x]) (hx : x = y) (hy : y = vv) (hX : (((keepR cols r).take k).map (Value.int .i64)) = XS) (o : w4.ownsRow base 3 1 (.slice (some ⟨gg, 0, none⟩) (k + 1) cap) (k + 1) (XS ++ [.int .i64 vv])) : Own w4 base 3 .i64 (some ⟨gg, 0, none⟩) cap ((keepR cols r).take (k + 1)) := by
  subst hx; subst hy; subst hX
  rw [ht]
  unfold Own
  rw [List.length_append, hl, List.map_append]
  exact o
theorem keep_push {w w1 w4 : World} {base g c j m : Nat} {l : List (List Int)} {xs : List Value} {A : Nat → Option Addr} {C : Nat → Nat} (h : PartR w base g c j l j xs A C) {r : List Int} {a1 : Option Addr} {c1 c' : Nat} {ao' : Option Addr} (hn : l[j]? = some r) (hb : Below w.heap.size w w1)
    (ho : Own w1 w.heap.size 3 .i64 a1 c1 r) (hm : r.length = m) (hbase : base ≤ w.heap.size) (ho4 : OwnV w4 base 34 ao' c' (xs ++ [.slice a1 m c1])) (hg4 : w1.grownBy w4 (some g)) (hao : ao' = some ⟨g, 0, none⟩ ∨ ao' = some ⟨w1.heap.size, 0, none⟩) :
    ∃ g', ao' = some ⟨g', 0, none⟩ ∧ PartR w4 base g' c' (j + 1) l (j + 1) (xs ++ [.slice a1 m c1]) (fun i => if i = j then a1 else A i) (fun i => if i = j then c1 else C i) := by
  subst hm; exact h.push hn hb ho hbase ho4 hg4 hao
theorem Own.lowX {w : World} {base : Nat} {a : Option Addr} {c : Nat} {r : List Int} (h : Own w base 3 .i64 a c r) : ∀ x, a = some x → base ≤ x.block := by
  intro x hx
  subst hx
  rcases h.2 with ⟨e, _⟩ | ⟨q, cap, cur, e, h1, _⟩
  · cases e
  · simp only [Value.slice.injEq, Option.some.injEq] at e
    rw [e.1]; exact h1
theorem PartR.rdZ {z : Nat → Prop} {w : World} {base g c : Nat} {l : List (List Int)} {xs : List Value} {A : Nat → Option Addr} {C : Nat → Nat} (h : PartR w base g c l.length l l.length xs A C) (hz : ∀ k, z k → k < base) : RdX z w (some ⟨g, 0, none⟩) l := by
  have hg : base ≤ g := by
    rcases h.own.2 with ⟨e, _⟩ | ⟨q, cap, cur, e, h1, _⟩
    · cases e
    · simp only [Value.slice.injEq, Option.some.injEq, Addr.mk.injEq] at e
      rw [e.1.1]; exact h1
  refine .inr ⟨g, 0, rfl, fun hk => by have := hz _ hk; omega, fun i r hi => ?_⟩
  have hlt := (List.getElem?_eq_some_iff.1 hi).1
  obtain ⟨h1, h2, h3, h4⟩ := h.at_ hlt hlt hi
  refine ⟨_, _, h1, h2, h3, h4, fun _ x hx hk => ?_⟩
  have := (h.cols i r hlt hi).lowX x hx
  have := hz _ hk
  omega
theorem keepL_len (n : Nd) (l : RowsL) : (keepL n l).length = l.length := by simp [keepL]

set_option maxRecDepth 100000 in
set_option maxHeartbeats 12800000 in
theorem specKeep_any (z : Nat → Prop) (n : Nd) (na : Option Addr) (nc : Nat) (a : Option Addr) (c : Nat) (l : RowsL) (w : World) (h : RdR w a l) (hzw : ∀ k, z k → k < w.heap.size) (hl : l.length ≤ 1048576) (hcols : Rd w .i64 na n.cols) (hlen : n.cols.length ≤ 1048576) (hfit : ∀ r ∈ l, ∀ cc ∈ n.cols, 0 ≤ cc ∧ cc < (r.length : Int)) :
    Calls Tryz.prog 81 #[.agg #[.int .i64 n.kind, .string n.name, .int .i64 n.col, .int .i64 n.op, .int .i64 n.num, .bool n.slot, .slice na n.cols.length nc], .slice a l.length c] w (GivesR z w (keepL n l)) := by
  have H := Lib.hid h
  have HC := Lib.hid hcols
  have HF := Lib.hid hfit
  have HLN := Lib.hid hlen
  clear h hcols hfit
  obtain ⟨i0, hi0, hz0, hz1, hz2⟩ := info_parts Tryz.infoInt
  go_enter Tryz.func81, Tryz.ntmps81
  go_wp2_with fail
  obtain ⟨u, hu⟩ : ∃ u, w.alloc (.cells #[.int .i64 n.kind, .string n.name, .int .i64 n.col, .int .i64 n.op, .int .i64 n.num, .bool n.slot, .slice na n.cols.length nc] 39) = u := ⟨_, rfl⟩
  have bu : Below w.heap.size w u := by rw [← hu]; exact (Below.refl _ w).alloc (Nat.le_refl _) _
  have su : u.heap.size = w.heap.size + 1 := by rw [← hu]; simp
  have q6 : u.cell? ⟨w.heap.size, 6, none⟩ = some (.slice na n.cols.length nc) := by rw [← hu]; simp
  have P0 : Hid (∃ xs A C, PartR (u.alloc (.cells #[] 34)) u.heap.size (w.heap.size + 1) 0 0 (keepL n l) 0 xs A C) := ⟨_, _, _, by rw [← su]; exact PartR.start u (keepL n l)⟩
  have B0 := Lib.hid ((Below.refl u.heap.size u).alloc (Nat.le_refl _) (.cells #[] 34))
  have BU := Lib.hid bu
  have HS : w.heap.size < u.heap.size := by omega
  try rw [hu]
  clear hu bu su
  go_loopw [5, 6, 7, 8] (fun s i _ _ wr => ∃ (j g cc : Nat), j ≤ l.length ∧ i = .int .i64 j ∧ s = .slice (some ⟨g, 0, none⟩) j cc ∧ cc ≤ maxLen ∧ (∃ xs A C, PartR wr u.heap.size g cc j (keepL n l) j xs A C) ∧ Below u.heap.size u wr) (fun _ i _ _ _ => l.length - (intOf i).toNat)
  case atStart => exact ⟨0, _, _, Nat.zero_le _, rfl, rfl, Nat.zero_le _, P0.out, B0.out⟩
  case round =>
    clear P0 B0
    obtain ⟨j, g, cc, hj, rfl, rfl, hcc, ⟨xs, A, C, hp⟩, hb⟩ := hrel
    obtain ⟨wo, rfl⟩ : ∃ wo, wo = wr := ⟨_, rfl⟩
    have HP := Lib.hid hp
    have HB := Lib.hid hb
    have HCC := Lib.hid hcc
    have BW := Lib.hid (BU.out.trans (hb.mono BU.out.size))
    by_cases hlt : j < l.length
    · have hlz : (j : Int) < (l.length : Int) := by omega
      obtain ⟨b, off, r, xa, xc, rfl, hn, ⟨c0, rd, cx, mx⟩⟩ := (H.out.below BW.out).at_ hlt
      have KA := Lib.hid (keepL_at (n := n) hn)
      have RD := Lib.hid rd
      have hfr := Lib.hid (HF.out r (List.mem_of_getElem? hn))
      have XL : Hid (xs.length = j) := by have := hp.own.1; show _ = _; omega
      have q6o := (hb.cell (p := ⟨w.heap.size, 6, none⟩) HS).trans q6
      have HCo := Lib.hid (HC.out.below BW.out)
      have O0 := Lib.hid (own_empty (w := wo) (base := wo.heap.size) (e := 3) (k := .i64) (Nat.le_refl _))
      have B0 := Lib.hid ((Below.refl wo.heap.size wo).alloc (Nat.le_refl _) (.cells #[] 3))
      have CB := Lib.hid (World.block_lt_of_cell? wo _ c0)
      have C0 := Lib.hid c0
      have Q6 := Lib.hid q6o
      have HSo := Lib.hid (show w.heap.size < wo.heap.size from Nat.lt_of_lt_of_le HS hb.size)
      generalize hrl : r.length = rl at c0
      have RL := Lib.hid hrl
      clear hn hp hb rd cx mx hcc hrl
      go_wp2_with fail
      go_loopw [7, 8] (fun s i w2 => ∃ (k : Nat) (ra : Option Addr) (rc : Nat), k ≤ n.cols.length ∧ i = .int .i64 k ∧ s = .slice ra k rc ∧ Own w2 wo.heap.size 3 .i64 ra rc ((keepR n.cols r).take k) ∧ Below wo.heap.size wo w2) (fun _ i _ => n.cols.length - (intOf i).toNat)
      case atStart => exact ⟨0, _, _, Nat.zero_le _, rfl, rfl, O0.out, B0.out⟩
      case round =>
        clear O0 B0
        obtain ⟨k, ra, rc, hk, rfl, rfl, ho, hb2⟩ := hrel
        have HO := Lib.hid ho
        have HB2 := Lib.hid hb2
        have z6 := (hb2.cell (p := ⟨w.heap.size, 6, none⟩) HSo.out).trans Q6.out
        have zr := (hb2.cell (p := ⟨b, off + j, none⟩) CB.out).trans C0.out
        clear ho
        by_cases hk2 : k < n.cols.length
        · rcases HCo.out with h0 | ⟨bc, oc, rfl, hcc⟩
          · rw [h0] at hk2; cases hk2
          · have hmem : n.cols.getD k 0 ∈ n.cols := by rw [List.getD_eq_getElem?_getD, List.getElem?_eq_getElem hk2]; exact List.getElem_mem hk2
            obtain ⟨f1, f2⟩ := hfr.out _ hmem
            obtain ⟨cn, hcn⟩ : ∃ cn : Nat, n.cols.getD k 0 = (cn : Int) := ⟨_, (Int.toNat_of_nonneg f1).symm⟩
            have hcx : cn < r.length := by omega
            rcases RD.out with h0 | ⟨bx, ox, rfl, hxc⟩
            · rw [h0] at hcx; cases hcx
            · have l1 := World.block_lt_of_cell? wo _ (hcc k hk2)
              have l2 := World.block_lt_of_cell? wo _ (hxc cn hcx)
              have z1 := (hb2.cell (p := ⟨bc, oc + k, none⟩) l1).trans (hcc k hk2)
              have z2 := (hb2.cell (p := ⟨bx, ox + cn, none⟩) l2).trans (hxc cn hcx)
              rw [hcn] at z1
              have TK := Lib.hid (keepR_take (r := r) hk2)
              have CV : cellV r (n.cols.getD k 0) = r.getD cn 0 := by rw [hcn]; unfold cellV; rw [Int.toNat_natCast, List.getD_eq_getElem?_getD]
              have CVH := Lib.hid CV
              have KL : ((keepR n.cols r).take k).length = k := by rw [List.length_take]; simp [keepR]; omega
              have OWr : wr.ownsRow wo.heap.size 3 1 (.slice ra k rc) k (((keepR n.cols r).take k).map (.int .i64)) := by
                have h := HO.out
                unfold Own at h
                rwa [KL] at h
              have OWH := Lib.hid OWr
              have WD := Lib.hid (fun o => ((Below.refl wr.heap.size wr).drew).alloc (Nat.le_refl _) o)
              have KLH := Lib.hid KL
              rw [RL.out] at zr hcx
              generalize hvv : r.getD cn 0 = vv at z2
              have VV := Lib.hid hvv
              have KB : k ≤ 1048576 := by have := HLN.out; omega
              have hwz := HB2.out.size
              clear hcc hxc hmem f1 f2 hcn l1 l2 CV OWr KL hvv hb2
              generalize hXS : (((keepR n.cols r).take k).map (Value.int .i64)) = XS at OWH
              have XSH := Lib.hid hXS
              clear hXS
              go_wp2_with fail
              go_region_law (refine step_append_lies _ rfl (.tmp 24) (.tmp 36) 34 rfl wo.heap.size 3 i0 _ 1 8 Tryz.underlying34 hi0 hz0 hz1 hz2 rfl (by omega) (.slice ra k rc) k XS (by simp [Act.eval, Act.put]) (World.ownsRow.alloc (w := wr.drew) OWH.out _) ⟨wr.heap.size, 0, none⟩ 1 1 [.int .i64 vv] (by simp [Act.eval, Act.put]) rfl (by intro jj uu hu; exact cell_one_new wr _ _ jj uu hu) (by intro uu hu; simp at hu; subst hu; rfl) (by omega) (by unfold maxLen; omega) (by omega) (by simp; omega) _ rfl ?_; intro gg cap w4 o4 g4 _ _; have O4 := Lib.hid o4; have B4 := Lib.hid ((HB2.out.trans ((WD.out _).mono HB2.out.size)).grown g4 (by simp; omega) (by intro q hq; exact (row_at OWH.out q hq).1)); clear o4 g4)
              all_goals
                go_wp2_with fail
                go_roundw
                case rel => exact ⟨k + 1, _, _, by omega, by go_num, rfl, keep_next KLH.out TK.out CVH.out VV.out XSH.out O4.out, B4.out⟩
                case measure => simp [intOf]; omega
        · obtain rfl : k = n.cols.length := by omega
          have KL : (keepR n.cols r).length = n.cols.length := by simp [keepR]
          have KT : (keepR n.cols r).take n.cols.length = keepR n.cols r := List.take_of_length_le (Nat.le_of_eq KL)
          have HO2 : Hid (Own wr wo.heap.size 3 .i64 ra rc (keepR n.cols r)) := by have := HO.out; rw [KT] at this; exact this
          have OV : Hid (OwnV wr u.heap.size 34 (some ⟨g, 0, none⟩) cc xs) := by
            have := (HP.out.below HB2.out).own
            show World.ownsRow _ _ _ _ _ _ _
            rw [XL.out]
            exact this
          have KLH := Lib.hid KL
          clear HO KT KL hfr zr hb2
          go_wp2_with (at_builtin; refine wpList_appendV _ rfl (.tmp 38) (.tmp 40) 29 rfl u.heap.size 34 (.slice none 0 0) 24 Tryz.underlying29 infoRw rfl (some ⟨g, 0, none⟩) cc j xs rfl XL.out.symm (OV.out.alloc _) wr.heap.size 1 (.slice ra n.cols.length rc) rfl (cell_one _ _ _) rfl (by have := XL.out; unfold maxLen; omega) (by have := XL.out; omega) (by have := HB.out.size; have := HB2.out.size; simp; omega) ?_; intro ao3 c3 w3 o3 g3 k3; obtain ⟨g', rfl, hp'⟩ := keep_push HP.out KA.out (HB2.out.trans ((Below.refl _ wr).alloc HB2.out.size _)) (HO2.out.alloc _) KLH.out HB.out.size o3 g3 k3; have P3 := Lib.hid hp'; have M3 := Lib.hid o3.cap_le; have B3 := Lib.hid (below_appV (o := .cells #[.slice ra n.cols.length rc] 34) (below_step HB.out (Nat.le_refl _) HB2.out) (Nat.le_trans HB.out.size HB2.out.size) OV.out g3); clear o3 g3 k3 hp')
          rw [XL.out]
          go_roundw
          case rel => exact ⟨j + 1, g', c3, by omega, by go_num, rfl, M3.out, ⟨_, _, _, P3.out⟩, B3.out⟩
          case measure => simp [intOf]; omega
    · obtain rfl : j = l.length := by omega
      have CG : Hid (l.length ≤ cc) := by
        rcases hp.own.2 with ⟨e, _⟩ | ⟨q, cap, cur, e, _, _, h1, _⟩
        · cases e
        · simp only [Value.slice.injEq] at e; rw [e.2.2]; exact h1
      clear hp hb hcc
      go_wp2_with fail
      go_ret
      have E := keepL_len n l
      refine ⟨some ⟨g, 0, none⟩, cc, (by rw [E]; rfl), ?_, (BU.out.trans (HB.out.mono BU.out.size)), by rw [E]; exact CG.out⟩
      have hp := HP.out
      rw [← E] at hp
      exact hp.rdZ (fun k hk => Nat.lt_trans (hzw k hk) HS)
end Go.Proofs.YtanfllednlpbaaaGreat
namespace Go.Proofs.YtanfllednlpbaaaGreat
open Go.RowKit
set_option linter.unusedSimpArgs false
set_option linter.unusedVariables false

set_option maxRecDepth 100000 in
set_option maxHeartbeats 12800000 in
theorem specSort_any (z0 : Nat → Prop) (n0 : Nd) (na : Option Addr) (nc : Nat) (a : Option Addr) (c : Nat) (l : RowsL) (w : World) (h : RdX z0 w a l) (hzw : ∀ k, z0 k → k < w.heap.size) (h200 : l.length ≤ 200) (hcol : 0 ≤ n0.col) (hfit : ∀ r ∈ l, n0.col < (r.length : Int)) :
    Calls Tryz.prog 83 #[.agg #[.int .i64 n0.kind, .string n0.name, .int .i64 n0.col, .int .i64 n0.op, .int .i64 n0.num, .bool n0.slot, .slice na n0.cols.length nc], .slice a l.length c] w (GivesR z0 w (sortL (lessC n0.col) l)) := by
  obtain ⟨kc, hkc⟩ : ∃ k : Nat, n0.col = (k : Int) := ⟨_, (Int.toNat_of_nonneg hcol).symm⟩
  obtain ⟨zs, hz, hL, hPX⟩ := h.els c
  have HPX := Lib.hid hPX
  have HZW := Lib.hid hzw
  clear hPX hzw
  have hzl : zs.length = l.length := by rw [← hz, rowsE_len]
  have KC := Lib.hid hkc
  have HL := Lib.hid hL
  have HZ := Lib.hid hz
  have HZL := Lib.hid hzl
  have PF := Lib.hid (show ∀ x ∈ zs, ∃ xb xo, encE x = .slice (some ⟨xb, xo, none⟩) x.1.r.length x.1.c ∧ kc < x.1.r.length ∧ cellV x.1.r n0.col = x.1.r.getD kc 0 ∧ ∀ W, Below w.heap.size w W → W.cell? ⟨xb, xo + kc, none⟩ = some (.int .i64 (x.1.r.getD kc 0)) from fun x hx => by
    have h1 := hfit x.1.r (by rw [← hz]; exact List.mem_map.2 ⟨x, hx, rfl⟩)
    have h2 : kc < x.1.r.length := by omega
    rcases x.2.1 with h0 | ⟨xb, xo, ha, hc⟩
    · rw [h0] at h2; cases h2
    · refine ⟨xb, xo, by unfold encE; rw [ha], h2, ?_, fun W b => ?_⟩
      · unfold cellV; rw [hkc, Int.toNat_natCast, List.getD_eq_getElem?_getD]
      · have l1 := World.block_lt_of_cell? w _ (hc kc h2)
        exact (b.cell (p := ⟨xb, xo + kc, none⟩) l1).trans (hc kc h2))
  obtain ⟨lt, hlt'⟩ : ∃ lt : Els w → Els w → Bool, lt = fun x y => lessC n0.col x.1.r y.1.r := ⟨_, rfl⟩
  have LT := Lib.hid hlt'
  have EQ := Lib.hid (show rowsE (sortL lt (zs.take l.length)) = sortL (lessC n0.col) l by
    rw [List.take_of_length_le (by have := HZL.out; omega), LT.out, ← HZ.out]
    exact sortL_map (fun x : Els w => x.1.r) (lessC n0.col) zs)
  have LV := Lib.hid (show ∀ x z : Els w, lt x z = decide (cellV x.1.r n0.col < cellV z.1.r n0.col) from fun x z => by rw [hlt']; rfl)
  generalize sortL (lessC n0.col) l = LL at EQ ⊢
  clear h hL hz hzl hlt' hkc hcol hfit
  go_enter Tryz.func83, Tryz.ntmps83
  go_wp2_with fail
  obtain ⟨u, hu⟩ : ∃ u, w.alloc (.cells #[.int .i64 n0.kind, .string n0.name, .int .i64 n0.col, .int .i64 n0.op, .int .i64 n0.num, .bool n0.slot, .slice na n0.cols.length nc] 39) = u := ⟨_, rfl⟩
  have bu : Below w.heap.size w u := by rw [← hu]; exact (Below.refl _ w).alloc (Nat.le_refl _) _
  have su : u.heap.size = w.heap.size + 1 := by rw [← hu]; simp
  have q2 : u.cell? ⟨w.heap.size, 2, none⟩ = some (.int .i64 n0.col) := by rw [← hu]; simp
  rw [KC.out] at q2
  have Q2 := Lib.hid q2
  have BU := Lib.hid bu
  have HS := Lib.hid (show w.heap.size < u.heap.size by omega)
  have O0 := Lib.hid (show OwnV (u.alloc (.cells #[] 34)) u.heap.size 34 (some ⟨w.heap.size + 1, 0, none⟩) 0 ((sortL lt (zs.take 0)).map encE) from by rw [← su]; exact World.ownsRow_lit u #[] 0 (Nat.le_refl _) (Nat.zero_le _) rfl)
  have B0 := Lib.hid ((Below.refl u.heap.size u).alloc (Nat.le_refl _) (.cells #[] 34))
  try rw [hu]
  clear hu bu su q2
  go_loopw [5, 6, 7, 8, 9] (fun s i _ _ _ wr => ∃ (j : Nat) (ao : Option Addr) (n cc : Nat), j ≤ l.length ∧ i = .int .i64 j ∧ s = .slice ao n cc ∧ n = ((sortL lt (zs.take j)).map encE).length ∧ OwnV wr u.heap.size 34 ao cc ((sortL lt (zs.take j)).map encE) ∧ Below u.heap.size u wr) (fun _ i _ _ _ _ => l.length - (intOf i).toNat)
  case atStart => exact ⟨0, _, _, _, Nat.zero_le _, rfl, rfl, by simp [sortL], O0.out, B0.out⟩
  case round =>
    clear O0 B0
    obtain ⟨j, ao, n, cc, hj, rfl, rfl, hn, ho, hb⟩ := hrel
    obtain ⟨wo, rfl⟩ : ∃ wo, wo = wr := ⟨_, rfl⟩
    have HO := Lib.hid ho
    have HB := Lib.hid hb
    have HN := Lib.hid hn
    clear ho hb hn
    by_cases hlt : j < l.length
    · have hlz : (j : Int) < (l.length : Int) := by omega
      obtain ⟨x, hx⟩ : ∃ x, zs[j]? = some x := ⟨_, List.getElem?_eq_getElem (by have := HZL.out; omega)⟩
      have SX := Lib.hid (sortL_take (lt := lt) hx)
      obtain ⟨xb, xo, ex, hxk, hxv, hxc⟩ := PF.out x (List.mem_of_getElem? hx)
      generalize x.1.r.getD kc 0 = vx at hxv hxc
      generalize x.1.r.length = xl at ex hxk
      have EX := Lib.hid ex
      have XV := Lib.hid hxv
      have XC := Lib.hid hxc
      have MZ := Lib.hid (show ∀ z ∈ sortL lt (zs.take j), z ∈ zs from fun z hz => by
        unfold sortL at hz
        rcases sort_mem _ [] hz with hz | hz
        · cases hz
        · exact List.mem_of_mem_take hz)
      obtain ⟨b1, o1, a0, hb1, hcx⟩ : ∃ b off, a = some ⟨b, off, none⟩ ∧ b < w.heap.size ∧ w.cell? ⟨b, off + j, none⟩ = some (encE x) := by
        rcases HL.out with ⟨_, _, e, rfl⟩ | ⟨b, off, cap, e, hb, hc⟩
        · simp at hx
        · simp only [Value.slice.injEq] at e
          exact ⟨b, off, e.1, hb, hc j x hx⟩
      have hcx0 : ∀ W, Below w.heap.size w W → W.cell? ⟨b1, o1 + j, none⟩ = some (encE x) := fun W hW => (hW.cell (p := ⟨b1, o1 + j, none⟩) hb1).trans hcx
      have CX := Lib.hid hcx0
      subst a0
      have ZL := Lib.hid (show (sortL lt (zs.take j)).length ≤ 200 by rw [sortL_len, List.length_take]; omega)
      generalize hZ : sortL lt (zs.take j) = Z at HO HN SX ZL MZ
      have hnz : n = Z.length := by have := HN.out; simpa using this
      have HNZ := Lib.hid hnz
      have hn200 : n ≤ 200 := by have := ZL.out; omega
      have N0 := Lib.hid (show NextAt wo (wo.alloc (.cells #[] 34)) (some ⟨wo.heap.size, 0, none⟩) 0 0 ([] : List (Els w)) from ⟨World.ownsRow_lit wo #[] 0 (Nat.le_refl _) (Nat.zero_le _) rfl, rfl, (Below.refl _ wo).alloc (Nat.le_refl _) _⟩)
      clear hcx hcx0 hZ hx hnz HN ex hxv hxc
      go_wp2_with fail
      go_loopw [7, 8, 9] (fun s p i w2 => ∃ (k : Nat) (put : Bool) (a2 : Option Addr) (n2 c2 : Nat) (Y : List (Els w)), k ≤ n ∧ i = .int .i64 k ∧ p = .bool put ∧ s = .slice a2 n2 c2 ∧ InsAt lt x Z k put Y ∧ NextAt wo w2 a2 n2 c2 Y) (fun _ _ i _ => n - (intOf i).toNat)
      case atStart => exact ⟨0, false, _, _, _, [], Nat.zero_le _, rfl, rfl, rfl, InsAt.start _ _ _, N0.out⟩
      case round =>
        clear N0
        obtain ⟨k, put, a2, n2, c2, Y, hk, rfl, rfl, rfl, hI, hN⟩ := hrel
        have II := Lib.hid hI
        have NN := Lib.hid hN
        have hy2 : (Y.map encE).length ≤ 201 := by have := hI.1; rw [List.length_map]; split at this <;> omega
        have YB := Lib.hid hy2
        have hB2 := Lib.hid (below_step HB.out (Nat.le_refl _) hN.bel)
        have hW2 := Lib.hid (BU.out.trans (hB2.out.mono BU.out.size))
        have p2 := (hB2.out.cell (p := ⟨w.heap.size, 2, none⟩) HS.out).trans Q2.out
        have zx := XC.out _ hW2.out
        clear hI hN hy2
        by_cases hk2 : k < n
        · have hkz : (k : Int) < (n : Int) := by omega
          obtain ⟨z, hz⟩ : ∃ z, Z[k]? = some z := ⟨_, List.getElem?_eq_getElem (by have := HNZ.out; omega)⟩
          have ZZ := Lib.hid hz
          obtain ⟨g, hg, hcz0⟩ : ∃ g, ao = some ⟨g, 0, none⟩ ∧ ∀ W, Below wo.heap.size wo W → W.cell? ⟨g, k, none⟩ = some (encE z) := by
            rcases HO.out.form with ⟨_, _, e⟩ | ⟨g, e, _, hlt⟩
            · have := congrArg List.length e; simp at this; rw [this] at hz; simp at hz
            · subst e
              refine ⟨g, rfl, fun W hW => ?_⟩
              rw [hW.cell (p := ⟨g, k, none⟩) hlt, HO.out.cell k (by have := lt_of_get hz; simpa using this), List.getElem?_map, hz]; rfl
          have CZ := Lib.hid hcz0
          subst hg
          have hcx := CX.out _ hW2.out
          obtain ⟨zb, zo, ez, hzk, hzv, hzc⟩ := PF.out z (MZ.out z (List.mem_of_getElem? hz))
          generalize z.1.r.getD kc 0 = vz at hzv hzc
          generalize z.1.r.length = zl at ez hzk
          have EZ := Lib.hid ez
          have hcz := CZ.out _ NN.out.bel
          rw [EX.out] at hcx
          rw [EZ.out] at hcz
          have zz := hzc _ hW2.out
          have LZ := Lib.hid (show lt x z = decide (vx < vz) by rw [LV.out, XV.out, hzv])
          clear hz hcz0 ez hzv hzc
          cases put with
          | true =>
            have J := Lib.hid (II.out.on ZZ.out)
            go_wp2_with fail
            go_quiet (fail)
            have NQ := Lib.hid (NN.out.drew nq)
            have hcz5 := CZ.out _ NQ.out.bel
            rw [EZ.out] at hcz5
            clear hcx hcz hB2 hW2 NN p2 zx zz
            generalize wr.drewN nq = w5 at NQ hcz5 ⊢
            go_wp2_with (at_builtin; refine wpList_appendV _ rfl (.tmp 52) (.tmp 57) 29 rfl wo.heap.size 34 (.slice none 0 0) 24 Tryz.underlying29 infoRw rfl _ _ _ (Y.map encE) rfl (by rw [NQ.out.len, List.length_map]) (NQ.out.own.alloc _) _ 1 (.slice (some ⟨zb, zo, none⟩) zl z.1.c) rfl (cell_one _ _ _) rfl (by have := YB.out; unfold maxLen; simp at this ⊢; omega) (by have := YB.out; simp at this ⊢; omega) (by have := NQ.out.bel.size; simp; omega) ?_; intro qa qc qw qo qg qk; have N3 := Lib.hid (NQ.out.put (x := z) (by rw [EZ.out]; exact qo) qg); clear qo qg qk)
            go_roundw
            case rel => exact ⟨k + 1, true, _, _, _, _, by omega, by go_num, rfl, rfl, J.out, N3.out⟩
            case measure => simp [intOf]; omega
          | false =>
            cases hlx : lt x z with
            | true =>
              have hd : decide (vx < vz) = true := by rw [← LZ.out]; exact hlx
              have J := Lib.hid (II.out.hit ZZ.out hlx)
              clear hlx
              go_wp2_with fail
              go_quiet (fail)
              have NQ := Lib.hid (NN.out.drew nq)
              have hcx5 := CX.out _ (below_drewN hW2.out nq)
              have hcz5 := CZ.out _ NQ.out.bel
              rw [EX.out] at hcx5; rw [EZ.out] at hcz5
              clear hcx hcz hB2 hW2 NN p2 zx zz
              generalize wr.drewN nq = w5 at NQ hcx5 hcz5 ⊢
              go_wp2_with (first | (at_builtin; refine wpList_appendV _ rfl (.tmp 45) (.tmp 50) 29 rfl wo.heap.size 34 (.slice none 0 0) 24 Tryz.underlying29 infoRw rfl _ _ _ (Y.map encE) rfl (by rw [NQ.out.len, List.length_map]) (NQ.out.own.alloc _) _ 1 (.slice (some ⟨xb, xo, none⟩) xl x.1.c) rfl (cell_one _ _ _) rfl (by have := YB.out; unfold maxLen; simp at this ⊢; omega) (by have := YB.out; simp at this ⊢; omega) (by have := NQ.out.bel.size; simp; omega) ?_; intro qa qc qw qo qg qk; have N3 := Lib.hid (NQ.out.put (x := x) (by rw [EX.out]; exact qo) qg); clear qo qg qk; have hcz6 := CZ.out _ N3.out.bel; rw [EZ.out] at hcz6) | (at_builtin; refine wpList_appendV _ rfl (.tmp 52) (.tmp 57) 29 rfl wo.heap.size 34 (.slice none 0 0) 24 Tryz.underlying29 infoRw rfl _ _ _ ((Y ++ [x]).map encE) rfl (by rw [N3.out.len, List.length_map]) (N3.out.own.alloc _) _ 1 (.slice (some ⟨zb, zo, none⟩) zl z.1.c) rfl (cell_one _ _ _) rfl (by have := YB.out; unfold maxLen; simp at this ⊢; omega) (by have := YB.out; simp at this ⊢; omega) (by have := N3.out.bel.size; simp; omega) ?_; intro pa pc pw po pg pk; have N4 := Lib.hid (N3.out.put (x := z) (by rw [EZ.out]; exact po) pg); clear po pg pk))
              go_roundw
              case rel => exact ⟨k + 1, true, _, _, _, _, by omega, by go_num, rfl, rfl, J.out, by simpa using N4.out⟩
              case measure => simp [intOf]; omega
            | false =>
              have hd : decide (vx < vz) = false := by rw [← LZ.out]; exact hlx
              have J := Lib.hid (II.out.miss ZZ.out hlx)
              clear hlx
              go_wp2_with fail
              go_quiet (fail)
              have NQ := Lib.hid (NN.out.drew nq)
              have hcx5 := CX.out _ (below_drewN hW2.out nq)
              have hcz5 := CZ.out _ NQ.out.bel
              rw [EX.out] at hcx5; rw [EZ.out] at hcz5
              clear hcx hcz hB2 hW2 NN p2 zx zz
              generalize wr.drewN nq = w5 at NQ hcx5 hcz5 ⊢
              go_wp2_with (at_builtin; refine wpList_appendV _ rfl (.tmp 52) (.tmp 57) 29 rfl wo.heap.size 34 (.slice none 0 0) 24 Tryz.underlying29 infoRw rfl _ _ _ (Y.map encE) rfl (by rw [NQ.out.len, List.length_map]) (NQ.out.own.alloc _) _ 1 (.slice (some ⟨zb, zo, none⟩) zl z.1.c) rfl (cell_one _ _ _) rfl (by have := YB.out; unfold maxLen; simp at this ⊢; omega) (by have := YB.out; simp at this ⊢; omega) (by have := NQ.out.bel.size; simp; omega) ?_; intro qa qc qw qo qg qk; have N3 := Lib.hid (NQ.out.put (x := z) (by rw [EZ.out]; exact qo) qg); clear qo qg qk)
              go_roundw
              case rel => exact ⟨k + 1, false, _, _, _, _, by omega, by go_num, rfl, rfl, J.out, N3.out⟩
              case measure => simp [intOf]; omega
        · have e : k = n := by omega
          subst e
          have hcx := CX.out _ hW2.out
          rw [EX.out] at hcx
          cases put with
          | true =>
            have J := Lib.hid (II.out.end_yes HNZ.out)
            go_wp2_with fail
            go_roundw
            case rel =>
              refine ⟨j + 1, _, _, _, by omega, by go_num, rfl, ?_, ?_, hB2.out⟩
              · rw [SX.out, ← J.out]; rw [List.length_map]; exact NN.out.len
              · rw [SX.out, ← J.out]; exact NN.out.own.base_le HB.out.size
            case measure => simp [intOf]; omega
          | false =>
            have J := Lib.hid (II.out.end_no HNZ.out)
            go_wp2_with (at_builtin; refine wpList_appendV _ rfl (.tmp 61) (.tmp 66) 29 rfl wo.heap.size 34 (.slice none 0 0) 24 Tryz.underlying29 infoRw rfl _ _ _ (Y.map encE) rfl (by rw [NN.out.len, List.length_map]) (NN.out.own.alloc _) _ 1 (.slice (some ⟨xb, xo, none⟩) xl x.1.c) rfl (cell_one _ _ _) rfl (by have := YB.out; unfold maxLen; simp at this ⊢; omega) (by have := YB.out; simp at this ⊢; omega) (by have := NN.out.bel.size; simp; omega) ?_; intro qa qc qw qo qg qk; have N3 := Lib.hid (NN.out.put (x := x) (by rw [EX.out]; exact qo) qg); clear qo qg qk)
            go_roundw
            case rel =>
              refine ⟨j + 1, _, _, _, by omega, by go_num, rfl, ?_, ?_, below_step HB.out (Nat.le_refl _) N3.out.bel⟩
              · rw [SX.out, ← J.out]; rw [List.length_map]; exact N3.out.len
              · rw [SX.out, ← J.out]; exact N3.out.own.base_le HB.out.size
            case measure => simp [intOf]; omega
    · obtain rfl : j = l.length := by omega
      go_wp2_with fail
      go_ret
      have BW := BU.out.trans (HB.out.mono BU.out.size)
      have e : n = (sortL lt (zs.take l.length)).length := by rw [HN.out, List.length_map]
      subst e
      exact gives_els EQ.out HO.out BW BW (fun k hk => Nat.lt_trans (HZW.out k hk) HS.out) (fun x hx => by
        unfold sortL at hx
        rcases sort_mem _ [] hx with hx | hx
        · cases hx
        · exact HPX.out x (List.mem_of_mem_take hx))
end Go.Proofs.YtanfllednlpbaaaGreat
namespace Go.Proofs.YtanfllednlpbaaaGreat
open Go.RowKit
set_option linter.unusedSimpArgs false
set_option linter.unusedVariables false

theorem filt_els {n : Nd} {w : World} {zs : List (Els w)} {l : RowsL} (h : rowsE zs = l) : rowsE (zs.filter fun x => holdV n (cellV x.1.r n.col)) = filtL n l := by
  subst h
  unfold rowsE filtL
  rw [List.filter_map]
  rfl
set_option maxRecDepth 100000 in
set_option maxHeartbeats 3200000 in
theorem overFilter_any (z : Nat → Prop) (n : Nd) (hk : n.kind = 1) (ho : n.op = 0 ∨ n.op = 1 ∨ n.op = 2 ∨ n.op = 3) (a : Option Addr) (c : Nat) (mm : Option Nat) (sa : Option Addr) (sl sc : Nat) (gb cb : Nat) (v : Value) (l : RowsL) (w : World) (hzw : ∀ k, z k → k < w.heap.size) (hv : w.cell? ⟨gb, 0, none⟩ = some v) (K : KidAt z w v l) (hl : l.length ≤ 1048576) (h0 : 0 ≤ n.col) (hfit : ∀ r ∈ l, n.col < (r.length : Int)) :
    Calls Tryz.prog 122 #[.agg #[.map mm, .slice sa sl sc], kindV n a c, .slice (some ⟨gb, 0, none⟩) 1 cb] w (OverPost z w (filtL n l)) := by
  rw [show kindV n a c = .iface 153 (.agg #[.int .i64 n.col, .int .i64 n.op, .int .i64 n.num, .bool n.slot]) by unfold kindV; simp [hk]]
  have A0 := Tryz.as_filterNode_filterNode
  have hgb : gb < w.heap.size := World.block_lt_of_cell? w ⟨gb, 0, none⟩ hv
  have KK := Lib.hid K
  obtain ⟨Bs, aa, ac, rfl, -, -, -⟩ := K
  have CH := Lib.hid (fun (k : Nat) W => chosenO_any 106 140 #[.pointer (some ⟨Bs, 0, none⟩)] #[.pointer (some ⟨k, 0, none⟩)] W)
  have HO := Lib.hid ho
  have HF := Lib.hid hfit
  clear ho hfit hk
  go_enter Tryz.func122, Tryz.ntmps122
  go_wp2_with (go_at_call 139; refine (CH.out _ _).mono ?_; rintro e w2 ⟨rfl, rfl⟩)
  go_ret
  show OverPost z w (filtL n l) (.returned (.func (.func 160) #[] #[.pointer (some ⟨w.heap.size + 1 + 1, 0, none⟩), .pointer (some ⟨w.heap.size + 1 + 1 + 1, 0, none⟩)])) _
  obtain ⟨w1, hw1⟩ : ∃ w1, ((((w.alloc (.cells #[.map mm, .slice sa sl sc] 116)).alloc (.cells #[.int .i64 n.col, .int .i64 n.op, .int .i64 n.num, .bool n.slot] 153)).alloc (.cells #[.func (.func 106) #[] #[.pointer (some ⟨Bs, 0, none⟩)]] 82)).alloc (.cells #[.func (.func 140) #[] #[.pointer (some ⟨w.heap.size + 1, 0, none⟩)]] 134)) = w1 := ⟨_, rfl⟩
  have B : Below w.heap.size w w1 := by rw [← hw1]; exact ((((Below.refl _ w).alloc (Nat.le_refl _) _).alloc (by simp) _).alloc (by simp; omega) _).alloc (by simp; omega) _
  have c1 : w1.cell? ⟨w.heap.size + 1 + 1, 0, none⟩ = some (.func (.func 106) #[] #[.pointer (some ⟨Bs, 0, none⟩)]) := by rw [← hw1]; simp [go_sem]
  have c2 : w1.cell? ⟨w.heap.size + 1 + 1 + 1, 0, none⟩ = some (.func (.func 140) #[] #[.pointer (some ⟨w.heap.size + 1, 0, none⟩)]) := by rw [← hw1]; simp [go_sem]
  have k0 : w1.cell? ⟨w.heap.size + 1, 0, none⟩ = some (.int .i64 n.col) := by rw [← hw1]; simp [go_sem]
  have k1 : w1.cell? ⟨w.heap.size + 1, 1, none⟩ = some (.int .i64 n.op) := by rw [← hw1]; simp [go_sem]
  have k2 : w1.cell? ⟨w.heap.size + 1, 2, none⟩ = some (.int .i64 n.num) := by rw [← hw1]; simp [go_sem]
  have k3 : w1.cell? ⟨w.heap.size + 1, 3, none⟩ = some (.bool n.slot) := by rw [← hw1]; simp [go_sem]
  rw [hw1]
  obtain ⟨lb, zs, hlb, hz, hP, hseq⟩ := (KK.out.below B).seq hl
  cases hlb
  refine ⟨_, _, rfl, B, enters_of Tryz.func160 (by kernel_rfl) rfl, ?_⟩
  rw [← filt_els hz]
  have lt := World.block_lt_of_cell? w1 _ k0
  refine toEl (chosen_sep Fence.wide 5 trivial trivial rfl rfl (by omega) _ _ trivial enters_values zs _ _ (w.heap.size + 1) w1 (Below.refl _ _) (hseq 4 (by omega)) c1 c2 _ ?_) (Below.refl _ _) (fun x hx => hP x (List.mem_filter.1 hx).1)
  intro m X x hx hbX hg
  have hm : x.1.r ∈ l := by rw [← hz]; exact List.mem_map.2 ⟨x, hx, rfl⟩
  exact callsIn_wide.2 (over1_takes n HO.out x.1.a x.1.r x.1.c _ X hg.1 h0 (HF.out _ hm) ((hbX.cell (p := ⟨w.heap.size + 1, 0, none⟩) lt).trans k0) ((hbX.cell (p := ⟨w.heap.size + 1, 1, none⟩) lt).trans k1) ((hbX.cell (p := ⟨w.heap.size + 1, 2, none⟩) lt).trans k2) ((hbX.cell (p := ⟨w.heap.size + 1, 3, none⟩) lt).trans k3))
end Go.Proofs.YtanfllednlpbaaaGreat
