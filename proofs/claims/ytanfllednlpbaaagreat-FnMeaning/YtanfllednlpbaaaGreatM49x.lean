/-
  Contract of meaningOf. For every store and every plan. What EvalPlan and SizesOf end in. No walk. Contracts of impl.EvalPlan and impl.SizesOf. For every store and every plan. Contract of spec.l04Eval at a scan.
-/
import Derived.Test.YtanfllednlpbaaaGreatM43x
import Derived.Test.YtanfllednlpbaaaGreatM46x
import Derived.Test.YtanfllednlpbaaaGreatM48x
import Derived.Test.YtanfllednlpbaaaGreatM35x
import Derived.Test.YtanfllednlpbaaaGreatM23x
import Derived.Test.YtanfllednlpbaaaGreatM11x
import Derived.Test.YtanfllednlpbaaaGreatGrowQ
import Derived.Test.YtanfllednlpbaaaGreatM42x
import Derived.Test.YtanfllednlpbaaaGreatM34x
namespace Go.Proofs.YtanfllednlpbaaaGreat
open Go.RowKit Go.Maps
set_option linter.unusedSimpArgs false
set_option linter.unusedVariables false
theorem OwnMV.put {w : World} {b n : Nat} {f : FnV} (h : OwnMV w b n f) (hn : n < maxLen) {name : ByteArray} (hs : name.size ≤ maxLen) (v : Value) :
    ∃ w', (Instr.mapUpdate 114 (.map (some b)) (.string name) v).run Tryz.prog w = .ok () w' ∧ OwnMV w' b (n + 1) (updV f name.data.toList v) ∧ w.grownBy w' (some b) := by
  obtain ⟨D, h1, h2⟩ := h
  obtain ⟨w', hrun, h3, h4⟩ := h1.update (t := 114) (e := 29) Tryz.keyed Tryz.underlying114 hn (WideMaps.keyOf_string_mk Tryz.underlying9 hs) (d := .held v) (ps := []) (val := v) rfl
  exact ⟨w', hrun, ⟨_, h3, h2.put _ _⟩, h4⟩
theorem OwnMV.made (w : World) : OwnMV (w.alloc (.map #[] 0)) w.heap.size 0 (fun _ => none) := ⟨.map [], World.ownsMap_made _ _ _ _, FnVD.empty⟩
theorem rows_pick {w : World} {b off : Nat} {l : List RowsL} (h : ∀ i r, l[i]? = some r → ∃ a c, RowsAt w b (off + i) r a c) : ∃ A : Nat → Option Addr × Nat, ∀ i r, l[i]? = some r → RowsAt w b (off + i) r (A i).1 (A i).2 := by
  have h1 : ∀ i, ∃ ac : Option Addr × Nat, ∀ r, l[i]? = some r → RowsAt w b (off + i) r ac.1 ac.2 := fun i => by
    cases e : l[i]? with
    | none => exact ⟨(none, 0), fun r hr => by cases hr⟩
    | some r =>
      obtain ⟨a, c, hac⟩ := h i r e
      exact ⟨(a, c), fun r' e' => by cases e'; exact hac⟩
  exact Classical.skolem.1 h1
theorem SG.turned {z : Nat → Prop} {A B C : World} {m : Nat} (h : SG z A B) (hg : B.grownBy C (some m)) (hm : z m) : SG z A C :=
  ⟨hg.os.trans h.os, hg.tape.trans h.tape, hg.output.trans h.output, Nat.le_trans h.size hg.size, fun k hk hn => (hg.block k (Nat.lt_of_lt_of_le hk h.size) (fun e => hn (by cases e; exact hm))).trans (h.block k hk hn)⟩
def Upto (s : List Tb) (l : List RowsL) (A : Nat → Option Addr × Nat) (j : Nat) (f : FnV) : Prop :=
  ∀ i t r, i < j → s[i]? = some t → l[i]? = some r → f t.key = some (.slice (A i).1 r.length (A i).2)
theorem Upto.step {s : List Tb} {l : List RowsL} {A : Nat → Option Addr × Nat} {j : Nat} {f : FnV} (h : Upto s l A j f) (ha : AscT s) {t : Tb} {r : RowsL} (ht : s[j]? = some t) (hr : l[j]? = some r) : Upto s l A (j + 1) (updV f t.name.data.toList (.slice (A j).1 r.length (A j).2)) := by
  intro i u q hi hu hq
  unfold updV
  by_cases e : i = j
  · subst e
    rw [ht] at hu; rw [hr] at hq; cases hu; cases hq
    exact if_pos rfl
  · have hne : u.key ≠ t.key := fun e2 => by
      have hij : i < j := by omega
      obtain ⟨hi', eu⟩ := List.getElem?_eq_some_iff.1 hu
      obtain ⟨hj', et⟩ := List.getElem?_eq_some_iff.1 ht
      have := List.pairwise_iff_getElem.1 ha i j hi' hj' hij
      rw [eu, et, e2] at this
      exact klt_irrefl _ this
    rw [if_neg (show ¬ u.key = t.name.data.toList from hne)]
    exact h i u q (by omega) hu hq
theorem stoX_of {w : World} {b off : Nat} {s : List Tb} {l : List RowsL} {A : Nat → Option Addr × Nat} (hst : storeB s l = true) (hA : ∀ i r, l[i]? = some r → RowsAt w b (off + i) r (A i).1 (A i).2) {f : FnV} (hf : Upto s l A s.length f) : StoX w (fnOf s) f (gOf s l) := by
  refine ⟨fnOk_schema (store_parts hst).1, fun k v hv => ?_⟩
  obtain ⟨i, t, r, ht, hr, hk, _, hg, hw, h40⟩ := gOf_some hst hv
  have h1 := hf i t r (lt_of_get ht) ht hr
  rw [hk] at h1
  rw [hg]
  exact ⟨(A i).1, (A i).2, h1, (hA i r hr).2.1, hw, h40⟩
def MeanPost (w : World) (s : List Tb) (l : List RowsL) (p : List Nd) (e : Ending) (w' : World) : Prop :=
  ∃ a m c sa sm sc, e = .returned (.tuple #[.slice a m c, .slice sa sm sc, .int .i64 (evO s l p).2]) ∧ m = (evO s l p).1.length ∧ RdR w' a (evO s l p).1 ∧ sm = (sizO s l p).length ∧ Own w' w.heap.size 3 .i64 sa sc (sizO s l p) ∧ sm ≤ sc ∧ sc ≤ maxLen ∧ Below w.heap.size w w'
theorem mean_bad {w w' : World} {s : List Tb} {l : List RowsL} {p : List Nd} (h : canB s l p = false) (hb : Below w.heap.size w w') : MeanPost w s l p (.returned (.tuple #[.slice none 0 0, .slice none 0 0, .int .i64 1])) w' := by
  have e := evO_no h
  have e2 : sizO s l p = [] := by unfold sizO; rw [e]; rfl
  refine ⟨none, 0, 0, none, 0, 0, by rw [e], by rw [e]; rfl, by rw [e]; exact .inl rfl, by rw [e2]; rfl, by rw [e2]; exact Own.none_, Nat.le_refl _, Nat.zero_le _, hb⟩
theorem mean_big {w w' : World} {s : List Tb} {l : List RowsL} {p : List Nd} {T : Tr} (h : canB s l p = true) (ht : treeN p = some T) (he : evT (gOf s l) T = none) (hb : Below w.heap.size w w') : MeanPost w s l p (.returned (.tuple #[.slice none 0 0, .slice none 0 0, .int .i64 2])) w' := by
  have e := evO_big h ht he
  have e2 : sizO s l p = [] := by unfold sizO; rw [e]; rfl
  refine ⟨none, 0, 0, none, 0, 0, by rw [e], by rw [e]; rfl, by rw [e]; exact .inl rfl, by rw [e2]; rfl, by rw [e2]; exact Own.none_, Nat.le_refl _, Nat.zero_le _, hb⟩
theorem SzL.own {w w' : World} {z : Nat} {zs : List Int} (h : SzL w' z zs) (hz : w.heap.size ≤ z) (hl : zs.length ≤ maxLen) : Own w' w.heap.size 3 .i64 (some ⟨z, 0, none⟩) zs.length zs := by
  obtain ⟨c, hb, hc, hi⟩ := h
  refine ⟨by simp, .inr ⟨z, zs.length, c, rfl, hz, hb, Nat.le_refl _, hl, by rw [hc, Nat.mul_one], ?_⟩⟩
  apply List.ext_getElem?
  intro i
  rw [Nat.mul_one, List.getElem?_map]
  by_cases hil : i < zs.length
  · rw [List.getElem?_take_of_lt hil, Array.getElem?_toList, hi i hil, List.getElem?_eq_getElem hil]
    simp [hil]
  · rw [List.getElem?_eq_none (by simp; omega), List.getElem?_eq_none (by omega)]; rfl
theorem mean_fine {w w' : World} {s : List Tb} {l : List RowsL} {p : List Nd} {T : Tr} {x : RowsL} {a : Option Addr} {c sb : Nat} (h : canB s l p = true) (ht : treeN p = some T) (he : evT (gOf s l) T = some x) (hx : RdR w' a x) (hz : SzL w' sb (sizesO (gOf s l) p)) (hsb : w.heap.size ≤ sb) (hp : p.length ≤ maxLen) (hb : Below w.heap.size w w') :
    MeanPost w s l p (.returned (.tuple #[.slice a x.length c, .slice (some ⟨sb, 0, none⟩) p.length p.length, .int .i64 0])) w' := by
  have e := evO_fine h ht he
  have e2 : sizO s l p = sizesO (gOf s l) p := by unfold sizO; rw [e]; rfl
  have e3 := sizesO_len (gOf s l) p
  have h1 := hz.own hsb (by rw [e3]; exact hp)
  rw [e3] at h1
  exact ⟨a, x.length, c, some ⟨sb, 0, none⟩, p.length, p.length, by rw [e], by rw [e], by rw [e]; exact hx, by rw [e2, e3], by rw [e2]; exact h1, Nat.le_refl _, hp, hb⟩
set_option maxRecDepth 100000 in
set_option maxHeartbeats 12800000 in
theorem meaning_any (sa : Option Addr) (cs : Nat) (s : List Tb) (ra : Option Addr) (cr : Nat) (l : List RowsL) (pa : Option Addr) (cp : Nat) (p : List Nd) (w : World) (hs : RdT w sa s) (hr : RdRR w ra l) (hp : RdN w pa p) (hsl : s.length ≤ 1048576) (hrl : l.length ≤ 1048576) (hrr : ∀ x ∈ l, x.length ≤ 1048576 ∧ ∀ y ∈ x, y.length ≤ 1048576) (hpl : Small p) :
    Calls Tryz.prog 47 #[.slice sa s.length cs, .slice ra l.length cr, .slice pa p.length cp] w (MeanPost w s l p) := by
  have ST := Lib.hid (implStoreOk_any sa ra cs cr s l w hs hr hsl hrl hrr)
  have TY := Lib.hid (fun W (hW : Below w.heap.size w W) => implTyped_any sa cs s pa cp p W (hs.below hW) (hp.below hW) hsl hpl)
  have AN := Lib.hid (fun W (hW : Below w.heap.size w W) => anySlot_any pa cp p W (hp.below hW) hpl.1)
  cases hst : storeB s l with
  | false =>
    have CB := Lib.hid (can_store (p := p) hst)
    rw [hst] at ST
    clear hst hs hr hp hrr
    go_enter Tryz.func47, Tryz.ntmps47
    go_wp2_with (go_at_call 86; refine ST.out.mono ?_; rintro e w1 ⟨rfl, b1⟩; have B1 := Lib.hid b1; clear b1)
    go_ret3
    exact mean_bad CB.out B1.out
  | true =>
    cases hty : typB s p with
    | false =>
      have CB := Lib.hid (can_typ (l := l) hty)
      rw [hst] at ST
      rw [hty] at TY
      clear hst hty hs hr hp hrr
      go_enter Tryz.func47, Tryz.ntmps47
      go_wp2_with (first | (go_at_call 86; refine ST.out.mono ?_; rintro e w1 ⟨rfl, b1⟩; have B1 := Lib.hid b1; clear b1) | (go_at_call 87; refine (TY.out _ B1.out).mono ?_; rintro e w2 ⟨rfl, b2⟩; have B2 := Lib.hid (below_step B1.out (Nat.le_refl _) b2); clear b2))
      go_ret3
      exact mean_bad CB.out B2.out
    | true =>
      cases han : p.any (fun n => n.slot) with
      | true =>
        have CB := Lib.hid (show canB s l p = false by unfold canB; rw [hst, hty, han]; rfl)
        rw [hst] at ST
        rw [hty] at TY
        rw [han] at AN
        clear hst hty han hs hr hp hrr
        go_enter Tryz.func47, Tryz.ntmps47
        go_wp2_with (first | (go_at_call 86; refine ST.out.mono ?_; rintro e w1 ⟨rfl, b1⟩; have B1 := Lib.hid b1; clear b1) | (go_at_call 87; refine (TY.out _ B1.out).mono ?_; rintro e w2 ⟨rfl, b2⟩; have B2 := Lib.hid (below_step B1.out (Nat.le_refl _) b2); clear b2) | (go_at_call 88; refine (AN.out _ B2.out).mono ?_; rintro e w3 ⟨rfl, b3⟩; have B3 := Lib.hid (below_step B2.out (Nat.le_refl _) b3); clear b3))
        go_ret3
        exact mean_bad CB.out B3.out
      | false =>
        have CB := Lib.hid (show canB s l p = true by unfold canB; rw [hst, hty, han]; rfl)
        rw [hst] at ST
        rw [hty] at TY
        rw [han] at AN
        obtain ⟨hsch, T, hT, hwT⟩ := typ_tree hty
        obtain ⟨_, hlen, _⟩ := store_parts hst
        have hasc : AscT s := (schemaB_iff.1 hsch).2.2
        have hts := treeN_some hT
        obtain ⟨bb, off, A, hra, hA⟩ : ∃ (bb off : Nat) (A : Nat → Option Addr × Nat), (l ≠ [] → ra = some ⟨bb, off, none⟩) ∧ ∀ i r, l[i]? = some r → RowsAt w bb (off + i) r (A i).1 (A i).2 := by
          rcases hr with h | ⟨bb, off, e, hc⟩
          · exact ⟨0, 0, fun _ => (none, 0), fun hne => absurd h hne, fun i r hi => by rw [h] at hi; cases hi⟩
          · obtain ⟨A, hA⟩ := rows_pick hc
            exact ⟨bb, off, A, fun _ => e, hA⟩
        have HT := Lib.hid hT
        have HWT := Lib.hid hwT
        have HND := Lib.hid (growT_nodes p _ _ _ (treeN_at hT))
        have HUN := Lib.hid (under_grow p T 0 hts.2.1)
        have HAS := Lib.hid hasc
        have HA := Lib.hid hA
        have HRA := Lib.hid hra
        have HLEN := Lib.hid hlen
        have HST := Lib.hid hst
        have HS := Lib.hid hs
        have hN := hpl.1
        have TR := Lib.hid (fun W (hW : Below w.heap.size w W) => treeOfW_any w pa cp p hpl W hp hW)
        have hmm := @run_makeMap Tryz.prog
        have hmk := fun W => run_make_row' (P := Tryz.prog) 34 3 (.int .i64 0) 8 Tryz.underlying34 infoIw rfl .i64 .i64 p.length (by omega) (by omega) W
        clear hst hty han hs hr hp hrr hpl hsch hT hwT hlen hasc hts hra hA
        go_enter Tryz.func47, Tryz.ntmps47
        go_wp2_with (first | (go_at_call 86; refine ST.out.mono ?_; rintro e w1 ⟨rfl, b1⟩; have B1 := Lib.hid b1; clear b1) | (go_at_call 87; refine (TY.out _ B1.out).mono ?_; rintro e w2 ⟨rfl, b2⟩; have B2 := Lib.hid (below_step B1.out (Nat.le_refl _) b2); clear b2) | (go_at_call 88; refine (AN.out _ B2.out).mono ?_; rintro e w3 ⟨rfl, b3⟩; have B3 := Lib.hid (below_step B2.out (Nat.le_refl _) b3); clear b3))
        clear hmm hmk ST TY AN
        obtain ⟨u, hu⟩ : ∃ u, ((w3.alloc (.map #[] 0)).alloc (.cells (madeCells #[.int .i64 0] p.length) 3)).alloc (.cells #[.map (some w3.heap.size), .slice (some ⟨w3.heap.size + 1, 0, none⟩) p.length p.length] 116) = u := ⟨_, rfl⟩
        have bu : Below w3.heap.size w3 u := by rw [← hu]; exact (((Below.refl _ w3).alloc (Nat.le_refl _) _).alloc (by simp) _).alloc (by simp; omega) _
        have x0 : u.cell? ⟨w3.heap.size + 1 + 1, 0, none⟩ = some (.map (some w3.heap.size)) := by rw [← hu]; simp [go_sem]
        have x1 : u.cell? ⟨w3.heap.size + 1 + 1, 1, none⟩ = some (.slice (some ⟨w3.heap.size + 1, 0, none⟩) p.length p.length) := by rw [← hu]; simp [go_sem]
        have su : u.heap.size = w3.heap.size + 1 + 1 + 1 := by rw [← hu]; simp
        have om : OwnMV u w3.heap.size 0 (fun _ => none) := by
          rw [← hu]
          exact ((OwnMV.made w3).below ((Below.refl _ _).alloc (Nat.le_refl _) _)).below ((Below.refl _ _).alloc (Nat.le_refl _) _)
        have sz : SzL u (w3.heap.size + 1) (List.replicate p.length 0) := by
          have h1 := World.rowIs_made (w3.alloc (.map #[] 0)) (.int .i64 0) p.length 3
          have h2 : SzL ((w3.alloc (.map #[] 0)).alloc (.cells (madeCells #[.int .i64 0] p.length) 3)) (w3.heap.size + 1) (List.replicate p.length 0) := by
            unfold SzL
            rw [List.length_replicate]
            have e : (w3.alloc (.map #[] 0)).heap.size = w3.heap.size + 1 := by simp
            rw [e] at h1
            refine h1.congr fun i hi => ?_
            rw [List.getD_eq_getElem?_getD, List.getElem?_replicate, if_pos hi]; rfl
          rw [← hu]
          exact h2.below ((Below.refl _ _).alloc (Nat.le_refl _) _)
        rw [hu]
        have BU := Lib.hid (B3.out.trans (bu.mono B3.out.size))
        have X0 := Lib.hid x0
        have X1 := Lib.hid x1
        have SU := Lib.hid su
        have OM := Lib.hid om
        have SZ := Lib.hid sz
        clear hu bu x0 x1 su om sz
        go_loopw [35] (fun i wr => ∃ (j : Nat) (f : FnV), j ≤ s.length ∧ i = .int .i64 j ∧ Upto s l A j f ∧ OwnMV wr w3.heap.size j f ∧ SG (fun k => k = w3.heap.size) u wr) (fun i _ => s.length - (intOf i).toNat)
        case atStart => exact ⟨0, _, Nat.zero_le _, rfl, fun i t r hi => absurd hi (Nat.not_lt_zero _), OM.out, SG.of (Below.refl _ _)⟩
        case round =>
          obtain ⟨j, f, hj, rfl, hup, hom, hsg⟩ := hrel
          have UP := Lib.hid hup
          have OMJ := Lib.hid hom
          have SGJ := Lib.hid hsg
          have BW := Lib.hid (hsg.below BU.out (by rintro k rfl; exact B3.out.size))
          have z0 := hsg.cell (p := ⟨w3.heap.size + 1 + 1, 0, none⟩) (by show w3.heap.size + 1 + 1 ≠ w3.heap.size; omega) X0.out
          have z1 := hsg.cell (p := ⟨w3.heap.size + 1 + 1, 1, none⟩) (by show w3.heap.size + 1 + 1 ≠ w3.heap.size; omega) X1.out
          have hzl : w3.heap.size + 1 + 1 < wr.heap.size := World.block_lt_of_cell? wr _ z0
          clear hup hom hsg
          by_cases hlt : j < s.length
          · obtain ⟨b, off', t, rfl, hn, hat⟩ := (HS.out.below BW.out).at_ hlt
            obtain ⟨c0, c1, nm⟩ := hat
            have hjl : j < l.length := by rw [← HLEN.out]; exact hlt
            obtain ⟨r, hr⟩ : ∃ r, l[j]? = some r := ⟨_, List.getElem?_eq_getElem hjl⟩
            obtain rfl := HRA.out (by intro e; rw [e] at hjl; cases hjl)
            have hrat := HA.out j r hr
            have rq := (BW.out.cell (p := ⟨bb, off + j, none⟩) (World.block_lt_of_cell? w _ hrat.1)).trans hrat.1
            have US := Lib.hid (UP.out.step HAS.out hn hr)
            clear hn hr hrat
            have hlt' : (j : Int) < s.length := by omega
            go_wp2_with fail
            obtain ⟨u1, hu1⟩ : ∃ u1, wr.alloc (.cells #[.string t.name, .int .i64 t.width] 89) = u1 := ⟨_, rfl⟩
            have b1 : Below wr.heap.size wr u1 := by rw [← hu1]; exact (Below.refl _ wr).alloc (Nat.le_refl _) _
            have y0 := (b1.cell (p := ⟨w3.heap.size + 1 + 1, 0, none⟩) hzl).trans z0
            have y1 : u1.cell? ⟨wr.heap.size, 0, none⟩ = some (.string t.name) := by rw [← hu1]; simp
            have y2 := (b1.cell (p := ⟨bb, off + j, none⟩) (World.block_lt_of_cell? wr _ rq)).trans rq
            obtain ⟨w2', hrun, hom2, hg2⟩ := ((OMJ.out.below b1).below (Below.refl u1.heap.size u1).drew).put (by unfold maxLen; omega) nm (.slice (A j).1 r.length (A j).2)
            have OM2 := Lib.hid hom2
            have SG2 := Lib.hid (((SGJ.out.trans (SG.of b1)).trans (SG.of (Below.refl u1.heap.size u1).drew)).turned hg2 rfl)
            rw [hu1]
            clear hu1 b1 hom2 hg2 z0 z1 c0 c1 rq hzl
            generalize (A j).1 = aj at y2 hrun
            generalize (A j).2 = cj at y2 hrun
            go_region_with (fail)
            all_goals (
              go_wp2_with fail
              go_roundw
              case rel => exact ⟨j + 1, _, by omega, by go_num, US.out, OM2.out, SG2.out⟩
              case measure => simp [intOf]; omega)
          · obtain rfl : j = s.length := by omega
            have SX := Lib.hid (stoX_of HST.out HA.out UP.out)
            have SZR := Lib.hid (World.rowIs.of_block SZ.out (SGJ.out.block _ SZ.out.lt (by show w3.heap.size + 1 ≠ w3.heap.size; omega)))
            have hszR : u.heap.size ≤ wr.heap.size := SGJ.out.size
            have BD := Lib.hid (BW.out.trans (Below.refl w.heap.size wr).drew)
            have LR := Lib.hid (show w3.heap.size + 1 + 1 < wr.heap.size from hzl)
            have LB := Lib.hid (show w.heap.size ≤ w3.heap.size from B3.out.size)
            have RI := Lib.hid (show ∀ (W4 : World) (tb : Nat), TrQ w W4 wr.drew.heap.size W4.heap.size T tb → Below wr.heap.size wr W4 → Calls Tryz.prog 90 #[.agg #[.map (some w3.heap.size), .slice (some ⟨w3.heap.size + 1, 0, none⟩) p.length p.length], .pointer (some ⟨tb, 0, none⟩)] W4 (RowsPost (fun k => k = w3.heap.size + 1) (w3.heap.size + 1) W4 (evT (gOf s l) T) (List.replicate p.length 0) (sizesO (gOf s l) p)) from
              fun W4 tb htr hb4 => by
                have h := rowsOf_all w (fnOf s) f (gOf s l) SX.out w3.heap.size s.length (w3.heap.size + 1) p.length wr.drew.heap.size W4.heap.size (by omega) (.inl (by show w3.heap.size + 1 < wr.heap.size; have := LR.out; omega)) hN T HND.out HUN.out HWT.out
                  (fun k => k = w3.heap.size + 1) W4 tb (List.replicate p.length 0) rfl (by rintro k rfl; have := LR.out; have := hb4.size; omega) (by rintro k rfl; have := LB.out; omega) htr (Nat.le_refl _) (BW.out.trans (hb4.mono BW.out.size)) (OMJ.out.below hb4) (SzL.below SZR.out hb4) (by simp)
                rw [putZ_all HT.out _ (by simp)] at h
                exact h)
            have U0 := Lib.hid (Below.refl wr.heap.size wr).drew
            clear hzl hszR hlt hj
            go_wp2_with fail
            go_region_with (first
              | (go_at_call 52; refine (TR.out _ BD.out).mono ?_; rw [HT.out]; rintro e w4 ⟨tb, rfl, htr, hb4⟩; have U4 := Lib.hid (U0.out.trans (hb4.mono (Nat.le_refl _))); have TQ := Lib.hid htr; have zz0 := (U4.out.cell (p := ⟨w3.heap.size + 1 + 1, 0, none⟩) LR.out).trans z0; have zz1 := (U4.out.cell (p := ⟨w3.heap.size + 1 + 1, 1, none⟩) LR.out).trans z1; clear htr hb4)
              | (go_at_call 90; refine (RI.out _ _ TQ.out U4.out).mono ?_; rintro e w5 ⟨rv, ok, rfl, sg5, res⟩; have SG5 := Lib.hid sg5; have RS := Lib.hid res; have yy1 := sg5.cell (p := ⟨w3.heap.size + 1 + 1, 1, none⟩) (by show w3.heap.size + 1 + 1 ≠ w3.heap.size + 1; omega) zz1; clear sg5 res))
            all_goals (
              have BE := Lib.hid (SG5.out.below (BW.out.trans (U4.out.mono BW.out.size)) (by rintro k rfl; have := LB.out; omega))
              rcases RS.out with ⟨x, hx, rfl, ⟨xa, xc, rfl, hrd⟩, hsz⟩ | ⟨hx, rfl, rfl, _⟩
              · have HX := Lib.hid hx
                have RD := Lib.hid hrd.rd
                have SZ5 := Lib.hid hsz
                clear hx hrd hsz RS
                go_wp2_with fail
                go_region_with (fail)
                all_goals (
                  go_wp2_with fail
                  go_ret3
                  exact mean_fine CB.out HT.out HX.out (RD.out.below (Below.refl _ _).drew) (SZ5.out.below (Below.refl _ _).drew) (by have := LB.out; omega) (by unfold maxLen; omega) (BE.out.trans (Below.refl _ _).drew))
              · have HX := Lib.hid hx
                clear hx RS
                go_wp2_with fail
                go_ret3
                exact mean_big CB.out HT.out HX.out BE.out)
end Go.Proofs.YtanfllednlpbaaaGreat
namespace Go.Proofs.YtanfllednlpbaaaGreat
open Go.RowKit
set_option linter.unusedSimpArgs false
set_option linter.unusedVariables false
theorem evO_small (s : List Tb) (l : List RowsL) (p : List Nd) : (evO s l p).1.length ≤ 200 ∧ ∀ r ∈ (evO s l p).1, r.length ≤ 64 := by
  cases hc : canB s l p with
  | false => rw [evO_no hc]; exact ⟨by simp, fun r hr => by cases hr⟩
  | true =>
    obtain ⟨h1, h2, h3⟩ := can_parts hc
    obtain ⟨hs, T, hT, hw⟩ := typ_tree h2
    cases he : evT (gOf s l) T with
    | none => rw [evO_big hc hT he]; exact ⟨by simp, fun r hr => by cases hr⟩
    | some x =>
      have e := evO_fine hc hT he
      obtain ⟨a, b, _⟩ := evO_wide (s := s) (l := l) (p := p) (by rw [e])
      refine ⟨b, fun r hr => ?_⟩
      have h4 := a r hr
      rw [widO_some hs hT] at h4
      rcases widT_wide (fnOk_schema hs) T (growT_nodes p _ _ _ (treeN_at hT)) with h | ⟨_, h⟩
      · omega
      · omega
theorem evO_zero {s : List Tb} {l : List RowsL} {p : List Nd} (h : (evO s l p).2 = 0) : ∃ T x, storeB s l = true ∧ treeN p = some T ∧ widT (fnOf s) T ≠ -1 ∧ evT (gOf s l) T = some x := by
  cases hc : canB s l p with
  | false => rw [evO_no hc] at h; cases h
  | true =>
    obtain ⟨h1, h2, h3⟩ := can_parts hc
    obtain ⟨hs, T, hT, hw⟩ := typ_tree h2
    cases he : evT (gOf s l) T with
    | none => rw [evO_big hc hT he] at h; cases h
    | some x => exact ⟨T, x, h1, hT, hw, he⟩
def EvalPost (w : World) (s : List Tb) (l : List RowsL) (p : List Nd) (e : Ending) (w' : World) : Prop :=
  ∃ a c, e = .returned (.tuple #[.slice a (evO s l p).1.length c, .int .i64 (evO s l p).2]) ∧ OwnR w' w.heap.size a c (evO s l p).1 ∧ (evO s l p).1.length ≤ c ∧ c ≤ maxLen ∧ Below w.heap.size w w'
theorem eval_no {w w' : World} {s : List Tb} {l : List RowsL} {p : List Nd} {k : Int} (h : evO s l p = ([], k)) (hb : Below w.heap.size w w') : EvalPost w s l p (.returned (.tuple #[.slice none 0 0, .int .i64 k])) w' := by
  unfold EvalPost; rw [h]; exact ⟨none, 0, rfl, .inl rfl, Nat.le_refl _, Nat.zero_le _, hb⟩
theorem eval_yes {w w' : World} {s : List Tb} {l : List RowsL} {p : List Nd} {x : RowsL} {a : Option Addr} {c : Nat} (h : evO s l p = (x, 0)) (ho : OwnR w' w.heap.size a c x) (h1 : x.length ≤ c) (h2 : c ≤ maxLen) (hb : Below w.heap.size w w') : EvalPost w s l p (.returned (.tuple #[.slice a x.length c, .int .i64 0])) w' := by
  unfold EvalPost; rw [h]; exact ⟨a, c, rfl, ho, h1, h2, hb⟩
def SizesPost (w : World) (s : List Tb) (l : List RowsL) (p : List Nd) (e : Ending) (w' : World) : Prop :=
  ∃ a c, e = .returned (.slice a (sizO s l p).length c) ∧ Own w' w.heap.size 3 .i64 a c (sizO s l p) ∧ (sizO s l p).length ≤ c ∧ c ≤ maxLen ∧ Below w.heap.size w w'
set_option maxHeartbeats 1600000 in
theorem implEval_any (sa : Option Addr) (cs : Nat) (s : List Tb) (ra : Option Addr) (cr : Nat) (l : List RowsL) (pa : Option Addr) (cp : Nat) (p : List Nd) (w : World) (hs : RdT w sa s) (hr : RdRR w ra l) (hp : RdN w pa p) (hsl : s.length ≤ 1048576) (hrl : l.length ≤ 1048576) (hrr : ∀ x ∈ l, x.length ≤ 1048576 ∧ ∀ y ∈ x, y.length ≤ 1048576) (hpl : Small p) :
    Calls Tryz.prog 9 #[.slice sa s.length cs, .slice ra l.length cr, .slice pa p.length cp] w (EvalPost w s l p) := by
  have ME := Lib.hid (meaning_any sa cs s ra cr l pa cp p w hs hr hp hsl hrl hrr hpl)
  obtain ⟨h200, h64⟩ := evO_small s l p
  have H64 := Lib.hid h64
  have EP := Lib.hid (show EvalPost w s l p = fun e w' => ∃ a c, e = .returned (.tuple #[.slice a (evO s l p).1.length c, .int .i64 (evO s l p).2]) ∧ OwnR w' w.heap.size a c (evO s l p).1 ∧ (evO s l p).1.length ≤ c ∧ c ≤ maxLen ∧ Below w.heap.size w w' from rfl)
  rw [EP.out]
  have MP := Lib.hid (show ∀ e w', MeanPost w s l p e w' → ∃ a m c sa sm sc, e = .returned (.tuple #[.slice a m c, .slice sa sm sc, .int .i64 (evO s l p).2]) ∧ m = (evO s l p).1.length ∧ RdR w' a (evO s l p).1 ∧ Below w.heap.size w w' from fun e w' ⟨a, m, c, sa, sm, sc, h1, h2, h3, _, _, _, _, h4⟩ => ⟨a, m, c, sa, sm, sc, h1, h2, h3, h4⟩)
  generalize (evO s l p).1 = x at h200 H64 MP ⊢
  generalize (evO s l p).2 = code at MP ⊢
  clear hs hr hp hrr hpl h64 EP
  go_enter Tryz.func9, Tryz.ntmps9
  go_wp2_with fail
  refine ME.out.mono ?_
  intro e w1 he
  obtain ⟨a, m, c, sa', sm, sc, rfl, rfl, hrd, b1⟩ := MP.out e w1 he
  have B1 := Lib.hid b1
  have CP := Lib.hid (copyRows_any a c x w1 hrd (by omega) (fun r hr => by have := H64.out r hr; omega))
  clear he hrd b1
  go_wp2_with fail
  refine CP.out.mono ?_
  intro e w2 h5
  have M := Lib.hid (h5.base B1.out)
  obtain ⟨ao3, c3, rfl, _⟩ := h5
  clear CP
  go_wp2_with fail
  first | go_ret | go_ret2
  obtain ⟨ao4, c4, e4, o4, k4, k5, k6⟩ := M.out
  simp only [Ending.returned.injEq, Value.slice.injEq] at e4
  obtain ⟨rfl, _, rfl⟩ := e4
  exact ⟨_, _, rfl, o4, k4, k5, k6⟩
set_option maxHeartbeats 1600000 in
theorem implSizes_any (sa : Option Addr) (cs : Nat) (s : List Tb) (ra : Option Addr) (cr : Nat) (l : List RowsL) (pa : Option Addr) (cp : Nat) (p : List Nd) (w : World) (hs : RdT w sa s) (hr : RdRR w ra l) (hp : RdN w pa p) (hsl : s.length ≤ 1048576) (hrl : l.length ≤ 1048576) (hrr : ∀ x ∈ l, x.length ≤ 1048576 ∧ ∀ y ∈ x, y.length ≤ 1048576) (hpl : Small p) :
    Calls Tryz.prog 12 #[.slice sa s.length cs, .slice ra l.length cr, .slice pa p.length cp] w (SizesPost w s l p) := by
  have ME := Lib.hid (meaning_any sa cs s ra cr l pa cp p w hs hr hp hsl hrl hrr hpl)
  clear hs hr hp hrr hpl
  go_enter Tryz.func12, Tryz.ntmps12
  go_wp2_with fail
  refine ME.out.mono ?_
  intro e w1 he
  obtain ⟨a, m, c, sa', sm, sc, rfl, _, _, hsm, ho, k1, k2, b1⟩ := he
  have HO := Lib.hid ho
  have B1 := Lib.hid b1
  have K := Lib.hid hsm
  clear ho b1 hsm
  go_wp2_with fail
  first | go_ret | go_ret2
  obtain rfl := K.out
  exact ⟨_, _, rfl, HO.out, k1, k2, B1.out⟩
def EvQ (z : Nat → Prop) (g : Sto) (T : Tr) (w : World) (e : Ending) (w' : World) : Prop :=
  Below w.heap.size w w' ∧ ((∃ (L : RowsL) (ao : Option Addr) (cc : Nat), evT g T = some L ∧ e = .returned (.tuple #[.slice ao L.length cc, .bool true]) ∧ RdX z w' ao L ∧ L.length ≤ cc) ∨ (evT g T = none ∧ ∃ v, e = .returned (.tuple #[v, .bool false])))
set_option maxRecDepth 100000 in
set_option maxHeartbeats 4000000 in
theorem ev_t0 (sa : Option Addr) (cs : Nat) (s : List Tb) (ra : Option Addr) (cr : Nat) (l : List RowsL) (ao : Option Addr) (c : Nat) (p : List Nd) (T0 : Tr) (hst : storeB s l = true) (hsl : s.length ≤ 1048576) (hp : p.length ≤ 1048576) (ht : treeN p = some T0) (w0 : World) (hrr : RdRR w0 ra l) (n : Nd) (pl en : Nat) : ∀ (z : Nat → Prop) (k : Nat) (w : World), Below w0.heap.size w0 w → (∀ k, z k → w0.heap.size ≤ k ∧ k < w.heap.size) → RdT w sa s → RdN w ao p → growT p p.length k = some (Tr.t0 n pl en) → (Tr.t0 n pl en).depth ≤ 10 → widT (fnOf s) (Tr.t0 n pl en) ≠ -1 →
    Calls Tryz.prog 45 #[.slice sa s.length cs, .slice ra l.length cr, .slice ao p.length c, .int .i64 k] w (EvQ z (gOf s l) (Tr.t0 n pl en) w) := by
  intro z k w hb0 hzz hrs hrp hg hd hw
  have HB0 := Lib.hid hb0
  have HZZ := Lib.hid hzz
  have HR0 := Lib.hid hrr
  clear hb0 hzz
  have HG := Lib.hid hg
  obtain ⟨n', hn, hnb, hS⟩ := grow_inv hg
  rcases hS with ⟨hS, ha⟩ | ⟨c', hS, _⟩ | ⟨c', d', hS, _⟩
  case inr.inl => cases hS
  case inr.inr => cases hS
  cases hS
  have hkl : pl < p.length := (List.getElem?_eq_some_iff.1 hn).1
  obtain ⟨b, off, n2, a, c2, rfl, hn2, hat⟩ := hrp.at_ hkl
  obtain rfl : n = n2 := by rw [hn] at hn2; injection hn2
  obtain ⟨c0, c1, c2', c3, c4, c5, c6, rd, cap, mx, nm⟩ := hat
  have hcl : n.cols.length ≤ maxLen := Nat.le_trans cap mx
  clear rd hn2 cap mx
  obtain ⟨W1, hW1⟩ : ∃ W1, W1 = w.alloc (.cells (#[.int .i64 n.kind, .string n.name, .int .i64 n.col, .int .i64 n.op, .int .i64 n.num, .bool n.slot, .slice a n.cols.length c2]) 39) := ⟨_, rfl⟩
  have Z1 := Lib.hid (show W1.heap.size = w.heap.size + 1 by rw [hW1]; simp)
  have A1 := Lib.hid (show Below w.heap.size w W1 by rw [hW1]; exact (Below.refl _ _).alloc (Nat.le_refl _) _)
  have f0 : W1.cell? ⟨w.heap.size, 0, none⟩ = some (.int .i64 n.kind) := by rw [hW1, World.cell?_alloc_new]; rfl
  have f1 : W1.cell? ⟨w.heap.size, 1, none⟩ = some (.string n.name) := by rw [hW1, World.cell?_alloc_new]; rfl
  have NE := Lib.hid ((Below.refl W1.heap.size W1).alloc (Nat.le_refl _) (.cells #[] 29))
  have HRS := Lib.hid (hrs.below A1.out); have HRP := Lib.hid (hrp.below A1.out)
  have FIN := Lib.hid (fun w' (hc : Below W1.heap.size W1 w') => (A1.out.trans (hc.mono (by rw [Z1.out]; exact Nat.le_succ _)) : Below w.heap.size w w'))
  have hbw : b < w.heap.size := World.block_lt_of_cell? w ⟨b, off + pl * 7, none⟩ c0
  have HK := Lib.hid (show n.kind = 0 from (growT_nodes p _ _ _ HG.out).2)
  have KO := Lib.hid (show KidsOk p ((pl : Int)).toNat [] by rw [Int.toNat_natCast]; exact ⟨n, hn, .inl ⟨ha, rfl⟩⟩)
  have KEY := Lib.hid (show ∃ v, fnOf s n.name.data.toList = some v by
    cases hv : fnOf s n.name.data.toList with
    | some v => exact ⟨v, rfl⟩
    | none => exact absurd (by unfold widT; rw [hv]; rfl) hw)
  have TS := Lib.hid (told_self s (schemaB_iff.1 (store_parts hst).1).2.2)
  clear hw
  go_enter Tryz.func45, Tryz.ntmps45
  go_wp2_with fail
  rw [← hW1]
  refine (specKids_any (some ⟨b, off, none⟩) c p pl [] _ (HRP.out.below NE.out) hp (by omega) (by omega) KO.out).mono ?_
  rintro e w3 ⟨a3, c3', rfl, o3, b3⟩
  have N3 := Lib.hid (below_step NE.out (Nat.le_refl _) b3)
  have e3 := fun o => N3.out.cell (p := ⟨w.heap.size, o, none⟩) (by rw [Z1.out]; exact Nat.lt_succ_self _)
  clear o3 b3
  have g0 := (e3 0).trans f0; have g1 := (e3 1).trans f1
  have hsz3 : w.heap.size < w3.heap.size := by have := N3.out.size; rw [Z1.out] at this; omega
  rw [HK.out] at g0
  clear c0 c1 c2' c3 c4 c5 c6 hW1 f0 f1 e3
  go_wp2_with fail
  refine wp_loop_rounds 1 ?_; rw [rounds_succ]
  have N4 := Lib.hid (N3.out.alloc N3.out.size (.cells #[] 34))
  go_wp2_with fail
  refine (l03Find_any sa cs s n.name _ (HRS.out.below N4.out) hsl).mono ?_
  rintro e w' ⟨rfl, r, rfl, hr⟩
  rcases hr with ⟨rfl, hno⟩ | ⟨i, t, rfl, hi, hx⟩
  · obtain ⟨v, hv⟩ := KEY.out
    obtain ⟨t, ht, h1, _⟩ := (TS.out.2 _ _).1 hv
    exact absurd h1 (hno t ht)
  · obtain ⟨hs1, hlen, hfit⟩ := store_parts hst
    have hil : i < s.length := (List.getElem?_eq_some_iff.1 hi).1
    have hil2 : i < l.length := by omega
    have B04 : Below w0.heap.size w0 (w3.alloc (.cells #[] 34)) := HB0.out.trans ((FIN.out _ N4.out).mono HB0.out.size)
    obtain ⟨br, or_, r, xa, xc, rfl, hri, hat⟩ := HR0.out.at_ hil2
    obtain ⟨v, hv⟩ := KEY.out
    have hg1 := gOf_at s l (schemaB_iff.1 hs1).2.2 i t r hi hri
    have hkey : t.key = n.name.data.toList := by unfold Tb.key; rw [hx]
    rw [hkey] at hg1
    obtain ⟨_, _, r2, _, _, _, _, hg2, _, h40⟩ := gOf_some hst hv
    obtain rfl : r = r2 := hg1.symm.trans hg2
    have E := Lib.hid (show evT (gOf s l) (Tr.t0 n pl (pl + 1)) = some r by unfold evT; rw [hg1]; exact few_of (by omega))
    obtain ⟨u0', u1, u2, u3⟩ := hat
    have u0 := (B04.cell (p := ⟨br, or_ + i, none⟩) (World.block_lt_of_cell? w0 _ u0')).trans u0'
    have RD := Lib.hid (u1.toX (z := z) B04 (fun k hk => (HZZ.out k hk).1))
    clear u0' B04
    have UC := Lib.hid u2
    have hz : (r.length : Int) ≤ 200 := by omega
    clear hi hri hx hg1 hg2 hv hkey hs1 hlen hfit u1
    go_wp2_with fail
    go_ret2
    exact ⟨FIN.out _ N4.out, .inl ⟨r, xa, xc, E.out, by simp, RD.out, UC.out⟩⟩
end Go.Proofs.YtanfllednlpbaaaGreat
