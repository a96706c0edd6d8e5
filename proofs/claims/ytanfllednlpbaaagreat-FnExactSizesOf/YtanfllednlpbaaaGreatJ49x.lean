/-
  Contracts of impl.isValue, impl.rowsFit and impl.StoreOk. For every slice of tables and every slice of lists of rows. Contract of impl.treeOf, the columns where an earlier world has them. Contract of meaningOf. For every store and every plan.
-/
import Derived.Test.YtanfllednlpbaaaGreatJ38x
import Derived.Test.YtanfllednlpbaaaGreatJ15x
import Derived.Test.YtanfllednlpbaaaGreatJ10x
import Derived.Deep.RegionWith
import Derived.Test.YtanfllednlpbaaaGreatGrowQ
import Derived.Test.YtanfllednlpbaaaGreatJ48x
import Derived.Test.YtanfllednlpbaaaGreatJ40x
namespace Go.Proofs.YtanfllednlpbaaaGreat
open Go.RowKit
set_option linter.unusedSimpArgs false
set_option linter.unusedVariables false

theorem isValue_any (x : Int) (w : World) : Calls Tryz.prog 159 #[.int .i64 x] w fun e w' => e = .returned (.bool (valB x)) ∧ w = w' := by
  cases hn : numI x with
  | true =>
    have E := Lib.hid (show valB x = true by simp [valB, hn])
    have N := Lib.hid hn; clear hn
    go_enter Tryz.func159, Tryz.ntmps159
    go_wp2_with fail
    refine (isNum_any _ _).mono ?_
    rintro e w' ⟨rfl, rfl⟩
    rw [N.out]
    go_wp2_with fail
    go_ret
    exact ⟨ret_bool E.out.symm, rfl⟩
  | false =>
    have E := Lib.hid (show valB x = (x == -2000000) by simp [valB, hn])
    have N := Lib.hid hn; clear hn
    go_enter Tryz.func159, Tryz.ntmps159
    go_wp2_with fail
    refine (isNum_any _ _).mono ?_
    rintro e w' ⟨rfl, rfl⟩
    rw [N.out]
    go_wp2_with fail
    go_ret
    exact ⟨ret_bool E.out.symm, rfl⟩
theorem isNoValue_any (x : Int) (w : World) : Calls Tryz.prog 138 #[.int .i64 x] w fun e w' => e = .returned (.bool (!valB x)) ∧ w = w' := by
  go_enter Tryz.func138, Tryz.ntmps138
  go_wp2_with fail
  refine (isValue_any _ _).mono ?_
  rintro e w' ⟨rfl, rfl⟩
  go_wp2
  go_ret
  exact ⟨rfl, rfl⟩
theorem libContainsV_any (a : Option Addr) (c : Nat) (l : List Int) (w : World) (h : Rd w .i64 a l) (hn : l.length ≤ maxLen) :
    Calls Tryz.prog 137 #[.slice a l.length c, .func (.func 138) #[] #[]] w fun e w' => e = .returned (.bool (!l.all valB)) ∧ Below w.heap.size w w' := by
  have hn' : l.length ≤ 9223372036854775807 := by unfold maxLen at hn; omega
  rcases h with rfl | ⟨b1, o1, rfl, hc⟩
  · exact (AnyE.slices_ContainsFunc_empty Tryz.laysContains a c _ w).mono fun e w' ⟨he, hw⟩ => ⟨by rw [he]; rfl, by rw [hw]; exact Below.refl _ _⟩
  · refine (AnyE.slices_ContainsFunc Tryz.laysContains (Value.int .i64) (fun x => !valB x) 138 #[] (enters_of Tryz.func138 (by kernel_rfl) rfl) b1 o1 l.length c l w
      (fun W x _ => (isNoValue_any x W).mono fun e w' ⟨he, hw⟩ => ⟨he, 0, by rw [← hw]; rfl⟩) (Nat.le_refl _) hn' (fun j hj => ?_)).mono fun e w' ⟨he, q, hw⟩ => ⟨?_, ?_⟩
    · rw [hc j hj, List.getD_eq_getElem?_getD, getElem!_def, List.getElem?_eq_getElem hj]; rfl
    · rw [he, List.take_length]; exact ret_bool (by rw [List.not_all_eq_any_not])
    · rw [hw]; exact below_drewN (Below.refl _ _) q

set_option maxRecDepth 100000 in
set_option maxHeartbeats 1600000 in
theorem rowsFit_any (wd : Int) (a : Option Addr) (c : Nat) (l : List (List Int)) (w : World) (h : RdR w a l) (hl : l.length ≤ 1048576) :
    Calls Tryz.prog 119 #[.int .i64 wd, .slice a l.length c] w fun e w' => e = .returned (.bool (rowsB wd l)) ∧ Below w.heap.size w w' := by
  have H := Lib.hid h; clear h
  by_cases h40 : 40 < l.length
  · have h40' : (40 : Int) < l.length := by omega
    have E := Lib.hid (rowsB_big (wd := wd) h40)
    go_enter Tryz.func119, Tryz.ntmps119
    go_wp2_with fail
    go_ret
    exact ⟨ret_bool E.out.symm, Below.refl _ _⟩
  have h40' : (l.length : Int) ≤ 40 := by omega
  go_enter Tryz.func119, Tryz.ntmps119
  go_wp2_with fail
  go_loopw [12] (fun i wr => ∃ j : Nat, j ≤ l.length ∧ i = .int .i64 j ∧ (∀ r ∈ l.take j, rowB wd r = true) ∧ Below w.heap.size w wr) (fun i _ => l.length - (intOf i).toNat)
  case atStart => exact ⟨0, Nat.zero_le _, rfl, (fun t h => by cases h), Below.refl _ _⟩
  case round =>
    obtain ⟨j, hj, rfl, ht, hb⟩ := hrel
    have TA := Lib.hid ht; clear ht
    by_cases hlt : j < l.length
    · obtain ⟨b1, o1, x, a1, c1, rfl, hx, ⟨e0, rx, cx, mx⟩⟩ := (H.out.below hb).at_ hlt
      have X := Lib.hid hx; have HB := Lib.hid hb; have RX := Lib.hid rx
      have lx := Nat.le_trans cx mx
      clear hx hb rx cx mx
      by_cases hw : (x.length : Int) = wd
      · have hw' : ((x.length : Int) != wd) = false := by simp [hw]
        have E := Lib.hid (rowB_rest hw)
        clear hw
        cases hv : x.all valB with
        | true =>
          have V := Lib.hid (E.out.trans hv)
          have V' := Lib.hid (show (!x.all valB) = false by simp [hv])
          clear hv
          go_wp2_with fail
          refine (libContainsV_any a1 c1 x _ RX.out lx).mono ?_
          rintro e w1 ⟨rfl, b1⟩
          rw [V'.out]
          have T1 := Lib.hid (below_step HB.out (Nat.le_refl _) b1)
          clear b1
          go_wp2_with fail
          go_roundw
          case rel => exact ⟨j + 1, by omega, by go_num, all_take_snoc X.out V.out TA.out, T1.out⟩
          case measure => simp [intOf]; omega
        | false =>
          have V := Lib.hid (rowsB_no X.out (E.out.trans hv))
          have V' := Lib.hid (show (!x.all valB) = true by simp [hv])
          clear hv
          go_wp2_with fail
          refine (libContainsV_any a1 c1 x _ RX.out lx).mono ?_
          rintro e w1 ⟨rfl, b1⟩
          rw [V'.out]
          have T1 := Lib.hid (below_step HB.out (Nat.le_refl _) b1)
          clear b1
          go_wp2_with fail
          go_ret
          exact ⟨ret_bool V.out.symm, T1.out⟩
      · have hw' : ((x.length : Int) != wd) = true := by simp [hw]
        have V := Lib.hid (rowsB_no X.out (rowB_len hw))
        clear hw
        go_wp2_with fail
        go_ret
        exact ⟨ret_bool V.out.symm, HB.out⟩
    · have HB := Lib.hid hb; clear hb
      have V := Lib.hid (rowsB_yes (by omega) (by omega) TA.out)
      go_wp2_with fail
      go_ret
      exact ⟨ret_bool V.out.symm, HB.out⟩

set_option maxRecDepth 100000 in
set_option maxHeartbeats 1600000 in
theorem implStoreOk_any (a b : Option Addr) (c d : Nat) (s : List Tb) (l : List (List (List Int))) (w : World) (h : RdT w a s) (k : RdRR w b l) (hs : s.length ≤ 1048576) (hl : l.length ≤ 1048576) (hc : ∀ x ∈ l, x.length ≤ 1048576 ∧ ∀ y ∈ x, y.length ≤ 1048576) :
    Calls Tryz.prog 86 #[.slice a s.length c, .slice b l.length d] w fun e w' => e = .returned (.bool (storeB s l)) ∧ Below w.heap.size w w' := by
  have H := Lib.hid h; clear h
  have K := Lib.hid k; clear k
  have HC := Lib.hid hc; clear hc
  have SC := Lib.hid (implSchema_any a c s w H.out hs)
  cases hsc : schemaB s with
  | false =>
    have E := Lib.hid (storeB_schema (l := l) hsc)
    have Q := Lib.hid hsc; clear hsc
    go_enter Tryz.func86, Tryz.ntmps86
    go_wp2_with fail
    refine SC.out.mono ?_
    rintro e w1 ⟨rfl, b1⟩
    rw [Q.out]
    have B1 := Lib.hid b1; clear b1
    go_wp2_with fail
    go_ret
    exact ⟨ret_bool E.out.symm, B1.out⟩
  | true =>
    have Q := Lib.hid hsc; clear hsc
    by_cases hlen : l.length = s.length
    · have hne : ((l.length : Int) != (s.length : Int)) = false := by simp [hlen]
      have HL := Lib.hid hlen
      go_enter Tryz.func86, Tryz.ntmps86
      go_wp2_with fail
      refine SC.out.mono ?_
      rintro e w1 ⟨rfl, b1⟩
      rw [Q.out]
      have B1 := Lib.hid b1; clear b1
      go_wp2_with fail
      go_loopw [19] (fun i wr => ∃ j : Nat, j ≤ s.length ∧ i = .int .i64 j ∧ FitTo s l j ∧ Below w.heap.size w wr) (fun i _ => s.length - (intOf i).toNat)
      case atStart => exact ⟨0, Nat.zero_le _, rfl, FitTo.zero, B1.out⟩
      case round =>
        clear B1
        obtain ⟨j, hj, rfl, ht, hb⟩ := hrel
        have FT := Lib.hid ht; clear ht
        by_cases hlt : j < s.length
        · obtain ⟨b1, o1, t, rfl, hn, hat⟩ := (H.out.below hb).at_ hlt
          obtain ⟨b2, o2, r, a2, c2, rfl, hr, ⟨e0, rr, _, _⟩⟩ := (K.out.below hb).at_ (i := j) (by omega)
          have hrl := (HC.out r (List.mem_of_getElem? hr)).1
          have HN := Lib.hid hn; have HR := Lib.hid hr; have HB := Lib.hid hb; have RR := Lib.hid rr
          have lt1 := hat.lt
          have lt2 : b2 < wr.heap.size := World.block_lt_of_cell? wr ⟨b2, o2 + j, none⟩ e0
          obtain ⟨t0, t1, nm⟩ := hat
          clear hn hr hb rr
          have i1 : (j : Int) < (s.length : Int) := by omega
          have i2 : (j : Int) < (l.length : Int) := by omega
          have BA := Lib.hid (fun o => (Below.refl wr.heap.size wr).alloc (Nat.le_refl _) o)
          cases hv : rowsB t.width r with
          | true =>
            have V := Lib.hid hv; clear hv
            go_wp2_with fail
            first | go_region_with (go_at_call 119; refine (rowsFit_any t.width a2 c2 r _ (RR.out.below (BA.out _).drew) hrl).mono ?_; rintro e w1 ⟨rfl, b1⟩; rw [V.out]; have T1 := Lib.hid (below_step ((HB.out.trans ((BA.out _).mono HB.out.size)).drew) (Nat.le_refl _) b1); clear b1) | fail
            all_goals
              go_wp2_with fail
              go_roundw
              case rel => exact ⟨j + 1, by omega, by go_num, FT.out.next HN.out HR.out V.out, T1.out⟩
              case measure => simp [intOf]; omega
          | false =>
            have V := Lib.hid hv; clear hv
            have E := Lib.hid (storeB_no HN.out HR.out V.out)
            go_wp2_with fail
            first | go_region_with (go_at_call 119; refine (rowsFit_any t.width a2 c2 r _ (RR.out.below (BA.out _).drew) hrl).mono ?_; rintro e w1 ⟨rfl, b1⟩; rw [V.out]; have T1 := Lib.hid (below_step ((HB.out.trans ((BA.out _).mono HB.out.size)).drew) (Nat.le_refl _) b1); clear b1) | fail
            all_goals
              go_wp2_with fail
              go_ret
              exact ⟨ret_bool E.out.symm, T1.out⟩
        · have HB := Lib.hid hb; clear hb
          have E := Lib.hid (FT.out.all (by omega) Q.out HL.out)
          go_wp2_with fail
          go_ret
          exact ⟨ret_bool E.out.symm, HB.out⟩
    · have hne : ((l.length : Int) != (s.length : Int)) = true := by simp; omega
      have E := Lib.hid (storeB_len hlen)
      go_enter Tryz.func86, Tryz.ntmps86
      go_wp2_with fail
      refine SC.out.mono ?_
      rintro e w1 ⟨rfl, b1⟩
      rw [Q.out]
      have B1 := Lib.hid b1; clear b1
      go_wp2_with fail
      go_ret
      exact ⟨ret_bool E.out.symm, B1.out⟩
end Go.Proofs.YtanfllednlpbaaaGreat
namespace Go.Proofs.YtanfllednlpbaaaGreat
open Go.RowKit
set_option linter.unusedSimpArgs false
set_option linter.unusedVariables false

set_option maxHeartbeats 1600000 in
theorem treeOfW_any (w0 : World) (ao : Option Addr) (c : Nat) (p : List Nd) (hp : Small p) (w : World) (h : RdN w0 ao p) (hb0 : Below w0.heap.size w0 w) :
    Calls Tryz.prog 52 #[.slice ao p.length c] w (GrowPostQ w0 w (treeN p)) := by
  have H := Lib.hid h; clear h
  have hpl := hp.1
  have SM := Lib.hid hp; clear hp
  by_cases h40 : 40 < p.length
  · have E : treeN p = none := by unfold treeN; rw [if_neg (by omega)]
    rw [E]
    have h4 : (40 : Int) < p.length := by omega
    go_enter Tryz.func52, Tryz.ntmps52
    go_wp2_with fail
    go_ret
    exact ⟨rfl, Below.refl _ _⟩
  · have h4 : (p.length : Int) ≤ 40 := by omega
    generalize hres : treeN p = res
    have RES := Lib.hid hres; clear hres
    go_enter Tryz.func52, Tryz.ntmps52
    go_wp2_with fail
    refine (growQ_any w0 ao c p SM.out H.out p.length 0 _ hb0 (by omega) (by omega) (by omega)).mono ?_
    rw [show (0 : Int).toNat = 0 from rfl]
    intro e w1 hpost
    cases hg : growT p p.length 0 with
    | none =>
      rw [hg] at hpost
      obtain ⟨rfl, b1⟩ := hpost
      have E := Lib.hid (RES.out.symm.trans (show treeN p = none by unfold treeN; rw [if_pos (by omega), hg]))
      clear hg
      go_wp2_with fail
      go_ret
      rw [E.out]
      exact ⟨rfl, b1⟩
    | some T =>
      rw [hg] at hpost
      obtain ⟨b, rfl, tr, b1⟩ := hpost
      have TR := Lib.hid tr
      have DE := Lib.hid (depth_any T w1 _ _ b (TrQ.tr _ _ tr) (by have := depth_le p _ _ _ hg; omega))
      obtain ⟨v, _, _, a, c', c0, c1, c2, c3, _⟩ := tr.head
      have B1 := Lib.hid b1
      clear tr b1
      have HG := Lib.hid hg; clear hg
      by_cases he : T.en = p.length
      · have he1 : ((T.en : Int) != (p.length : Int)) = false := by simp [he]
        by_cases hd : T.depth ≤ 10
        · have hd1 : (T.depth : Int) ≤ 10 := by omega
          have E := Lib.hid (RES.out.symm.trans (show treeN p = some T by unfold treeN; rw [if_pos (by omega), HG.out]; simp only; rw [if_pos ⟨he, hd⟩]))
          clear he hd
          go_wp2_with (go_at_call 98; refine DE.out.mono ?_; rintro e w' ⟨rfl, rfl⟩)
          go_ret
          rw [E.out]
          exact ⟨b, rfl, TR.out, B1.out⟩
        · have hd1 : (10 : Int) < T.depth := by omega
          have E := Lib.hid (RES.out.symm.trans (show treeN p = none by unfold treeN; rw [if_pos (by omega), HG.out]; simp only; rw [if_neg (by omega)]))
          clear he hd
          go_wp2_with (go_at_call 98; refine DE.out.mono ?_; rintro e w' ⟨rfl, rfl⟩)
          go_ret
          rw [E.out]
          exact ⟨rfl, B1.out⟩
      · have he1 : ((T.en : Int) != (p.length : Int)) = true := by simp; omega
        have E := Lib.hid (RES.out.symm.trans (show treeN p = none by unfold treeN; rw [if_pos (by omega), HG.out]; simp only; rw [if_neg (by omega)]))
        clear he
        go_wp2_with fail
        go_ret
        rw [E.out]
        exact ⟨rfl, B1.out⟩
end Go.Proofs.YtanfllednlpbaaaGreat
namespace Go.Proofs.YtanfllednlpbaaaGreat
open Go.RowKit Go.Maps
set_option linter.unusedSimpArgs false
set_option linter.unusedVariables false

theorem OwnMV.put {w : World} {b n : Nat} {f : FnV} (h : OwnMV w b n f) (hn : n < maxLen) {name : ByteArray} (hs : name.size ≤ maxLen) (v : Value) :
    ∃ w', (Instr.mapUpdate 114 (.map (some b)) (.string name) v).run Tryz.prog w = .ok () w' ∧ OwnMV w' b (n + 1) (updV f name.data.toList v) ∧ w.grownBy w' (some b) := by
  obtain ⟨D, h1, h2⟩ := h
  obtain ⟨w', hrun, h3, h4⟩ := h1.update (t := 114) (e := 29) Tryz.keyed Tryz.underlying114 hn (WideMaps.keyOf_string_mk Tryz.underlying9 hs) (d := .held v) (ps := []) (val := v) rfl
  exact ⟨w', hrun, ⟨_, h3, h2.put _ _⟩, h4⟩
theorem OwnMV.made (w : World) : OwnMV (w.alloc (.map #[] 0)) w.heap.size 0 (fun _ => none) := ⟨.map [], World.ownsMap_made _ _ _ _, FnVD.empty⟩
theorem rows_pick {w : World} {b off : Nat} {l : List RowsL} (h : ∀ i r, l[i]? = some r → ∃ a c, RowsAt w b (off + i) r a c) : ∃ A : Nat → Option Addr × Nat, ∀ i r, l[i]? = some r → RowsAt w b (off + i) r (A i).1 (A i).2 := by
  have h1 : ∀ i, ∃ ac : Option Addr × Nat, ∀ r, l[i]? = some r → RowsAt w b (off + i) r ac.1 ac.2 := fun i => by
    cases e : l[i]? with
    | none => exact ⟨(none, 0), fun r hr => by cases hr⟩
    | some r =>
      obtain ⟨a, c, hac⟩ := h i r e
      exact ⟨(a, c), fun r' e' => by cases e'; exact hac⟩
  exact Classical.skolem.1 h1
theorem SG.turned {z : Nat → Prop} {A B C : World} {m : Nat} (h : SG z A B) (hg : B.grownBy C (some m)) (hm : z m) : SG z A C :=
  ⟨hg.os.trans h.os, hg.tape.trans h.tape, hg.output.trans h.output, Nat.le_trans h.size hg.size, fun k hk hn => (hg.block k (Nat.lt_of_lt_of_le hk h.size) (fun e => hn (by cases e; exact hm))).trans (h.block k hk hn)⟩
/-- The map after j tables. -/
def Upto (s : List Tb) (l : List RowsL) (A : Nat → Option Addr × Nat) (j : Nat) (f : FnV) : Prop :=
  ∀ i t r, i < j → s[i]? = some t → l[i]? = some r → f t.key = some (.slice (A i).1 r.length (A i).2)
theorem Upto.step {s : List Tb} {l : List RowsL} {A : Nat → Option Addr × Nat} {j : Nat} {f : FnV} (h : Upto s l A j f) (ha : AscT s) {t : Tb} {r : RowsL} (ht : s[j]? = some t) (hr : l[j]? = some r) : Upto s l A (j + 1) (updV f t.name.data.toList (.slice (A j).1 r.length (A j).2)) := by
  intro i u q hi hu hq
  unfold updV
  by_cases e : i = j
  · subst e
    rw [ht] at hu; rw [hr] at hq; cases hu; cases hq
    exact if_pos rfl
  · have hne : u.key ≠ t.key := fun e2 => by
      have hij : i < j := by omega
      obtain ⟨hi', eu⟩ := List.getElem?_eq_some_iff.1 hu
      obtain ⟨hj', et⟩ := List.getElem?_eq_some_iff.1 ht
      have := List.pairwise_iff_getElem.1 ha i j hi' hj' hij
      rw [eu, et, e2] at this
      exact klt_irrefl _ this
    rw [if_neg (show ¬ u.key = t.name.data.toList from hne)]
    exact h i u q (by omega) hu hq
theorem stoX_of {w : World} {b off : Nat} {s : List Tb} {l : List RowsL} {A : Nat → Option Addr × Nat} (hst : storeB s l = true) (hA : ∀ i r, l[i]? = some r → RowsAt w b (off + i) r (A i).1 (A i).2) {f : FnV} (hf : Upto s l A s.length f) : StoX w (fnOf s) f (gOf s l) := by
  refine ⟨fnOk_schema (store_parts hst).1, fun k v hv => ?_⟩
  obtain ⟨i, t, r, ht, hr, hk, _, hg, hw, h40⟩ := gOf_some hst hv
  have h1 := hf i t r (lt_of_get ht) ht hr
  rw [hk] at h1
  rw [hg]
  exact ⟨(A i).1, (A i).2, h1, (hA i r hr).2.1, hw, h40⟩

/-- What meaningOf ends in. -/
def MeanPost (w : World) (s : List Tb) (l : List RowsL) (p : List Nd) (e : Ending) (w' : World) : Prop :=
  ∃ a m c sa sm sc, e = .returned (.tuple #[.slice a m c, .slice sa sm sc, .int .i64 (evO s l p).2]) ∧ m = (evO s l p).1.length ∧ RdR w' a (evO s l p).1 ∧ sm = (sizO s l p).length ∧ Own w' w.heap.size 3 .i64 sa sc (sizO s l p) ∧ sm ≤ sc ∧ sc ≤ maxLen ∧ Below w.heap.size w w'
theorem mean_bad {w w' : World} {s : List Tb} {l : List RowsL} {p : List Nd} (h : canB s l p = false) (hb : Below w.heap.size w w') : MeanPost w s l p (.returned (.tuple #[.slice none 0 0, .slice none 0 0, .int .i64 1])) w' := by
  have e := evO_no h
  have e2 : sizO s l p = [] := by unfold sizO; rw [e]; rfl
  refine ⟨none, 0, 0, none, 0, 0, by rw [e], by rw [e]; rfl, by rw [e]; exact .inl rfl, by rw [e2]; rfl, by rw [e2]; exact Own.none_, Nat.le_refl _, Nat.zero_le _, hb⟩
theorem mean_big {w w' : World} {s : List Tb} {l : List RowsL} {p : List Nd} {T : Tr} (h : canB s l p = true) (ht : treeN p = some T) (he : evT (gOf s l) T = none) (hb : Below w.heap.size w w') : MeanPost w s l p (.returned (.tuple #[.slice none 0 0, .slice none 0 0, .int .i64 2])) w' := by
  have e := evO_big h ht he
  have e2 : sizO s l p = [] := by unfold sizO; rw [e]; rfl
  refine ⟨none, 0, 0, none, 0, 0, by rw [e], by rw [e]; rfl, by rw [e]; exact .inl rfl, by rw [e2]; rfl, by rw [e2]; exact Own.none_, Nat.le_refl _, Nat.zero_le _, hb⟩
theorem SzL.own {w w' : World} {z : Nat} {zs : List Int} (h : SzL w' z zs) (hz : w.heap.size ≤ z) (hl : zs.length ≤ maxLen) : Own w' w.heap.size 3 .i64 (some ⟨z, 0, none⟩) zs.length zs := by
  obtain ⟨c, hb, hc, hi⟩ := h
  refine ⟨by simp, .inr ⟨z, zs.length, c, rfl, hz, hb, Nat.le_refl _, hl, by rw [hc, Nat.mul_one], ?_⟩⟩
  apply List.ext_getElem?
  intro i
  rw [Nat.mul_one, List.getElem?_map]
  by_cases hil : i < zs.length
  · rw [List.getElem?_take_of_lt hil, Array.getElem?_toList, hi i hil, List.getElem?_eq_getElem hil]
    simp [hil]
  · rw [List.getElem?_eq_none (by simp; omega), List.getElem?_eq_none (by omega)]; rfl
theorem mean_fine {w w' : World} {s : List Tb} {l : List RowsL} {p : List Nd} {T : Tr} {x : RowsL} {a : Option Addr} {c sb : Nat} (h : canB s l p = true) (ht : treeN p = some T) (he : evT (gOf s l) T = some x) (hx : RdR w' a x) (hz : SzL w' sb (sizesO (gOf s l) p)) (hsb : w.heap.size ≤ sb) (hp : p.length ≤ maxLen) (hb : Below w.heap.size w w') :
    MeanPost w s l p (.returned (.tuple #[.slice a x.length c, .slice (some ⟨sb, 0, none⟩) p.length p.length, .int .i64 0])) w' := by
  have e := evO_fine h ht he
  have e2 : sizO s l p = sizesO (gOf s l) p := by unfold sizO; rw [e]; rfl
  have e3 := sizesO_len (gOf s l) p
  have h1 := hz.own hsb (by rw [e3]; exact hp)
  rw [e3] at h1
  exact ⟨a, x.length, c, some ⟨sb, 0, none⟩, p.length, p.length, by rw [e], by rw [e], by rw [e]; exact hx, by rw [e2, e3], by rw [e2]; exact h1, Nat.le_refl _, hp, hb⟩

set_option maxRecDepth 100000 in
set_option maxHeartbeats 12800000 in
theorem meaning_any (sa : Option Addr) (cs : Nat) (s : List Tb) (ra : Option Addr) (cr : Nat) (l : List RowsL) (pa : Option Addr) (cp : Nat) (p : List Nd) (w : World) (hs : RdT w sa s) (hr : RdRR w ra l) (hp : RdN w pa p) (hsl : s.length ≤ 1048576) (hrl : l.length ≤ 1048576) (hrr : ∀ x ∈ l, x.length ≤ 1048576 ∧ ∀ y ∈ x, y.length ≤ 1048576) (hpl : Small p) :
    Calls Tryz.prog 47 #[.slice sa s.length cs, .slice ra l.length cr, .slice pa p.length cp] w (MeanPost w s l p) := by
  have ST := Lib.hid (implStoreOk_any sa ra cs cr s l w hs hr hsl hrl hrr)
  have TY := Lib.hid (fun W (hW : Below w.heap.size w W) => implTyped_any sa cs s pa cp p W (hs.below hW) (hp.below hW) hsl hpl)
  have AN := Lib.hid (fun W (hW : Below w.heap.size w W) => anySlot_any pa cp p W (hp.below hW) hpl.1)
  cases hst : storeB s l with
  | false =>
    have CB := Lib.hid (can_store (p := p) hst)
    rw [hst] at ST
    clear hst hs hr hp hrr
    go_enter Tryz.func47, Tryz.ntmps47
    go_wp2_with (go_at_call 86; refine ST.out.mono ?_; rintro e w1 ⟨rfl, b1⟩; have B1 := Lib.hid b1; clear b1)
    go_ret3
    exact mean_bad CB.out B1.out
  | true =>
    cases hty : typB s p with
    | false =>
      have CB := Lib.hid (can_typ (l := l) hty)
      rw [hst] at ST
      rw [hty] at TY
      clear hst hty hs hr hp hrr
      go_enter Tryz.func47, Tryz.ntmps47
      go_wp2_with (first | (go_at_call 86; refine ST.out.mono ?_; rintro e w1 ⟨rfl, b1⟩; have B1 := Lib.hid b1; clear b1) | (go_at_call 87; refine (TY.out _ B1.out).mono ?_; rintro e w2 ⟨rfl, b2⟩; have B2 := Lib.hid (below_step B1.out (Nat.le_refl _) b2); clear b2))
      go_ret3
      exact mean_bad CB.out B2.out
    | true =>
      cases han : p.any (fun n => n.slot) with
      | true =>
        have CB := Lib.hid (show canB s l p = false by unfold canB; rw [hst, hty, han]; rfl)
        rw [hst] at ST
        rw [hty] at TY
        rw [han] at AN
        clear hst hty han hs hr hp hrr
        go_enter Tryz.func47, Tryz.ntmps47
        go_wp2_with (first | (go_at_call 86; refine ST.out.mono ?_; rintro e w1 ⟨rfl, b1⟩; have B1 := Lib.hid b1; clear b1) | (go_at_call 87; refine (TY.out _ B1.out).mono ?_; rintro e w2 ⟨rfl, b2⟩; have B2 := Lib.hid (below_step B1.out (Nat.le_refl _) b2); clear b2) | (go_at_call 88; refine (AN.out _ B2.out).mono ?_; rintro e w3 ⟨rfl, b3⟩; have B3 := Lib.hid (below_step B2.out (Nat.le_refl _) b3); clear b3))
        go_ret3
        exact mean_bad CB.out B3.out
      | false =>
        have CB := Lib.hid (show canB s l p = true by unfold canB; rw [hst, hty, han]; rfl)
        rw [hst] at ST
        rw [hty] at TY
        rw [han] at AN
        obtain ⟨hsch, T, hT, hwT⟩ := typ_tree hty
        obtain ⟨_, hlen, _⟩ := store_parts hst
        have hasc : AscT s := (schemaB_iff.1 hsch).2.2
        have hts := treeN_some hT
        obtain ⟨bb, off, A, hra, hA⟩ : ∃ (bb off : Nat) (A : Nat → Option Addr × Nat), (l ≠ [] → ra = some ⟨bb, off, none⟩) ∧ ∀ i r, l[i]? = some r → RowsAt w bb (off + i) r (A i).1 (A i).2 := by
          rcases hr with h | ⟨bb, off, e, hc⟩
          · exact ⟨0, 0, fun _ => (none, 0), fun hne => absurd h hne, fun i r hi => by rw [h] at hi; cases hi⟩
          · obtain ⟨A, hA⟩ := rows_pick hc
            exact ⟨bb, off, A, fun _ => e, hA⟩
        have HT := Lib.hid hT
        have HWT := Lib.hid hwT
        have HND := Lib.hid (growT_nodes p _ _ _ (treeN_at hT))
        have HUN := Lib.hid (under_grow p T 0 hts.2.1)
        have HAS := Lib.hid hasc
        have HA := Lib.hid hA
        have HRA := Lib.hid hra
        have HLEN := Lib.hid hlen
        have HST := Lib.hid hst
        have HS := Lib.hid hs
        have hN := hpl.1
        have TR := Lib.hid (fun W (hW : Below w.heap.size w W) => treeOfW_any w pa cp p hpl W hp hW)
        have hmm := @run_makeMap Tryz.prog
        have hmk := fun W => run_make_row' (P := Tryz.prog) 34 3 (.int .i64 0) 8 Tryz.underlying34 infoIw rfl .i64 .i64 p.length (by omega) (by omega) W
        clear hst hty han hs hr hp hrr hpl hsch hT hwT hlen hasc hts hra hA
        go_enter Tryz.func47, Tryz.ntmps47
        go_wp2_with (first | (go_at_call 86; refine ST.out.mono ?_; rintro e w1 ⟨rfl, b1⟩; have B1 := Lib.hid b1; clear b1) | (go_at_call 87; refine (TY.out _ B1.out).mono ?_; rintro e w2 ⟨rfl, b2⟩; have B2 := Lib.hid (below_step B1.out (Nat.le_refl _) b2); clear b2) | (go_at_call 88; refine (AN.out _ B2.out).mono ?_; rintro e w3 ⟨rfl, b3⟩; have B3 := Lib.hid (below_step B2.out (Nat.le_refl _) b3); clear b3))
        clear hmm hmk ST TY AN
        obtain ⟨u, hu⟩ : ∃ u, ((w3.alloc (.map #[] 0)).alloc (.cells (madeCells #[.int .i64 0] p.length) 3)).alloc (.cells #[.map (some w3.heap.size), .slice (some ⟨w3.heap.size + 1, 0, none⟩) p.length p.length] 116) = u := ⟨_, rfl⟩
        have bu : Below w3.heap.size w3 u := by rw [← hu]; exact (((Below.refl _ w3).alloc (Nat.le_refl _) _).alloc (by simp) _).alloc (by simp; omega) _
        have x0 : u.cell? ⟨w3.heap.size + 1 + 1, 0, none⟩ = some (.map (some w3.heap.size)) := by rw [← hu]; simp [go_sem]
        have x1 : u.cell? ⟨w3.heap.size + 1 + 1, 1, none⟩ = some (.slice (some ⟨w3.heap.size + 1, 0, none⟩) p.length p.length) := by rw [← hu]; simp [go_sem]
        have su : u.heap.size = w3.heap.size + 1 + 1 + 1 := by rw [← hu]; simp
        have om : OwnMV u w3.heap.size 0 (fun _ => none) := by
          rw [← hu]
          exact ((OwnMV.made w3).below ((Below.refl _ _).alloc (Nat.le_refl _) _)).below ((Below.refl _ _).alloc (Nat.le_refl _) _)
        have sz : SzL u (w3.heap.size + 1) (List.replicate p.length 0) := by
          have h1 := World.rowIs_made (w3.alloc (.map #[] 0)) (.int .i64 0) p.length 3
          have h2 : SzL ((w3.alloc (.map #[] 0)).alloc (.cells (madeCells #[.int .i64 0] p.length) 3)) (w3.heap.size + 1) (List.replicate p.length 0) := by
            unfold SzL
            rw [List.length_replicate]
            have e : (w3.alloc (.map #[] 0)).heap.size = w3.heap.size + 1 := by simp
            rw [e] at h1
            refine h1.congr fun i hi => ?_
            rw [List.getD_eq_getElem?_getD, List.getElem?_replicate, if_pos hi]; rfl
          rw [← hu]
          exact h2.below ((Below.refl _ _).alloc (Nat.le_refl _) _)
        rw [hu]
        have BU := Lib.hid (B3.out.trans (bu.mono B3.out.size))
        have X0 := Lib.hid x0
        have X1 := Lib.hid x1
        have SU := Lib.hid su
        have OM := Lib.hid om
        have SZ := Lib.hid sz
        clear hu bu x0 x1 su om sz
        go_loopw [35] (fun i wr => ∃ (j : Nat) (f : FnV), j ≤ s.length ∧ i = .int .i64 j ∧ Upto s l A j f ∧ OwnMV wr w3.heap.size j f ∧ SG (fun k => k = w3.heap.size) u wr) (fun i _ => s.length - (intOf i).toNat)
        case atStart => exact ⟨0, _, Nat.zero_le _, rfl, fun i t r hi => absurd hi (Nat.not_lt_zero _), OM.out, SG.of (Below.refl _ _)⟩
        case round =>
          obtain ⟨j, f, hj, rfl, hup, hom, hsg⟩ := hrel
          have UP := Lib.hid hup
          have OMJ := Lib.hid hom
          have SGJ := Lib.hid hsg
          have BW := Lib.hid (hsg.below BU.out (by rintro k rfl; exact B3.out.size))
          have z0 := hsg.cell (p := ⟨w3.heap.size + 1 + 1, 0, none⟩) (by show w3.heap.size + 1 + 1 ≠ w3.heap.size; omega) X0.out
          have z1 := hsg.cell (p := ⟨w3.heap.size + 1 + 1, 1, none⟩) (by show w3.heap.size + 1 + 1 ≠ w3.heap.size; omega) X1.out
          have hzl : w3.heap.size + 1 + 1 < wr.heap.size := World.block_lt_of_cell? wr _ z0
          clear hup hom hsg
          by_cases hlt : j < s.length
          · obtain ⟨b, off', t, rfl, hn, hat⟩ := (HS.out.below BW.out).at_ hlt
            obtain ⟨c0, c1, nm⟩ := hat
            have hjl : j < l.length := by rw [← HLEN.out]; exact hlt
            obtain ⟨r, hr⟩ : ∃ r, l[j]? = some r := ⟨_, List.getElem?_eq_getElem hjl⟩
            obtain rfl := HRA.out (by intro e; rw [e] at hjl; cases hjl)
            have hrat := HA.out j r hr
            have rq := (BW.out.cell (p := ⟨bb, off + j, none⟩) (World.block_lt_of_cell? w _ hrat.1)).trans hrat.1
            have US := Lib.hid (UP.out.step HAS.out hn hr)
            clear hn hr hrat
            have hlt' : (j : Int) < s.length := by omega
            go_wp2_with fail
            obtain ⟨u1, hu1⟩ : ∃ u1, wr.alloc (.cells #[.string t.name, .int .i64 t.width] 89) = u1 := ⟨_, rfl⟩
            have b1 : Below wr.heap.size wr u1 := by rw [← hu1]; exact (Below.refl _ wr).alloc (Nat.le_refl _) _
            have y0 := (b1.cell (p := ⟨w3.heap.size + 1 + 1, 0, none⟩) hzl).trans z0
            have y1 : u1.cell? ⟨wr.heap.size, 0, none⟩ = some (.string t.name) := by rw [← hu1]; simp
            have y2 := (b1.cell (p := ⟨bb, off + j, none⟩) (World.block_lt_of_cell? wr _ rq)).trans rq
            obtain ⟨w2', hrun, hom2, hg2⟩ := ((OMJ.out.below b1).below (Below.refl u1.heap.size u1).drew).put (by unfold maxLen; omega) nm (.slice (A j).1 r.length (A j).2)
            have OM2 := Lib.hid hom2
            have SG2 := Lib.hid (((SGJ.out.trans (SG.of b1)).trans (SG.of (Below.refl u1.heap.size u1).drew)).turned hg2 rfl)
            rw [hu1]
            clear hu1 b1 hom2 hg2 z0 z1 c0 c1 rq hzl
            generalize (A j).1 = aj at y2 hrun
            generalize (A j).2 = cj at y2 hrun
            go_region_with (fail)
            all_goals (
              go_wp2_with fail
              go_roundw
              case rel => exact ⟨j + 1, _, by omega, by go_num, US.out, OM2.out, SG2.out⟩
              case measure => simp [intOf]; omega)
          · obtain rfl : j = s.length := by omega
            have SX := Lib.hid (stoX_of HST.out HA.out UP.out)
            have SZR := Lib.hid (World.rowIs.of_block SZ.out (SGJ.out.block _ SZ.out.lt (by show w3.heap.size + 1 ≠ w3.heap.size; omega)))
            have hszR : u.heap.size ≤ wr.heap.size := SGJ.out.size
            have BD := Lib.hid (BW.out.trans (Below.refl w.heap.size wr).drew)
            have LR := Lib.hid (show w3.heap.size + 1 + 1 < wr.heap.size from hzl)
            have LB := Lib.hid (show w.heap.size ≤ w3.heap.size from B3.out.size)
            have RI := Lib.hid (show ∀ (W4 : World) (tb : Nat), TrQ w W4 wr.drew.heap.size W4.heap.size T tb → Below wr.heap.size wr W4 → Calls Tryz.prog 90 #[.agg #[.map (some w3.heap.size), .slice (some ⟨w3.heap.size + 1, 0, none⟩) p.length p.length], .pointer (some ⟨tb, 0, none⟩)] W4 (RowsPost (fun k => k = w3.heap.size + 1) (w3.heap.size + 1) W4 (evT (gOf s l) T) (List.replicate p.length 0) (sizesO (gOf s l) p)) from
              fun W4 tb htr hb4 => by
                have h := rowsOf_all w (fnOf s) f (gOf s l) SX.out w3.heap.size s.length (w3.heap.size + 1) p.length wr.drew.heap.size W4.heap.size (by omega) (.inl (by show w3.heap.size + 1 < wr.heap.size; have := LR.out; omega)) hN T HND.out HUN.out HWT.out
                  (fun k => k = w3.heap.size + 1) W4 tb (List.replicate p.length 0) rfl (by rintro k rfl; have := LR.out; have := hb4.size; omega) (by rintro k rfl; have := LB.out; omega) htr (Nat.le_refl _) (BW.out.trans (hb4.mono BW.out.size)) (OMJ.out.below hb4) (SzL.below SZR.out hb4) (by simp)
                rw [putZ_all HT.out _ (by simp)] at h
                exact h)
            have U0 := Lib.hid (Below.refl wr.heap.size wr).drew
            clear hzl hszR hlt hj
            go_wp2_with fail
            go_region_with (first
              | (go_at_call 52; refine (TR.out _ BD.out).mono ?_; rw [HT.out]; rintro e w4 ⟨tb, rfl, htr, hb4⟩; have U4 := Lib.hid (U0.out.trans (hb4.mono (Nat.le_refl _))); have TQ := Lib.hid htr; have zz0 := (U4.out.cell (p := ⟨w3.heap.size + 1 + 1, 0, none⟩) LR.out).trans z0; have zz1 := (U4.out.cell (p := ⟨w3.heap.size + 1 + 1, 1, none⟩) LR.out).trans z1; clear htr hb4)
              | (go_at_call 90; refine (RI.out _ _ TQ.out U4.out).mono ?_; rintro e w5 ⟨rv, ok, rfl, sg5, res⟩; have SG5 := Lib.hid sg5; have RS := Lib.hid res; have yy1 := sg5.cell (p := ⟨w3.heap.size + 1 + 1, 1, none⟩) (by show w3.heap.size + 1 + 1 ≠ w3.heap.size + 1; omega) zz1; clear sg5 res))
            all_goals (
              have BE := Lib.hid (SG5.out.below (BW.out.trans (U4.out.mono BW.out.size)) (by rintro k rfl; have := LB.out; omega))
              rcases RS.out with ⟨x, hx, rfl, ⟨xa, xc, rfl, hrd⟩, hsz⟩ | ⟨hx, rfl, rfl, _⟩
              · have HX := Lib.hid hx
                have RD := Lib.hid hrd.rd
                have SZ5 := Lib.hid hsz
                clear hx hrd hsz RS
                go_wp2_with fail
                go_region_with (fail)
                all_goals (
                  go_wp2_with fail
                  go_ret3
                  exact mean_fine CB.out HT.out HX.out (RD.out.below (Below.refl _ _).drew) (SZ5.out.below (Below.refl _ _).drew) (by have := LB.out; omega) (by unfold maxLen; omega) (BE.out.trans (Below.refl _ _).drew))
              · have HX := Lib.hid hx
                clear hx RS
                go_wp2_with fail
                go_ret3
                exact mean_big CB.out HT.out HX.out BE.out)
end Go.Proofs.YtanfllednlpbaaaGreat
