/-
  What EvalPlan and SizesOf end in. No walk. Contract of spec.EvalPlan. For every store and every plan. While rows are reckoned one block turns, in which the sizes lie: what is kept beside it. No walk. Contract of rowsOf at a scan. Contract of rowsOf over one child.
-/
import Derived.Test.YtanfllednlpbaaaGreatJ40x
import Derived.Test.YtanfllednlpbaaaGreatJ5x
import Derived.Test.YtanfllednlpbaaaGreatJ46x
import Derived.Test.YtanfllednlpbaaaGreatJ27x
import Derived.Test.YtanfllednlpbaaaGreatJ17x
import Derived.Test.YtanfllednlpbaaaGreatJ44x
import Derived.Test.YtanfllednlpbaaaGreatGrowQ
import Derived.Test.YtanfllednlpbaaaGreatJ21x
namespace Go.Proofs.YtanfllednlpbaaaGreat
open Go.RowKit
set_option linter.unusedSimpArgs false
set_option linter.unusedVariables false

theorem evO_small (s : List Tb) (l : List RowsL) (p : List Nd) : (evO s l p).1.length ≤ 200 ∧ ∀ r ∈ (evO s l p).1, r.length ≤ 64 := by
  cases hc : canB s l p with
  | false => rw [evO_no hc]; exact ⟨by simp, fun r hr => by cases hr⟩
  | true =>
    obtain ⟨h1, h2, h3⟩ := can_parts hc
    obtain ⟨hs, T, hT, hw⟩ := typ_tree h2
    cases he : evT (gOf s l) T with
    | none => rw [evO_big hc hT he]; exact ⟨by simp, fun r hr => by cases hr⟩
    | some x =>
      have e := evO_fine hc hT he
      obtain ⟨a, b, _⟩ := evO_wide (s := s) (l := l) (p := p) (by rw [e])
      refine ⟨b, fun r hr => ?_⟩
      have h4 := a r hr
      rw [widO_some hs hT] at h4
      rcases widT_wide (fnOk_schema hs) T (growT_nodes p _ _ _ (treeN_at hT)) with h | ⟨_, h⟩
      · omega
      · omega
/-- Where EvalPlan is fine the plan is typed and has rows. -/
theorem evO_zero {s : List Tb} {l : List RowsL} {p : List Nd} (h : (evO s l p).2 = 0) : ∃ T x, storeB s l = true ∧ treeN p = some T ∧ widT (fnOf s) T ≠ -1 ∧ evT (gOf s l) T = some x := by
  cases hc : canB s l p with
  | false => rw [evO_no hc] at h; cases h
  | true =>
    obtain ⟨h1, h2, h3⟩ := can_parts hc
    obtain ⟨hs, T, hT, hw⟩ := typ_tree h2
    cases he : evT (gOf s l) T with
    | none => rw [evO_big hc hT he] at h; cases h
    | some x => exact ⟨T, x, h1, hT, hw, he⟩
/-- What EvalPlan ends in. -/
def EvalPost (w : World) (s : List Tb) (l : List RowsL) (p : List Nd) (e : Ending) (w' : World) : Prop :=
  ∃ a c, e = .returned (.tuple #[.slice a (evO s l p).1.length c, .int .i64 (evO s l p).2]) ∧ OwnR w' w.heap.size a c (evO s l p).1 ∧ (evO s l p).1.length ≤ c ∧ c ≤ maxLen ∧ Below w.heap.size w w'
theorem eval_no {w w' : World} {s : List Tb} {l : List RowsL} {p : List Nd} {k : Int} (h : evO s l p = ([], k)) (hb : Below w.heap.size w w') : EvalPost w s l p (.returned (.tuple #[.slice none 0 0, .int .i64 k])) w' := by
  unfold EvalPost; rw [h]; exact ⟨none, 0, rfl, .inl rfl, Nat.le_refl _, Nat.zero_le _, hb⟩
theorem eval_yes {w w' : World} {s : List Tb} {l : List RowsL} {p : List Nd} {x : RowsL} {a : Option Addr} {c : Nat} (h : evO s l p = (x, 0)) (ho : OwnR w' w.heap.size a c x) (h1 : x.length ≤ c) (h2 : c ≤ maxLen) (hb : Below w.heap.size w w') : EvalPost w s l p (.returned (.tuple #[.slice a x.length c, .int .i64 0])) w' := by
  unfold EvalPost; rw [h]; exact ⟨a, c, rfl, ho, h1, h2, hb⟩
/-- What SizesOf ends in. -/
def SizesPost (w : World) (s : List Tb) (l : List RowsL) (p : List Nd) (e : Ending) (w' : World) : Prop :=
  ∃ a c, e = .returned (.slice a (sizO s l p).length c) ∧ Own w' w.heap.size 3 .i64 a c (sizO s l p) ∧ (sizO s l p).length ≤ c ∧ c ≤ maxLen ∧ Below w.heap.size w w'
end Go.Proofs.YtanfllednlpbaaaGreat
namespace Go.Proofs.YtanfllednlpbaaaGreat
open Go.RowKit
set_option linter.unusedSimpArgs false
set_option linter.unusedVariables false

theorem slots_snoc {p : List Nd} {j : Nat} {n : Nd} (hn : p[j]? = some n) (h : ∀ m ∈ p.take j, m.slot = false) (hs : n.slot = false) : ∀ m ∈ p.take (j + 1), m.slot = false := by
  intro m hm
  rw [List.take_add_one, hn] at hm
  rcases List.mem_append.1 hm with hm | hm
  · exact h m hm
  · simp at hm; subst hm; exact hs
set_option maxRecDepth 100000 in
set_option maxHeartbeats 3200000 in
theorem specEval_any (sa : Option Addr) (cs : Nat) (s : List Tb) (ra : Option Addr) (cr : Nat) (l : List RowsL) (pa : Option Addr) (cp : Nat) (p : List Nd) (w : World) (hs : RdT w sa s) (hr : RdRR w ra l) (hp : RdN w pa p) (hsl : s.length ≤ 1048576) (hrl : l.length ≤ 1048576) (hrr : ∀ x ∈ l, x.length ≤ 1048576 ∧ ∀ y ∈ x, y.length ≤ 1048576) (hpl : Small p) :
    Calls Tryz.prog 8 #[.slice sa s.length cs, .slice ra l.length cr, .slice pa p.length cp] w (EvalPost w s l p) := by
  have HS := Lib.hid hs; have HR := Lib.hid hr; have HP := Lib.hid hp; clear hs hr hp
  have hpl1 := hpl.1
  have ST := Lib.hid (fun W h k => specStoreOk_any sa ra cs cr s l W h k hsl hrl hrr)
  have TY := Lib.hid (fun W h k => specTyped_any sa cs s pa cp p W h k hsl hpl1)
  clear hrr hpl
  cases hst : storeB s l with
  | false =>
    have E := Lib.hid (evO_no (can_store (p := p) hst))
    rw [hst] at ST
    clear hst
    go_enter Tryz.func8, Tryz.ntmps8
    go_wp2_with (go_at_call 43; refine (ST.out _ HS.out HR.out).mono ?_; rintro e w1 ⟨rfl, b1⟩; have B1 := Lib.hid b1; clear b1)
    go_ret2
    exact eval_no E.out B1.out
  | true =>
    rw [hst] at ST
    have HST := Lib.hid hst
    clear hst
    cases hty : typB s p with
    | false =>
      have E := Lib.hid (evO_no (can_typ (l := l) hty))
      rw [hty] at TY
      clear hty
      go_enter Tryz.func8, Tryz.ntmps8
      go_wp2_with (first | (go_at_call 43; refine (ST.out _ HS.out HR.out).mono ?_; rintro e w1 ⟨rfl, b1⟩; have B1 := Lib.hid b1; clear b1) | (go_at_call 44; refine (TY.out _ (HS.out.below B1.out) (HP.out.below B1.out)).mono ?_; rintro e w2 ⟨rfl, b2⟩; have B2 := Lib.hid (below_step B1.out (Nat.le_refl _) b2); clear b2))
      go_ret2
      exact eval_no E.out B2.out
    | true =>
      rw [hty] at TY
      have HTY := Lib.hid hty
      obtain ⟨hsc, T, hT, hw⟩ := typ_tree hty
      have HT := Lib.hid hT
      have EV := Lib.hid (show ∀ W, Below w.heap.size w W → Calls Tryz.prog 45 #[.slice sa s.length cs, .slice ra l.length cr, .slice pa p.length cp, .int .i64 0] W (EvQ (fun _ => False) (gOf s l) T W) from fun W hW => l04Eval_any sa cs s ra cr l pa cp p T HST.out hsl hpl1 hT w HR.out T (fun _ => False) 0 W hW (fun k hk => hk.elim) (HS.out.below hW) (HP.out.below hW) (treeN_at hT) (treeN_some hT).2.2.2 hw)
      clear hty hsc hT hw
      go_enter Tryz.func8, Tryz.ntmps8
      go_wp2_with (first | (go_at_call 43; refine (ST.out _ HS.out HR.out).mono ?_; rintro e w1 ⟨rfl, b1⟩; have B1 := Lib.hid b1; clear b1) | (go_at_call 44; refine (TY.out _ (HS.out.below B1.out) (HP.out.below B1.out)).mono ?_; rintro e w2 ⟨rfl, b2⟩; have B2 := Lib.hid (below_step B1.out (Nat.le_refl _) b2); clear b2))
      go_loop [8] (fun i => ∃ j : Nat, j ≤ p.length ∧ i = .int .i64 j ∧ ∀ n ∈ p.take j, n.slot = false) (fun i => p.length - (intOf i).toNat)
      case atStart => exact ⟨0, Nat.zero_le _, rfl, fun n hn => by simp at hn⟩
      case round =>
        obtain ⟨j, hj, rfl, hno⟩ := hrel
        have NO := Lib.hid hno
        clear hno
        by_cases hlt : j < p.length
        · obtain ⟨b, off, n, a, c', rfl, hn, hat⟩ := (HP.out.below B2.out).at_ hlt
          obtain ⟨c0, c1, c2, c3, c4, c5, c6, _⟩ := hat
          have HN := Lib.hid hn
          clear hn c0 c1 c2 c3 c4 c6
          cases hsl2 : n.slot with
          | true =>
            have E := Lib.hid (evO_no (can_slot (s := s) (l := l) (List.mem_of_getElem? HN.out) hsl2))
            rw [hsl2] at c5
            clear hsl2
            go_wp2_with fail
            go_ret2
            exact eval_no E.out B2.out
          | false =>
            have NX := Lib.hid (slots_snoc HN.out NO.out hsl2)
            rw [hsl2] at c5
            clear hsl2
            go_wp2_with fail
            go_round
            case rel => exact ⟨j + 1, by omega, by go_num, NX.out⟩
            case measure => simp [intOf]; omega
        · obtain rfl : j = p.length := by omega
          have NA := NO.out
          rw [List.take_length] at NA
          have CY := Lib.hid (can_yes HST.out HTY.out NA)
          clear NA
          go_wp2_with fail
          refine (EV.out _ B2.out).mono ?_
          rintro e w3 h3
          obtain ⟨b3, res⟩ := h3.split
          have B3 := Lib.hid (below_step B2.out (Nat.le_refl _) b3)
          clear b3 h3
          rcases res with ⟨x, xa, xc, hx, rfl, hrd, hcap⟩ | ⟨hx, v, rfl⟩
          · have E := Lib.hid (evO_fine CY.out HT.out hx)
            have SM := evO_small s l p
            rw [E.out] at SM
            have CP := Lib.hid (l04Copy_any xa xc x w3 hrd.rd (by have := SM.1; show x.length ≤ 1048576; simp only at this; omega) (fun r hr => by have := SM.2 r hr; omega))
            clear SM hx hrd hcap
            go_wp2_with fail
            refine CP.out.mono ?_
            rintro e w4 ⟨a4, c4, rfl, o4, k1, k2, b4⟩
            have B4 := Lib.hid (below_step B3.out (Nat.le_refl _) b4)
            have O4 := Lib.hid (o4.base_le B3.out.size)
            clear o4 b4
            go_wp2_with fail
            go_ret2
            exact eval_yes E.out O4.out k1 k2 B4.out
          · have E := Lib.hid (evO_big CY.out HT.out hx)
            go_wp2_with fail
            go_ret2
            exact eval_no E.out B3.out
end Go.Proofs.YtanfllednlpbaaaGreat
namespace Go.Proofs.YtanfllednlpbaaaGreat
open Go.RowKit
set_option linter.unusedSimpArgs false
set_option linter.unusedVariables false

theorem SG.trans {z : Nat → Prop} {A B C : World} (p : SG z A B) (q : SG z B C) : SG z A C :=
  ⟨q.os.trans p.os, q.tape.trans p.tape, q.output.trans p.output, Nat.le_trans p.size q.size, fun k hk hn => (q.block k (Nat.lt_of_lt_of_le hk p.size) hn).trans (p.block k hk hn)⟩
theorem SG.mono {z y : Nat → Prop} {A B : World} (h : SG z A B) (hy : ∀ k, z k → y k) : SG y A B := ⟨h.os, h.tape, h.output, h.size, fun k hk hn => h.block k hk (fun hz => hn (hy k hz))⟩
theorem SG.cell {z : Nat → Prop} {A B : World} (h : SG z A B) {p : Addr} {v : Value} (hp : ¬ z p.block) (hc : A.cell? p = some v) : B.cell? p = some v :=
  (World.cell?_of_block (h.block _ (World.block_lt_of_cell? A p hc) hp)).trans hc
theorem SG.set {z : Nat → Prop} {s : Nat} (hs : z s) (A : World) (k : Nat) (v : Value) : SG z A (A.setCell ⟨s, k, none⟩ v) := by
  refine ⟨rfl, rfl, rfl, by simp, fun j _ hn => ?_⟩
  unfold World.setCell
  have hne : s ≠ j := fun e => hn (e ▸ hs)
  simp [Array.getElem?_modify, hne]
/-- A row of the call's own is turned beside. -/
theorem SG.row {z : Nat → Prop} {A B C : World} {r : Option Nat} (h : SG z A B) (hg : B.grownBy C r) (hr : ∀ g, r = some g → A.heap.size ≤ g) : SG z A C :=
  ⟨hg.os.trans h.os, hg.tape.trans h.tape, hg.output.trans h.output, Nat.le_trans h.size hg.size, fun k hk hn => (hg.block k (Nat.lt_of_lt_of_le hk h.size) (fun e => by have := hr k e.symm; omega)).trans (h.block k hk hn)⟩
theorem SG.below {z : Nat → Prop} {A B C : World} (h : SG z B C) (hb : Below A.heap.size A B) (hz : ∀ k, z k → A.heap.size ≤ k) : Below A.heap.size A C :=
  ⟨h.os.trans hb.os, h.tape.trans hb.tape, h.output.trans hb.output, Nat.le_trans hb.size h.size, fun k hk => (h.block k (Nat.lt_of_lt_of_le hk hb.size) (fun hzk => by have := hz k hzk; omega)).trans (hb.block k hk)⟩
/-- The sizes lie in block z. -/
def SzL (w : World) (z : Nat) (zs : List Int) : Prop := w.rowIs z 3 zs.length (fun j => .int .i64 (zs.getD j 0))
theorem SzL.lt {w : World} {z : Nat} {zs : List Int} (h : SzL w z zs) : z < w.heap.size := World.rowIs.lt h
theorem SzL.below {w w' : World} {z : Nat} {zs : List Int} (h : SzL w z zs) (hb : Below w.heap.size w w') : SzL w' z zs := World.rowIs.of_block h (hb.block _ h.lt)
theorem SzL.set {w : World} {z : Nat} {zs : List Int} (h : SzL w z zs) {k : Nat} (hk : k < zs.length) (v : Int) : SzL (w.setCell ⟨z, k, none⟩ (.int .i64 v)) z (zs.set k v) := by
  have h1 := World.rowIs.set h k (.int .i64 v)
  unfold SzL
  rw [List.length_set]
  refine h1.congr fun j hj => ?_
  by_cases e : j = k
  · subst e
    rw [if_pos rfl, List.getD_eq_getElem?_getD, List.getElem?_set_self hk]; rfl
  · rw [if_neg e, List.getD_eq_getElem?_getD, List.getD_eq_getElem?_getD, List.getElem?_set_ne (Ne.symm e)]
theorem TrQ.sg {w0 w w' : World} {z : Nat → Prop} {lo hi : Nat} {T : Tr} {b : Nat} (h : TrQ w0 w lo hi T b) (hg : SG z w w') (hh : hi ≤ w.heap.size) (hz : ∀ k, z k → k < lo ∨ hi ≤ k) : TrQ w0 w' lo hi T b :=
  h.keep fun p hp1 hp2 => World.cell?_of_block (hg.block _ (by omega) (fun h => by have := hz _ h; omega))
/-- All places of a tree are below N. -/
def Tr.under (N : Nat) : Tr → Prop
  | .t0 _ pl _ => pl < N
  | .t1 _ pl _ c => pl < N ∧ c.under N
  | .t2 _ pl _ c d => pl < N ∧ c.under N ∧ d.under N
theorem under_grow (p : List Nd) : ∀ (T : Tr) (k : Nat), growT p p.length k = some T → T.under p.length := by
  intro T
  induction T with
  | t0 n pl en =>
    intro k h
    have hs := growT_sound p _ _ _ h
    have : pl = k := hs.1
    unfold Tr.under; omega
  | t1 n pl en c ih =>
    intro k h
    have hs := growT_sound p _ _ _ h
    have e0 : pl = k := hs.1
    obtain ⟨n', hn, hb, hc⟩ := grow_inv h
    rcases hc with ⟨e, _⟩ | ⟨c', e, _, h1⟩ | ⟨c', d, e, _⟩
    · cases e
    · injection e with e1 e2 e3 e4
      subst e4
      exact ⟨by omega, ih _ h1⟩
    · cases e
  | t2 n pl en c d ihc ihd =>
    intro k h
    have hs := growT_sound p _ _ _ h
    have e0 : pl = k := hs.1
    obtain ⟨n', hn, hb, hc⟩ := grow_inv h
    rcases hc with ⟨e, _⟩ | ⟨c', e, _, h1⟩ | ⟨c', d', e, _, h1, h2⟩
    · cases e
    · cases e
    · injection e with e1 e2 e3 e4 e5
      subst e4 e5
      exact ⟨by omega, ihc _ h1, ihd _ h2⟩
/-- What rowsOf hands back. -/
def RRes (z : Nat → Prop) (s : Nat) (w' : World) (o : Option RowsL) (zs zs' : List Int) (v : Value) (ok : Bool) : Prop :=
  (∃ l, o = some l ∧ ok = true ∧ (∃ a c, v = .slice a l.length c ∧ RdX z w' a l) ∧ SzL w' s zs') ∨ (o = none ∧ ok = false ∧ v = .slice none 0 0 ∧ ∃ zs'', zs''.length = zs.length ∧ SzL w' s zs'')
def RowsPost (z : Nat → Prop) (s : Nat) (w : World) (o : Option RowsL) (zs zs' : List Int) (e : Ending) (w' : World) : Prop :=
  ∃ v ok, e = .returned (.tuple #[v, .bool ok]) ∧ SG (fun k => k = s) w w' ∧ RRes z s w' o zs zs' v ok
/-- The store as the map has it: where a name has a width, its rows. -/
structure StoX (w0 : World) (fw : Fn) (f : FnV) (g : Sto) : Prop where
  ok : FnOk fw
  at_ : ∀ k v, fw k = some v → ∃ ra rc, f k = some (.slice ra (g k).length rc) ∧ RdR w0 ra (g k) ∧ AllW v (g k) ∧ (g k).length ≤ 40
theorem infoFn : (Tryz.prog.info? 82).map (fun i => (i.zero, i.size, i.bytes)) = some (some .nilFunc, 1, 8) := by kernel_rfl
end Go.Proofs.YtanfllednlpbaaaGreat
namespace Go.Proofs.YtanfllednlpbaaaGreat
open Go.RowKit
set_option linter.unusedSimpArgs false
set_option linter.unusedVariables false

set_option maxRecDepth 100000 in
set_option maxHeartbeats 3200000 in
theorem rowsOf0_any (w00 : World) (fw : Fn) (f : FnV) (g : Sto) (S : StoX w00 fw f g) (bm nm sb : Nat) (n : Nd) (pl en : Nat) (w : World) (lo hi b : Nat) (zs : List Int) (h : TrQ w00 w lo hi (.t0 n pl en) b) (hh : hi ≤ w.heap.size) (hb0 : Below w00.heap.size w00 w) (hm : OwnMV w bm nm f) (hz : SzL w sb zs) (Z : Nat → Prop) (hZs : Z sb) (hZw : ∀ k, Z k → k < w.heap.size) (hZ0 : ∀ k, Z k → w00.heap.size ≤ k) (hnb : nodeB n = true) (hk : n.kind = 0) (hw : widT fw (.t0 n pl en) ≠ -1) (hu : pl < zs.length) (hN : zs.length ≤ 1048576) :
    Calls Tryz.prog 90 #[.agg #[.map (some bm), .slice (some ⟨sb, 0, none⟩) zs.length zs.length], .pointer (some ⟨b, 0, none⟩)] w (RowsPost Z sb w (evT g (.t0 n pl en)) zs (putZ g (.t0 n pl en) zs)) := by
  obtain ⟨hb1, hb2, a, c, c0, c1, c2, c3, q⟩ := h
  have hbw : b < w.heap.size := by omega
  have hzw := hz.lt
  obtain ⟨vv, hv⟩ : ∃ v, fw n.name.data.toList = some v := by
    cases e : fw n.name.data.toList with
    | none => unfold widT at hw; rw [e] at hw; exact absurd rfl hw
    | some v => exact ⟨v, rfl⟩
  obtain ⟨ra, rc, hf, hr, haw, h40⟩ := S.at_ _ vv hv
  have EV := Lib.hid (show evT g (.t0 n pl en) = few (g n.name.data.toList) from rfl)
  have PZ := Lib.hid (show putZ g (.t0 n pl en) zs = zs.set pl (sizN g (.t0 n pl en)) from rfl)
  have hnm := nodeB_name hnb hk
  obtain ⟨t, v, hkv⟩ := kindV_iface hnb a c
  rw [hkv] at c0
  have RO := Lib.hid (show ∀ W, Below w.heap.size w W → Calls Tryz.prog 122 #[.agg #[.map (some bm), .slice (some ⟨sb, 0, none⟩) zs.length zs.length], .iface t v, .slice none 0 0] W (OverPost Z W (g n.name.data.toList)) from fun W hW => hkv ▸ overScan_any Z n hk a c bm nm f (some ⟨sb, 0, none⟩) zs.length zs.length ra rc _ W (fun k hk => Nat.lt_of_lt_of_le (hZw k hk) hW.size) (hm.below (hW.mono (Nat.le_refl _))) hnm hf ((hr.toX hb0 hZ0).below hW) (by omega))
  generalize g n.name.data.toList = L at RO EV
  have GA := Lib.hid (fun g' lb W hz eg h => gather_any Z g' lb L W hz eg h)
  have HZ := Lib.hid hz
  generalize hNl : zs.length = N at hu hN RO ⊢
  have HN := Lib.hid hNl
  clear hkv hm hnb hk q hb0 hz hf hr haw hv S hw hNl
  go_enter Tryz.func90, Tryz.ntmps90
  go_wp2_with fail
  refine wp_loop_rounds 1 ?_; rw [rounds_succ]
  go_wp2_with fail
  obtain ⟨u0, hu0⟩ : ∃ u0, w.alloc (.cells #[.map (some bm), .slice (some ⟨sb, 0, none⟩) N N] 116) = u0 := ⟨_, rfl⟩
  have b0 : Below w.heap.size w u0 := by rw [← hu0]; exact (Below.refl _ w).alloc (Nat.le_refl _) _
  have m0 : u0.cell? ⟨w.heap.size, 0, none⟩ = some (.map (some bm)) := by rw [← hu0]; simp [go_sem]
  have m1 : u0.cell? ⟨w.heap.size, 1, none⟩ = some (.slice (some ⟨sb, 0, none⟩) N N) := by rw [← hu0]; simp [go_sem]
  have s0 : u0.heap.size = w.heap.size + 1 := by rw [← hu0]; simp
  have t0 := (b0.cell (p := ⟨b, 0, none⟩) hbw).trans c0
  have t1 := (b0.cell (p := ⟨b, 1, none⟩) hbw).trans c1
  have B0 := Lib.hid b0
  have B0d := Lib.hid (b0.trans (Below.refl w.heap.size u0).drew)
  have U0 := Lib.hid ((Below.refl u0.heap.size u0).drew)
  have S0 := Lib.hid s0
  rw [hu0]
  clear hu0 b0 c0 c1 c2 c3 s0
  go_region_with (first
    | (go_at_call 122; refine (RO.out _ B0d.out).mono ?_; rintro e w2 ⟨gg, lb, rfl, hb2, hen, hseq⟩; have U2 := Lib.hid (below_step U0.out (Nat.le_refl _) hb2); have EN := Lib.hid hen; have SQ := Lib.hid hseq; clear hb2 hen hseq)
    | (go_at_call 121; refine (GA.out _ _ _ (fun k hk => Nat.lt_of_lt_of_le (hZw k hk) (Nat.le_trans B0.out.size U2.out.size)) EN.out SQ.out).mono ?_; rintro e w3 ⟨gv, ok, rfl, hb3, hres⟩; have U3 := Lib.hid (below_step U2.out (Nat.le_refl _) hb3); have RS := Lib.hid hres; clear hb3 hres))
  all_goals (
    have B3 := Lib.hid (B0.out.trans (U3.out.mono B0.out.size))
    have SZ3 := HZ.out.below (B3.out.mono (Nat.le_refl _))
    have x0 := (U3.out.cell (p := ⟨w.heap.size, 1, none⟩) (by show w.heap.size < _; rw [S0.out]; omega)).trans m1
    have x1 := (U3.out.cell (p := ⟨b, 1, none⟩) (by show b < _; rw [S0.out]; omega)).trans t1
    have x2 := World.rowIs.cell SZ3 (i := pl) (by rw [HN.out]; exact hu)
    have x3 := World.rowIs.frozen SZ3 pl
    have SZ := Lib.hid SZ3
    clear SZ3
    generalize zs.getD pl 0 = old at x2
    rcases RS.out with ⟨hfew, rfl, aa, ac, rfl, hrd⟩ | ⟨hfew, rfl, rfl⟩
    · have RD := Lib.hid hrd
      have FW := Lib.hid hfew
      clear hrd hfew RS
      go_wp2_with fail
      go_region_with (fail)
      all_goals (
        go_wp2_with fail
        first | go_ret | go_ret2 | go_end0
        have SD : SG (fun k => k = sb) w (w3.drew.setCell ⟨sb, pl, none⟩ (.int .i64 (L.length : Int))) := ((SG.of B3.out).trans (SG.of (Below.refl _ _).drew)).trans (SG.set (z := fun k => k = sb) (s := sb) rfl _ _ _)
        have HE : evT g (.t0 n pl en) = some L := by rw [EV.out, FW.out]
        refine ⟨_, true, rfl, SD, .inl ⟨L, HE, rfl, ⟨aa, ac, rfl, (RD.out.below (Below.refl _ _).drew).grown (SG.set hZs _ _ _)⟩, ?_⟩⟩
        rw [PZ.out, sizN_of HE]
        exact (SZ.out.below (Below.refl _ _).drew).set (by rw [HN.out]; exact hu) _)
    · have FW := Lib.hid hfew
      clear hfew RS
      go_wp2_with fail
      go_region_with (fail)
      all_goals (
        go_wp2_with fail
        first | go_ret | go_ret2 | go_end0
        have SD : SG (fun k => k = sb) w (w3.drew.setCell ⟨sb, pl, none⟩ (.int .i64 0)) := ((SG.of B3.out).trans (SG.of (Below.refl _ _).drew)).trans (SG.set (z := fun k => k = sb) (s := sb) rfl _ _ _)
        have HE : evT g (.t0 n pl en) = none := by rw [EV.out, FW.out]
        exact ⟨_, false, rfl, SD, .inr ⟨HE, rfl, rfl, _, by rw [List.length_set], (SZ.out.below (Below.refl _ _).drew).set (by rw [HN.out]; exact hu) _⟩⟩))
end Go.Proofs.YtanfllednlpbaaaGreat
namespace Go.Proofs.YtanfllednlpbaaaGreat
open Go.RowKit
set_option linter.unusedSimpArgs false
set_option linter.unusedVariables false

/-- What is known of a tree's rows: at whatever world. -/
def IHt (w00 : World) (bm nm sb : Nat) (f : FnV) (g : Sto) (N lo hi : Nat) (T : Tr) : Prop :=
  ∀ (Z : Nat → Prop) (W : World) (b : Nat) (zs : List Int), Z sb → (∀ k, Z k → k < W.heap.size) → (∀ k, Z k → w00.heap.size ≤ k) → TrQ w00 W lo hi T b → hi ≤ W.heap.size → Below w00.heap.size w00 W → OwnMV W bm nm f → SzL W sb zs → zs.length = N →
    Calls Tryz.prog 90 #[.agg #[.map (some bm), .slice (some ⟨sb, 0, none⟩) N N], .pointer (some ⟨b, 0, none⟩)] W (RowsPost Z sb W (evT g T) zs (putZ g T zs))
theorem RRes.none {z : Nat → Prop} {s : Nat} {w' : World} {zs zs' : List Int} {v : Value} {ok : Bool} {o : Option RowsL} (h : RRes z s w' o zs zs' v ok) (ho : ok = false) : o = none ∧ v = .slice none 0 0 ∧ ∃ zs'', zs''.length = zs.length ∧ SzL w' s zs'' := by
  rcases h with ⟨l, _, h1, _⟩ | ⟨h1, _, h2, h3⟩
  · rw [ho] at h1; cases h1
  · exact ⟨h1, h2, h3⟩
theorem SG.own {z : Nat → Prop} {A B : World} {bm nm : Nat} {f : FnV} (h : SG z A B) (hm : OwnMV A bm nm f) (hb : ¬ z bm) : OwnMV B bm nm f := hm.same (h.block _ hm.lt hb)
theorem HdQ.sg {w0 w w' : World} {z : Nat → Prop} {lo hi b : Nat} {n : Nd} {pl en : Nat} {v : Value} (h : HdQ w0 w lo hi b n pl en v) (hg : SG z w w') (hh : hi ≤ w.heap.size) (hz : ∀ k, z k → k < lo ∨ hi ≤ k) : HdQ w0 w' lo hi b n pl en v :=
  h.keep fun p hp1 hp2 => World.cell?_of_block (hg.block _ (by omega) (fun h => by have := hz _ h; omega))
set_option maxRecDepth 100000 in
set_option maxHeartbeats 6400000 in
theorem rowsOf1_any (w00 : World) (fw : Fn) (f : FnV) (g : Sto) (bm nm sb : Nat) (n : Nd) (pl en : Nat) (c : Tr) (w : World) (lo hi b N : Nat) (zs : List Int) (IH : IHt w00 bm nm sb f g N lo hi c) (h : TrQ w00 w lo hi (.t1 n pl en c) b) (hh : hi ≤ w.heap.size) (hb0 : Below w00.heap.size w00 w) (hm : OwnMV w bm nm f) (hbm : bm ≠ sb) (hz : SzL w sb zs) (Z : Nat → Prop) (hZs : Z sb) (hZw : ∀ k, Z k → k < w.heap.size) (hZ0 : ∀ k, Z k → w00.heap.size ≤ k) (hlo : sb < lo ∨ hi ≤ sb) (hnb : nodeB n = true) (ha : arity n.kind = 1) (wd : Int) (hwd : ∀ l, evT g c = some l → AllW wd l ∧ l.length ≤ 200) (ho : over1 n wd ≠ -1) (hu : pl < N) (hNl : zs.length = N) (hN : N ≤ 1048576) :
    Calls Tryz.prog 90 #[.agg #[.map (some bm), .slice (some ⟨sb, 0, none⟩) N N], .pointer (some ⟨b, 0, none⟩)] w (RowsPost Z sb w (evT g (.t1 n pl en c)) zs (putZ g (.t1 n pl en c) zs)) := by
  obtain ⟨gr, cap, bc, ⟨hb1, hb2, a, cc, c0, c1, c2, c3, q⟩, hg, g0, tc⟩ := h
  have hbw : b < w.heap.size := by omega
  have hgw : gr < w.heap.size := by omega
  have hzw := hz.lt
  have hbz : b ≠ sb := by omega
  have hgz : gr ≠ sb := by omega
  have hwz : w.heap.size ≠ sb := by omega
  obtain ⟨i0, hi0, hz0, hz1, hz2⟩ := info_parts infoFn
  obtain ⟨t, v, hkv⟩ := kindV_iface hnb a cc
  rw [hkv] at c0
  have GA := Lib.hid (fun g' lb L W hz eg h => gather_any Z g' lb L W hz eg h)
  have VAL := Lib.hid (fun a m cap W => callsIn_wide.1 (valuesR_in Fence.wide 1 trivial rfl a m cap W))
  have HN := Lib.hid hNl
  have OV := Lib.hid (show ∀ (W : World) (gb cb : Nat) (kv : Value) (l : RowsL), (∀ k, Z k → k < W.heap.size) → W.cell? ⟨gb, 0, none⟩ = some kv → KidAt Z W kv l → l.length ≤ 200 → AllW wd l → Below w00.heap.size w00 W → Calls Tryz.prog 122 #[.agg #[.map (some bm), .slice (some ⟨sb, 0, none⟩) N N], .iface t v, .slice (some ⟨gb, 0, none⟩) 1 cb] W (OverPost Z W (on1 n l)) from
    fun W gb cb kv l h1 h2 h3 h4 h5 h6 => hkv ▸ overOne_any Z n hnb ha a cc (some bm) (some ⟨sb, 0, none⟩) N N gb cb kv l W h1 h2 h3 (by omega) (q.1.below h6) wd h5 ho)
  have b0' : Below w.heap.size w (w.alloc (.cells #[.map (some bm), .slice (some ⟨sb, 0, none⟩) N N] 116)) := (Below.refl _ w).alloc (Nat.le_refl _) _
  have IH1 := Lib.hid (IH Z (w.alloc (.cells #[.map (some bm), .slice (some ⟨sb, 0, none⟩) N N] 116)) bc zs hZs (fun k hk => Nat.lt_of_lt_of_le (hZw k hk) b0'.size) hZ0 (tc.sg (z := fun k => k = sb) (SG.of b0') hh (by rintro k rfl; exact hlo)) (Nat.le_trans hh b0'.size) (hb0.trans (b0'.mono hb0.size)) (hm.below b0') (hz.below b0') hNl)
  have HW := Lib.hid hwd
  have HB00 := Lib.hid hb0
  clear IH tc hm hz hkv hnb ha q hb0 ho hwd hNl b0'
  go_enter Tryz.func90, Tryz.ntmps90
  go_wp2_with fail
  refine wp_loop_rounds 2 ?_; rw [rounds_succ]
  go_wp2_with fail
  obtain ⟨v0, hv0⟩ : ∃ v0, w.alloc (.cells #[.map (some bm), .slice (some ⟨sb, 0, none⟩) N N] 116) = v0 := ⟨_, rfl⟩
  have b0 : Below w.heap.size w v0 := by rw [← hv0]; exact (Below.refl _ w).alloc (Nat.le_refl _) _
  have m0 : v0.cell? ⟨w.heap.size, 0, none⟩ = some (.map (some bm)) := by rw [← hv0]; simp [go_sem]
  have m1 : v0.cell? ⟨w.heap.size, 1, none⟩ = some (.slice (some ⟨sb, 0, none⟩) N N) := by rw [← hv0]; simp [go_sem]
  have s0 : v0.heap.size = w.heap.size + 1 := by rw [← hv0]; simp
  rw [hv0] at IH1 ⊢
  have d0 := (b0.cell (p := ⟨b, 0, none⟩) hbw).trans c0
  have d1 := (b0.cell (p := ⟨b, 1, none⟩) hbw).trans c1
  have V0 := Lib.hid (SG.of (z := fun k => k = sb) b0)
  have S0' := Lib.hid s0
  clear hv0 b0 c0 c1 c2 c3 g0 s0
  refine IH1.out.mono ?_
  rintro e w1 ⟨cv, ok, rfl, sg1, res⟩
  have V1 := Lib.hid (V0.out.trans sg1)
  have n0 := sg1.cell (p := ⟨w.heap.size, 0, none⟩) hwz m0
  have n1 := sg1.cell (p := ⟨w.heap.size, 1, none⟩) hwz m1
  have e0 := sg1.cell (p := ⟨b, 0, none⟩) hbz d0
  have e1 := sg1.cell (p := ⟨b, 1, none⟩) hbz d1
  have HS1 := Lib.hid sg1.size
  clear sg1 m0 m1 d0 d1 IH1
  rcases res with ⟨l, hl, rfl, ⟨ca, cc', rfl, hrd⟩, hsz⟩ | ⟨hl, rfl, rfl, zs'', hzl, hsz⟩
  · obtain ⟨haw, hl2⟩ := HW.out l hl
    have HL := Lib.hid hl
    have RD := Lib.hid hrd
    have SZ1 := Lib.hid hsz
    have AW := Lib.hid haw
    clear hl hrd hsz haw
    go_wp2_with (first
      | (go_at_call 57; refine (VAL.out _ _ _ _).mono ?_; rintro e w2 ⟨rfl, hw2⟩; have b2 := (show Below w1.heap.size w1 w2 by rw [hw2]; exact (Below.refl _ _).alloc (Nat.le_refl _) _); have f0 := (show w2.cell? ⟨w1.heap.size, 0, none⟩ = some (.slice ca l.length cc') by rw [hw2]; simp); have B2 := Lib.hid b2; have F0 := Lib.hid f0; clear hw2 b2 f0)
      | (at_builtin; go_must (refine wpList_append_own_at _ rfl (.tmp 30) (.tmp 33) 145 rfl w.heap.size 82 i0 .nilFunc 1 8 Tryz.underlying145 hi0 hz0 hz1 hz2 rfl (by decide) _ 0 [] rfl (World.ownsRow_nil _ _ _ _) ⟨w2.heap.size, 0, none⟩ 1 1 [.func (.func 106) #[] #[.pointer (some ⟨w1.heap.size, 0, none⟩)]] rfl rfl (cell_one_new _ _ _) (by simp [Value.oneCell']) (by unfold maxLen; omega) (by omega) (by have := V1.out.size; have := B2.out.size; simp; omega) ?_; intro x4 u0 hown' hgrow _ hnew; obtain ⟨g', cap', rfl⟩ := ownsRow_succ hown'; have B4 := Lib.hid (((Below.refl w2.heap.size w2).alloc (Nat.le_refl _) _).grown hgrow (by simp) (by intro q hq; cases hq)); have K0 := Lib.hid (World.ownsRow.cellAt hown' 0 (by omega)); have OW := Lib.hid hown'; clear hown' hgrow hnew)))
    have U1 := Lib.hid (B2.out.trans (B4.out.mono B2.out.size))
    have W0 := Lib.hid (V1.out.trans (SG.of U1.out))
    have lt1 := V1.out.size
    have hw1 : w.heap.size < w1.heap.size := by have := HS1.out; have := S0'.out; omega
    have m1 := (U1.out.cell (p := ⟨w.heap.size, 1, none⟩) hw1).trans n1
    have m0 := (U1.out.cell (p := ⟨w.heap.size, 0, none⟩) hw1).trans n0
    have t0 := (U1.out.cell (p := ⟨b, 0, none⟩) (by show b < _; omega)).trans e0
    have t1 := (U1.out.cell (p := ⟨b, 1, none⟩) (by show b < _; omega)).trans e1
    have S0 := Lib.hid (show w.heap.size < u0.heap.size from Nat.lt_of_lt_of_le hw1 U1.out.size)
    have U0 := Lib.hid ((Below.refl u0.heap.size u0).drew)
    have hkid : KidAt Z u0 (.func (.func 106) #[] #[.pointer (some ⟨w1.heap.size, 0, none⟩)]) l :=
      ⟨_, ca, cc', rfl, fun h => by have := hZw _ h; omega, (B4.out.cell (p := ⟨w1.heap.size, 0, none⟩) (World.block_lt_of_cell? w2 _ F0.out)).trans F0.out, RD.out.below U1.out⟩
    have hk0 : u0.cell? ⟨g', 0, none⟩ = some (.func (.func 106) #[] #[.pointer (some ⟨w1.heap.size, 0, none⟩)]) := K0.out
    have hg'u : g' < u0.heap.size := World.block_lt_of_cell? u0 _ hk0
    have RO := Lib.hid (show ∀ W, Below u0.heap.size u0 W → Calls Tryz.prog 122 #[.agg #[.map (some bm), .slice (some ⟨sb, 0, none⟩) N N], .iface t v, .slice (some ⟨g', 0, none⟩) 1 cap'] W (OverPost Z W (on1 n l)) from
      fun W hW => OV.out W g' cap' _ l (fun k hk => Nat.lt_of_lt_of_le (hZw k hk) (Nat.le_trans W0.out.size hW.size)) ((hW.cell (p := ⟨g', 0, none⟩) hg'u).trans hk0) (hkid.below hW) hl2 AW.out ((W0.out.below HB00.out (by rintro k rfl; exact hZ0 _ hZs)).trans (hW.mono (Nat.le_trans HB00.out.size W0.out.size))))
    have EV := Lib.hid (show evT g (.t1 n pl en c) = few (on1 n l) by show (match evT g c with | none => none | some l => few (on1 n l)) = _; rw [HL.out])
    have HZ := Lib.hid (SZ1.out.below U1.out)
    have HNZ := Lib.hid (show (putZ g c zs).length = N by rw [putZ_len, HN.out])
    have PZ := Lib.hid (show putZ g (.t1 n pl en c) zs = (putZ g c zs).set pl (sizN g (.t1 n pl en c)) from rfl)
    generalize putZ g c zs = ZS at HZ HNZ PZ
    generalize on1 n l = L at RO EV
    clear n0 n1 e0 e1 hkid hk0 hg'u hw1 lt1 hl2
    rw [rounds_succ]
    go_wp2_with fail
    go_region_with (first
      | (go_at_call 122; refine (RO.out _ U0.out).mono ?_; rintro e w2 ⟨gg, lb, rfl, hb2, hen, hseq⟩; have U2 := Lib.hid (below_step U0.out (Nat.le_refl _) hb2); have EN := Lib.hid hen; have SQ := Lib.hid hseq; clear hb2 hen hseq)
      | (go_at_call 121; refine (GA.out _ _ _ _ (fun k hk => Nat.lt_of_lt_of_le (hZw k hk) (Nat.le_trans W0.out.size U2.out.size)) EN.out SQ.out).mono ?_; rintro e w3 ⟨gv, ok, rfl, hb3, hres⟩; have U3 := Lib.hid (below_step U2.out (Nat.le_refl _) hb3); have RS := Lib.hid hres; clear hb3 hres))
    all_goals (
      have SZ3 := HZ.out.below U3.out
      have W3 := Lib.hid (W0.out.trans (SG.of U3.out))
      have x0 := (U3.out.cell (p := ⟨w.heap.size, 1, none⟩) (by show w.heap.size < _; exact S0.out)).trans m1
      have x1 := (U3.out.cell (p := ⟨b, 1, none⟩) (by show b < _; exact Nat.lt_of_lt_of_le hbw W0.out.size)).trans t1
      have x2 := World.rowIs.cell SZ3 (i := pl) (by rw [HNZ.out]; exact hu)
      have x3 := World.rowIs.frozen SZ3 pl
      have SZ := Lib.hid SZ3
      clear SZ3
      generalize ZS.getD pl 0 = old at x2
      rcases RS.out with ⟨hfew, rfl, aa, ac, rfl, hrd⟩ | ⟨hfew, rfl, rfl⟩
      · have RD := Lib.hid hrd
        have FW := Lib.hid hfew
        clear hrd hfew RS
        go_wp2_with fail
        go_region_with (fail)
        all_goals (
          go_wp2_with fail
          first | go_ret | go_ret2 | go_end0
          have SD : SG (fun k => k = sb) w (w3.drew.setCell ⟨sb, pl, none⟩ (.int .i64 (L.length : Int))) := (W3.out.trans (SG.of (Below.refl _ _).drew)).trans (SG.set (z := fun k => k = sb) (s := sb) rfl _ _ _)
          have HE : evT g (.t1 n pl en c) = some L := by rw [EV.out, FW.out]
          refine ⟨_, true, rfl, SD, .inl ⟨L, HE, rfl, ⟨aa, ac, rfl, (RD.out.below (Below.refl _ _).drew).grown (SG.set hZs _ _ _)⟩, ?_⟩⟩
          rw [PZ.out, sizN_of HE]
          exact (SZ.out.below (Below.refl _ _).drew).set (by rw [HNZ.out]; exact hu) _)
      · have FW := Lib.hid hfew
        clear hfew RS
        go_wp2_with fail
        go_region_with (fail)
        all_goals (
          go_wp2_with fail
          first | go_ret | go_ret2 | go_end0
          have SD : SG (fun k => k = sb) w (w3.drew.setCell ⟨sb, pl, none⟩ (.int .i64 0)) := (W3.out.trans (SG.of (Below.refl _ _).drew)).trans (SG.set (z := fun k => k = sb) (s := sb) rfl _ _ _)
          have HE : evT g (.t1 n pl en c) = none := by rw [EV.out, FW.out]
          exact ⟨_, false, rfl, SD, .inr ⟨HE, rfl, rfl, _, by rw [List.length_set, HNZ.out, HN.out], (SZ.out.below (Below.refl _ _).drew).set (by rw [HNZ.out]; exact hu) _⟩⟩))
  · have HL := Lib.hid hl
    have SZ1 := Lib.hid hsz
    have ZL := Lib.hid hzl
    clear hl hsz hzl
    go_wp2_with fail
    first | go_ret | go_ret2 | go_end0
    exact ⟨_, false, rfl, V1.out, .inr ⟨by show (match evT g c with | none => none | some l => few (on1 n l)) = _; rw [HL.out], rfl, rfl, zs'', ZL.out, SZ1.out⟩⟩
end Go.Proofs.YtanfllednlpbaaaGreat
