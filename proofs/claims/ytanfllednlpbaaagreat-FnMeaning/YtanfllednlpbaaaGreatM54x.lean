/-
  Contracts of spec.l04Value and spec.StoreOk. For every slice of tables and every slice of lists of rows. Contract of spec.EvalPlan. For every store and every plan. Contract of spec.SizesOf. For every store and every plan. What FnMeaning says of the sizes of a plan's nodes and of its rows sorted. Plain facts; no walk. Contract of spec.ChildrenOf. For every slice of nodes and every number. Small contracts for the wires' law: laws.big. For every slice of bytes. Contracts of laws.same and impl.CountSame where they leave the world as it is, but for what was drawn. For every slice.
-/
import Derived.Test.YtanfllednlpbaaaGreatM43x
import Derived.Test.YtanfllednlpbaaaGreatM46x
import Derived.Test.YtanfllednlpbaaaGreatM5x
import Derived.Test.YtanfllednlpbaaaGreatM23x
import Derived.Deep.RegionWith
import Derived.Test.YtanfllednlpbaaaGreatM53x
import Derived.Test.YtanfllednlpbaaaGreatM49x
import Derived.Test.YtanfllednlpbaaaGreatM11x
import Derived.Test.YtanfllednlpbaaaGreatM48x
import Derived.Test.YtanfllednlpbaaaGreatM3x
import Derived.Test.YtanfllednlpbaaaGreatM24x
import Derived.Test.YtanfllednlpbaaaGreatM34x
import Derived.BigQuiet
namespace Go.Proofs.YtanfllednlpbaaaGreat
open Go.RowKit
set_option linter.unusedSimpArgs false
set_option linter.unusedVariables false
theorem numB_I (x : Int) : numB x = numI x := by unfold numB numI; simp
theorem l04Value_any (x : Int) (w : World) : Calls Tryz.prog 77 #[.int .i64 x] w fun e w' => e = .returned (.bool (valB x)) ∧ w = w' := by
  cases hn : numB x with
  | true =>
    have E := Lib.hid (show valB x = true by simp [valB, ← numB_I, hn])
    have N := Lib.hid hn; clear hn
    go_enter Tryz.func77, Tryz.ntmps77
    go_wp2_with fail
    refine (l01Number_any _ _).mono ?_
    rintro e w' ⟨rfl, rfl⟩
    rw [N.out]
    go_wp2_with fail
    go_ret
    exact ⟨ret_bool E.out.symm, rfl⟩
  | false =>
    have E := Lib.hid (show valB x = (x == -2000000) by simp [valB, ← numB_I, hn])
    have N := Lib.hid hn; clear hn
    go_enter Tryz.func77, Tryz.ntmps77
    go_wp2_with fail
    refine (l01Number_any _ _).mono ?_
    rintro e w' ⟨rfl, rfl⟩
    rw [N.out]
    go_wp2_with fail
    go_ret
    exact ⟨ret_bool E.out.symm, rfl⟩
theorem RdRR.drewN {w : World} {ao : Option Addr} {l : List (List (List Int))} (h : RdRR w ao l) (q : Nat) : RdRR (w.drewN q) ao l := h.below (below_drewN (Below.refl _ _) q)
set_option maxRecDepth 100000 in
set_option maxHeartbeats 4000000 in
theorem specStoreOk_any (a b : Option Addr) (c d : Nat) (s : List Tb) (l : List (List (List Int))) (w : World) (h : RdT w a s) (k : RdRR w b l) (hs : s.length ≤ 1048576) (hl : l.length ≤ 1048576) (hc : ∀ x ∈ l, x.length ≤ 1048576 ∧ ∀ y ∈ x, y.length ≤ 1048576) :
    Calls Tryz.prog 43 #[.slice a s.length c, .slice b l.length d] w fun e w' => e = .returned (.bool (storeB s l)) ∧ Below w.heap.size w w' := by
  have H := Lib.hid h; clear h
  have K := Lib.hid k; clear k
  have HC := Lib.hid hc; clear hc
  have SC := Lib.hid (specSchema_any a c s w H.out (by omega))
  cases hsc : schemaB s with
  | false =>
    have E := Lib.hid (storeB_schema (l := l) hsc)
    have Q := Lib.hid hsc; clear hsc
    go_enter Tryz.func43, Tryz.ntmps43
    go_wp2_with fail
    refine SC.out.mono ?_
    rintro e w1 ⟨rfl, b1⟩
    rw [Q.out]
    have B1 := Lib.hid b1; clear b1
    go_wp2_with fail
    go_ret
    exact ⟨ret_bool E.out.symm, B1.out⟩
  | true =>
    have Q := Lib.hid hsc; clear hsc
    by_cases hlen : l.length = s.length
    · have hne : ((l.length : Int) != (s.length : Int)) = false := by simp [hlen]
      have HL := Lib.hid hlen
      go_enter Tryz.func43, Tryz.ntmps43
      go_wp2_with fail
      refine SC.out.mono ?_
      rintro e w1 ⟨rfl, b1⟩
      rw [Q.out]
      have B1 := Lib.hid b1
      have H1 := Lib.hid (H.out.below b1); have K1 := Lib.hid (K.out.below b1)
      have FIN := Lib.hid (fun q => below_drewN b1 q)
      clear b1 H K SC
      go_wp2_with fail
      go_loopw [5] (fun i wr => ∃ j q : Nat, j ≤ s.length ∧ i = .int .i64 j ∧ FitTo s l j ∧ wr = w1.drewN q) (fun i _ => s.length - (intOf i).toNat)
      case atStart => exact ⟨0, 0, Nat.zero_le _, rfl, FitTo.zero, rfl⟩
      case round =>
        obtain ⟨j, q, hj, rfl, ht, rfl⟩ := hrel
        have FT := Lib.hid ht; clear ht
        by_cases hlt : j < s.length
        · obtain ⟨b1, o1, t, rfl, hn, hat⟩ := H1.out.at_ hlt
          obtain ⟨b2, o2, r, a2, c2, rfl, hr, ⟨e0, rr, _, _⟩⟩ := K1.out.at_ (i := j) (by omega)
          have hrl := HC.out r (List.mem_of_getElem? hr)
          have HN := Lib.hid hn; have HR := Lib.hid hr; have RR := Lib.hid rr
          obtain ⟨t0, t1, nm⟩ := hat
          clear hn hr rr
          have i1 : (j : Int) < (s.length : Int) := by omega
          have i2 : (j : Int) < (l.length : Int) := by omega
          by_cases h40 : 40 < r.length
          · have h40' : (40 : Int) < r.length := by omega
            have E := Lib.hid (storeB_no HN.out HR.out (rowsB_big h40))
            go_wp2_with fail
            go_ret
            exact ⟨ret_bool E.out.symm, FIN.out _⟩
          have h40' : (r.length : Int) ≤ 40 := by omega
          go_wp2_with fail
          go_loopw [6] (fun i wr => ∃ m q : Nat, m ≤ r.length ∧ i = .int .i64 m ∧ (∀ x ∈ r.take m, rowB t.width x = true) ∧ wr = w1.drewN q) (fun i _ => r.length - (intOf i).toNat)
          case atStart => exact ⟨0, q, Nat.zero_le _, rfl, (fun t h => by cases h), rfl⟩
          case round =>
            obtain ⟨m, q2, hm, rfl, ht, rfl⟩ := hrel
            have TA := Lib.hid ht; clear ht
            by_cases hlt2 : m < r.length
            · obtain ⟨b3, o3, x, a3, c3, rfl, hx, ⟨f0, rx, _, _⟩⟩ := RR.out.at_ hlt2
              have hxl := hrl.2 x (List.mem_of_getElem? hx)
              have X := Lib.hid hx; have RX := Lib.hid rx
              clear hx rx
              have i3 : (m : Int) < (r.length : Int) := by omega
              by_cases hw : (x.length : Int) = t.width
              · have hw' : ((x.length : Int) != t.width) = false := by simp [hw]
                have HW := Lib.hid hw; clear hw
                go_wp2_with fail
                go_quiet (fail)
                go_wp2_with fail
                go_loopw [7] (fun i wr => ∃ n q : Nat, n ≤ x.length ∧ i = .int .i64 n ∧ (∀ z ∈ x.take n, valB z = true) ∧ wr = w1.drewN q) (fun i _ => x.length - (intOf i).toNat)
                case atStart => exact ⟨0, _, Nat.zero_le _, rfl, (fun t h => by cases h), by first | rfl | rw [World.drewN_drewN]⟩
                case round =>
                  obtain ⟨n, q3, hn3, rfl, ht, rfl⟩ := hrel
                  have VA := Lib.hid ht; clear ht
                  by_cases hlt3 : n < x.length
                  · obtain ⟨b4, o4, z, rfl, hz, cz⟩ := RX.out.get hlt3
                    have Z := Lib.hid hz; clear hz
                    have i4 : (n : Int) < (x.length : Int) := by omega
                    cases hv : valB z with
                    | true =>
                      have V := Lib.hid hv; clear hv
                      go_wp2_with fail
                      refine (l04Value_any z _).mono ?_
                      rintro e w' ⟨rfl, rfl⟩
                      rw [V.out]
                      go_wp2_with fail
                      go_roundw
                      case rel => exact ⟨n + 1, q3, by omega, by go_num, all_take_snoc Z.out V.out VA.out, rfl⟩
                      case measure => simp [intOf]; omega
                    | false =>
                      have V := Lib.hid hv; clear hv
                      have E := Lib.hid (storeB_no HN.out HR.out (rowsB_no X.out (rowB_no Z.out V.out)))
                      go_wp2_with fail
                      refine (l04Value_any z _).mono ?_
                      rintro e w' ⟨rfl, rfl⟩
                      rw [V.out]
                      go_wp2_with fail
                      go_ret
                      exact ⟨ret_bool E.out.symm, FIN.out _⟩
                  · have OK := Lib.hid (rowB_yes HW.out (by omega) VA.out)
                    have i4 : ¬ (n : Int) < (x.length : Int) := by omega
                    go_wp2_with fail
                    go_roundw
                    case rel => exact ⟨m + 1, q3, by omega, by go_num, all_take_snoc X.out OK.out TA.out, rfl⟩
                    case measure => simp [intOf]; omega
              · have hw' : ((x.length : Int) != t.width) = true := by simp [hw]
                have E := Lib.hid (storeB_no HN.out HR.out (rowsB_no X.out (rowB_len hw)))
                clear hw
                go_wp2_with fail
                go_quiet (fail)
                go_wp2_with fail
                go_ret
                exact ⟨ret_bool E.out.symm, by first | exact FIN.out _ | (rw [World.drewN_drewN]; exact FIN.out _)⟩
            · have i3 : ¬ (m : Int) < (r.length : Int) := by omega
              have OK := Lib.hid (rowsB_yes (by omega) (by omega) TA.out)
              go_wp2_with fail
              go_roundw
              case rel => exact ⟨j + 1, q2, by omega, by go_num, FT.out.next HN.out HR.out OK.out, rfl⟩
              case measure => simp [intOf]; omega
        · have E := Lib.hid (FT.out.all (by omega) Q.out HL.out)
          go_wp2_with fail
          go_ret
          exact ⟨ret_bool E.out.symm, FIN.out _⟩
    · have hne : ((l.length : Int) != (s.length : Int)) = true := by simp; omega
      have E := Lib.hid (storeB_len hlen)
      go_enter Tryz.func43, Tryz.ntmps43
      go_wp2_with fail
      refine SC.out.mono ?_
      rintro e w1 ⟨rfl, b1⟩
      rw [Q.out]
      have B1 := Lib.hid b1; clear b1
      go_wp2_with fail
      go_ret
      exact ⟨ret_bool E.out.symm, B1.out⟩
theorem slots_snoc {p : List Nd} {j : Nat} {n : Nd} (hn : p[j]? = some n) (h : ∀ m ∈ p.take j, m.slot = false) (hs : n.slot = false) : ∀ m ∈ p.take (j + 1), m.slot = false := by
  intro m hm
  rw [List.take_add_one, hn] at hm
  rcases List.mem_append.1 hm with hm | hm
  · exact h m hm
  · simp at hm; subst hm; exact hs
set_option maxRecDepth 100000 in
set_option maxHeartbeats 3200000 in
theorem specEval_any (sa : Option Addr) (cs : Nat) (s : List Tb) (ra : Option Addr) (cr : Nat) (l : List RowsL) (pa : Option Addr) (cp : Nat) (p : List Nd) (w : World) (hs : RdT w sa s) (hr : RdRR w ra l) (hp : RdN w pa p) (hsl : s.length ≤ 1048576) (hrl : l.length ≤ 1048576) (hrr : ∀ x ∈ l, x.length ≤ 1048576 ∧ ∀ y ∈ x, y.length ≤ 1048576) (hpl : Small p) :
    Calls Tryz.prog 8 #[.slice sa s.length cs, .slice ra l.length cr, .slice pa p.length cp] w (EvalPost w s l p) := by
  have HS := Lib.hid hs; have HR := Lib.hid hr; have HP := Lib.hid hp; clear hs hr hp
  have hpl1 := hpl.1
  have ST := Lib.hid (fun W h k => specStoreOk_any sa ra cs cr s l W h k hsl hrl hrr)
  have TY := Lib.hid (fun W h k => specTyped_any sa cs s pa cp p W h k hsl hpl1)
  clear hrr hpl
  cases hst : storeB s l with
  | false =>
    have E := Lib.hid (evO_no (can_store (p := p) hst))
    rw [hst] at ST
    clear hst
    go_enter Tryz.func8, Tryz.ntmps8
    go_wp2_with (go_at_call 43; refine (ST.out _ HS.out HR.out).mono ?_; rintro e w1 ⟨rfl, b1⟩; have B1 := Lib.hid b1; clear b1)
    go_ret2
    exact eval_no E.out B1.out
  | true =>
    rw [hst] at ST
    have HST := Lib.hid hst
    clear hst
    cases hty : typB s p with
    | false =>
      have E := Lib.hid (evO_no (can_typ (l := l) hty))
      rw [hty] at TY
      clear hty
      go_enter Tryz.func8, Tryz.ntmps8
      go_wp2_with (first | (go_at_call 43; refine (ST.out _ HS.out HR.out).mono ?_; rintro e w1 ⟨rfl, b1⟩; have B1 := Lib.hid b1; clear b1) | (go_at_call 44; refine (TY.out _ (HS.out.below B1.out) (HP.out.below B1.out)).mono ?_; rintro e w2 ⟨rfl, b2⟩; have B2 := Lib.hid (below_step B1.out (Nat.le_refl _) b2); clear b2))
      go_ret2
      exact eval_no E.out B2.out
    | true =>
      rw [hty] at TY
      have HTY := Lib.hid hty
      obtain ⟨hsc, T, hT, hw⟩ := typ_tree hty
      have HT := Lib.hid hT
      have EV := Lib.hid (show ∀ W, Below w.heap.size w W → Calls Tryz.prog 45 #[.slice sa s.length cs, .slice ra l.length cr, .slice pa p.length cp, .int .i64 0] W (EvQ (fun _ => False) (gOf s l) T W) from fun W hW => l04Eval_any sa cs s ra cr l pa cp p T HST.out hsl hpl1 hT w HR.out T (fun _ => False) 0 W hW (fun k hk => hk.elim) (HS.out.below hW) (HP.out.below hW) (treeN_at hT) (treeN_some hT).2.2.2 hw)
      clear hty hsc hT hw
      go_enter Tryz.func8, Tryz.ntmps8
      go_wp2_with (first | (go_at_call 43; refine (ST.out _ HS.out HR.out).mono ?_; rintro e w1 ⟨rfl, b1⟩; have B1 := Lib.hid b1; clear b1) | (go_at_call 44; refine (TY.out _ (HS.out.below B1.out) (HP.out.below B1.out)).mono ?_; rintro e w2 ⟨rfl, b2⟩; have B2 := Lib.hid (below_step B1.out (Nat.le_refl _) b2); clear b2))
      go_loop [8] (fun i => ∃ j : Nat, j ≤ p.length ∧ i = .int .i64 j ∧ ∀ n ∈ p.take j, n.slot = false) (fun i => p.length - (intOf i).toNat)
      case atStart => exact ⟨0, Nat.zero_le _, rfl, fun n hn => by simp at hn⟩
      case round =>
        obtain ⟨j, hj, rfl, hno⟩ := hrel
        have NO := Lib.hid hno
        clear hno
        by_cases hlt : j < p.length
        · obtain ⟨b, off, n, a, c', rfl, hn, hat⟩ := (HP.out.below B2.out).at_ hlt
          obtain ⟨c0, c1, c2, c3, c4, c5, c6, _⟩ := hat
          have HN := Lib.hid hn
          clear hn c0 c1 c2 c3 c4 c6
          cases hsl2 : n.slot with
          | true =>
            have E := Lib.hid (evO_no (can_slot (s := s) (l := l) (List.mem_of_getElem? HN.out) hsl2))
            rw [hsl2] at c5
            clear hsl2
            go_wp2_with fail
            go_ret2
            exact eval_no E.out B2.out
          | false =>
            have NX := Lib.hid (slots_snoc HN.out NO.out hsl2)
            rw [hsl2] at c5
            clear hsl2
            go_wp2_with fail
            go_round
            case rel => exact ⟨j + 1, by omega, by go_num, NX.out⟩
            case measure => simp [intOf]; omega
        · obtain rfl : j = p.length := by omega
          have NA := NO.out
          rw [List.take_length] at NA
          have CY := Lib.hid (can_yes HST.out HTY.out NA)
          clear NA
          go_wp2_with fail
          refine (EV.out _ B2.out).mono ?_
          rintro e w3 h3
          obtain ⟨b3, res⟩ := h3.split
          have B3 := Lib.hid (below_step B2.out (Nat.le_refl _) b3)
          clear b3 h3
          rcases res with ⟨x, xa, xc, hx, rfl, hrd, hcap⟩ | ⟨hx, v, rfl⟩
          · have E := Lib.hid (evO_fine CY.out HT.out hx)
            have SM := evO_small s l p
            rw [E.out] at SM
            have CP := Lib.hid (l04Copy_any xa xc x w3 hrd.rd (by have := SM.1; show x.length ≤ 1048576; simp only at this; omega) (fun r hr => by have := SM.2 r hr; omega))
            clear SM hx hrd hcap
            go_wp2_with fail
            refine CP.out.mono ?_
            rintro e w4 ⟨a4, c4, rfl, o4, k1, k2, b4⟩
            have B4 := Lib.hid (below_step B3.out (Nat.le_refl _) b4)
            have O4 := Lib.hid (o4.base_le B3.out.size)
            clear o4 b4
            go_wp2_with fail
            go_ret2
            exact eval_yes E.out O4.out k1 k2 B4.out
          · have E := Lib.hid (evO_big CY.out HT.out hx)
            go_wp2_with fail
            go_ret2
            exact eval_no E.out B3.out
set_option maxRecDepth 100000 in
set_option maxHeartbeats 3200000 in
theorem specSizes_any (sa : Option Addr) (cs : Nat) (s : List Tb) (ra : Option Addr) (cr : Nat) (l : List RowsL) (pa : Option Addr) (cp : Nat) (p : List Nd) (w : World) (hs : RdT w sa s) (hr : RdRR w ra l) (hp : RdN w pa p) (hsl : s.length ≤ 1048576) (hrl : l.length ≤ 1048576) (hrr : ∀ x ∈ l, x.length ≤ 1048576 ∧ ∀ y ∈ x, y.length ≤ 1048576) (hpl : Small p) :
    Calls Tryz.prog 14 #[.slice sa s.length cs, .slice ra l.length cr, .slice pa p.length cp] w (SizesPost w s l p) := by
  have HS := Lib.hid hs; have HR := Lib.hid hr; have HP := Lib.hid hp; clear hs hr hp
  have hpl1 := hpl.1
  have EP := Lib.hid (show ∀ W, Below w.heap.size w W → Calls Tryz.prog 8 #[.slice sa s.length cs, .slice ra l.length cr, .slice pa p.length cp] W fun e w' => ∃ a m c, e = .returned (.tuple #[.slice a m c, .int .i64 (evO s l p).2]) ∧ Below W.heap.size W w' from fun W hW => (specEval_any sa cs s ra cr l pa cp p W (HS.out.below hW) (HR.out.below hW) (HP.out.below hW) hsl hrl hrr hpl).mono fun e w' ⟨a, c, h1, _, _, _, h2⟩ => ⟨a, _, c, h1, h2⟩)
  have O0 := Lib.hid (own_empty (w := w) (base := w.heap.size) (e := 3) (k := .i64) (Nat.le_refl _))
  have B0 := Lib.hid ((Below.refl w.heap.size w).alloc (Nat.le_refl _) (.cells #[] 3))
  clear hrr hpl
  by_cases hz : (evO s l p).2 = 0
  · obtain ⟨T, x, hst, hT, hw, hx⟩ := evO_zero hz
    have SO := Lib.hid (show sizO s l p = sizesO (gOf s l) p by unfold sizO; rw [if_pos hz])
    rw [hz] at EP
    have EV := Lib.hid (show ∀ j, j < p.length → ∃ m : Nat, sizAt (gOf s l) p j = m ∧ ∀ W, Below w.heap.size w W → Calls Tryz.prog 45 #[.slice sa s.length cs, .slice ra l.length cr, .slice pa p.length cp, .int .i64 j] W fun e w' => ∃ xa xc, e = .returned (.tuple #[.slice xa m xc, .bool true]) ∧ Below W.heap.size W w' from fun j hj => by
      obtain ⟨S, m, h1, h2, h3, h4, h5⟩ := place_typed hT hw hx hj
      refine ⟨m.length, h5, fun W hW => ?_⟩
      refine (l04Eval_any sa cs s ra cr l pa cp p T hst hsl hpl1 hT w HR.out S (fun _ => False) j W hW (fun k hk => hk.elim) (HS.out.below hW) (HP.out.below hW) h1 h2 h3).mono ?_
      rintro e w3 h6
      obtain ⟨b3, res⟩ := h6.split
      rcases res with ⟨y, xa, xc, hy, rfl, _, _⟩ | ⟨hy, v, rfl⟩
      · rw [h4] at hy; cases hy
        exact ⟨xa, xc, rfl, b3⟩
      · rw [h4] at hy; cases hy)
    have SL := Lib.hid (sizesO_len (gOf s l) p)
    have SA := Lib.hid (fun j (h : j < p.length) => sizesO_at (g := gOf s l) h)
    unfold SizesPost
    rw [SO.out]
    generalize sizesO (gOf s l) p = Z at SL SA ⊢
    generalize sizAt (gOf s l) p = F at EV SA
    clear hz hst hT hw hx SO
    go_enter Tryz.func14, Tryz.ntmps14
    go_wp2_with fail
    refine (EP.out _ B0.out).mono ?_
    rintro e w1 ⟨a1, m1, c1, rfl, b1⟩
    have B1 := Lib.hid (below_step B0.out (Nat.le_refl _) b1)
    have O1 := Lib.hid (O0.out.below b1)
    clear b1 O0
    go_wp2_with fail
    go_loopw [7, 10] (fun s i wr => ∃ (j : Nat) (ao : Option Addr) (cc : Nat), j ≤ p.length ∧ i = .int .i64 j ∧ s = .slice ao j cc ∧ Own wr w.heap.size 3 .i64 ao cc (Z.take j) ∧ Below w.heap.size w wr) (fun _ i _ => p.length - (intOf i).toNat)
    case atStart => exact ⟨0, _, _, Nat.zero_le _, rfl, rfl, by simpa using O1.out, B1.out⟩
    case round =>
      clear O1
      obtain ⟨j, ao, cc, hj, rfl, rfl, ho, hb⟩ := hrel
      have HO := Lib.hid ho; have HB := Lib.hid hb
      clear ho hb
      by_cases hlt : j < p.length
      · obtain ⟨m, hm, hev⟩ := EV.out j hlt
        have HE := Lib.hid hev
        have TK := Lib.hid (show Z.take (j + 1) = Z.take j ++ [(m : Int)] by rw [List.take_add_one, SA.out j hlt, hm]; rfl)
        have TL := Lib.hid (show j = (Z.take j).length by rw [List.length_take, SL.out]; omega)
        clear hm hev
        go_wp2_with fail
        refine (HE.out _ HB.out).mono ?_
        rintro e w2 ⟨xa, xc, rfl, b2⟩
        have B2 := Lib.hid (below_step HB.out (Nat.le_refl _) b2)
        have O2 := Lib.hid (HO.out.below b2)
        clear b2
        go_wp2_with (at_builtin; refine wpList_appendI _ rfl (.tmp 37) (.tmp 40) 34 rfl w.heap.size 3 Tryz.underlying34 Tryz.infoInt ao cc j (Z.take j) rfl TL.out (O2.out.alloc _) w2.heap.size 1 (m : Int) rfl (cell_one _ _ _) (by have := TL.out; omega) (by have := B2.out.size; simp; omega) ?_; intro ao3 c3 w3 o3 g3; have b3 := below_app B2.out O2.out g3; have O3 := Lib.hid o3; have B3 := Lib.hid b3; clear o3 g3 b3)
        go_roundw
        case rel => exact ⟨j + 1, ao3, c3, by omega, by go_num, by rw [show min j Z.length = j by have := SL.out; omega], by rw [TK.out]; exact O3.out, B3.out⟩
        case measure => simp [intOf]; omega
      · obtain rfl : j = p.length := by omega
        go_wp2_with fail
        go_ret
        have ho := HO.out
        rw [List.take_of_length_le (by rw [SL.out]; exact Nat.le_refl _)] at ho
        exact ⟨ao, cc, ret_slice SL.out.symm, ho, ho.cap_ge, ho.cap_le, HB.out⟩
  · have SO := Lib.hid (show sizO s l p = [] by unfold sizO; rw [if_neg hz])
    unfold SizesPost
    rw [SO.out]
    generalize (evO s l p).2 = code at hz EP
    have hz' : (code != 0) = true := by simpa using hz
    go_enter Tryz.func14, Tryz.ntmps14
    go_wp2_with fail
    refine (EP.out _ B0.out).mono ?_
    rintro e w1 ⟨a1, m1, c1, rfl, b1⟩
    have B1 := Lib.hid (below_step B0.out (Nat.le_refl _) b1)
    clear b1
    go_wp2_with fail
    go_ret
    exact ⟨none, 0, rfl, Own.none_, Nat.le_refl _, Nat.zero_le _, B1.out⟩
theorem place_tree {g : Sto} {p : List Nd} {T : Tr} {l : RowsL} (ht : treeN p = some T) (hl : evT g T = some l) {k : Nat} (hk : k < p.length) :
    ∃ S m, growT p p.length k = some S ∧ evT g S = some m ∧ sizAt g p k = m.length ∧ kidsN p (k : Int) = S.kids.map fun c => (c.pl : Int) := by
  have h := treeN_some ht
  obtain ⟨S, m, h1, h2⟩ := evT_sub T 0 h.2.1 l hl k (Nat.zero_le _) (by rw [h.2.2.1]; exact hk)
  refine ⟨S, m, h1, h2, by rw [sizAt_of h1, sizN_of h2], ?_⟩
  obtain ⟨S', h3, h4, _⟩ := find_grow p p.length 0 k T h.2.1 (Nat.zero_le _) (by rw [h.2.2.1]; exact hk)
  rw [h1] at h4
  cases h4
  unfold kidsN
  rw [ht]
  simp only
  unfold fnd
  rw [if_neg (by omega), Int.toNat_natCast, h3]
theorem one_kid {g : Sto} {p : List Nd} {T : Tr} {l : RowsL} (ht : treeN p = some T) (hl : evT g T = some l) {k : Nat} {n : Nd} (hn : p[k]? = some n) (ha : arity n.kind = 1) :
    kidsN p (k : Int) = [((k + 1 : Nat) : Int)] ∧ k + 1 < p.length ∧ ∃ m, sizAt g p (k + 1) = m.length ∧ sizAt g p k = (on1 n m).length := by
  have hk := lt_of_get hn
  obtain ⟨S, m, h1, h2, h3, h4⟩ := place_tree ht hl hk
  obtain ⟨n', hn', _, hc⟩ := grow_inv h1
  rw [hn] at hn'; cases hn'
  rcases hc with ⟨rfl, h5⟩ | ⟨c, rfl, _, h6⟩ | ⟨c, d, rfl, h5, _⟩
  · omega
  · obtain ⟨m', h7, rfl, _⟩ := evT_1 h2
    have hs := growT_sound p _ _ _ h6
    refine ⟨by rw [h4]; simp [Tr.kids, hs.1], by omega, m', by rw [sizAt_of h6, sizN_of h7], h3⟩
  · omega
theorem two_kids {g : Sto} {p : List Nd} {T : Tr} {l : RowsL} (ht : treeN p = some T) (hl : evT g T = some l) {k : Nat} {n : Nd} (hn : p[k]? = some n) (ha : arity n.kind = 2) :
    ∃ j : Nat, kidsN p (k : Int) = [((k + 1 : Nat) : Int), (j : Int)] ∧ k + 1 < p.length ∧ j < p.length ∧ ∃ m m', sizAt g p (k + 1) = m.length ∧ sizAt g p j = m'.length ∧ sizAt g p k = (on2 n m m').length := by
  have hk := lt_of_get hn
  obtain ⟨S, m, h1, h2, h3, h4⟩ := place_tree ht hl hk
  obtain ⟨n', hn', _, hc⟩ := grow_inv h1
  rw [hn] at hn'; cases hn'
  rcases hc with ⟨rfl, h5⟩ | ⟨c, rfl, h5, _⟩ | ⟨c, d, rfl, _, h6, h7⟩
  · omega
  · omega
  · obtain ⟨m1, m2, h8, h9, rfl, _⟩ := evT_2 h2
    have hs := growT_sound p _ _ _ h6
    have hs' := growT_sound p _ _ _ h7
    exact ⟨c.en, by rw [h4]; simp [Tr.kids, hs.1, hs'.1], by omega, by omega, m1, m2, by rw [sizAt_of h6, sizN_of h8], by rw [sizAt_of h7, sizN_of h9], h3⟩
theorem size_less {g : Sto} {p : List Nd} {T : Tr} {l : RowsL} (ht : treeN p = some T) (hl : evT g T = some l) {k : Nat} {n : Nd} (hn : p[k]? = some n) (hk : n.kind = 1 ∨ n.kind = 6 ∨ n.kind = 7) :
    kidsN p (k : Int) = [((k + 1 : Nat) : Int)] ∧ k + 1 < p.length ∧ sizAt g p k ≤ sizAt g p (k + 1) := by
  obtain ⟨h1, h2, m, h3, h4⟩ := one_kid ht hl hn (by unfold arity; rw [if_neg (by omega), if_neg (by omega), if_pos (by omega)])
  refine ⟨h1, h2, ?_⟩
  rw [h3, h4]
  have := on1_less (l := m) hk
  omega
theorem size_same {g : Sto} {p : List Nd} {T : Tr} {l : RowsL} (ht : treeN p = some T) (hl : evT g T = some l) {k : Nat} {n : Nd} (hn : p[k]? = some n) (hk : n.kind = 2 ∨ n.kind = 5) :
    kidsN p (k : Int) = [((k + 1 : Nat) : Int)] ∧ k + 1 < p.length ∧ sizAt g p k = sizAt g p (k + 1) := by
  obtain ⟨h1, h2, m, h3, h4⟩ := one_kid ht hl hn (by unfold arity; rw [if_neg (by omega), if_neg (by omega), if_pos (by omega)])
  refine ⟨h1, h2, ?_⟩
  rw [h3, h4, on1_same hk]
theorem size_both {g : Sto} {p : List Nd} {T : Tr} {l : RowsL} (ht : treeN p = some T) (hl : evT g T = some l) {k : Nat} {n : Nd} (hn : p[k]? = some n) (hk : n.kind = 4) :
    ∃ j : Nat, kidsN p (k : Int) = [((k + 1 : Nat) : Int), (j : Int)] ∧ k + 1 < p.length ∧ j < p.length ∧ sizAt g p k = sizAt g p (k + 1) + sizAt g p j := by
  obtain ⟨j, h1, h2, h2', m, m', h3, h4, h5⟩ := two_kids ht hl hn (by unfold arity; rw [if_neg (by omega), if_pos (by omega)])
  refine ⟨j, h1, h2, h2', ?_⟩
  rw [h3, h4, h5, on2_sum hk]; omega
theorem size_top {g : Sto} {p : List Nd} {T : Tr} {l : RowsL} (ht : treeN p = some T) (hl : evT g T = some l) : sizAt g p 0 = l.length := by
  rw [sizAt_of (treeN_some ht).2.1, sizN_of hl]
theorem bag_sort' {l : RowsL} (h : l.length ≤ 200) : bagB (sortO l) l = true ∧ (sortO l).length = l.length := by
  have hl : (sortO l).length ≤ 200 := by have := sortO_len l; omega
  refine ⟨?_, by rw [sortO_few h, sortL_len]⟩
  rw [bagB_y hl h, sortO_few hl, sortO_few h, sort_sort, eqR_refl]
theorem specChildren_any (ao : Option Addr) (c : Nat) (p : List Nd) (k : Int) (w : World) (h : RdN w ao p) (hp : p.length ≤ 1048576) :
    Calls Tryz.prog 15 #[.slice ao p.length c, .int .i64 k] w (Made w 3 .i64 (kidsN p k)) := by
  have H := Lib.hid h; clear h
  cases hg : goodB p k with
  | false =>
    have HG := Lib.hid hg
    have E := Lib.hid (kidsN_no hg); clear hg
    go_enter Tryz.func15, Tryz.ntmps15
    go_wp2_with fail
    refine (specGood_any ao c p k _ H.out hp).mono ?_
    rintro e w1 ⟨rfl, b1⟩
    rw [HG.out]
    go_wp2_with fail
    go_ret
    rw [E.out]
    exact ⟨none, 0, rfl, Own.none_, b1⟩
  | true =>
    have HG := Lib.hid hg
    have OK := Lib.hid (kids_ok hg)
    obtain ⟨_, _, _, _, _, _, _, _, _, q0, q1, _⟩ := good_some hg
    clear hg
    go_enter Tryz.func15, Tryz.ntmps15
    go_wp2_with fail
    refine (specGood_any ao c p k _ H.out hp).mono ?_
    rintro e w1 ⟨rfl, b1⟩
    rw [HG.out]
    have R1 := Lib.hid (H.out.below b1)
    have B1 := Lib.hid b1; clear b1
    go_wp2_with fail
    refine (specKids_any ao c p k _ _ R1.out hp q0 q1 OK.out).mono ?_
    rintro e w2 ⟨a2, c2, rfl, o2, b2⟩
    have O2 := Lib.hid (o2.base_le B1.out.size)
    have B2 := Lib.hid (below_step B1.out (Nat.le_refl _) b2)
    clear o2 b2
    go_wp2_with fail
    go_ret
    exact ⟨a2, c2, rfl, O2.out, B2.out⟩
set_option maxRecDepth 100000 in
theorem big_t (a : Option Addr) (n c : Nat) (w : World) (h : 1048576 < n) (hn : n ≤ maxLen) : Calls Tryz.prog 6 #[.slice a n c] w fun e w' => e = .returned (.bool true) ∧ w = w' := by
  unfold maxLen at hn
  have h' : decide ((1048576 : Int) < n) = true := by simp; omega
  go_enter Tryz.func6, Tryz.ntmps6
  go_wp2
  go_ret
  exact ⟨rfl, rfl⟩
set_option maxRecDepth 100000 in
theorem big_f (a : Option Addr) (n c : Nat) (w : World) (h : ¬ 1048576 < n) : Calls Tryz.prog 6 #[.slice a n c] w fun e w' => e = .returned (.bool false) ∧ w = w' := by
  have h' : decide ((1048576 : Int) < n) = false := by simp; omega
  go_enter Tryz.func6, Tryz.ntmps6
  go_wp2
  go_ret
  exact ⟨rfl, rfl⟩
set_option maxHeartbeats 800000 in
theorem same_q (a b : Option Addr) (c d : Nat) (l m : List Int) (w : World) (h : Rd w .i64 a l) (k : Rd w .i64 b m) (hn : l.length ≤ maxLen) (hm : m.length ≤ maxLen) :
    Calls Tryz.prog 13 #[.slice a l.length c, .slice b m.length d] w fun e w' => e = .returned (.bool (eqL l m)) ∧ ∃ q, w' = w.drewN q := by
  unfold maxLen at hn hm
  by_cases hlen : l.length = m.length
  · have hne : ((l.length : Int) != (m.length : Int)) = false := by simp [hlen]
    have HL := Lib.hid hlen; clear hlen
    rcases h with rfl | ⟨b1, o1, rfl, hc⟩
    · have hm0 : m = [] := List.eq_nil_of_length_eq_zero HL.out.symm
      subst hm0
      clear hne
      go_enter Tryz.func13, Tryz.ntmps13
      go_wp2
      refine wp_loop_rounds 1 ?_; rw [rounds_succ]; go_wp2
      go_ret
      exact ⟨rfl, 0, rfl⟩
    · rcases k with rfl | ⟨b2, o2, rfl, kc⟩
      · have hl0 : l = [] := List.eq_nil_of_length_eq_zero HL.out
        subst hl0
        clear hne hc
        go_enter Tryz.func13, Tryz.ntmps13
        go_wp2
        refine wp_loop_rounds 1 ?_; rw [rounds_succ]; go_wp2
        go_ret
        exact ⟨rfl, 0, rfl⟩
      · have HC := Lib.hid hc; have KC := Lib.hid kc; clear hc kc
        go_enter Tryz.func13, Tryz.ntmps13
        go_wp2
        go_loopw [5] (fun i wr => ∃ j q : Nat, j ≤ l.length ∧ i = .int .i64 j ∧ l.take j = m.take j ∧ wr = w.drewN q) (fun i _ => l.length - (intOf i).toNat)
        case atStart => exact ⟨0, 0, Nat.zero_le _, rfl, rfl, rfl⟩
        case round =>
          obtain ⟨j, q, hj, rfl, ht, rfl⟩ := hrel
          have HT := Lib.hid ht; clear ht
          by_cases hlt : j < l.length
          · have hlt2 : j < m.length := by have := HL.out; omega
            obtain ⟨x, _, hx, hcx, htx⟩ := Rd.at_ HC.out hlt
            obtain ⟨y, _, hy, hcy, hty⟩ := Rd.at_ KC.out hlt2
            have X := Lib.hid hx; have Y := Lib.hid hy; have TX := Lib.hid htx; have TY := Lib.hid hty
            clear hx hy htx hty
            have i1 : (j : Int) < (l.length : Int) := by omega
            have i2 : (j : Int) < (m.length : Int) := by omega
            by_cases hxy : x = y
            · subst hxy
              have hb : (x != x) = false := by simp
              go_wp2
              go_quiet (fail)
              go_wp2
              go_roundw
              case rel => exact ⟨j + 1, _, by omega, by go_num, by rw [TX.out, TY.out, HT.out], by first | rfl | rw [World.drewN_drewN]⟩
              case measure => simp [intOf]; omega
            · have hb : (x != y) = true := by simp [hxy]
              have HF := Lib.hid (eqL_no hxy X.out Y.out)
              clear hxy
              go_wp2
              go_quiet (fail)
              go_wp2
              go_ret
              exact ⟨ret_bool HF.out.symm, _, by first | rfl | rw [World.drewN_drewN] | (rw [World.drewN_drewN, World.drewN_drewN])⟩
          · go_wp2
            go_ret
            exact ⟨ret_bool (eqL_yes HL.out (by omega) HT.out).symm, _, rfl⟩
  · have hne : ((l.length : Int) != (m.length : Int)) = true := by simp; omega
    have HF : Hid (eqL l m = false) := by
      show eqL l m = false
      unfold eqL; simp; rintro rfl; exact hlen rfl
    go_enter Tryz.func13, Tryz.ntmps13
    go_wp2
    go_ret
    exact ⟨ret_bool HF.out.symm, 0, rfl⟩
theorem RdR.drewN {w : World} {ao : Option Addr} {l : List (List Int)} (h : RdR w ao l) (q : Nat) : RdR (w.drewN q) ao l := h.below (below_drewN (Below.refl _ _) q)
end Go.Proofs.YtanfllednlpbaaaGreat
