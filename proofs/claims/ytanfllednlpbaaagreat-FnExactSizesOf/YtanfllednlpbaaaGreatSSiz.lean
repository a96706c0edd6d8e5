/-
  Contract of spec.SizesOf. For every store and every plan.
-/
import Derived.Test.YtanfllednlpbaaaGreatJ47x
namespace Go.Proofs.YtanfllednlpbaaaGreat
open Go.RowKit
set_option linter.unusedSimpArgs false
set_option linter.unusedVariables false

set_option maxRecDepth 100000 in
set_option maxHeartbeats 3200000 in
theorem specSizes_any (sa : Option Addr) (cs : Nat) (s : List Tb) (ra : Option Addr) (cr : Nat) (l : List RowsL) (pa : Option Addr) (cp : Nat) (p : List Nd) (w : World) (hs : RdT w sa s) (hr : RdRR w ra l) (hp : RdN w pa p) (hsl : s.length ≤ 1048576) (hrl : l.length ≤ 1048576) (hrr : ∀ x ∈ l, x.length ≤ 1048576 ∧ ∀ y ∈ x, y.length ≤ 1048576) (hpl : Small p) :
    Calls Tryz.prog 14 #[.slice sa s.length cs, .slice ra l.length cr, .slice pa p.length cp] w (SizesPost w s l p) := by
  have HS := Lib.hid hs; have HR := Lib.hid hr; have HP := Lib.hid hp; clear hs hr hp
  have hpl1 := hpl.1
  have EP := Lib.hid (show ∀ W, Below w.heap.size w W → Calls Tryz.prog 8 #[.slice sa s.length cs, .slice ra l.length cr, .slice pa p.length cp] W fun e w' => ∃ a m c, e = .returned (.tuple #[.slice a m c, .int .i64 (evO s l p).2]) ∧ Below W.heap.size W w' from fun W hW => (specEval_any sa cs s ra cr l pa cp p W (HS.out.below hW) (HR.out.below hW) (HP.out.below hW) hsl hrl hrr hpl).mono fun e w' ⟨a, c, h1, _, _, _, h2⟩ => ⟨a, _, c, h1, h2⟩)
  have O0 := Lib.hid (own_empty (w := w) (base := w.heap.size) (e := 3) (k := .i64) (Nat.le_refl _))
  have B0 := Lib.hid ((Below.refl w.heap.size w).alloc (Nat.le_refl _) (.cells #[] 3))
  clear hrr hpl
  by_cases hz : (evO s l p).2 = 0
  · obtain ⟨T, x, hst, hT, hw, hx⟩ := evO_zero hz
    have SO := Lib.hid (show sizO s l p = sizesO (gOf s l) p by unfold sizO; rw [if_pos hz])
    rw [hz] at EP
    have EV := Lib.hid (show ∀ j, j < p.length → ∃ m : Nat, sizAt (gOf s l) p j = m ∧ ∀ W, Below w.heap.size w W → Calls Tryz.prog 45 #[.slice sa s.length cs, .slice ra l.length cr, .slice pa p.length cp, .int .i64 j] W fun e w' => ∃ xa xc, e = .returned (.tuple #[.slice xa m xc, .bool true]) ∧ Below W.heap.size W w' from fun j hj => by
      obtain ⟨S, m, h1, h2, h3, h4, h5⟩ := place_typed hT hw hx hj
      refine ⟨m.length, h5, fun W hW => ?_⟩
      refine (l04Eval_any sa cs s ra cr l pa cp p T hst hsl hpl1 hT w HR.out S (fun _ => False) j W hW (fun k hk => hk.elim) (HS.out.below hW) (HP.out.below hW) h1 h2 h3).mono ?_
      rintro e w3 h6
      obtain ⟨b3, res⟩ := h6.split
      rcases res with ⟨y, xa, xc, hy, rfl, _, _⟩ | ⟨hy, v, rfl⟩
      · rw [h4] at hy; cases hy
        exact ⟨xa, xc, rfl, b3⟩
      · rw [h4] at hy; cases hy)
    have SL := Lib.hid (sizesO_len (gOf s l) p)
    have SA := Lib.hid (fun j (h : j < p.length) => sizesO_at (g := gOf s l) h)
    unfold SizesPost
    rw [SO.out]
    generalize sizesO (gOf s l) p = Z at SL SA ⊢
    generalize sizAt (gOf s l) p = F at EV SA
    clear hz hst hT hw hx SO
    go_enter Tryz.func14, Tryz.ntmps14
    go_wp2_with fail
    refine (EP.out _ B0.out).mono ?_
    rintro e w1 ⟨a1, m1, c1, rfl, b1⟩
    have B1 := Lib.hid (below_step B0.out (Nat.le_refl _) b1)
    have O1 := Lib.hid (O0.out.below b1)
    clear b1 O0
    go_wp2_with fail
    go_loopw [7, 10] (fun s i wr => ∃ (j : Nat) (ao : Option Addr) (cc : Nat), j ≤ p.length ∧ i = .int .i64 j ∧ s = .slice ao j cc ∧ Own wr w.heap.size 3 .i64 ao cc (Z.take j) ∧ Below w.heap.size w wr) (fun _ i _ => p.length - (intOf i).toNat)
    case atStart => exact ⟨0, _, _, Nat.zero_le _, rfl, rfl, by simpa using O1.out, B1.out⟩
    case round =>
      clear O1
      obtain ⟨j, ao, cc, hj, rfl, rfl, ho, hb⟩ := hrel
      have HO := Lib.hid ho; have HB := Lib.hid hb
      clear ho hb
      by_cases hlt : j < p.length
      · obtain ⟨m, hm, hev⟩ := EV.out j hlt
        have HE := Lib.hid hev
        have TK := Lib.hid (show Z.take (j + 1) = Z.take j ++ [(m : Int)] by rw [List.take_add_one, SA.out j hlt, hm]; rfl)
        have TL := Lib.hid (show j = (Z.take j).length by rw [List.length_take, SL.out]; omega)
        clear hm hev
        go_wp2_with fail
        refine (HE.out _ HB.out).mono ?_
        rintro e w2 ⟨xa, xc, rfl, b2⟩
        have B2 := Lib.hid (below_step HB.out (Nat.le_refl _) b2)
        have O2 := Lib.hid (HO.out.below b2)
        clear b2
        go_wp2_with (at_builtin; refine wpList_appendI _ rfl (.tmp 37) (.tmp 40) 34 rfl w.heap.size 3 Tryz.underlying34 Tryz.infoInt ao cc j (Z.take j) rfl TL.out (O2.out.alloc _) w2.heap.size 1 (m : Int) rfl (cell_one _ _ _) (by have := TL.out; omega) (by have := B2.out.size; simp; omega) ?_; intro ao3 c3 w3 o3 g3; have b3 := below_app B2.out O2.out g3; have O3 := Lib.hid o3; have B3 := Lib.hid b3; clear o3 g3 b3)
        go_roundw
        case rel => exact ⟨j + 1, ao3, c3, by omega, by go_num, by rw [show min j Z.length = j by have := SL.out; omega], by rw [TK.out]; exact O3.out, B3.out⟩
        case measure => simp [intOf]; omega
      · obtain rfl : j = p.length := by omega
        go_wp2_with fail
        go_ret
        have ho := HO.out
        rw [List.take_of_length_le (by rw [SL.out]; exact Nat.le_refl _)] at ho
        exact ⟨ao, cc, ret_slice SL.out.symm, ho, ho.cap_ge, ho.cap_le, HB.out⟩
  · have SO := Lib.hid (show sizO s l p = [] by unfold sizO; rw [if_neg hz])
    unfold SizesPost
    rw [SO.out]
    generalize (evO s l p).2 = code at hz EP
    have hz' : (code != 0) = true := by simpa using hz
    go_enter Tryz.func14, Tryz.ntmps14
    go_wp2_with fail
    refine (EP.out _ B0.out).mono ?_
    rintro e w1 ⟨a1, m1, c1, rfl, b1⟩
    have B1 := Lib.hid (below_step B0.out (Nat.le_refl _) b1)
    clear b1
    go_wp2_with fail
    go_ret
    exact ⟨none, 0, rfl, Own.none_, Nat.le_refl _, Nat.zero_le _, B1.out⟩
end Go.Proofs.YtanfllednlpbaaaGreat
