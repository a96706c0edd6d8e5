/-
  Contracts of impl.EncodePlan and impl.PlanSum. For every slice of nodes. Contract of eqNodeS. For every two slices of nodes. Contracts of spec.l02SameInts, spec.l02SameNode, spec.SamePlan, slices.EqualFunc at sameNode, impl.SamePlan. For every two slices of nodes. Small contracts for the wires' law: laws.big. For every slice of bytes.
-/
import Derived.Test.YtfpbhedophlnkaaGreatDoorJ52x
import Derived.Test.YtfpbhedophlnkaaGreatDoorJ14x
import Derived.Test.YtfpbhedophlnkaaGreatDoorJ27x
import Derived.Test.YtfpbhedophlnkaaGreatDoorJ23x
import Derived.Deep.RegionWith
import Derived.Test.YtfpbhedophlnkaaGreatDoorJ6x
namespace Go.Proofs.YtfpbhedophlnkaaGreatDoor
open Go.RowKit
set_option linter.unusedSimpArgs false
set_option linter.unusedVariables false

/-- A plan's parts: the number of nodes, and the bytes of the first j. -/
def parP (p : List Nd) (j : Nat) : List (List Int) := putN p.length :: (p.take j).map putNd
theorem parP_succ {p : List Nd} {j : Nat} {n : Nd} (h : p[j]? = some n) : parP p (j + 1) = parP p j ++ [putNd n] := by
  simp [parP, List.take_add_one, h]
theorem parP_flat (p : List Nd) (j : Nat) : (parP p j).flatten = preP p j := by simp [parP, preP, List.flatMap]
theorem parP_len {p : List Nd} {j : Nat} (h : j ≤ p.length) : (parP p j).length = j + 1 := by simp [parP]; omega
def EqRel (w wr : World) (p : List Nd) (v i : Value) : Prop :=
  ∃ (ao : Option Addr) (c m j : Nat), v = .slice ao m c ∧ m = j + 1 ∧ i = .int .i64 j ∧ j ≤ p.length ∧ OwnB wr w.heap.size ao c (parP p j) ∧ Below w.heap.size w wr
set_option maxRecDepth 100000 in
set_option maxHeartbeats 1600000 in
theorem implEncodePlan_any (ao : Option Addr) (c : Nat) (p : List Nd) (hp : Small p) (w : World) (h : RdN w ao p) :
    Calls Tryz.prog 38 #[.slice ao p.length c] w (Made2 w 5 .u8 (encP p) (planB p)) := by
  have H := Lib.hid h; clear h
  have PO := Lib.hid (fun w h => implPlanOk_any ao c p hp w h)
  have SM := Lib.hid hp; clear hp
  cases hg : planB p with
  | false =>
    rw [encP_no hg]
    rw [hg] at PO
    clear hg
    go_enter Tryz.func38, Tryz.ntmps38
    go_wp2_with fail
    refine (PO.out _ H.out).mono ?_
    rintro e w1 ⟨rfl, b1⟩
    go_wp2_with fail
    go_ret2
    exact ⟨none, 0, rfl, Own.none_, b1⟩
  | true =>
    rw [hg] at PO
    have hl40 := planB_l40 hg
    have E := Lib.hid (encP_yes hg)
    clear hg
    obtain ⟨q0, hq0⟩ : ∃ q, q = putN (p.length : Int) := ⟨_, rfl⟩
    have P0 : Hid (∀ w : World, Calls Tryz.prog 88 #[.int .i64 p.length] w (Made w 5 .u8 q0)) := by rw [hq0]; exact fun w => implPutNum_any _ w
    have HQ0 : Hid (parP p 0 = [q0]) := by show _ = _; rw [hq0]; simp [parP]
    clear hq0
    go_enter Tryz.func38, Tryz.ntmps38
    go_wp2_with fail
    refine (PO.out _ H.out).mono ?_
    rintro e w1 ⟨rfl, b1⟩
    have B1 := Lib.hid b1; clear b1
    go_wp2_with fail
    refine (P0.out _).mono ?_
    rintro e w2 ⟨a2, c2, rfl, o2, b2⟩
    have B2 := Lib.hid ((below_step B1.out (Nat.le_refl _) b2).alloc (below_step B1.out (Nat.le_refl _) b2).size (.cells #[.slice a2 q0.length c2] 22))
    have O2 := Lib.hid (ownB_one (o2.base_le B1.out.size) (below_step B1.out (Nat.le_refl _) b2).size)
    clear o2 b2
    go_wp2_with fail
    go_loopw [4, 16] (fun v i wr => EqRel w wr p v i) (fun _ i _ => p.length - (intOf i).toNat)
    case atStart => exact ⟨_, _, _, 0, rfl, rfl, rfl, Nat.zero_le _, by rw [HQ0.out]; exact O2.out, B2.out⟩
    case round =>
      obtain ⟨a3, c3, m3, j, rfl, hm3, rfl, hj, ho, hb⟩ := hrel
      have HO := Lib.hid ho; have HB := Lib.hid hb; have HM3 := Lib.hid hm3; clear ho hb hm3
      by_cases hlt : j < p.length
      · obtain ⟨b, off, n, a, c', rfl, hn, hat⟩ := (H.out.below HB.out).at_ hlt
        have HN := Lib.hid hn; clear hn
        obtain ⟨c0, c1, c2', c3', c4, c5, c6, rd, cap, mx, nm⟩ := hat
        have RD := Lib.hid (rd.below ((Below.refl _ wr).alloc (Nat.le_refl _) (.cells #[.int .i64 n.kind, .string n.name, .int .i64 n.col, .int .i64 n.op, .int .i64 n.num, .bool n.slot, .slice a n.cols.length c'] 92)))
        have cl : n.cols.length ≤ 17592186044416 := Nat.le_trans (SM.out.2 n (List.mem_of_getElem? HN.out)) (by omega)
        clear rd cap mx
        have PN := Lib.hid (fun w h => implPutNode_any n a c' w h cl nm)
        have BX := Lib.hid (HB.out.alloc HB.out.size (.cells #[.int .i64 n.kind, .string n.name, .int .i64 n.col, .int .i64 n.op, .int .i64 n.num, .bool n.slot, .slice a n.cols.length c'] 92))
        have OX := Lib.hid (HO.out.below ((Below.refl _ wr).alloc (Nat.le_refl _) (.cells #[.int .i64 n.kind, .string n.name, .int .i64 n.col, .int .i64 n.op, .int .i64 n.num, .bool n.slot, .slice a n.cols.length c'] 92)))
        obtain ⟨q, hq⟩ : ∃ q, q = putNd n := ⟨_, rfl⟩
        rw [← hq] at PN
        have HQ := Lib.hid hq; clear hq
        go_wp2_with fail
        refine (PN.out _ RD.out).mono ?_
        rintro e w4 ⟨a4, c4', rfl, o4, b4⟩
        have B4 := Lib.hid (below_step BX.out (Nat.le_refl _) b4)
        obtain ⟨vs, hV, hvl, hvp⟩ := OX.out.below b4
        have hjv : m3 = vs.length := by rw [hvl, parP_len hj]; exact HM3.out
        have O4 := Lib.hid (o4.base_le BX.out.size)
        have HV := Lib.hid hV; have HVP := Lib.hid hvp; have HVL := Lib.hid hvl; have HJV := Lib.hid hjv
        have hv10 : vs.length ≤ 41 := by have := HM3.out; omega
        clear o4 b4 hV hvp hvl hjv c0 c1 c2' c3' c4 c5 c6
        go_wp2_with (at_builtin; go_must (refine wpList_appendV _ rfl (.tmp 20) (.tmp 23) 108 rfl w.heap.size 22 (.slice none 0 0) 24 Tryz.underlying108 Tryz.infoBs rfl a3 c3 m3 vs rfl HJV.out (HV.out.alloc _) w4.heap.size 1 (.slice a4 q.length c4') rfl (cell_one _ _ _) rfl (by unfold maxLen; omega) (by omega) (by have := B4.out.size; simp; omega) ?_; intro ao' c6 w6 o6 g6 l6))
        have NEW := OwnB.push (HV.out.alloc (.cells #[.slice a4 q.length c4'] 22)) HVL.out (fun i l' hi => by obtain ⟨x, y, h4, h5⟩ := HVP.out i l' hi; exact ⟨x, y, h4, h5.alloc _⟩) (O4.out.alloc _) o6 g6
        have hB' : Below w.heap.size w w6 := below_grow (B4.out.alloc B4.out.size _) (Nat.le_refl _) g6 (fun x hx => (HV.out.lt x hx).1)
        rw [HQ.out, ← parP_succ HN.out] at NEW
        have NEW' := Lib.hid NEW; have HB' := Lib.hid hB'
        clear NEW hB' o6 g6 l6
        go_roundw
        case rel => exact ⟨ao', c6, _, j + 1, rfl, by have := HJV.out; have := HM3.out; omega, by go_num, by omega, NEW'.out, HB'.out⟩
        case measure => simp [intOf]; omega
      · obtain rfl : j = p.length := by omega
        have hpl := preP_len p.length hl40
        have hpby := preP_by p p.length
        have BH := Lib.hid (bhd_any a3 c3 m3 (parP p p.length) wr HO.out.rd (by rw [parP_len (Nat.le_refl _)]; exact HM3.out) (by rw [parP_len (Nat.le_refl _)]; omega) (by rw [parP_flat]; omega))
        rw [parP_flat] at BH
        obtain ⟨acc, hacc⟩ : ∃ acc, acc = preP p p.length := ⟨_, rfl⟩
        rw [← hacc] at BH hpl hpby
        have e : encP p = frameL acc := by rw [E.out, hacc]
        have HBY := Lib.hid hpby
        have HE := Lib.hid e
        clear hacc hpby e
        go_wp2_with fail
        refine BH.out.mono ?_
        rintro e w4 ⟨a4, c4, rfl, o4, b4⟩
        have FR := Lib.hid (implFrame_any a4 c4 acc w4 o4.rd o4.nilcap HBY.out (by unfold maxLen; omega))
        rw [show decide (acc.length ≤ 4000) = true by simp; omega, ← HE.out] at FR
        have B4 := Lib.hid (below_step HB.out (Nat.le_refl _) b4)
        clear o4 b4
        go_wp2_with fail
        refine FR.out.mono ?_
        rintro e w5 ⟨a5, c5, rfl, o5, b5⟩
        have O5 := Lib.hid (o5.base_le B4.out.size); have B5 := Lib.hid (below_step B4.out (Nat.le_refl _) b5)
        clear o5 b5
        go_wp2_with fail
        go_ret2
        exact ⟨a5, c5, rfl, O5.out, B5.out⟩

set_option maxRecDepth 100000 in
set_option maxHeartbeats 800000 in
theorem implPlanSum_any (ao : Option Addr) (c : Nat) (p : List Nd) (hp : Small p) (w : World) (h : RdN w ao p) :
    Calls Tryz.prog 40 #[.slice ao p.length c] w fun e w' => e = .returned (.int .i64 (sumP p)) ∧ Below w.heap.size w w' := by
  have EP := Lib.hid (implEncodePlan_any ao c p hp w h)
  have hl := encP_len p
  have HBY := Lib.hid (encP_by p)
  cases hg : planB p with
  | false =>
    rw [sumP_no hg]
    rw [hg] at EP
    clear hg h
    go_enter Tryz.func40, Tryz.ntmps40
    go_wp2_with fail
    refine EP.out.mono ?_
    rintro e w1 ⟨a1, c1, rfl, o1, b1⟩
    clear o1
    go_wp2_with fail
    go_ret
    exact ⟨rfl, b1⟩
  | true =>
    rw [sumP_yes hg]
    rw [hg] at EP
    clear hg h
    obtain ⟨f, hf⟩ : ∃ f, f = encP p := ⟨_, rfl⟩
    rw [← hf] at EP hl HBY ⊢
    clear hf
    go_enter Tryz.func40, Tryz.ntmps40
    go_wp2_with fail
    refine EP.out.mono ?_
    rintro e w1 ⟨a1, c1, rfl, o1, b1⟩
    have R1 := Lib.hid o1.rd; have B1 := Lib.hid b1
    clear o1 b1
    go_wp2_with fail
    refine (implCheckOf_any a1 c1 f w1 R1.out HBY.out (by unfold maxLen; omega)).mono ?_
    rintro e w' ⟨rfl, rfl⟩
    go_wp2_with fail
    go_ret
    exact ⟨rfl, B1.out⟩
end Go.Proofs.YtfpbhedophlnkaaGreatDoor
namespace Go.Proofs.YtfpbhedophlnkaaGreatDoor
open Go.RowKit
set_option linter.unusedSimpArgs false
set_option linter.unusedVariables false

/-- Whether two lists of nodes are the same. -/
def eqNs : List Nd → List Nd → Bool
  | [], [] => true
  | n :: l, m :: k => eqN n m && eqNs l k
  | _, _ => false
theorem eqNs_refl : ∀ l : List Nd, eqNs l l = true
  | [] => rfl
  | n :: l => by simp [eqNs, eqN_refl, eqNs_refl l]
theorem eqNs_len : ∀ l m : List Nd, l.length ≠ m.length → eqNs l m = false
  | [], [], h => absurd rfl h
  | [], _ :: _, _ => rfl
  | _ :: _, [], _ => rfl
  | n :: l, m :: k, h => by simp only [eqNs]; rw [eqNs_len l k (by simpa using h)]; simp
theorem eqNs_no : ∀ (l m : List Nd) (j : Nat) (x y : Nd), l[j]? = some x → m[j]? = some y → eqN x y = false → eqNs l m = false
  | [], _, j, x, y, h, _, _ => by simp at h
  | _ :: _, [], j, x, y, _, h, _ => by simp at h
  | n :: l, m :: k, 0, x, y, hx, hy, h => by simp at hx hy; subst hx hy; simp [eqNs, h]
  | n :: l, m :: k, j + 1, x, y, hx, hy, h => by simp at hx hy; simp [eqNs, eqNs_no l k j x y hx hy h]
theorem eqNs_yes : ∀ (l m : List Nd), l.length = m.length → (∀ (j : Nat) (x y : Nd), l[j]? = some x → m[j]? = some y → eqN x y = true) → eqNs l m = true
  | [], [], _, _ => rfl
  | [], _ :: _, h, _ => by simp at h
  | _ :: _, [], h, _ => by simp at h
  | n :: l, m :: k, h, hh => by
    simp only [eqNs]
    rw [hh 0 n m rfl rfl, eqNs_yes l k (by simpa using h) fun j x y hx hy => hh (j + 1) x y hx hy]; rfl

set_option maxRecDepth 100000 in
set_option maxHeartbeats 1600000 in
theorem eqNodeS_any (a b : Option Addr) (c d : Nat) (l m : List Nd) (w : World) (h : RdN w a l) (k : RdN w b m) (hn : l.length ≤ maxLen) (hm : m.length ≤ maxLen) :
    Calls Tryz.prog 60 #[.slice a l.length c, .slice b m.length d] w fun e w' => e = .returned (.bool (eqNs l m)) ∧ Below w.heap.size w w' := by
  unfold maxLen at hn hm
  have H := Lib.hid h; clear h
  have K := Lib.hid k; clear k
  by_cases hlen : l.length = m.length
  · have hne : ((l.length : Int) != (m.length : Int)) = false := by simp [hlen]
    have HL := Lib.hid hlen; clear hlen
    go_enter Tryz.func60, Tryz.ntmps60
    go_wp2_with fail
    go_loopw [5] (fun i wr => ∃ j : Nat, j ≤ l.length ∧ i = .int .i64 j ∧ (∀ i x y, i < j → l[i]? = some x → m[i]? = some y → eqN x y = true) ∧ Below w.heap.size w wr) (fun i _ => l.length - (intOf i).toNat)
    case atStart => exact ⟨0, Nat.zero_le _, rfl, fun i x y hi => absurd hi (Nat.not_lt_zero _), Below.refl _ _⟩
    case round =>
      obtain ⟨j, hj, rfl, ht, hb⟩ := hrel
      have HT := Lib.hid ht; clear ht
      by_cases hlt : j < l.length
      · have hlt2 : j < m.length := by have := HL.out; omega
        obtain ⟨b1, o1, x, ax, cx, rfl, hx, hat⟩ := (H.out.below hb).at_ hlt
        obtain ⟨b2, o2, y, ay, cy, rfl, hy, hay⟩ := (K.out.below hb).at_ hlt2
        have X := Lib.hid hx; have Y := Lib.hid hy; have HB := Lib.hid hb
        clear hx hy hb
        obtain ⟨c0, c1, c2, c3, c4, c5, c6, rd, cap, mx, nm⟩ := hat
        obtain ⟨d0, d1, d2, d3, d4, d5, d6, rd', cap', mx', nm'⟩ := hay
        have RD := Lib.hid rd; have RD' := Lib.hid rd'
        have E := Lib.hid (fun W => eqNode_any x y ax ay cx cy W)
        have l1 := Nat.le_trans cap mx; have l2 := Nat.le_trans cap' mx'
        clear rd rd' cap mx cap' mx' nm nm'
        have i1 : (j : Int) < (l.length : Int) := by omega
        have i2 : (j : Int) < (m.length : Int) := by omega
        cases hxy : eqN x y with
        | true =>
          have Q := Lib.hid hxy; clear hxy
          go_wp2_with fail
          go_region_with (go_at_call 141; refine (E.out _ ?_ ?_ l1 l2).mono ?_; exact RD.out; exact RD'.out; rintro e w1 ⟨rfl, b1⟩; rw [Q.out]; have T1 := Lib.hid (below_step HB.out.drew (Nat.le_refl _) b1); clear b1)
          all_goals
            go_wp2_with fail
            go_roundw
            case rel => exact ⟨j + 1, by omega, by go_num, fun i x' y' hi hx' hy' => by
              by_cases hij : i = j
              · subst hij; rw [X.out] at hx'; rw [Y.out] at hy'; cases hx'; cases hy'; exact Q.out
              · exact HT.out i x' y' (by omega) hx' hy', T1.out⟩
            case measure => simp [intOf]; omega
        | false =>
          have Q := Lib.hid hxy; clear hxy
          have F := Lib.hid (eqNs_no l m j x y X.out Y.out Q.out)
          go_wp2_with fail
          go_region_with (go_at_call 141; refine (E.out _ ?_ ?_ l1 l2).mono ?_; exact RD.out; exact RD'.out; rintro e w1 ⟨rfl, b1⟩; rw [Q.out]; have T1 := Lib.hid (below_step HB.out.drew (Nat.le_refl _) b1); clear b1)
          all_goals
            go_wp2_with fail
            go_ret
            exact ⟨ret_bool F.out.symm, T1.out⟩
      · have HB := Lib.hid hb; clear hb
        go_wp2_with fail
        go_ret
        refine ⟨ret_bool (eqNs_yes l m HL.out fun i x y hx hy => HT.out i x y ?_ hx hy).symm, HB.out⟩
        have : i < l.length := by
          rcases Nat.lt_or_ge i l.length with h1 | h1
          · exact h1
          · rw [List.getElem?_eq_none h1] at hx; cases hx
        omega
  · have hne : ((l.length : Int) != (m.length : Int)) = true := by simp; omega
    have HF := Lib.hid (eqNs_len l m hlen)
    go_enter Tryz.func60, Tryz.ntmps60
    go_wp2_with fail
    go_ret
    exact ⟨ret_bool HF.out.symm, Below.refl _ _⟩
end Go.Proofs.YtfpbhedophlnkaaGreatDoor
namespace Go.Proofs.YtfpbhedophlnkaaGreatDoor
open Go.RowKit
set_option linter.unusedSimpArgs false
set_option linter.unusedVariables false

set_option maxRecDepth 100000 in
set_option maxHeartbeats 1600000 in
theorem equalFunc_any (a b : Option Addr) (c d : Nat) (l m : List Nd) (w : World) (h : RdN w a l) (k : RdN w b m) (hn : l.length ≤ maxLen) (hm : m.length ≤ maxLen) :
    Calls Tryz.prog 122 #[.slice a l.length c, .slice b m.length d, .func (.func 123) #[] #[]] w fun e w' => e = .returned (.bool (eqNs l m)) ∧ Below w.heap.size w w' := by
  unfold maxLen at hn hm
  have H := Lib.hid h; clear h
  have K := Lib.hid k; clear k
  by_cases hlen : l.length = m.length
  · have hne : ((l.length : Int) != (m.length : Int)) = false := by simp [hlen]
    have HL := Lib.hid hlen; clear hlen
    go_enter Tryz.func122, Tryz.ntmps122
    go_wp2_with fail
    go_loopw [17] (fun i wr => ∃ j : Nat, j ≤ l.length ∧ i = .int .i64 j ∧ (∀ i x y, i < j → l[i]? = some x → m[i]? = some y → eqN x y = true) ∧ Below w.heap.size w wr) (fun i _ => l.length - (intOf i).toNat)
    case atStart => exact ⟨0, Nat.zero_le _, rfl, fun i x y hi => absurd hi (Nat.not_lt_zero _), Below.refl _ _⟩
    case round =>
      obtain ⟨j, hj, rfl, ht, hb⟩ := hrel
      have HT := Lib.hid ht; clear ht
      by_cases hlt : j < l.length
      · have hlt2 : j < m.length := by have := HL.out; omega
        obtain ⟨b1, o1, x, ax, cx, rfl, hx, hat⟩ := (H.out.below hb).at_ hlt
        obtain ⟨b2, o2, y, ay, cy, rfl, hy, hay⟩ := (K.out.below hb).at_ hlt2
        have X := Lib.hid hx; have Y := Lib.hid hy; have HB := Lib.hid hb
        clear hx hy hb
        have lt1 := hat.lt; have lt2 := hay.lt
        obtain ⟨c0, c1, c2, c3, c4, c5, c6, rd, cap, mx, nm⟩ := hat
        obtain ⟨d0, d1, d2, d3, d4, d5, d6, rd', cap', mx', nm'⟩ := hay
        have RD := Lib.hid rd; have RD' := Lib.hid rd'
        have E := Lib.hid (fun W => sameNode_any x y ax ay cx cy W)
        have l1 := Nat.le_trans cap mx; have l2 := Nat.le_trans cap' mx'
        clear rd rd' cap mx cap' mx' nm nm'
        cases hxy : eqN x y with
        | true =>
          have Q := Lib.hid hxy; clear hxy
          go_wp2_with fail
          refine (E.out _ (RD.out.below (((Below.refl _ wr).alloc (Nat.le_refl _) _).alloc (by simp) _)) (RD'.out.below (((Below.refl _ wr).alloc (Nat.le_refl _) _).alloc (by simp) _)) l1 l2).mono ?_
          rintro e w1 ⟨rfl, b1⟩
          rw [Q.out]
          have T1 := Lib.hid (below_step ((HB.out.alloc HB.out.size _).alloc (by have := HB.out.size; simp; omega) _) (Nat.le_refl _) b1)
          clear b1
          go_wp2_with fail
          go_roundw
          case rel => exact ⟨j + 1, by omega, by go_num, fun i x' y' hi hx' hy' => by
            by_cases hij : i = j
            · subst hij; rw [X.out] at hx'; rw [Y.out] at hy'; cases hx'; cases hy'; exact Q.out
            · exact HT.out i x' y' (by omega) hx' hy', T1.out⟩
          case measure => simp [intOf]; omega
        | false =>
          have Q := Lib.hid hxy; clear hxy
          have F := Lib.hid (eqNs_no l m j x y X.out Y.out Q.out)
          go_wp2_with fail
          refine (E.out _ (RD.out.below (((Below.refl _ wr).alloc (Nat.le_refl _) _).alloc (by simp) _)) (RD'.out.below (((Below.refl _ wr).alloc (Nat.le_refl _) _).alloc (by simp) _)) l1 l2).mono ?_
          rintro e w1 ⟨rfl, b1⟩
          rw [Q.out]
          have T1 := Lib.hid (below_step ((HB.out.alloc HB.out.size _).alloc (by have := HB.out.size; simp; omega) _) (Nat.le_refl _) b1)
          clear b1
          go_wp2_with fail
          go_ret
          exact ⟨ret_bool F.out.symm, T1.out⟩
      · have HB := Lib.hid hb; clear hb
        go_wp2_with fail
        go_ret
        refine ⟨ret_bool (eqNs_yes l m HL.out fun i x y hx hy => HT.out i x y ?_ hx hy).symm, HB.out⟩
        have : i < l.length := by
          rcases Nat.lt_or_ge i l.length with h1 | h1
          · exact h1
          · rw [List.getElem?_eq_none h1] at hx; cases hx
        omega
  · have hne : ((l.length : Int) != (m.length : Int)) = true := by simp; omega
    have HF := Lib.hid (eqNs_len l m hlen)
    go_enter Tryz.func122, Tryz.ntmps122
    go_wp2_with fail
    go_ret
    exact ⟨ret_bool HF.out.symm, Below.refl _ _⟩

theorem implSamePlan_any (a b : Option Addr) (c d : Nat) (l m : List Nd) (w : World) (h : RdN w a l) (k : RdN w b m) (hn : l.length ≤ maxLen) (hm : m.length ≤ maxLen) :
    Calls Tryz.prog 44 #[.slice a l.length c, .slice b m.length d] w fun e w' => e = .returned (.bool (eqNs l m)) ∧ Below w.heap.size w w' := by
  have H := Lib.hid h; clear h
  have K := Lib.hid k; clear k
  go_enter Tryz.func44, Tryz.ntmps44
  go_wp2_with fail
  refine (equalFunc_any a b c d l m _ H.out K.out hn hm).mono ?_
  rintro e w1 ⟨rfl, b1⟩
  go_wp2_with fail
  go_ret
  exact ⟨rfl, b1⟩
end Go.Proofs.YtfpbhedophlnkaaGreatDoor
namespace Go.Proofs.YtfpbhedophlnkaaGreatDoor
open Go.RowKit
set_option linter.unusedSimpArgs false
set_option linter.unusedVariables false
set_option maxRecDepth 100000 in
theorem big_t (a : Option Addr) (n c : Nat) (w : World) (h : 1048576 < n) (hn : n ≤ maxLen) : Calls Tryz.prog 11 #[.slice a n c] w fun e w' => e = .returned (.bool true) ∧ w = w' := by
  unfold maxLen at hn
  have h' : decide ((1048576 : Int) < n) = true := by simp; omega
  go_enter Tryz.func11, Tryz.ntmps11
  go_wp2
  go_ret
  exact ⟨rfl, rfl⟩
set_option maxRecDepth 100000 in
theorem big_f (a : Option Addr) (n c : Nat) (w : World) (h : ¬ 1048576 < n) : Calls Tryz.prog 11 #[.slice a n c] w fun e w' => e = .returned (.bool false) ∧ w = w' := by
  have h' : decide ((1048576 : Int) < n) = false := by simp; omega
  go_enter Tryz.func11, Tryz.ntmps11
  go_wp2
  go_ret
  exact ⟨rfl, rfl⟩
end Go.Proofs.YtfpbhedophlnkaaGreatDoor
