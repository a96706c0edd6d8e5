/-
  Contract of spec.SortRows. For every slice of rows. Contracts of impl.SameRows and impl.CountSame. For every slice of rows. Contract of eqNodeS. For every two slices of nodes. Contracts of spec.l02SameInts, spec.l02SameNode, spec.SamePlan, slices.EqualFunc at sameNode, impl.SamePlan. For every two slices of nodes. Contracts of spec.SameRows, spec.CountSame and spec.ColumnOf. For every slice of rows. Contracts of spec.SameBag and impl.SameBag. For every two slices of rows. What FnRows says of sorted rows: in their order, each as often as before; a column as long as the rows are many. Plain facts; no program, no walk.
-/
import Derived.Test.YtanfllednlpbaaaGreatJ27x
import Derived.Test.YtanfllednlpbaaaGreatJ26x
import Derived.Test.YtanfllednlpbaaaGreatJ15x
import Derived.Deep.RegionWith
import Derived.Test.YtanfllednlpbaaaGreatJ1x
namespace Go.Proofs.YtanfllednlpbaaaGreat
open Go.RowKit
set_option linter.unusedSimpArgs false
set_option linter.unusedVariables false

/-- Between two rounds of putting x among Z: k of Z have gone by. -/
def InsAt {α : Type} (lt : α → α → Bool) (x : α) (Z : List α) (k : Nat) (put : Bool) (Y : List α) : Prop :=
  Y.length = k + (if put then 1 else 0) ∧ (if put then Y ++ Z.drop k = insL lt x Z else Y ++ insL lt x (Z.drop k) = insL lt x Z)
theorem InsAt.start {α : Type} (lt : α → α → Bool) (x : α) (Z : List α) : InsAt lt x Z 0 false [] := ⟨rfl, rfl⟩
section
variable {α : Type} {lt : α → α → Bool} {x z : α} {Z Y : List α} {k : Nat}
theorem InsAt.hit (h : InsAt lt x Z k false Y) (hz : Z[k]? = some z) (hl : lt x z = true) : InsAt lt x Z (k + 1) true (Y ++ [x] ++ [z]) := by
  obtain ⟨h0, h1⟩ := h
  have hlt := lt_of_get hz
  have e : Z.drop k = z :: Z.drop (k + 1) := by rw [List.drop_eq_getElem_cons hlt]; rw [List.getElem?_eq_getElem hlt] at hz; cases hz; rfl
  rw [if_neg (by simp), e] at h1
  refine ⟨by simp at h0 ⊢; omega, ?_⟩
  rw [if_pos rfl, ← h1]
  unfold insL
  rw [if_pos hl]; simp
theorem InsAt.miss (h : InsAt lt x Z k false Y) (hz : Z[k]? = some z) (hl : lt x z = false) : InsAt lt x Z (k + 1) false (Y ++ [z]) := by
  obtain ⟨h0, h1⟩ := h
  have hlt := lt_of_get hz
  have e : Z.drop k = z :: Z.drop (k + 1) := by rw [List.drop_eq_getElem_cons hlt]; rw [List.getElem?_eq_getElem hlt] at hz; cases hz; rfl
  rw [if_neg (by simp), e] at h1
  refine ⟨by simp at h0 ⊢; omega, ?_⟩
  rw [if_neg (by simp), ← h1]
  conv => rhs; unfold insL
  rw [if_neg (by simp [hl])]; simp
theorem InsAt.on (h : InsAt lt x Z k true Y) (hz : Z[k]? = some z) : InsAt lt x Z (k + 1) true (Y ++ [z]) := by
  obtain ⟨h0, h1⟩ := h
  have hlt := lt_of_get hz
  have e : Z.drop k = z :: Z.drop (k + 1) := by rw [List.drop_eq_getElem_cons hlt]; rw [List.getElem?_eq_getElem hlt] at hz; cases hz; rfl
  rw [if_pos rfl, e] at h1
  refine ⟨by simp at h0 ⊢; omega, ?_⟩
  rw [if_pos rfl, ← h1]; simp
theorem InsAt.end_no (h : InsAt lt x Z k false Y) (hk : k = Z.length) : Y ++ [x] = insL lt x Z := by
  obtain ⟨_, h1⟩ := h
  subst hk
  rw [if_neg (by simp), List.drop_length] at h1
  exact h1
theorem InsAt.end_yes (h : InsAt lt x Z k true Y) (hk : k = Z.length) : Y = insL lt x Z := by
  obtain ⟨_, h1⟩ := h
  subst hk
  rw [if_pos rfl, List.drop_length, List.append_nil] at h1
  exact h1
end
theorem sortL_take {α : Type} {lt : α → α → Bool} {l : List α} {i : Nat} {x : α} (h : l[i]? = some x) : sortL lt (l.take (i + 1)) = insL lt x (sortL lt (l.take i)) := by
  have e : l.take (i + 1) = l.take i ++ [x] := by rw [List.take_add_one, h]; rfl
  rw [e]; unfold sortL; rw [List.foldl_append]; rfl

/-- What is held of the slice that is being made, and of the one that is gone through. -/
structure NextAt {w : World} (wo wr : World) (ao : Option Addr) (n cc : Nat) (Y : List (Els w)) : Prop where
  own : OwnV wr wo.heap.size 34 ao cc (Y.map encE)
  len : n = Y.length
  bel : Below wo.heap.size wo wr
theorem NextAt.put {w wo wr w3 : World} {ao ao3 : Option Addr} {n cc c3 : Nat} {Y : List (Els w)} (h : NextAt wo wr ao n cc Y) {x : Els w} {o : Obj} (o3 : OwnV w3 wo.heap.size 34 ao3 c3 (Y.map encE ++ [encE x])) (g3 : (wr.alloc o).grownBy w3 (ao.map (·.block))) : NextAt wo w3 ao3 (Y.length + 1) c3 (Y ++ [x]) :=
  ⟨by simpa using o3, by simp, below_appV h.bel h.bel.size h.own g3⟩
theorem NextAt.drew {w wo wr : World} {ao : Option Addr} {n cc : Nat} {Y : List (Els w)} (h : NextAt wo wr ao n cc Y) (q : Nat) : NextAt wo (wr.drewN q) ao n cc Y :=
  ⟨h.own.below (below_drewN (Below.refl _ _) q), h.len, below_drewN h.bel q⟩

end Go.Proofs.YtanfllednlpbaaaGreat
namespace Go.Proofs.YtanfllednlpbaaaGreat
open Go.RowKit
set_option linter.unusedSimpArgs false
set_option linter.unusedVariables false

theorem sameRow_any (a b : Option Addr) (c d : Nat) (l m : List Int) (w : World) (h : Rd w .i64 a l) (k : Rd w .i64 b m) (hn : l.length ≤ maxLen) (hm : m.length ≤ maxLen) :
    Calls Tryz.prog 50 #[.slice a l.length c, .slice b m.length d] w fun e w' => e = .returned (.bool (eqL l m)) ∧ Below w.heap.size w w' := by
  have H := Lib.hid h; clear h
  have K := Lib.hid k; clear k
  go_enter Tryz.func50, Tryz.ntmps50
  go_wp2_with fail
  refine (libEqual_any a b c d l m _ H.out K.out hn hm).mono ?_
  rintro e w1 ⟨rfl, b1⟩
  go_wp2_with fail
  go_ret
  exact ⟨rfl, b1⟩

set_option maxRecDepth 100000 in
set_option maxHeartbeats 1600000 in
theorem equalFuncR_any (a b : Option Addr) (c d : Nat) (l m : List (List Int)) (w : World) (h : RdR w a l) (k : RdR w b m) (hn : l.length ≤ maxLen) (hm : m.length ≤ maxLen) :
    Calls Tryz.prog 49 #[.slice a l.length c, .slice b m.length d, .func (.func 50) #[] #[]] w fun e w' => e = .returned (.bool (eqR l m)) ∧ Below w.heap.size w w' := by
  unfold maxLen at hn hm
  have H := Lib.hid h; clear h
  have K := Lib.hid k; clear k
  by_cases hlen : l.length = m.length
  · have hne : ((l.length : Int) != (m.length : Int)) = false := by simp [hlen]
    have HL := Lib.hid hlen; clear hlen
    go_enter Tryz.func49, Tryz.ntmps49
    go_wp2_with fail
    go_loopw [17] (fun i wr => ∃ j : Nat, j ≤ l.length ∧ i = .int .i64 j ∧ l.take j = m.take j ∧ Below w.heap.size w wr) (fun i _ => l.length - (intOf i).toNat)
    case atStart => exact ⟨0, Nat.zero_le _, rfl, rfl, Below.refl _ _⟩
    case round =>
      obtain ⟨j, hj, rfl, ht, hb⟩ := hrel
      have HT := Lib.hid ht; clear ht
      by_cases hlt : j < l.length
      · have hlt2 : j < m.length := by have := HL.out; omega
        obtain ⟨b1, o1, x, a1, c1, rfl, hx, ⟨e0, rx, cx, mx⟩⟩ := (H.out.below hb).at_ hlt
        obtain ⟨b2, o2, y, a2, c2, rfl, hy, ⟨f0, ry, cy, my⟩⟩ := (K.out.below hb).at_ hlt2
        have X := Lib.hid hx; have Y := Lib.hid hy; have HB := Lib.hid hb
        have RX := Lib.hid rx; have RY := Lib.hid ry
        clear hx hy hb rx ry
        have lx := Nat.le_trans cx mx
        have ly := Nat.le_trans cy my
        clear cx mx cy my
        cases hxy : eqL x y with
        | true =>
          have Q := Lib.hid hxy; clear hxy
          go_wp2_with fail
          refine (sameRow_any a1 a2 c1 c2 x y _ RX.out RY.out lx ly).mono ?_
          rintro e w1 ⟨rfl, b1⟩
          rw [Q.out]
          have T1 := Lib.hid (below_step HB.out (Nat.le_refl _) b1)
          clear b1
          go_wp2_with fail
          go_roundw
          case rel => exact ⟨j + 1, by omega, by go_num, take_eq_step HT.out X.out (by rw [eqL_eq Q.out]; exact Y.out), T1.out⟩
          case measure => simp [intOf]; omega
        | false =>
          have Q := Lib.hid hxy; clear hxy
          have F := Lib.hid (eqR_no X.out Y.out Q.out)
          go_wp2_with fail
          refine (sameRow_any a1 a2 c1 c2 x y _ RX.out RY.out lx ly).mono ?_
          rintro e w1 ⟨rfl, b1⟩
          rw [Q.out]
          have T1 := Lib.hid (below_step HB.out (Nat.le_refl _) b1)
          clear b1
          go_wp2_with fail
          go_ret
          exact ⟨ret_bool F.out.symm, T1.out⟩
      · have HB := Lib.hid hb; clear hb
        go_wp2_with fail
        go_ret
        exact ⟨ret_bool (eqR_yes HL.out (by omega) HT.out).symm, HB.out⟩
  · have hne : ((l.length : Int) != (m.length : Int)) = true := by simp; omega
    have HF := Lib.hid (eqR_len hlen)
    go_enter Tryz.func49, Tryz.ntmps49
    go_wp2_with fail
    go_ret
    exact ⟨ret_bool HF.out.symm, Below.refl _ _⟩

theorem implSameRows_any (a b : Option Addr) (c d : Nat) (l m : List (List Int)) (w : World) (h : RdR w a l) (k : RdR w b m) (hn : l.length ≤ maxLen) (hm : m.length ≤ maxLen) :
    Calls Tryz.prog 10 #[.slice a l.length c, .slice b m.length d] w fun e w' => e = .returned (.bool (eqR l m)) ∧ Below w.heap.size w w' := by
  have H := Lib.hid h; clear h
  have K := Lib.hid k; clear k
  go_enter Tryz.func10, Tryz.ntmps10
  go_wp2_with fail
  refine (equalFuncR_any a b c d l m _ H.out K.out hn hm).mono ?_
  rintro e w1 ⟨rfl, b1⟩
  go_wp2_with fail
  go_ret
  exact ⟨rfl, b1⟩

set_option maxRecDepth 100000 in
set_option maxHeartbeats 1600000 in
theorem implCountSame_any (a b : Option Addr) (c d : Nat) (l : List (List Int)) (r : List Int) (w : World) (h : RdR w a l) (k : Rd w .i64 b r) (hn : l.length ≤ 1048576) (hm : r.length ≤ maxLen) :
    Calls Tryz.prog 167 #[.slice a l.length c, .slice b r.length d] w fun e w' => e = .returned (.int .i64 (countL l r)) ∧ Below w.heap.size w w' := by
  have H := Lib.hid h; clear h
  have K := Lib.hid k; clear k
  go_enter Tryz.func167, Tryz.ntmps167
  go_wp2_with fail
  go_loopw [5, 10] (fun q i wr => ∃ j : Nat, j ≤ l.length ∧ i = .int .i64 j ∧ q = .int .i64 (countL (l.take j) r) ∧ Below w.heap.size w wr) (fun _ i _ => l.length - (intOf i).toNat)
  case atStart => exact ⟨0, Nat.zero_le _, rfl, rfl, Below.refl _ _⟩
  case round =>
    obtain ⟨j, hj, rfl, rfl, hb⟩ := hrel
    have q0 := countL_take_le l j r
    by_cases hlt : j < l.length
    · obtain ⟨b1, o1, x, a1, c1, rfl, hx, ⟨e0, rx, cx, mx⟩⟩ := (H.out.below hb).at_ hlt
      have X := Lib.hid hx; have HB := Lib.hid hb; have RX := Lib.hid rx
      have RK := Lib.hid (K.out.below hb)
      have CT := Lib.hid (countL_take (r := r) hx)
      have lx := Nat.le_trans cx mx
      clear hx hb rx cx mx
      cases hxy : eqL x r with
      | true =>
        have Q := Lib.hid hxy; clear hxy
        go_wp2_with fail
        refine (sameRow_any a1 b c1 d x r _ RX.out RK.out lx hm).mono ?_
        rintro e w1 ⟨rfl, b1⟩
        rw [Q.out]
        have T1 := Lib.hid (below_step HB.out (Nat.le_refl _) b1)
        clear b1
        go_wp2_with fail
        go_roundw
        case rel => exact ⟨j + 1, by omega, by go_num, by rw [CT.out, Q.out]; simp, T1.out⟩
        case measure => simp [intOf]; omega
      | false =>
        have Q := Lib.hid hxy; clear hxy
        go_wp2_with fail
        refine (sameRow_any a1 b c1 d x r _ RX.out RK.out lx hm).mono ?_
        rintro e w1 ⟨rfl, b1⟩
        rw [Q.out]
        have T1 := Lib.hid (below_step HB.out (Nat.le_refl _) b1)
        clear b1
        go_wp2_with fail
        go_roundw
        case rel => exact ⟨j + 1, by omega, by go_num, by rw [CT.out, Q.out]; simp, T1.out⟩
        case measure => simp [intOf]; omega
    · obtain rfl : j = l.length := by omega
      have HB := Lib.hid hb; clear hb
      go_wp2_with fail
      go_ret
      exact ⟨ret_int (by rw [List.take_length]), HB.out⟩
end Go.Proofs.YtanfllednlpbaaaGreat
namespace Go.Proofs.YtanfllednlpbaaaGreat
open Go.RowKit
set_option linter.unusedSimpArgs false
set_option linter.unusedVariables false

/-- Whether two lists of nodes are the same. -/
def eqNs : List Nd → List Nd → Bool
  | [], [] => true
  | n :: l, m :: k => eqN n m && eqNs l k
  | _, _ => false
theorem eqNs_refl : ∀ l : List Nd, eqNs l l = true
  | [] => rfl
  | n :: l => by simp [eqNs, eqN_refl, eqNs_refl l]
theorem eqNs_len : ∀ l m : List Nd, l.length ≠ m.length → eqNs l m = false
  | [], [], h => absurd rfl h
  | [], _ :: _, _ => rfl
  | _ :: _, [], _ => rfl
  | n :: l, m :: k, h => by simp only [eqNs]; rw [eqNs_len l k (by simpa using h)]; simp
theorem eqNs_no : ∀ (l m : List Nd) (j : Nat) (x y : Nd), l[j]? = some x → m[j]? = some y → eqN x y = false → eqNs l m = false
  | [], _, j, x, y, h, _, _ => by simp at h
  | _ :: _, [], j, x, y, _, h, _ => by simp at h
  | n :: l, m :: k, 0, x, y, hx, hy, h => by simp at hx hy; subst hx hy; simp [eqNs, h]
  | n :: l, m :: k, j + 1, x, y, hx, hy, h => by simp at hx hy; simp [eqNs, eqNs_no l k j x y hx hy h]
theorem eqNs_yes : ∀ (l m : List Nd), l.length = m.length → (∀ (j : Nat) (x y : Nd), l[j]? = some x → m[j]? = some y → eqN x y = true) → eqNs l m = true
  | [], [], _, _ => rfl
  | [], _ :: _, h, _ => by simp at h
  | _ :: _, [], h, _ => by simp at h
  | n :: l, m :: k, h, hh => by
    simp only [eqNs]
    rw [hh 0 n m rfl rfl, eqNs_yes l k (by simpa using h) fun j x y hx hy => hh (j + 1) x y hx hy]; rfl

set_option maxRecDepth 100000 in
set_option maxHeartbeats 1600000 in
theorem eqNodeS_any (a b : Option Addr) (c d : Nat) (l m : List Nd) (w : World) (h : RdN w a l) (k : RdN w b m) (hn : l.length ≤ maxLen) (hm : m.length ≤ maxLen) :
    Calls Tryz.prog 27 #[.slice a l.length c, .slice b m.length d] w fun e w' => e = .returned (.bool (eqNs l m)) ∧ Below w.heap.size w w' := by
  unfold maxLen at hn hm
  have H := Lib.hid h; clear h
  have K := Lib.hid k; clear k
  by_cases hlen : l.length = m.length
  · have hne : ((l.length : Int) != (m.length : Int)) = false := by simp [hlen]
    have HL := Lib.hid hlen; clear hlen
    go_enter Tryz.func27, Tryz.ntmps27
    go_wp2_with fail
    go_loopw [5] (fun i wr => ∃ j : Nat, j ≤ l.length ∧ i = .int .i64 j ∧ (∀ i x y, i < j → l[i]? = some x → m[i]? = some y → eqN x y = true) ∧ Below w.heap.size w wr) (fun i _ => l.length - (intOf i).toNat)
    case atStart => exact ⟨0, Nat.zero_le _, rfl, fun i x y hi => absurd hi (Nat.not_lt_zero _), Below.refl _ _⟩
    case round =>
      obtain ⟨j, hj, rfl, ht, hb⟩ := hrel
      have HT := Lib.hid ht; clear ht
      by_cases hlt : j < l.length
      · have hlt2 : j < m.length := by have := HL.out; omega
        obtain ⟨b1, o1, x, ax, cx, rfl, hx, hat⟩ := (H.out.below hb).at_ hlt
        obtain ⟨b2, o2, y, ay, cy, rfl, hy, hay⟩ := (K.out.below hb).at_ hlt2
        have X := Lib.hid hx; have Y := Lib.hid hy; have HB := Lib.hid hb
        clear hx hy hb
        obtain ⟨c0, c1, c2, c3, c4, c5, c6, rd, cap, mx, nm⟩ := hat
        obtain ⟨d0, d1, d2, d3, d4, d5, d6, rd', cap', mx', nm'⟩ := hay
        have RD := Lib.hid rd; have RD' := Lib.hid rd'
        have E := Lib.hid (fun W => eqNode_any x y ax ay cx cy W)
        have l1 := Nat.le_trans cap mx; have l2 := Nat.le_trans cap' mx'
        clear rd rd' cap mx cap' mx' nm nm'
        have i1 : (j : Int) < (l.length : Int) := by omega
        have i2 : (j : Int) < (m.length : Int) := by omega
        cases hxy : eqN x y with
        | true =>
          have Q := Lib.hid hxy; clear hxy
          go_wp2_with fail
          go_region_with (go_at_call 66; refine (E.out _ ?_ ?_ l1 l2).mono ?_; exact RD.out; exact RD'.out; rintro e w1 ⟨rfl, b1⟩; rw [Q.out]; have T1 := Lib.hid (below_step HB.out.drew (Nat.le_refl _) b1); clear b1)
          all_goals
            go_wp2_with fail
            go_roundw
            case rel => exact ⟨j + 1, by omega, by go_num, fun i x' y' hi hx' hy' => by
              by_cases hij : i = j
              · subst hij; rw [X.out] at hx'; rw [Y.out] at hy'; cases hx'; cases hy'; exact Q.out
              · exact HT.out i x' y' (by omega) hx' hy', T1.out⟩
            case measure => simp [intOf]; omega
        | false =>
          have Q := Lib.hid hxy; clear hxy
          have F := Lib.hid (eqNs_no l m j x y X.out Y.out Q.out)
          go_wp2_with fail
          go_region_with (go_at_call 66; refine (E.out _ ?_ ?_ l1 l2).mono ?_; exact RD.out; exact RD'.out; rintro e w1 ⟨rfl, b1⟩; rw [Q.out]; have T1 := Lib.hid (below_step HB.out.drew (Nat.le_refl _) b1); clear b1)
          all_goals
            go_wp2_with fail
            go_ret
            exact ⟨ret_bool F.out.symm, T1.out⟩
      · have HB := Lib.hid hb; clear hb
        go_wp2_with fail
        go_ret
        refine ⟨ret_bool (eqNs_yes l m HL.out fun i x y hx hy => HT.out i x y ?_ hx hy).symm, HB.out⟩
        have : i < l.length := by
          rcases Nat.lt_or_ge i l.length with h1 | h1
          · exact h1
          · rw [List.getElem?_eq_none h1] at hx; cases hx
        omega
  · have hne : ((l.length : Int) != (m.length : Int)) = true := by simp; omega
    have HF := Lib.hid (eqNs_len l m hlen)
    go_enter Tryz.func27, Tryz.ntmps27
    go_wp2_with fail
    go_ret
    exact ⟨ret_bool HF.out.symm, Below.refl _ _⟩
end Go.Proofs.YtanfllednlpbaaaGreat
namespace Go.Proofs.YtanfllednlpbaaaGreat
open Go.RowKit
set_option linter.unusedSimpArgs false
set_option linter.unusedVariables false

set_option maxHeartbeats 800000 in
theorem sameInts_any (a b : Option Addr) (c d : Nat) (l m : List Int) (w : World) (h : Rd w .i64 a l) (k : Rd w .i64 b m) (hn : l.length ≤ maxLen) (hm : m.length ≤ maxLen) :
    Calls Tryz.prog 136 #[.slice a l.length c, .slice b m.length d] w fun e w' => e = .returned (.bool (eqL l m)) ∧ Below w.heap.size w w' := by
  unfold maxLen at hn hm
  by_cases hlen : l.length = m.length
  · have hne : ((l.length : Int) != (m.length : Int)) = false := by simp [hlen]
    have HL := Lib.hid hlen; clear hlen
    rcases h with rfl | ⟨b1, o1, rfl, hc⟩
    · have hm0 : m = [] := List.eq_nil_of_length_eq_zero HL.out.symm
      subst hm0
      clear hne
      go_enter Tryz.func136, Tryz.ntmps136
      go_wp2
      refine wp_loop_rounds 1 ?_; rw [rounds_succ]; go_wp2
      go_ret
      exact ⟨rfl, Below.refl _ _⟩
    · rcases k with rfl | ⟨b2, o2, rfl, kc⟩
      · have hl0 : l = [] := List.eq_nil_of_length_eq_zero HL.out
        subst hl0
        clear hne hc
        go_enter Tryz.func136, Tryz.ntmps136
        go_wp2
        refine wp_loop_rounds 1 ?_; rw [rounds_succ]; go_wp2
        go_ret
        exact ⟨rfl, Below.refl _ _⟩
      · have HC := Lib.hid hc; have KC := Lib.hid kc; clear hc kc
        go_enter Tryz.func136, Tryz.ntmps136
        go_wp2
        go_loopw [5] (fun i wr => ∃ j q : Nat, j ≤ l.length ∧ i = .int .i64 j ∧ l.take j = m.take j ∧ wr = w.drewN q) (fun i _ => l.length - (intOf i).toNat)
        case atStart => exact ⟨0, 0, Nat.zero_le _, rfl, rfl, rfl⟩
        case round =>
          obtain ⟨j, q, hj, rfl, ht, rfl⟩ := hrel
          have HT := Lib.hid ht; clear ht
          by_cases hlt : j < l.length
          · have hlt2 : j < m.length := by have := HL.out; omega
            obtain ⟨x, _, hx, hcx, htx⟩ := Rd.at_ HC.out hlt
            obtain ⟨y, _, hy, hcy, hty⟩ := Rd.at_ KC.out hlt2
            have X := Lib.hid hx; have Y := Lib.hid hy; have TX := Lib.hid htx; have TY := Lib.hid hty
            clear hx hy htx hty
            have i1 : (j : Int) < (l.length : Int) := by omega
            have i2 : (j : Int) < (m.length : Int) := by omega
            by_cases hxy : x = y
            · subst hxy
              have hb : (x != x) = false := by simp
              go_wp2
              go_quiet (fail)
              go_wp2
              go_roundw
              case rel => exact ⟨j + 1, _, by omega, by go_num, by rw [TX.out, TY.out, HT.out], by first | rfl | rw [World.drewN_drewN]⟩
              case measure => simp [intOf]; omega
            · have hb : (x != y) = true := by simp [hxy]
              have HF := Lib.hid (eqL_no hxy X.out Y.out)
              clear hxy
              go_wp2
              go_quiet (fail)
              go_wp2
              go_ret
              exact ⟨ret_bool HF.out.symm, by first | exact below_drewN (Below.refl _ _) _ | exact below_drewN (below_drewN (Below.refl _ _) _) _⟩
          · go_wp2
            go_ret
            exact ⟨ret_bool (eqL_yes HL.out (by omega) HT.out).symm, below_drewN (Below.refl _ _) _⟩
  · have hne : ((l.length : Int) != (m.length : Int)) = true := by simp; omega
    have HF : Hid (eqL l m = false) := by
      show eqL l m = false
      unfold eqL; simp; rintro rfl; exact hlen rfl
    go_enter Tryz.func136, Tryz.ntmps136
    go_wp2
    go_ret
    exact ⟨ret_bool HF.out.symm, Below.refl _ _⟩
end Go.Proofs.YtanfllednlpbaaaGreat
namespace Go.Proofs.YtanfllednlpbaaaGreat
open Go.RowKit
set_option linter.unusedSimpArgs false
set_option linter.unusedVariables false

set_option maxRecDepth 100000 in
set_option maxHeartbeats 1600000 in
theorem specCountSame_any (a b : Option Addr) (c d : Nat) (l : List (List Int)) (r : List Int) (w : World) (h : RdR w a l) (k : Rd w .i64 b r) (hn : l.length ≤ 1048576) (hm : r.length ≤ maxLen) :
    Calls Tryz.prog 117 #[.slice a l.length c, .slice b r.length d] w fun e w' => e = .returned (.int .i64 (countL l r)) ∧ Below w.heap.size w w' := by
  have H := Lib.hid h; clear h
  have K := Lib.hid k; clear k
  go_enter Tryz.func117, Tryz.ntmps117
  go_wp2_with fail
  go_loopw [5, 6] (fun q i wr => ∃ j : Nat, j ≤ l.length ∧ i = .int .i64 j ∧ q = .int .i64 (countL (l.take j) r) ∧ Below w.heap.size w wr) (fun _ i _ => l.length - (intOf i).toNat)
  case atStart => exact ⟨0, Nat.zero_le _, rfl, rfl, Below.refl _ _⟩
  case round =>
    obtain ⟨j, hj, rfl, rfl, hb⟩ := hrel
    have q0 := countL_take_le l j r
    by_cases hlt : j < l.length
    · obtain ⟨b1, o1, x, a1, c1, rfl, hx, ⟨e0, rx, cx, mx⟩⟩ := (H.out.below hb).at_ hlt
      have X := Lib.hid hx; have HB := Lib.hid hb; have RX := Lib.hid rx
      have RK := Lib.hid (K.out.below hb)
      have CT := Lib.hid (countL_take (r := r) hx)
      have lx := Nat.le_trans cx mx
      clear hx hb rx cx mx
      cases hxy : eqL x r with
      | true =>
        have Q := Lib.hid hxy; clear hxy
        go_wp2_with fail
        refine (sameInts_any a1 b c1 d x r _ RX.out RK.out lx hm).mono ?_
        rintro e w1 ⟨rfl, b1⟩
        rw [Q.out]
        have T1 := Lib.hid (below_step HB.out (Nat.le_refl _) b1)
        clear b1
        go_wp2_with fail
        go_roundw
        case rel => exact ⟨j + 1, by omega, by go_num, by rw [CT.out, Q.out]; simp, T1.out⟩
        case measure => simp [intOf]; omega
      | false =>
        have Q := Lib.hid hxy; clear hxy
        go_wp2_with fail
        refine (sameInts_any a1 b c1 d x r _ RX.out RK.out lx hm).mono ?_
        rintro e w1 ⟨rfl, b1⟩
        rw [Q.out]
        have T1 := Lib.hid (below_step HB.out (Nat.le_refl _) b1)
        clear b1
        go_wp2_with fail
        go_roundw
        case rel => exact ⟨j + 1, by omega, by go_num, by rw [CT.out, Q.out]; simp, T1.out⟩
        case measure => simp [intOf]; omega
    · obtain rfl : j = l.length := by omega
      have HB := Lib.hid hb; clear hb
      go_wp2_with fail
      go_ret
      exact ⟨ret_int (by rw [List.take_length]), HB.out⟩
end Go.Proofs.YtanfllednlpbaaaGreat
namespace Go.Proofs.YtanfllednlpbaaaGreat
open Go.RowKit
set_option linter.unusedSimpArgs false
set_option linter.unusedVariables false

theorem totR_sortL (l : List (List Int)) : totR (sortL lessL l) = totR l := by
  have hi : ∀ (x : List Int) (l : List (List Int)), totR (insL lessL x l) = x.length + totR l := by
    intro x l
    induction l with
    | nil => simp [insL, totR]
    | cons y l ih =>
      unfold insL
      split
      · simp [totR]
      · have e : ∀ (a : List Int) (m : List (List Int)), totR (a :: m) = a.length + totR m := fun a m => by simp [totR]
        rw [e, e, ih]; omega
  have key : ∀ (l acc : List (List Int)), totR (l.foldl (fun out x => insL lessL x out) acc) = totR acc + totR l := by
    intro l
    induction l with
    | nil => intro acc; simp [totR]
    | cons x l ih =>
      intro acc
      have e : totR (x :: l) = x.length + totR l := by simp [totR]
      rw [List.foldl_cons, ih, hi, e]; omega
  have := key l []
  simpa [sortL, totR] using this
theorem sortO_tot (l : List (List Int)) : totR (sortO l) ≤ totR l := by
  unfold sortO
  split
  · simp [totR]
  · rw [totR_sortL]; exact Nat.le_refl _
theorem sortO_len (l : List (List Int)) : (sortO l).length ≤ l.length := by
  unfold sortO
  split
  · simp
  · rw [sortL_len]; exact Nat.le_refl _
/-- Whether two have the same rows, each as often. -/
def bagB (l m : List (List Int)) : Bool := decide (l.length ≤ 200) && (decide (m.length ≤ 200) && eqR (sortO l) (sortO m))
theorem bagB_l {l m : List (List Int)} (h : 200 < l.length) : bagB l m = false := by unfold bagB; rw [decide_eq_false (by omega)]; rfl
theorem bagB_m {l m : List (List Int)} (h : 200 < m.length) : bagB l m = false := by unfold bagB; rw [decide_eq_false (p := m.length ≤ 200) (by omega)]; simp
theorem bagB_y {l m : List (List Int)} (h : l.length ≤ 200) (k : m.length ≤ 200) : bagB l m = eqR (sortO l) (sortO m) := by unfold bagB; rw [decide_eq_true h, decide_eq_true k]; rfl

set_option maxRecDepth 100000 in
theorem implSameBag_any (a b : Option Addr) (c d : Nat) (l m : List (List Int)) (w : World) (h : RdR w a l) (k : RdR w b m) (hl : l.length ≤ 1048576) (hm : m.length ≤ 1048576) (hr : ∀ r ∈ l, r.length ≤ 1048576) (hs : ∀ r ∈ m, r.length ≤ 1048576) :
    Calls Tryz.prog 17 #[.slice a l.length c, .slice b m.length d] w fun e w' => e = .returned (.bool (bagB l m)) ∧ Below w.heap.size w w' := by
  have H := Lib.hid h; have K := Lib.hid k; have HR := Lib.hid hr; have HS := Lib.hid hs
  clear h k hr hs
  have l9 : l.length ≤ 9223372036854775807 := by omega
  have m9 : m.length ≤ 9223372036854775807 := by omega
  by_cases h1 : 200 < l.length
  · have E := Lib.hid (bagB_l (m := m) h1)
    have z1 : (200 : Int) < (l.length : Int) := by omega
    go_enter Tryz.func17, Tryz.ntmps17
    go_wp2_with fail
    go_ret
    exact ⟨ret_bool E.out.symm, Below.refl _ _⟩
  · have z1 : (l.length : Int) ≤ 200 := by omega
    by_cases h2 : 200 < m.length
    · have E := Lib.hid (bagB_m (l := l) h2)
      have z2 : (200 : Int) < (m.length : Int) := by omega
      go_enter Tryz.func17, Tryz.ntmps17
      go_wp2_with fail
      go_ret
      exact ⟨ret_bool E.out.symm, Below.refl _ _⟩
    · have z2 : (m.length : Int) ≤ 200 := by omega
      have E := Lib.hid (bagB_y (l := l) (m := m) (by omega) (by omega))
      have L1 := Lib.hid (show (sortO l).length ≤ maxLen by have := sortO_len l; unfold maxLen; omega)
      have L2 := Lib.hid (show (sortO m).length ≤ maxLen by have := sortO_len m; unfold maxLen; omega)
      go_enter Tryz.func17, Tryz.ntmps17
      go_wp2_with fail
      refine (implSortRows_any a c l _ H.out hl HR.out).mono ?_
      rintro e w1 ⟨a1, c1, rfl, o1, _, _, b1⟩
      have B1 := Lib.hid b1
      have O1 := Lib.hid o1
      have K1 := Lib.hid (K.out.below b1)
      clear o1 b1
      go_wp2_with fail
      refine (implSortRows_any b d m _ K1.out hm HS.out).mono ?_
      rintro e w2 ⟨a2, c2, rfl, o2, _, _, b2⟩
      have B2 := Lib.hid (below_step B1.out (Nat.le_refl _) b2)
      have O1' := Lib.hid (O1.out.below b2).rd
      have O2 := Lib.hid o2.rd
      clear o2 b2
      go_wp2_with fail
      refine (implSameRows_any a1 a2 c1 c2 (sortO l) (sortO m) _ O1'.out O2.out L1.out L2.out).mono ?_
      rintro e w3 ⟨rfl, b3⟩
      have B3 := Lib.hid (below_step B2.out (Nat.le_refl _) b3)
      clear b3
      go_wp2_with fail
      go_ret
      exact ⟨ret_bool E.out.symm, B3.out⟩

end Go.Proofs.YtanfllednlpbaaaGreat
namespace Go.Proofs.YtanfllednlpbaaaGreat
open Go.RowKit
set_option linter.unusedSimpArgs false
set_option linter.unusedVariables false

theorem lessL_eq : ∀ a b : List Int, lessL a b = false → lessL b a = false → a = b
  | [], [], _, _ => rfl
  | [], _ :: _, h, _ => by simp [lessL] at h
  | _ :: _, [], _, h => by simp [lessL] at h
  | x :: a, y :: b, h, k => by
    unfold lessL at h k
    by_cases e : x = y
    · subst e
      rw [if_pos rfl] at h k
      rw [lessL_eq a b h k]
    · rw [if_neg e, decide_eq_false_iff_not] at h
      rw [if_neg (fun e' => e e'.symm), decide_eq_false_iff_not] at k
      omega
theorem eqv_lessL (r : List Int) : eqv lessL r = fun x => eqL x r := by
  funext x
  unfold eqv eqL
  by_cases e : x = r
  · subst e
    have := wkL.irr x
    simp [this]
  · rw [decide_eq_false e]
    cases h1 : lessL r x with
    | true => rfl
    | false =>
      cases h2 : lessL x r with
      | true => rfl
      | false => exact absurd (lessL_eq x r h2 h1) e
theorem countL_sort (l : List (List Int)) (r : List Int) : countL (sortL lessL l) r = countL l r := by
  have := (sortL_asc wkL l).2 r
  rw [eqv_lessL] at this
  unfold countL
  rw [this]
theorem sortO_few {l : List (List Int)} (h : l.length ≤ 200) : sortO l = sortL lessL l := by unfold sortO; rw [if_neg (by omega)]
theorem sortO_many {l : List (List Int)} (h : 200 < l.length) : sortO l = [] := by unfold sortO; rw [if_pos h]
theorem sort_sort (l : List (List Int)) : sortL lessL (sortL lessL l) = sortL lessL l := (sortL_uniq wkL (sortL_asc wkL l).1 (SE.refl _)).symm
theorem bag_sort {l : List (List Int)} (h : l.length ≤ 200) : bagB l (sortO l) = true := by
  have hl : (sortO l).length ≤ 200 := by have := sortO_len l; omega
  rw [bagB_y h hl, sortO_few hl, sortO_few h, sort_sort, eqR_refl]
theorem sort_step {l : List (List Int)} {i : Nat} {x y : List Int} (hx : (sortL lessL l)[i]? = some x) (hy : (sortL lessL l)[i + 1]? = some y) : lessL y x = false := by
  have h := (sortL_asc wkL l).1
  unfold Asc at h
  rw [List.pairwise_iff_getElem] at h
  obtain ⟨h1, rfl⟩ := List.getElem?_eq_some_iff.1 hx
  obtain ⟨h2, rfl⟩ := List.getElem?_eq_some_iff.1 hy
  exact h i (i + 1) h1 h2 (by omega)
theorem colL_all {l : List (List Int)} (h : ∀ r ∈ l, 1 ≤ r.length) : (colL l 0).length = l.length := by
  induction l with
  | nil => rfl
  | cons r l ih =>
    have h1 := h r (by simp)
    have ih := ih (fun x hx => h x (by simp [hx]))
    unfold colL at ih ⊢
    cases r with
    | nil => simp at h1
    | cons z r => simp [ih]
theorem colO_all {l : List (List Int)} (h : ∀ r ∈ l, 1 ≤ r.length) : (colO l 0).length = l.length := by
  unfold colO; rw [if_neg (by omega)]; exact colL_all h
end Go.Proofs.YtanfllednlpbaaaGreat
