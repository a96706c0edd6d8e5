/-
  Contracts of the helpers over slices of rows: szIntSS, toIntSS, eqIntSS. For every slice of rows.
-/
import Derived.Test.YtfbgflmolkgopaaGr
import Derived.Deep.RegionWith
namespace Go.Proofs.Ytfbgflmolkgopaa
open Go.RowKit
set_option linter.unusedSimpArgs false
set_option linter.unusedVariables false

theorem Try.infoSl : (Try.prog.info? 32).map (fun i => (i.zero, i.size, i.bytes)) = some (some (.slice none 0 0), 1, 24) := by kernel_rfl

/-- How many values there are. -/
def totR (l : List (List Int)) : Nat := (l.map List.length).sum
theorem totR_take {l : List (List Int)} {k : Nat} {r : List Int} (h : l[k]? = some r) : totR (l.take (k + 1)) = totR (l.take k) + r.length := by
  rw [List.take_add_one, h]; simp [totR]
theorem totR_mem {l : List (List Int)} {r : List Int} (h : r ∈ l) : r.length ≤ totR l := by
  unfold totR
  induction l with
  | nil => cases h
  | cons m l ih =>
    rcases List.mem_cons.1 h with rfl | h
    · simp only [List.map_cons, List.sum_cons]; omega
    · have := ih h; simp only [List.map_cons, List.sum_cons]; omega
def SzPostR (w : World) (l : List (List Int)) (left : Int) (e : Ending) (w' : World) : Prop :=
  ∃ r : Int, e = .returned (.int .i64 r) ∧ w = w' ∧ (r = -1 ∨ (0 ≤ r ∧ r + l.length + totR l = left))

set_option maxHeartbeats 800000 in
theorem szIntSS_any (ao : Option Addr) (c : Nat) (l : List (List Int)) (left : Int) (w : World) (h : RdR w ao l) (hl : l.length ≤ maxLen) (h0 : 0 ≤ left) (h1 : left ≤ 1048576) :
    Calls Try.prog 20 #[.slice ao l.length c, .int .i64 left] w (SzPostR w l left) := by
  have hl' := hl; unfold maxLen at hl'
  have H := Lib.hid h; clear h
  by_cases hlt : left < (l.length : Int)
  · have h2 : left - (l.length : Int) < 0 := by omega
    go_enter Try.func20, Try.ntmps20
    go_wp2_with fail
    go_ret
    exact ⟨-1, rfl, rfl, .inl rfl⟩
  · have h2 : 0 ≤ left - (l.length : Int) := by omega
    have h3 : (l.length : Int) ≤ left := by omega
    clear hl' hl
    go_enter Try.func20, Try.ntmps20
    go_wp2_with fail
    go_loop [1, 5] (fun r i => ∃ (k : Nat) (q : Int), k ≤ l.length ∧ i = .int .i64 k ∧ r = .int .i64 q ∧ 0 ≤ q ∧ q + l.length + totR (l.take k) = left) (fun _ i => l.length - (intOf i).toNat)
    case atStart => exact ⟨0, _, Nat.zero_le _, rfl, rfl, by omega, by simp [totR]⟩
    case round =>
      obtain ⟨k, q, hk, rfl, rfl, hq0, hq⟩ := hrel
      have HQ := Lib.hid hq; clear hq
      have hq1 : q ≤ 1048576 := by have := HQ.out; omega
      by_cases hlt2 : k < l.length
      · obtain ⟨b, off, n, a, c', rfl, hn, hat⟩ := H.out.at_ hlt2
        have HN := Lib.hid hn; clear hn
        obtain ⟨c0, rd, cap, mx⟩ := hat
        have cl : n.length ≤ maxLen := Nat.le_trans cap mx
        have Z := Lib.hid (szIntS_any a c' n q)
        clear cap mx rd
        go_wp2_with fail
        refine (Z.out _ hq0 hq1 cl).mono ?_
        rintro e w1 ⟨rfl, rfl⟩
        by_cases hs : q < (n.length : Int)
        · rw [if_pos hs]
          go_wp2_with fail
          go_ret
          exact ⟨-1, rfl, rfl, .inl rfl⟩
        · rw [if_neg hs]
          have hs' : 0 ≤ q - (n.length : Int) := by omega
          generalize hq' : q - (n.length : Int) = q' at hs' ⊢
          have S := Lib.hid hq'; clear hq' hs
          go_wp2_with fail
          go_round
          case rel => exact ⟨k + 1, q', by omega, by go_num, rfl, hs', by have := S.out; have := HQ.out; rw [totR_take HN.out]; omega⟩
          case measure => simp [intOf]; omega
      · have e : k = l.length := by omega
        subst e
        go_wp2_with fail
        go_ret
        exact ⟨q, rfl, rfl, .inr ⟨hq0, by have := HQ.out; rwa [List.take_length] at this⟩⟩

set_option maxRecDepth 100000 in
set_option maxHeartbeats 1600000 in
theorem toIntSS_any (ao : Option Addr) (c : Nat) (l : List (List Int)) (w : World) (h : RdR w ao l) (hl : l.length ≤ 1048576) (hc : ∀ r ∈ l, r.length ≤ 1048576) :
    Calls Try.prog 22 #[.slice ao l.length c] w (MadeR w l) := by
  obtain ⟨i0, hi, hz0, hz1, hz2⟩ := info_parts Try.infoSl
  have H := Lib.hid h; clear h
  have HC := Lib.hid hc; clear hc
  go_enter Try.func22, Try.ntmps22
  go_wp2_with (at_make; refine wpList_make_full _ rfl (.tmp 6) (.tmp 6) 40 rfl w.heap.size 32 i0 _ 1 Try.underlying40 hi hz0 hz1 .i64 .i64 _ _ l.length rfl rfl rfl rfl (by rw [hz2]; omega) (by unfold maxLen; omega) (Nat.le_refl _) ?_; intro w1 hown hgrow)
  have hbel : Below w.heap.size w w1 := below_of_grown hgrow (Nat.le_refl _) (by intro g hg; cases hg)
  clear hgrow hi hz0 hz1 hz2
  have P0 : Hid (∃ xs A C, PartR w1 w.heap.size w.heap.size l.length l.length l 0 xs A C) :=
    ⟨_, fun _ => none, fun _ => 0, hown, fun i n hi => absurd hi (Nat.not_lt_zero _), fun i n hi => absurd hi (Nat.not_lt_zero _), fun i x hi => absurd hi (Nat.not_lt_zero _), fun i k x y hi => absurd hi (Nat.not_lt_zero _)⟩
  clear hown
  go_loopw [4] (fun i wr => ∃ j : Nat, j ≤ l.length ∧ i = .int .i64 j ∧ (∃ xs A C, PartR wr w.heap.size w.heap.size l.length l.length l j xs A C) ∧ Below w.heap.size w wr) (fun i _ => l.length - (intOf i).toNat)
  case atStart => exact ⟨0, Nat.zero_le _, rfl, P0.out, hbel⟩
  case round =>
    clear P0 hbel
    obtain ⟨j, hj, rfl, ⟨xs, A, C, hp⟩, hb⟩ := hrel
    by_cases hlt : j < l.length
    · obtain ⟨b, off, n, a, c', rfl, hn, hat⟩ := (H.out.below hb).at_ hlt
      have hcl := HC.out n (List.mem_of_getElem? hn)
      have HN := Lib.hid hn; clear hn
      have HB := Lib.hid hb; clear hb
      have HP := Lib.hid hp; clear hp
      obtain ⟨c0, rd, cap, mx⟩ := hat
      have RD := Lib.hid rd; clear rd cap mx
      have T := Lib.hid (toIntS_any a c' n)
      go_wp2_with fail
      refine (T.out _ RD.out (by omega)).mono ?_
      rintro e w2 ⟨a2, c2', rfl, o2, b2⟩
      have hg : w.heap.size < w2.heap.size := Nat.lt_of_lt_of_le (owns_block HP.out.own).2 b2.size
      have HP2 := Lib.hid (HP.out.below b2)
      obtain ⟨y0, e0⟩ := HP2.out.some_ (o := j) (by omega)
      have hf := HP2.out.frozen
      have R := Lib.hid (HP.out.put hlt HN.out b2 o2 HB.out.size)
      have T2 := Lib.hid ((below_step HB.out (Nat.le_refl _) b2).setCell (p := ⟨w.heap.size, j, none⟩) (Nat.le_refl _) (.slice a2 n.length c2'))
      clear o2 b2 c0
      go_wp2_with fail
      go_roundw
      case rel => exact ⟨j + 1, by omega, by go_num, ⟨_, _, _, R.out⟩, T2.out⟩
      case measure => simp [intOf]; omega
    · have e : j = l.length := by omega
      subst e
      have HB := Lib.hid hb; have HP := Lib.hid hp; clear hb hp
      go_wp2_with fail
      go_ret
      exact ⟨_, _, rfl, .inr ⟨_, _, _, _, rfl, HP.out⟩, Nat.le_refl _, by unfold maxLen; omega, HB.out⟩

/-- Whether two lists of rows are the same. -/
def eqR (l m : List (List Int)) : Bool := decide (l = m)
theorem eqR_refl (l : List (List Int)) : eqR l l = true := by simp [eqR]
theorem eqR_no {l m : List (List Int)} {j : Nat} {x y : List Int} (hx : l[j]? = some x) (hy : m[j]? = some y) (h : eqL x y = false) : eqR l m = false := by
  unfold eqR; simp; rintro rfl; rw [hx] at hy; cases hy; rw [eqL_refl] at h; cases h
theorem eqR_yes {l m : List (List Int)} {j : Nat} (h : l.length = m.length) (hj : l.length ≤ j) (ht : l.take j = m.take j) : eqR l m = true := by
  unfold eqR; simp; rw [List.take_of_length_le hj, List.take_of_length_le (by omega)] at ht; exact ht
theorem eqR_len {l m : List (List Int)} (h : l.length ≠ m.length) : eqR l m = false := by
  unfold eqR; simp; rintro rfl; exact h rfl
theorem eqL_eq {x y : List Int} (h : eqL x y = true) : x = y := by unfold eqL at h; simpa using h
theorem take_eq_step {α : Type} {l m : List α} {j : Nat} {x : α} (ht : l.take j = m.take j) (hx : l[j]? = some x) (hy : m[j]? = some x) : l.take (j + 1) = m.take (j + 1) := by
  rw [List.take_add_one, List.take_add_one, ht, hx, hy]

set_option maxRecDepth 100000 in
set_option maxHeartbeats 1600000 in
theorem eqIntSS_any (a b : Option Addr) (c d : Nat) (l m : List (List Int)) (w : World) (h : RdR w a l) (k : RdR w b m) (hn : l.length ≤ maxLen) (hm : m.length ≤ maxLen) :
    Calls Try.prog 24 #[.slice a l.length c, .slice b m.length d] w fun e w' => e = .returned (.bool (eqR l m)) ∧ Below w.heap.size w w' := by
  unfold maxLen at hn hm
  have H := Lib.hid h; clear h
  have K := Lib.hid k; clear k
  by_cases hlen : l.length = m.length
  · have hne : ((l.length : Int) != (m.length : Int)) = false := by simp [hlen]
    have HL := Lib.hid hlen; clear hlen
    go_enter Try.func24, Try.ntmps24
    go_wp2_with fail
    go_loopw [5] (fun i wr => ∃ j : Nat, j ≤ l.length ∧ i = .int .i64 j ∧ l.take j = m.take j ∧ Below w.heap.size w wr) (fun i _ => l.length - (intOf i).toNat)
    case atStart => exact ⟨0, Nat.zero_le _, rfl, rfl, Below.refl _ _⟩
    case round =>
      obtain ⟨j, hj, rfl, ht, hb⟩ := hrel
      have HT := Lib.hid ht; clear ht
      by_cases hlt : j < l.length
      · have hlt2 : j < m.length := by have := HL.out; omega
        obtain ⟨b1, o1, x, a1, c1, rfl, hx, ⟨e0, rx, cx, mx⟩⟩ := (H.out.below hb).at_ hlt
        obtain ⟨b2, o2, y, a2, c2, rfl, hy, ⟨f0, ry, cy, my⟩⟩ := (K.out.below hb).at_ hlt2
        have X := Lib.hid hx; have Y := Lib.hid hy; have HB := Lib.hid hb
        have RX := Lib.hid rx; have RY := Lib.hid ry
        clear hx hy hb rx ry
        have lx := Nat.le_trans cx mx
        have ly := Nat.le_trans cy my
        have E := Lib.hid (fun W h1 h2 => eqIntS_any a1 a2 c1 c2 x y W h1 h2 lx ly)
        clear cx mx cy my lx ly
        have i1 : (j : Int) < (l.length : Int) := by omega
        have i2 : (j : Int) < (m.length : Int) := by omega
        cases hxy : eqL x y with
        | true =>
          have Q := Lib.hid hxy; clear hxy
          go_wp2_with fail
          go_region_with (go_at_call 54; refine (E.out _ (RX.out.below ((Below.refl _ _).drew)) (RY.out.below ((Below.refl _ _).drew))).mono ?_; rintro e w1 ⟨rfl, b1⟩; rw [Q.out]; have T1 := Lib.hid (below_step HB.out.drew (Nat.le_refl _) b1); clear b1)
          all_goals
            go_wp2_with fail
            go_roundw
            case rel => exact ⟨j + 1, by omega, by go_num, take_eq_step HT.out X.out (by rw [eqL_eq Q.out]; exact Y.out), T1.out⟩
            case measure => simp [intOf]; omega
        | false =>
          have Q := Lib.hid hxy; clear hxy
          have F := Lib.hid (eqR_no X.out Y.out Q.out)
          go_wp2_with fail
          go_region_with (go_at_call 54; refine (E.out _ (RX.out.below ((Below.refl _ _).drew)) (RY.out.below ((Below.refl _ _).drew))).mono ?_; rintro e w1 ⟨rfl, b1⟩; rw [Q.out]; have T1 := Lib.hid (below_step HB.out.drew (Nat.le_refl _) b1); clear b1)
          all_goals
            go_wp2_with fail
            go_ret
            exact ⟨ret_bool F.out.symm, T1.out⟩
      · have HB := Lib.hid hb; clear hb
        go_wp2_with fail
        go_ret
        exact ⟨ret_bool (eqR_yes HL.out (by omega) HT.out).symm, HB.out⟩
  · have hne : ((l.length : Int) != (m.length : Int)) = true := by simp; omega
    have HF := Lib.hid (eqR_len hlen)
    go_enter Try.func24, Try.ntmps24
    go_wp2_with fail
    go_ret
    exact ⟨ret_bool HF.out.symm, Below.refl _ _⟩
end Go.Proofs.Ytfbgflmolkgopaa
