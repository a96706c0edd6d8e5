/-
  Contracts of impl.EvalPlan and impl.SizesOf. For every store and every plan. Contracts of eqTable and eqTableS. For every two slices of tables. Contract of toNodeS. For every slice of nodes. Contracts of the helpers over slices of nodes: szNodeS, eqNodeS. For every slice of nodes. What szNodeS tells of a list of nodes: it is small. No walk. Contracts of markTableS and heldTableS. For every row of tables of the call's own.
-/
import Derived.Test.YtanfllednlpbaaaGreatJ49x
import Derived.Test.YtanfllednlpbaaaGreatJ27x
import Derived.Test.YtanfllednlpbaaaGreatJ47x
import Derived.Test.YtanfllednlpbaaaGreatJ9x
import Derived.Test.YtanfllednlpbaaaGreatJ3x
import Derived.Test.YtanfllednlpbaaaGreatJ15x
import Derived.Deep.RegionWith
import Derived.Test.YtanfllednlpbaaaGreatJ17x
import Derived.Test.YtanfllednlpbaaaGreatJ6x
namespace Go.Proofs.YtanfllednlpbaaaGreat
open Go.RowKit
set_option linter.unusedSimpArgs false
set_option linter.unusedVariables false

set_option maxHeartbeats 1600000 in
theorem implEval_any (sa : Option Addr) (cs : Nat) (s : List Tb) (ra : Option Addr) (cr : Nat) (l : List RowsL) (pa : Option Addr) (cp : Nat) (p : List Nd) (w : World) (hs : RdT w sa s) (hr : RdRR w ra l) (hp : RdN w pa p) (hsl : s.length ≤ 1048576) (hrl : l.length ≤ 1048576) (hrr : ∀ x ∈ l, x.length ≤ 1048576 ∧ ∀ y ∈ x, y.length ≤ 1048576) (hpl : Small p) :
    Calls Tryz.prog 9 #[.slice sa s.length cs, .slice ra l.length cr, .slice pa p.length cp] w (EvalPost w s l p) := by
  have ME := Lib.hid (meaning_any sa cs s ra cr l pa cp p w hs hr hp hsl hrl hrr hpl)
  obtain ⟨h200, h64⟩ := evO_small s l p
  have H64 := Lib.hid h64
  have EP := Lib.hid (show EvalPost w s l p = fun e w' => ∃ a c, e = .returned (.tuple #[.slice a (evO s l p).1.length c, .int .i64 (evO s l p).2]) ∧ OwnR w' w.heap.size a c (evO s l p).1 ∧ (evO s l p).1.length ≤ c ∧ c ≤ maxLen ∧ Below w.heap.size w w' from rfl)
  rw [EP.out]
  have MP := Lib.hid (show ∀ e w', MeanPost w s l p e w' → ∃ a m c sa sm sc, e = .returned (.tuple #[.slice a m c, .slice sa sm sc, .int .i64 (evO s l p).2]) ∧ m = (evO s l p).1.length ∧ RdR w' a (evO s l p).1 ∧ Below w.heap.size w w' from fun e w' ⟨a, m, c, sa, sm, sc, h1, h2, h3, _, _, _, _, h4⟩ => ⟨a, m, c, sa, sm, sc, h1, h2, h3, h4⟩)
  generalize (evO s l p).1 = x at h200 H64 MP ⊢
  generalize (evO s l p).2 = code at MP ⊢
  clear hs hr hp hrr hpl h64 EP
  go_enter Tryz.func9, Tryz.ntmps9
  go_wp2_with fail
  refine ME.out.mono ?_
  intro e w1 he
  obtain ⟨a, m, c, sa', sm, sc, rfl, rfl, hrd, b1⟩ := MP.out e w1 he
  have B1 := Lib.hid b1
  have CP := Lib.hid (copyRows_any a c x w1 hrd (by omega) (fun r hr => by have := H64.out r hr; omega))
  clear he hrd b1
  go_wp2_with fail
  refine CP.out.mono ?_
  intro e w2 h5
  have M := Lib.hid (h5.base B1.out)
  obtain ⟨ao3, c3, rfl, _⟩ := h5
  clear CP
  go_wp2_with fail
  first | go_ret | go_ret2
  obtain ⟨ao4, c4, e4, o4, k4, k5, k6⟩ := M.out
  simp only [Ending.returned.injEq, Value.slice.injEq] at e4
  obtain ⟨rfl, _, rfl⟩ := e4
  exact ⟨_, _, rfl, o4, k4, k5, k6⟩
set_option maxHeartbeats 1600000 in
theorem implSizes_any (sa : Option Addr) (cs : Nat) (s : List Tb) (ra : Option Addr) (cr : Nat) (l : List RowsL) (pa : Option Addr) (cp : Nat) (p : List Nd) (w : World) (hs : RdT w sa s) (hr : RdRR w ra l) (hp : RdN w pa p) (hsl : s.length ≤ 1048576) (hrl : l.length ≤ 1048576) (hrr : ∀ x ∈ l, x.length ≤ 1048576 ∧ ∀ y ∈ x, y.length ≤ 1048576) (hpl : Small p) :
    Calls Tryz.prog 12 #[.slice sa s.length cs, .slice ra l.length cr, .slice pa p.length cp] w (SizesPost w s l p) := by
  have ME := Lib.hid (meaning_any sa cs s ra cr l pa cp p w hs hr hp hsl hrl hrr hpl)
  clear hs hr hp hrr hpl
  go_enter Tryz.func12, Tryz.ntmps12
  go_wp2_with fail
  refine ME.out.mono ?_
  intro e w1 he
  obtain ⟨a, m, c, sa', sm, sc, rfl, _, _, hsm, ho, k1, k2, b1⟩ := he
  have HO := Lib.hid ho
  have B1 := Lib.hid b1
  have K := Lib.hid hsm
  clear ho b1 hsm
  go_wp2_with fail
  first | go_ret | go_ret2
  obtain rfl := K.out
  exact ⟨_, _, rfl, HO.out, k1, k2, B1.out⟩
end Go.Proofs.YtanfllednlpbaaaGreat
namespace Go.Proofs.YtanfllednlpbaaaGreat
open Go.RowKit
set_option linter.unusedSimpArgs false
set_option linter.unusedVariables false

/-- Whether two tables are the same. -/
def eqTb (x y : Tb) : Bool := (x.name.toList == y.name.toList) && (x.width == y.width)
theorem eqTb_refl (x : Tb) : eqTb x x = true := by simp [eqTb]
set_option maxHeartbeats 1000000 in
theorem eqTable_any (x y : Tb) (w : World) :
    Calls Tryz.prog 65 #[.agg #[.string x.name, .int .i64 x.width], .agg #[.string y.name, .int .i64 y.width]] w fun e w' => e = .returned (.bool (eqTb x y)) ∧ Below w.heap.size w w' := by
  have B0 := Lib.hid (fun o1 o2 => ((Below.refl w.heap.size w).alloc (Nat.le_refl _) o1).alloc (by simp) o2)
  cases hn : (x.name.toList == y.name.toList) with
  | false =>
    have E := Lib.hid (show eqTb x y = false by unfold eqTb; rw [hn]; rfl)
    have hn' : (x.name.toList != y.name.toList) = true := by simp [bne, hn]
    go_enter Tryz.func65, Tryz.ntmps65
    go_wp2_with fail
    go_ret
    rw [E.out]
    exact ⟨rfl, B0.out _ _⟩
  | true =>
    have hn' : (x.name.toList != y.name.toList) = false := by simp [bne, hn]
    cases hi : (x.width == y.width) with
    | false =>
      have E := Lib.hid (show eqTb x y = false by unfold eqTb; rw [hn, hi]; rfl)
      have hi' : (x.width != y.width) = true := by simp [bne, hi]
      go_enter Tryz.func65, Tryz.ntmps65
      go_wp2_with fail
      go_ret
      rw [E.out]
      exact ⟨rfl, B0.out _ _⟩
    | true =>
      have E := Lib.hid (show eqTb x y = true by unfold eqTb; rw [hn, hi]; rfl)
      have hi' : (x.width != y.width) = false := by simp [bne, hi]
      go_enter Tryz.func65, Tryz.ntmps65
      go_wp2_with fail
      go_ret
      rw [E.out]
      exact ⟨rfl, B0.out _ _⟩

/-- Whether two lists of tables are the same. -/
def eqTs : List Tb → List Tb → Bool
  | [], [] => true
  | n :: l, m :: k => eqTb n m && eqTs l k
  | _, _ => false
theorem eqTs_refl : ∀ l : List Tb, eqTs l l = true
  | [] => rfl
  | n :: l => by simp [eqTs, eqTb_refl, eqTs_refl l]
theorem eqTs_len : ∀ l m : List Tb, l.length ≠ m.length → eqTs l m = false
  | [], [], h => absurd rfl h
  | [], _ :: _, _ => rfl
  | _ :: _, [], _ => rfl
  | n :: l, m :: k, h => by simp only [eqTs]; rw [eqTs_len l k (by simpa using h)]; simp
theorem eqTs_no : ∀ (l m : List Tb) (j : Nat) (x y : Tb), l[j]? = some x → m[j]? = some y → eqTb x y = false → eqTs l m = false
  | [], _, j, x, y, h, _, _ => by simp at h
  | _ :: _, [], j, x, y, _, h, _ => by simp at h
  | n :: l, m :: k, 0, x, y, hx, hy, h => by simp at hx hy; subst hx hy; simp [eqTs, h]
  | n :: l, m :: k, j + 1, x, y, hx, hy, h => by simp at hx hy; simp [eqTs, eqTs_no l k j x y hx hy h]
theorem eqTs_yes : ∀ (l m : List Tb), l.length = m.length → (∀ (j : Nat) (x y : Tb), l[j]? = some x → m[j]? = some y → eqTb x y = true) → eqTs l m = true
  | [], [], _, _ => rfl
  | [], _ :: _, h, _ => by simp at h
  | _ :: _, [], h, _ => by simp at h
  | n :: l, m :: k, h, hh => by
    simp only [eqTs]
    rw [hh 0 n m rfl rfl, eqTs_yes l k (by simpa using h) fun j x y hx hy => hh (j + 1) x y hx hy]; rfl

set_option maxRecDepth 100000 in
set_option maxHeartbeats 1600000 in
theorem eqTableS_any (a b : Option Addr) (c d : Nat) (l m : List Tb) (w : World) (h : RdT w a l) (k : RdT w b m) (hn : l.length ≤ maxLen) (hm : m.length ≤ maxLen) :
    Calls Tryz.prog 25 #[.slice a l.length c, .slice b m.length d] w fun e w' => e = .returned (.bool (eqTs l m)) ∧ Below w.heap.size w w' := by
  unfold maxLen at hn hm
  have H := Lib.hid h; clear h
  have K := Lib.hid k; clear k
  by_cases hlen : l.length = m.length
  · have hne : ((l.length : Int) != (m.length : Int)) = false := by simp [hlen]
    have HL := Lib.hid hlen; clear hlen
    go_enter Tryz.func25, Tryz.ntmps25
    go_wp2_with fail
    go_loopw [5] (fun i wr => ∃ j : Nat, j ≤ l.length ∧ i = .int .i64 j ∧ (∀ i x y, i < j → l[i]? = some x → m[i]? = some y → eqTb x y = true) ∧ Below w.heap.size w wr) (fun i _ => l.length - (intOf i).toNat)
    case atStart => exact ⟨0, Nat.zero_le _, rfl, fun i x y hi => absurd hi (Nat.not_lt_zero _), Below.refl _ _⟩
    case round =>
      obtain ⟨j, hj, rfl, ht, hb⟩ := hrel
      have HT := Lib.hid ht; clear ht
      by_cases hlt : j < l.length
      · have hlt2 : j < m.length := by have := HL.out; omega
        obtain ⟨b1, o1, x, rfl, hx, hat⟩ := (H.out.below hb).at_ hlt
        obtain ⟨b2, o2, y, rfl, hy, hay⟩ := (K.out.below hb).at_ hlt2
        have X := Lib.hid hx; have Y := Lib.hid hy; have HB := Lib.hid hb
        clear hx hy hb
        obtain ⟨c0, c1, nm⟩ := hat
        obtain ⟨d0, d1, nm'⟩ := hay
        have E := Lib.hid (fun W => eqTable_any x y W)
        clear nm nm'
        have i1 : (j : Int) < (l.length : Int) := by omega
        have i2 : (j : Int) < (m.length : Int) := by omega
        cases hxy : eqTb x y with
        | true =>
          have Q := Lib.hid hxy; clear hxy
          go_wp2_with fail
          go_region_with (go_at_call 65; refine (E.out _).mono ?_; rintro e w1 ⟨rfl, b1⟩; rw [Q.out]; have T1 := Lib.hid (below_step HB.out.drew (Nat.le_refl _) b1); clear b1)
          all_goals
            go_wp2_with fail
            go_roundw
            case rel => exact ⟨j + 1, by omega, by go_num, fun i x' y' hi hx' hy' => by
              by_cases hij : i = j
              · subst hij; rw [X.out] at hx'; rw [Y.out] at hy'; cases hx'; cases hy'; exact Q.out
              · exact HT.out i x' y' (by omega) hx' hy', T1.out⟩
            case measure => simp [intOf]; omega
        | false =>
          have Q := Lib.hid hxy; clear hxy
          have F := Lib.hid (eqTs_no l m j x y X.out Y.out Q.out)
          go_wp2_with fail
          go_region_with (go_at_call 65; refine (E.out _).mono ?_; rintro e w1 ⟨rfl, b1⟩; rw [Q.out]; have T1 := Lib.hid (below_step HB.out.drew (Nat.le_refl _) b1); clear b1)
          all_goals
            go_wp2_with fail
            go_ret
            exact ⟨ret_bool F.out.symm, T1.out⟩
      · have HB := Lib.hid hb; clear hb
        go_wp2_with fail
        go_ret
        refine ⟨ret_bool (eqTs_yes l m HL.out fun i x y hx hy => HT.out i x y ?_ hx hy).symm, HB.out⟩
        have : i < l.length := by
          rcases Nat.lt_or_ge i l.length with h1 | h1
          · exact h1
          · rw [List.getElem?_eq_none h1] at hx; cases hx
        omega
  · have hne : ((l.length : Int) != (m.length : Int)) = true := by simp; omega
    have HF := Lib.hid (eqTs_len l m hlen)
    go_enter Tryz.func25, Tryz.ntmps25
    go_wp2_with fail
    go_ret
    exact ⟨ret_bool HF.out.symm, Below.refl _ _⟩
end Go.Proofs.YtanfllednlpbaaaGreat
namespace Go.Proofs.YtanfllednlpbaaaGreat
open Go.RowKit
set_option linter.unusedSimpArgs false
set_option linter.unusedVariables false

theorem Tryz.infoNode : (Tryz.prog.info? 39).map (fun i => (i.zero, i.size, i.bytes)) = some (some (.agg #[.int .i64 0, .string ⟨#[]⟩, .int .i64 0, .int .i64 0, .int .i64 0, .bool false, .slice none 0 0]), 7, 80) := by kernel_rfl

set_option maxRecDepth 100000 in
set_option maxHeartbeats 1600000 in
theorem toNodeSP_any (ao : Option Addr) (c : Nat) (l : List Nd) (w : World) (h : RdN w ao l) (hl : l.length ≤ 1048576) (hc : ∀ n ∈ l, n.cols.length ≤ 1048576) :
    Calls Tryz.prog 23 #[.slice ao l.length c] w (MadeP w l) := by
  obtain ⟨i0, hi, hz0, hz1, hz2⟩ := info_parts Tryz.infoNode
  have H := Lib.hid h; clear h
  have HC := Lib.hid hc; clear hc
  go_enter Tryz.func23, Tryz.ntmps23
  go_wp2_with (at_make; refine wpList_make_full _ rfl (.tmp 6) (.tmp 6) 26 rfl w.heap.size 39 i0 _ 7 Tryz.underlying26 hi hz0 hz1 .i64 .i64 _ _ l.length rfl rfl rfl rfl (by rw [hz2]; omega) (by unfold maxLen; omega) (Nat.le_refl _) ?_; intro w1 hown hgrow)
  have hbel : Below w.heap.size w w1 := below_of_grown hgrow (Nat.le_refl _) (by intro g hg; cases hg)
  clear hgrow hi hz0 hz1 hz2
  have P0 : Hid (∃ xs A C, PartN w1 w.heap.size w.heap.size l.length l.length l 0 xs A C) :=
    ⟨_, fun _ => none, fun _ => 0, hown, fun i n hi => absurd hi (Nat.not_lt_zero _), fun i n hi => absurd hi (Nat.not_lt_zero _), fun i n hi => absurd hi (Nat.not_lt_zero _), fun i x hi => absurd hi (Nat.not_lt_zero _), fun i k x y hi => absurd hi (Nat.not_lt_zero _)⟩
  clear hown
  go_loopw [4] (fun i wr => ∃ j : Nat, j ≤ l.length ∧ i = .int .i64 j ∧ (∃ xs A C, PartN wr w.heap.size w.heap.size l.length l.length l j xs A C) ∧ Below w.heap.size w wr) (fun i _ => l.length - (intOf i).toNat)
  case atStart => exact ⟨0, Nat.zero_le _, rfl, P0.out, hbel⟩
  case round =>
    clear P0 hbel
    obtain ⟨j, hj, rfl, ⟨xs, A, C, hp⟩, hb⟩ := hrel
    by_cases hlt : j < l.length
    · obtain ⟨b, off, n, a, c', rfl, hn, hat⟩ := (H.out.below hb).at_ hlt
      have hcl := HC.out n (List.mem_of_getElem? hn)
      have HN := Lib.hid hn; clear hn
      have HB := Lib.hid hb; clear hb
      have HP := Lib.hid hp; clear hp
      obtain ⟨c0, c1, c2, c3, c4, c5, c6, rd, cap, mx, nm⟩ := hat
      have RD := Lib.hid rd; clear rd cap mx
      have T := Lib.hid (toNode_any n a c')
      go_wp2_with fail
      refine (T.out _ RD.out (by omega)).mono ?_
      rintro e w2 ⟨a2, c2', rfl, o2, b2⟩
      have hg : w.heap.size < w2.heap.size := Nat.lt_of_lt_of_le (owns_block HP.out.own).2 b2.size
      have HP2 := Lib.hid (HP.out.below b2)
      obtain ⟨y0, e0⟩ := HP2.out.some_ (o := j * 7) (by omega)
      obtain ⟨y1, e1⟩ := HP2.out.some_ (o := j * 7 + 1) (by omega)
      obtain ⟨y2, e2⟩ := HP2.out.some_ (o := j * 7 + 2) (by omega)
      obtain ⟨y3, e3⟩ := HP2.out.some_ (o := j * 7 + 3) (by omega)
      obtain ⟨y4, e4⟩ := HP2.out.some_ (o := j * 7 + 4) (by omega)
      obtain ⟨y5, e5⟩ := HP2.out.some_ (o := j * 7 + 5) (by omega)
      obtain ⟨y6, e6⟩ := HP2.out.some_ (o := j * 7 + 6) (by omega)
      have hf := HP2.out.frozen
      have R := Lib.hid (HP.out.put hlt HN.out b2 o2 HB.out.size nm)
      have T2 := Lib.hid (put7_below (g := w.heap.size) (o := j * 7) (n := n) (a := a2) (c := c2') (below_step HB.out (Nat.le_refl _) b2) (Nat.le_refl _))
      clear o2 b2 c0 c1 c2 c3 c4 c5 c6
      go_wp2_with fail
      go_roundw
      case rel => exact ⟨j + 1, by omega, by go_num, ⟨_, _, _, R.out.choose_spec⟩, T2.out⟩
      case measure => simp [intOf]; omega
    · obtain rfl : j = l.length := by omega
      have HB := Lib.hid hb; clear hb
      have HP := Lib.hid hp; clear hp
      go_wp2_with fail
      go_ret
      exact ⟨_, _, _, _, _, rfl, HP.out, HB.out⟩
theorem toNodeS_any (ao : Option Addr) (c : Nat) (l : List Nd) (w : World) (h : RdN w ao l) (hl : l.length ≤ 1048576) (hc : ∀ n ∈ l, n.cols.length ≤ 1048576) :
    Calls Tryz.prog 23 #[.slice ao l.length c] w (MadeN w l) := (toNodeSP_any ao c l w h hl hc).mono fun _ _ h => h.made
end Go.Proofs.YtanfllednlpbaaaGreat
namespace Go.Proofs.YtanfllednlpbaaaGreat
open Go.RowKit
set_option linter.unusedSimpArgs false
set_option linter.unusedVariables false

/-- How many letters and columns there are. -/
def tot (l : List Nd) : Nat := (l.map fun n => n.name.size + n.cols.length).sum
theorem tot_take {l : List Nd} {k : Nat} {n : Nd} (h : l[k]? = some n) : tot (l.take (k + 1)) = tot (l.take k) + (n.name.size + n.cols.length) := by
  have hk : k < l.length := by
    rcases Nat.lt_or_ge k l.length with h1 | h1
    · exact h1
    · rw [List.getElem?_eq_none h1] at h; cases h
  rw [List.take_succ_eq_append_getElem hk]
  have : l[k] = n := by rw [List.getElem?_eq_getElem hk] at h; injection h
  rw [this]; simp [tot]

/-- What szNodeS answers. -/
def SzPost (w : World) (l : List Nd) (left : Int) (e : Ending) (w' : World) : Prop :=
  ∃ r : Int, e = .returned (.int .i64 r) ∧ Below w.heap.size w w' ∧ (r = -1 ∨ (0 ≤ r ∧ r + l.length + tot l = left))

theorem szN_neg {n : Nd} {left : Int} (h : szN n left < 0) (h0 : 0 ≤ left) : szN n left = -1 := by
  unfold szN at h ⊢; split
  · rfl
  · rw [if_neg (by assumption)] at h
    split
    · rfl
    · rw [if_neg (by assumption)] at h; omega
theorem szN_pos {n : Nd} {left : Int} (h : 0 ≤ szN n left) : szN n left + (n.name.size + n.cols.length : Nat) = left := by
  unfold szN at h ⊢; split
  · rw [if_pos (by assumption)] at h; omega
  · rw [if_neg (by assumption)] at h
    split
    · rw [if_pos (by assumption)] at h; omega
    · omega

set_option maxHeartbeats 800000 in
theorem szNodeS_any (ao : Option Addr) (c : Nat) (l : List Nd) (left : Int) (w : World) (h : RdN w ao l) (hl : l.length ≤ maxLen) (h0 : 0 ≤ left) (h1 : left ≤ 1048576) :
    Calls Tryz.prog 20 #[.slice ao l.length c, .int .i64 left] w (SzPost w l left) := by
  have hl' := hl; unfold maxLen at hl'
  have H := Lib.hid h; clear h
  by_cases hlt : left < (l.length : Int)
  · have h2 : left - (l.length : Int) < 0 := by omega
    go_enter Tryz.func20, Tryz.ntmps20
    go_wp2_with fail
    go_ret
    exact ⟨-1, rfl, Below.refl _ _, .inl rfl⟩
  · have h2 : 0 ≤ left - (l.length : Int) := by omega
    have h3 : (l.length : Int) ≤ left := by omega
    clear hl' hl
    go_enter Tryz.func20, Tryz.ntmps20
    go_wp2_with fail
    go_loopw [1, 5] (fun r i wr => ∃ (k : Nat) (q : Int), k ≤ l.length ∧ i = .int .i64 k ∧ r = .int .i64 q ∧ 0 ≤ q ∧ q + l.length + tot (l.take k) = left ∧ Below w.heap.size w wr) (fun _ i _ => l.length - (intOf i).toNat)
    case atStart => exact ⟨0, _, Nat.zero_le _, rfl, rfl, by omega, by simp [tot], Below.refl _ _⟩
    case round =>
      obtain ⟨k, q, hk, rfl, rfl, hq0, hq, hb⟩ := hrel
      have HQ := Lib.hid hq; clear hq
      have hq1 : q ≤ 1048576 := by have := HQ.out; omega
      by_cases hlt2 : k < l.length
      · obtain ⟨b, off, n, a, c', rfl, hn, hat⟩ := (H.out.below hb).at_ hlt2
        have HN := Lib.hid hn; clear hn
        have HB := Lib.hid hb; clear hb
        obtain ⟨c0, c1, c2, c3, c4, c5, c6, rd, cap, mx, nm⟩ := hat
        have RD := Lib.hid rd; clear rd
        have cl : n.cols.length ≤ maxLen := Nat.le_trans cap mx
        have Z := Lib.hid (szNode_any n a c' q)
        clear cap mx
        go_wp2_with fail
        refine (Z.out _ hq0 hq1 cl nm).mono ?_
        rintro e w1 ⟨rfl, b1⟩
        have T1 := Lib.hid (below_step HB.out (Nat.le_refl _) b1)
        clear b1
        by_cases hs : szN n q < 0
        · have S := Lib.hid (szN_neg hs hq0)
          go_wp2_with fail
          go_ret
          exact ⟨-1, rfl, T1.out, .inl rfl⟩
        · have hs' : 0 ≤ szN n q := by omega
          have S := Lib.hid (szN_pos hs')
          clear hs
          generalize szN n q = q' at S hs' ⊢
          go_wp2_with fail
          go_roundw
          case rel => exact ⟨k + 1, q', by omega, by go_num, rfl, hs', by have := S.out; have := HQ.out; rw [tot_take HN.out]; omega, T1.out⟩
          case measure => simp [intOf]; omega
      · have e : k = l.length := by omega
        subst e
        have HB := Lib.hid hb; clear hb
        go_wp2_with fail
        go_ret
        exact ⟨q, rfl, HB.out, .inr ⟨hq0, by have := HQ.out; rwa [List.take_length] at this⟩⟩
end Go.Proofs.YtanfllednlpbaaaGreat
namespace Go.Proofs.YtanfllednlpbaaaGreat
open Go.RowKit
set_option linter.unusedSimpArgs false
set_option linter.unusedVariables false

theorem tot_mem {l : List Nd} {n : Nd} (h : n ∈ l) : n.name.size + n.cols.length ≤ tot l := by
  unfold tot
  induction l with
  | nil => cases h
  | cons m l ih =>
    rcases List.mem_cons.1 h with rfl | h
    · simp only [List.map_cons, List.sum_cons]; omega
    · have := ih h; simp only [List.map_cons, List.sum_cons]; omega
theorem small_of {l : List Nd} {r left : Int} (h0 : 0 ≤ r) (h : r + l.length + tot l = left) (hl : left ≤ 1048576) : Small l := by
  refine ⟨by omega, fun n hn => ?_⟩
  have := tot_mem hn
  omega
end Go.Proofs.YtanfllednlpbaaaGreat
namespace Go.Proofs.YtanfllednlpbaaaGreat
open Go.RowKit
set_option linter.unusedSimpArgs false
set_option linter.unusedVariables false

/-- What marking lays into n tables from the number m on. -/
def marksT (m : Int) (n : Nat) : List Tb := (List.range n).map fun (i : Nat) => ⟨mtext (m + 2 * (i : Int)), m + 2 * (i : Int) + 1⟩
theorem marksT_len (m : Int) (n : Nat) : (marksT m n).length = n := by simp [marksT]
theorem marksT_succ (m : Int) (n : Nat) : marksT m (n + 1) = marksT m n ++ [⟨mtext (m + 2 * (n : Int)), m + 2 * (n : Int) + 1⟩] := by simp [marksT, List.range_succ]
theorem marksT_get (m : Int) (n i : Nat) (h : i < n) : (marksT m n)[i]? = some ⟨mtext (m + 2 * (i : Int)), m + 2 * (i : Int) + 1⟩ := by simp [marksT, h]
theorem marksT_step (m : Int) (l : List Tb) (j : Nat) (h : j < l.length) :
    ((tbC (marksT m j ++ l.drop j)).set (j * 2) (.string (mtext (m + 2 * (j : Int))))).set (j * 2 + 1) (.int .i64 (m + 2 * (j : Int) + 1)) = tbC (marksT m (j + 1) ++ l.drop (j + 1)) := by
  rw [tbC_app, List.drop_eq_getElem_cons h, marksT_succ, List.append_assoc, tbC_app]
  have hl : (tbC (marksT m j)).length = j * 2 := by rw [tbC_len, marksT_len]
  rw [List.set_append_right _ _ (by omega), List.set_append_right _ _ (by omega), hl, Nat.sub_self, show j * 2 + 1 - j * 2 = 1 by omega]
  rfl
/-- A row of tables, by its cells alone. -/
def RowT (w : World) (base : Nat) (ao : Option Addr) (c : Nat) (l : List Tb) : Prop := w.ownsRow base 89 2 (.slice ao l.length c) l.length (tbC l)
def MarkedT (w : World) (base : Nat) (ao : Option Addr) (c n : Nat) (m : Int) (en : Ending) (w' : World) : Prop :=
  en = .returned (.int .i64 (m + 2 * n)) ∧ RowT w' base ao c (marksT m n) ∧ w.grownBy w' (ao.map (·.block))
def MarkRelT (w wr : World) (base : Nat) (m : Int) (g c : Nat) (l : List Tb) (j : Nat) : Prop :=
  wr.ownsRow base 89 2 (.slice (some ⟨g, 0, none⟩) l.length c) l.length (tbC (marksT m j ++ l.drop j)) ∧ w.grownBy wr (some g)

theorem RowT.form {w : World} {base : Nat} {ao : Option Addr} {c : Nat} {l : List Tb} (h : RowT w base ao c l) : (ao = none ∧ l = []) ∨ ∃ g, ao = some ⟨g, 0, none⟩ ∧ base ≤ g ∧ g < w.heap.size := by
  rcases h.2 with ⟨hv, hn⟩ | ⟨g, cap, cur, hv, hb, hg, _⟩
  · simp only [Value.slice.injEq] at hv
    exact .inl ⟨hv.1, List.eq_nil_of_length_eq_zero hn⟩
  · simp only [Value.slice.injEq] at hv
    exact .inr ⟨g, hv.1, hb, (Array.getElem?_eq_some_iff.1 hg).1⟩
theorem RowT.below {w w' : World} {base : Nat} {ao : Option Addr} {c : Nat} {l : List Tb} (h : RowT w base ao c l) (hb : Below w.heap.size w w') : RowT w' base ao c l := by
  refine ⟨h.1, ?_⟩
  rcases h.2 with h2 | ⟨g, cap, cur, hv, hb', hg, r⟩
  · exact .inl h2
  · exact .inr ⟨g, cap, cur, hv, hb', (hb.block g (Array.getElem?_eq_some_iff.1 hg).1).trans hg, r⟩

section
variable {w wr w1 : World} {base : Nat} {m : Int} {g c : Nat} {l : List Tb} {j : Nat}
theorem MarkRelT.lt (h : MarkRelT w wr base m g c l j) : g < wr.heap.size := (h.1.lt g rfl).2
theorem MarkRelT.below (h : MarkRelT w wr base m g c l j) (hb : Below wr.heap.size wr w1) : MarkRelT w w1 base m g c l j := by
  have hlt := h.lt
  refine ⟨⟨h.1.1, ?_⟩, ?_⟩
  · rcases h.1.2 with h2 | ⟨g', cap, cur, hv, hb', hg, r⟩
    · exact .inl h2
    · exact .inr ⟨g', cap, cur, hv, hb', (hb.block g' (Array.getElem?_eq_some_iff.1 hg).1).trans hg, r⟩
  · exact ⟨hb.os.trans h.2.os, hb.tape.trans h.2.tape, hb.output.trans h.2.output, Nat.le_trans h.2.size hb.size, fun i hi hne => (hb.block i (Nat.lt_of_lt_of_le hi h.2.size)).trans (h.2.block i hi hne)⟩
theorem MarkRelT.cell (h : MarkRelT w wr base m g c l j) {o : Nat} (ho : o < l.length * 2) : ∃ y, wr.cell? ⟨g, o, none⟩ = some y := by
  have h1 := h.1.cellAt o ho
  have hl : o < (tbC (marksT m j ++ l.drop j)).length := by rw [h.1.1]; exact ho
  exact ⟨_, h1.trans (List.getElem?_eq_getElem hl)⟩
theorem MarkRelT.step (h : MarkRelT w wr base m g c l j) (hj : j < l.length) :
    MarkRelT w ((wr.setCell ⟨g, j * 2, none⟩ (.string (mtext (m + 2 * (j : Int))))).setCell ⟨g, j * 2 + 1, none⟩ (.int .i64 (m + 2 * (j : Int) + 1))) base m g c l (j + 1) := by
  have h1 := h.1.stored (j * 2) (.string (mtext (m + 2 * (j : Int))))
  have h2 := h1.1.stored (j * 2 + 1) (.int .i64 (m + 2 * (j : Int) + 1))
  rw [marksT_step m l j hj] at h2
  have g1 := h1.2
  have g2 := h2.2
  exact ⟨h2.1, ⟨g2.os.trans (g1.os.trans h.2.os), g2.tape.trans (g1.tape.trans h.2.tape), g2.output.trans (g1.output.trans h.2.output), Nat.le_trans h.2.size (Nat.le_trans g1.size g2.size),
    fun i hi hne => (g2.block i (Nat.lt_of_lt_of_le hi (Nat.le_trans h.2.size g1.size)) hne).trans ((g1.block i (Nat.lt_of_lt_of_le hi h.2.size) hne).trans (h.2.block i hi hne))⟩⟩
theorem MarkRelT.done (h : MarkRelT w wr base m g c l j) (hj : j = l.length) : RowT wr base (some ⟨g, 0, none⟩) c (marksT m l.length) := by
  subst hj
  have h1 := h.1
  rw [List.drop_length, List.append_nil] at h1
  unfold RowT
  rw [marksT_len]; exact h1
end

set_option maxRecDepth 100000 in
set_option maxHeartbeats 1600000 in
theorem markTableS_any (base : Nat) (ao : Option Addr) (c : Nat) (l : List Tb) (m : Int) (w : World) (h : OwnT w base ao c l) (h0 : 0 ≤ m) (hm : m + 2 * l.length ≤ 1000000000) :
    Calls Tryz.prog 28 #[.slice ao l.length c, .int .i64 m] w (MarkedT w base ao c l.length m) := by
  rcases h.form with ⟨rfl, rfl, rfl⟩ | ⟨g, rfl, _⟩
  · go_enter Tryz.func28, Tryz.ntmps28
    go_wp2_with fail
    refine wp_loop_rounds 1 ?_; rw [rounds_succ]; go_wp2_with fail
    go_ret
    exact ⟨ret_int (by simp), (OwnT.none_ (w := w) (base := base)).1, World.grownBy.refl _ _⟩
  · have hs : MarkRelT w w base m g c l 0 := ⟨by simpa [marksT] using h.1, World.grownBy.refl _ _⟩
    clear h
    go_enter Tryz.func28, Tryz.ntmps28
    go_wp2_with fail
    go_loopw [1, 5] (fun q i wr => ∃ j : Nat, j ≤ l.length ∧ i = .int .i64 j ∧ q = .int .i64 (m + 2 * j) ∧ MarkRelT w wr base m g c l j) (fun _ i _ => l.length - (intOf i).toNat)
    case atStart => exact ⟨0, Nat.zero_le _, rfl, by simp, hs⟩
    case round =>
      clear hs
      obtain ⟨j, hj, rfl, rfl, hr⟩ := hrel
      by_cases hlt : j < l.length
      · have HR := Lib.hid hr; clear hr
        have i1 : (j : Int) < (l.length : Int) := by omega
        go_wp2_with fail
        refine (markText_any (m + 2 * j) _ (by omega)).mono ?_
        rintro e w1 ⟨rfl, b1⟩
        have hr := HR.out.below b1
        obtain ⟨y0, e0⟩ := hr.cell (o := j * 2) (by omega)
        obtain ⟨y1, e1⟩ := hr.cell (o := j * 2 + 1) (by omega)
        have hf := fun o => hr.1.frozenAt o
        have hz := hr.lt
        have R := Lib.hid (hr.step hlt)
        clear hr b1
        go_wp2_with fail
        go_roundw
        case rel => exact ⟨j + 1, by omega, by go_num, by go_num, R.out⟩
        case measure => simp [intOf]; omega
      · have e : j = l.length := by omega
        have D := Lib.hid (hr.done e)
        have G := Lib.hid hr.2
        clear hr
        subst e
        go_wp2_with fail
        go_ret
        exact ⟨rfl, D.out, G.out⟩

end Go.Proofs.YtanfllednlpbaaaGreat
