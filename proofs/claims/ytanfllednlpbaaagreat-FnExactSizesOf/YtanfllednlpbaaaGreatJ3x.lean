/-
  Contracts of the helpers over slices of int: eqIntS, markIntS, toIntS, heldIntS. For every slice of int. Contracts of the helpers over nodes: szIntS, szNode, toNode, eqNode. For every node. A row of nodes that the call itself owns: its cells, the columns of each node in a row of their own, all of them apart. No program, no walk. Rows of numbers in a slice: what such a slice reads as, and what of it the call itself owns. No program, no walk.
-/
import Derived.Test.YtanfllednlpbaaaGreatJ2x
import Derived.Test.YtanfllednlpbaaaGreatJ1x
namespace Go.Proofs.YtanfllednlpbaaaGreat
open Go.RowKit
set_option linter.unusedSimpArgs false
set_option linter.unusedVariables false

set_option maxHeartbeats 800000 in
theorem eqIntS_any (a b : Option Addr) (c d : Nat) (l m : List Int) (w : World) (h : Rd w .i64 a l) (k : Rd w .i64 b m) (hn : l.length ≤ maxLen) (hm : m.length ≤ maxLen) :
    Calls Tryz.prog 33 #[.slice a l.length c, .slice b m.length d] w fun e w' => e = .returned (.bool (eqL l m)) ∧ Below w.heap.size w w' := by
  unfold maxLen at hn hm
  by_cases hlen : l.length = m.length
  · have hne : ((l.length : Int) != (m.length : Int)) = false := by simp [hlen]
    have HL := Lib.hid hlen; clear hlen
    rcases h with rfl | ⟨b1, o1, rfl, hc⟩
    · have hm0 : m = [] := List.eq_nil_of_length_eq_zero HL.out.symm
      subst hm0
      clear hne
      go_enter Tryz.func33, Tryz.ntmps33
      go_wp2
      refine wp_loop_rounds 1 ?_; rw [rounds_succ]; go_wp2
      go_ret
      exact ⟨rfl, Below.refl _ _⟩
    · rcases k with rfl | ⟨b2, o2, rfl, kc⟩
      · have hl0 : l = [] := List.eq_nil_of_length_eq_zero HL.out
        subst hl0
        clear hne hc
        go_enter Tryz.func33, Tryz.ntmps33
        go_wp2
        refine wp_loop_rounds 1 ?_; rw [rounds_succ]; go_wp2
        go_ret
        exact ⟨rfl, Below.refl _ _⟩
      · have HC := Lib.hid hc; have KC := Lib.hid kc; clear hc kc
        go_enter Tryz.func33, Tryz.ntmps33
        go_wp2
        go_loopw [5] (fun i wr => ∃ j q : Nat, j ≤ l.length ∧ i = .int .i64 j ∧ l.take j = m.take j ∧ wr = w.drewN q) (fun i _ => l.length - (intOf i).toNat)
        case atStart => exact ⟨0, 0, Nat.zero_le _, rfl, rfl, rfl⟩
        case round =>
          obtain ⟨j, q, hj, rfl, ht, rfl⟩ := hrel
          have HT := Lib.hid ht; clear ht
          by_cases hlt : j < l.length
          · have hlt2 : j < m.length := by have := HL.out; omega
            obtain ⟨x, _, hx, hcx, htx⟩ := Rd.at_ HC.out hlt
            obtain ⟨y, _, hy, hcy, hty⟩ := Rd.at_ KC.out hlt2
            have X := Lib.hid hx; have Y := Lib.hid hy; have TX := Lib.hid htx; have TY := Lib.hid hty
            clear hx hy htx hty
            have i1 : (j : Int) < (l.length : Int) := by omega
            have i2 : (j : Int) < (m.length : Int) := by omega
            by_cases hxy : x = y
            · subst hxy
              have hb : (x != x) = false := by simp
              go_wp2
              go_quiet (fail)
              go_wp2
              go_roundw
              case rel => exact ⟨j + 1, _, by omega, by go_num, by rw [TX.out, TY.out, HT.out], by first | rfl | rw [World.drewN_drewN]⟩
              case measure => simp [intOf]; omega
            · have hb : (x != y) = true := by simp [hxy]
              have HF := Lib.hid (eqL_no hxy X.out Y.out)
              clear hxy
              go_wp2
              go_quiet (fail)
              go_wp2
              go_ret
              exact ⟨ret_bool HF.out.symm, by first | exact below_drewN (Below.refl _ _) _ | exact below_drewN (below_drewN (Below.refl _ _) _) _⟩
          · go_wp2
            go_ret
            exact ⟨ret_bool (eqL_yes HL.out (by omega) HT.out).symm, below_drewN (Below.refl _ _) _⟩
  · have hne : ((l.length : Int) != (m.length : Int)) = true := by simp; omega
    have HF : Hid (eqL l m = false) := by
      show eqL l m = false
      unfold eqL; simp; rintro rfl; exact hlen rfl
    go_enter Tryz.func33, Tryz.ntmps33
    go_wp2
    go_ret
    exact ⟨ret_bool HF.out.symm, Below.refl _ _⟩
set_option maxHeartbeats 800000 in
theorem markIntS_any (base : Nat) (ao : Option Addr) (c : Nat) (l : List Int) (m : Int) (w : World) (h : Own w base 3 .i64 ao c l) (h0 : 0 ≤ m) (hm : m + l.length ≤ 4611686018427387904) :
    Calls Tryz.prog 34 #[.slice ao l.length c, .int .i64 m] w (Marked w id .i64 ao l.length m) := by
  rcases h.form with ⟨rfl, rfl, rfl⟩ | ⟨g, rfl, _⟩
  · go_enter Tryz.func34, Tryz.ntmps34
    go_wp2
    refine wp_loop_rounds 1 ?_; rw [rounds_succ]; go_wp2
    go_ret
    exact ⟨ret_int (by simp), .inl rfl, World.grownBy.refl _ _⟩
  · have hs : MarkRel w w base 3 .i64 id m g c l 0 := ⟨by have h' := h; unfold Own at h'; simpa [marksL] using h', World.grownBy.refl _ _⟩
    clear h
    go_enter Tryz.func34, Tryz.ntmps34
    go_wp2
    go_loopw [1, 5] (fun q i wr => ∃ j : Nat, j ≤ l.length ∧ i = .int .i64 j ∧ q = .int .i64 (m + j) ∧ MarkRel w wr base 3 .i64 id m g c l j) (fun _ i _ => l.length - (intOf i).toNat)
    case atStart => exact ⟨0, Nat.zero_le _, rfl, by simp, hs⟩
    case round =>
      clear hs
      obtain ⟨j, hj, rfl, rfl, hr⟩ := hrel
      by_cases hlt : j < l.length
      · obtain ⟨y, hy⟩ := hr.cell hlt
        have hf := hr.1.frozenAt j
        have R := Lib.hid (hr.step hlt)
        clear hr
        go_wp2
        go_roundw
        case rel => exact ⟨j + 1, by omega, by go_num, by go_num, R.out⟩
        case measure => simp [intOf]; omega
      · have e : j = l.length := by omega
        have D := Lib.hid (hr.done e)
        have G := Lib.hid hr.2
        clear hr
        subst e
        go_wp2
        go_ret
        exact ⟨rfl, D.out, G.out⟩

set_option maxHeartbeats 800000 in
theorem toIntS_any (a : Option Addr) (c : Nat) (l : List Int) (w : World) (h : Rd w .i64 a l) (hn : l.length ≤ 35184372088832) :
    Calls Tryz.prog 109 #[.slice a l.length c] w (Made w 3 .i64 l) := by
  obtain ⟨i0, hi, hz0, hz1, hz2⟩ := info_parts Tryz.infoI64
  have H := Lib.hid h; clear h
  rcases H.out with rfl | ⟨b, off, rfl, _⟩
  · go_enter Tryz.func109, Tryz.ntmps109
    go_wp2_with (at_make; refine wpList_make_full _ rfl (.tmp 6) (.tmp 6) 34 rfl w.heap.size 3 i0 (.int .i64 0) 1 Tryz.underlying34 hi hz0 hz1 .i64 .i64 _ _ 0 rfl rfl rfl rfl (by omega) (by unfold maxLen; omega) (Nat.le_refl _) ?_; intro w1 hown hgrow)
    refine wp_loop_rounds 1 ?_; rw [rounds_succ]; go_wp2
    go_ret
    rw [made_ints] at hown
    exact ⟨_, _, rfl, hown, below_of_grown hgrow (Nat.le_refl _) (by intro g hg; cases hg)⟩
  · go_enter Tryz.func109, Tryz.ntmps109
    go_wp2_with (at_make; refine wpList_make_full _ rfl (.tmp 6) (.tmp 6) 34 rfl w.heap.size 3 i0 (.int .i64 0) 1 Tryz.underlying34 hi hz0 hz1 .i64 .i64 _ _ l.length rfl rfl rfl rfl (by rw [hz2]; omega) (by unfold maxLen; omega) (Nat.le_refl _) ?_; intro w1 hown hgrow)
    rw [made_ints, ← fillL_zero] at hown
    have hbel : Below w.heap.size w w1 := below_of_grown hgrow (Nat.le_refl _) (by intro g hg; cases hg)
    clear hgrow hi hz0 hz1 hz2
    go_loopw [4] (fun i wr => ∃ j : Nat, j ≤ l.length ∧ i = .int .i64 j ∧ wr.ownsRow w.heap.size 3 1 (.slice (some ⟨w.heap.size, 0, none⟩) l.length l.length) l.length ((fillL l j).map (Value.int .i64)) ∧ Below w.heap.size w wr) (fun i _ => l.length - (intOf i).toNat)
    case atStart => exact ⟨0, Nat.zero_le _, rfl, hown, hbel⟩
    case round =>
      clear hown hbel
      obtain ⟨j, hj, rfl, ho, hb⟩ := hrel
      by_cases hlt : j < l.length
      · obtain ⟨b', off', heq, hc⟩ : ∃ b' off', (some ⟨b, off, none⟩ : Option Addr) = some ⟨b', off', none⟩ ∧ ∀ i, i < l.length → wr.cell? ⟨b', off' + i, none⟩ = some (.int .i64 (l.getD i 0)) := by
          rcases H.out.below hb with rfl | h'
          · simp at hlt
          · exact h'
        simp only [Option.some.injEq, Addr.mk.injEq, and_true] at heq
        obtain ⟨rfl, rfl⟩ := heq
        obtain ⟨z, _, _, hcz, ht⟩ := Rd.at_ hc hlt
        obtain ⟨y, hy⟩ := toS_cell hlt ho
        have hf := ho.frozenAt j
        have R := Lib.hid (toS_round hlt ht (Nat.le_refl _) ho hb)
        clear ht hc ho hb
        go_wp2
        go_roundw
        case rel => exact ⟨j + 1, by omega, by go_num, R.out.1, R.out.2⟩
        case measure => simp [intOf]; omega
      · go_wp2
        go_ret
        refine ⟨_, _, rfl, ?_, hb⟩
        rw [fillL_all l j (by omega)] at ho
        exact ho

set_option maxHeartbeats 800000 in
theorem heldIntS_any (ao : Option Addr) (c n : Nat) (m : Int) (w : World) (h : Rd w .i64 ao (marksL id m n)) (h0 : 0 ≤ m) (hm : m + n ≤ 4611686018427387904) :
    Calls Tryz.prog 35 #[.slice ao n c, .int .i64 m] w fun e w' => e = .returned (.int .i64 (m + n)) ∧ w = w' := by
  rcases h with h | ⟨b, off, rfl, hc⟩
  · have hn : n = 0 := by have := congrArg List.length h; rw [marksL_len] at this; simpa using this
    subst hn
    clear h
    go_enter Tryz.func35, Tryz.ntmps35
    go_wp2
    refine wp_loop_rounds 1 ?_; rw [rounds_succ]; go_wp2
    go_ret
    exact ⟨ret_int (by simp), rfl⟩
  · have hc' : ∀ i : Nat, i < n → w.cell? ⟨b, off + i, none⟩ = some (.int .i64 (id (m + (i : Int)))) := by
      intro i hi
      rw [hc i (by rw [marksL_len]; exact hi), List.getD_eq_getElem?_getD, marksL_get _ _ _ _ hi]; rfl
    have HC := Lib.hid hc'; clear hc hc'
    go_enter Tryz.func35, Tryz.ntmps35
    go_wp2
    go_loop [1, 5] (fun q i => ∃ j : Nat, j ≤ n ∧ i = .int .i64 j ∧ q = .int .i64 (m + j)) (fun _ i => n - (intOf i).toNat)
    case atStart => exact ⟨0, Nat.zero_le _, rfl, by simp⟩
    case round =>
      obtain ⟨j, hj, rfl, rfl⟩ := hrel
      by_cases hlt : j < n
      · have hcz := HC.out j hlt
        go_wp2
        go_round
        case rel => exact ⟨j + 1, by omega, by go_num, by go_num⟩
        case measure => simp [intOf]; omega
      · obtain rfl : j = n := by omega
        go_wp2
        go_ret
        exact ⟨rfl, rfl⟩
end Go.Proofs.YtanfllednlpbaaaGreat
namespace Go.Proofs.YtanfllednlpbaaaGreat
open Go.RowKit
set_option linter.unusedSimpArgs false
set_option linter.unusedVariables false

theorem Own.far {w : World} {base : Nat} {e : TypeId} {k : IntKind} {ao : Option Addr} {c : Nat} {l : List Int} {p : Addr} (h : Own w base e k ao c l) (hp : ∀ x, ao = some x → x.block ≠ p.block) (u : Value) :
    Own (w.setCell p u) base e k ao c l := h.keep fun a ha _ => Below.heap_setCell w p u a.block (hp a ha)
theorem bcell {W w1 : World} (hb : Below W.heap.size W w1) :
    (∀ b o, b < W.heap.size → w1.cell? ⟨b, o, none⟩ = W.cell? ⟨b, o, none⟩) ∧ (∀ b o, b < W.heap.size → w1.frozen? ⟨b, o, none⟩ = W.frozen? ⟨b, o, none⟩) :=
  ⟨fun b o h => hb.cell (p := ⟨b, o, none⟩) h, fun b o h => hb.frozen (p := ⟨b, o, none⟩) h⟩

theorem szIntS_any (a : Option Addr) (c : Nat) (l : List Int) (left : Int) (w : World) (h0 : 0 ≤ left) (h1 : left ≤ 1048576) (hl : l.length ≤ maxLen) :
    Calls Tryz.prog 108 #[.slice a l.length c, .int .i64 left] w fun e w' => e = .returned (.int .i64 (if left < (l.length : Int) then -1 else left - l.length)) ∧ w = w' := by
  unfold maxLen at hl
  by_cases h : left < (l.length : Int)
  · rw [if_pos h]
    have h' : left - (l.length : Int) < 0 := by omega
    go_enter Tryz.func108, Tryz.ntmps108
    go_wp2
    go_ret
    exact ⟨rfl, rfl⟩
  · rw [if_neg h]
    have h' : 0 ≤ left - (l.length : Int) := by omega
    go_enter Tryz.func108, Tryz.ntmps108
    go_wp2
    go_ret
    exact ⟨rfl, rfl⟩

/-- What is left behind a node. -/
def szN (n : Nd) (left : Int) : Int :=
  if left < (n.name.size : Int) then -1 else if left - (n.name.size : Int) < (n.cols.length : Int) then -1 else left - n.name.size - n.cols.length

theorem szNode_any (n : Nd) (a : Option Addr) (c : Nat) (left : Int) (w : World) (h0 : 0 ≤ left) (h1 : left ≤ 1048576) (hl : n.cols.length ≤ maxLen) (hs : n.name.size ≤ maxLen) :
    Calls Tryz.prog 61 #[.agg #[.int .i64 n.kind, .string n.name, .int .i64 n.col, .int .i64 n.op, .int .i64 n.num, .bool n.slot, .slice a n.cols.length c], .int .i64 left] w fun e w' => e = .returned (.int .i64 (szN n left)) ∧ Below w.heap.size w w' := by
  have hs' := hs
  unfold maxLen at hs'
  unfold szN
  by_cases h : left < (n.name.size : Int)
  · rw [if_pos h]
    have h' : left - (n.name.size : Int) < 0 := by omega
    go_enter Tryz.func61, Tryz.ntmps61
    go_wp2
    go_ret
    exact ⟨rfl, (Below.refl _ _).alloc (Nat.le_refl _) _⟩
  · rw [if_neg h]
    have h' : 0 ≤ left - (n.name.size : Int) := by omega
    have e := Lib.hid (szIntS_any a c n.cols (left - n.name.size))
    by_cases h2 : left - (n.name.size : Int) < (n.cols.length : Int)
    · rw [if_pos h2]
      go_enter Tryz.func61, Tryz.ntmps61
      go_wp2_with fail
      refine (e.out _ (by omega) (by omega) hl).mono ?_
      rintro e w' ⟨rfl, rfl⟩
      rw [if_pos h2]
      go_wp2
      go_ret
      exact ⟨rfl, (Below.refl _ _).alloc (Nat.le_refl _) _⟩
    · rw [if_neg h2]
      go_enter Tryz.func61, Tryz.ntmps61
      go_wp2_with fail
      refine (e.out _ (by omega) (by omega) hl).mono ?_
      rintro e w' ⟨rfl, rfl⟩
      rw [if_neg (by omega)]
      have h3 : 0 ≤ left - (n.name.size : Int) - (n.cols.length : Int) := by omega
      go_wp2
      go_ret
      exact ⟨rfl, (Below.refl _ _).alloc (Nat.le_refl _) _⟩

/-- The call returned the node n, its columns in memory of its own. -/
def MadeNd (w : World) (n : Nd) (en : Ending) (w' : World) : Prop :=
  ∃ a c, en = .returned (.agg #[.int .i64 n.kind, .string n.name, .int .i64 n.col, .int .i64 n.op, .int .i64 n.num, .bool n.slot, .slice a n.cols.length c]) ∧ Own w' w.heap.size 3 .i64 a c n.cols ∧ Below w.heap.size w w'

theorem toNode_any (n : Nd) (a : Option Addr) (c : Nat) (w : World) (h : Rd w .i64 a n.cols) (hl : n.cols.length ≤ 35184372088832) :
    Calls Tryz.prog 64 #[.agg #[.int .i64 n.kind, .string n.name, .int .i64 n.col, .int .i64 n.op, .int .i64 n.num, .bool n.slot, .slice a n.cols.length c]] w (MadeNd w n) := by
  have H := Lib.hid h; clear h
  go_enter Tryz.func64, Tryz.ntmps64
  go_wp2_with fail
  refine (toIntS_any a c n.cols _ (H.out.below ((((Below.refl _ w).alloc (Nat.le_refl _) _).alloc (by simp) _).alloc (by simp; omega) _)) hl).mono ?_
  rintro e w1 ⟨a1, c1, rfl, o1, b1⟩
  obtain ⟨hc, hf⟩ := bcell b1
  have hz : w.heap.size + 1 + 1 < w1.heap.size := by have := b1.size; simp at this; omega
  have O1 := Lib.hid o1
  have B1 := Lib.hid b1
  clear o1 b1
  go_wp2
  have hne : ∀ x, a1 = some x → w.heap.size + 1 + 1 < x.block := by intro x hx; have := (O1.out.lt x hx).1; simp at this; omega
  refine bodyPost_ret (v := .agg #[.int .i64 n.kind, .string n.name, .int .i64 n.col, .int .i64 n.op, .int .i64 n.num, .bool n.slot, .slice a1 n.cols.length c1]) (by simp [results, Tryz.results64, go_sem, hc]) rfl ⟨a1, c1, rfl, ?_, ?_⟩
  · refine Own.base_le (base := w.heap.size + 1 + 1) ?_ (by omega)
    repeat (refine Own.far ?_ (fun x hx => by have := hne x hx; simp; omega) _)
    exact O1.out.base_le (by simp)
  · repeat (refine Below.setCell ?_ (by simp; try omega) _)
    exact ((((Below.refl _ w).alloc (Nat.le_refl _) _).alloc (by simp) _).alloc (by simp; omega) _).trans (B1.out.mono (by simp; omega))
end Go.Proofs.YtanfllednlpbaaaGreat
namespace Go.Proofs.YtanfllednlpbaaaGreat
open Go.RowKit
set_option linter.unusedSimpArgs false
set_option linter.unusedVariables false

/-- Seven cells of a list of cells, as a node. -/
structure NdC (xs : List Value) (o : Nat) (n : Nd) (a : Option Addr) (c : Nat) : Prop where
  c0 : xs[o]? = some (.int .i64 n.kind)
  c1 : xs[o + 1]? = some (.string n.name)
  c2 : xs[o + 2]? = some (.int .i64 n.col)
  c3 : xs[o + 3]? = some (.int .i64 n.op)
  c4 : xs[o + 4]? = some (.int .i64 n.num)
  c5 : xs[o + 5]? = some (.bool n.slot)
  c6 : xs[o + 6]? = some (.slice a n.cols.length c)

/-- The first j nodes of l lie in the row g of the call's own. -/
structure PartN (w : World) (base g c m : Nat) (l : List Nd) (j : Nat) (xs : List Value) (A : Nat → Option Addr) (C : Nat → Nat) : Prop where
  own : w.ownsRow base 39 7 (.slice (some ⟨g, 0, none⟩) m c) m xs
  cells : ∀ (i : Nat) (n : Nd), i < j → l[i]? = some n → NdC xs (i * 7) n (A i) (C i)
  cols : ∀ (i : Nat) (n : Nd), i < j → l[i]? = some n → Own w base 3 .i64 (A i) (C i) n.cols
  name : ∀ (i : Nat) (n : Nd), i < j → l[i]? = some n → n.name.size ≤ maxLen
  row : ∀ (i : Nat) (x : Addr), i < j → i < l.length → A i = some x → x.block ≠ g
  apart : ∀ (i k : Nat) (x y : Addr), i < j → k < j → i < l.length → k < l.length → i ≠ k → A i = some x → A k = some y → x.block ≠ y.block

/-- A slice of nodes of the call's own. -/
def OwnN (w : World) (base : Nat) (ao : Option Addr) (c : Nat) (l : List Nd) : Prop :=
  l = [] ∨ ∃ g xs A C, ao = some ⟨g, 0, none⟩ ∧ PartN w base g c l.length l l.length xs A C

/-- The call returned a slice of nodes of its own, and nothing that was there has turned. -/
def MadeN (w : World) (l : List Nd) (en : Ending) (w' : World) : Prop :=
  ∃ ao c, en = .returned (.slice ao l.length c) ∧ OwnN w' w.heap.size ao c l ∧ Below w.heap.size w w'

/-- The call returned a slice of nodes of its own, a row even where there are none, and nothing that was there has turned. -/
def MadeP (w : World) (l : List Nd) (en : Ending) (w' : World) : Prop :=
  ∃ g c xs A C, en = .returned (.slice (some ⟨g, 0, none⟩) l.length c) ∧ PartN w' w.heap.size g c l.length l l.length xs A C ∧ Below w.heap.size w w'
theorem MadeP.made {w w' : World} {l : List Nd} {en : Ending} (h : MadeP w l en w') : MadeN w l en w' := by
  obtain ⟨g, c, xs, A, C, he, hp, hb⟩ := h
  exact ⟨_, c, he, .inr ⟨g, xs, A, C, rfl, hp⟩, hb⟩

theorem owns_block {w : World} {base : Nat} {e : TypeId} {size g c m : Nat} {xs : List Value} (h : w.ownsRow base e size (.slice (some ⟨g, 0, none⟩) m c) m xs) : base ≤ g ∧ g < w.heap.size :=
  h.lt g rfl
theorem owns_keep {w w' : World} {base : Nat} {e : TypeId} {size g c m : Nat} {xs : List Value} (h : w.ownsRow base e size (.slice (some ⟨g, 0, none⟩) m c) m xs) (hk : w'.heap[g]? = w.heap[g]?) : w'.ownsRow base e size (.slice (some ⟨g, 0, none⟩) m c) m xs := by
  refine ⟨h.1, ?_⟩
  rcases h.2 with h2 | ⟨g', cap, cur, hv, hb, hg, r⟩
  · exact .inl h2
  · refine .inr ⟨g', cap, cur, hv, hb, ?_, r⟩
    simp only [Value.slice.injEq, Option.some.injEq, Addr.mk.injEq, and_true] at hv
    rw [← hv.1, hk, hv.1]; exact hg
theorem owns_base {w : World} {base base' : Nat} {e : TypeId} {size g c m : Nat} {xs : List Value} (h : w.ownsRow base e size (.slice (some ⟨g, 0, none⟩) m c) m xs) (hb : base' ≤ base) : w.ownsRow base' e size (.slice (some ⟨g, 0, none⟩) m c) m xs := by
  refine ⟨h.1, ?_⟩
  rcases h.2 with h2 | ⟨g', cap, cur, hv, hb', r⟩
  · exact .inl h2
  · exact .inr ⟨g', cap, cur, hv, Nat.le_trans hb hb', r⟩

section
variable {w w' : World} {base g c m : Nat} {l : List Nd} {j : Nat} {xs : List Value} {A : Nat → Option Addr} {C : Nat → Nat}

theorem PartN.below (h : PartN w base g c m l j xs A C) (hb : Below w.heap.size w w') : PartN w' base g c m l j xs A C :=
  ⟨owns_keep h.own (hb.block _ (owns_block h.own).2), h.cells, fun i n hi hn => (h.cols i n hi hn).below hb, h.name, h.row, h.apart⟩
theorem PartN.base_le {base' : Nat} (h : PartN w base g c m l j xs A C) (hb : base' ≤ base) : PartN w base' g c m l j xs A C :=
  ⟨owns_base h.own hb, h.cells, fun i n hi hn => (h.cols i n hi hn).base_le hb, h.name, h.row, h.apart⟩
theorem PartN.cellAt (h : PartN w base g c m l j xs A C) {o : Nat} (ho : o < m * 7) : w.cell? ⟨g, o, none⟩ = xs[o]? := World.ownsRow.cellAt h.own o ho
theorem PartN.some_ (h : PartN w base g c m l j xs A C) {o : Nat} (ho : o < m * 7) : ∃ y, w.cell? ⟨g, o, none⟩ = some y := by
  have hl : o < xs.length := by rw [h.own.1]; exact ho
  exact ⟨xs[o], by rw [h.cellAt ho, List.getElem?_eq_getElem hl]⟩
theorem PartN.frozen (h : PartN w base g c m l j xs A C) (o : Nat) : w.frozen? ⟨g, o, none⟩ = false := World.ownsRow.frozenAt h.own o
theorem PartN.at_ (h : PartN w base g c m l j xs A C) {i : Nat} {n : Nd} (hi : i < j) (hm : i < m) (hn : l[i]? = some n) : NdAt w g (0 + i * 7) n (A i) (C i) := by
  have hc := h.cells i n hi hn
  have ho := h.cols i n hi hn
  rw [Nat.zero_add]
  exact ⟨(h.cellAt (by omega)).trans hc.c0, (h.cellAt (by omega)).trans hc.c1, (h.cellAt (by omega)).trans hc.c2, (h.cellAt (by omega)).trans hc.c3, (h.cellAt (by omega)).trans hc.c4, (h.cellAt (by omega)).trans hc.c5,
    (h.cellAt (by omega)).trans hc.c6, ho.rd, ho.cap_ge, ho.cap_le, h.name i n hi hn⟩

theorem get_set7 {xs : List Value} {o k : Nat} {v0 v1 v2 v3 v4 v5 v6 : Value} (h : k < o ∨ o + 6 < k) :
    (((((((xs.set o v0).set (o + 1) v1).set (o + 2) v2).set (o + 3) v3).set (o + 4) v4).set (o + 5) v5).set (o + 6) v6)[k]? = xs[k]? := by
  rw [List.getElem?_set_ne (by omega), List.getElem?_set_ne (by omega), List.getElem?_set_ne (by omega), List.getElem?_set_ne (by omega), List.getElem?_set_ne (by omega), List.getElem?_set_ne (by omega), List.getElem?_set_ne (by omega)]

/-- The world in which a node is stored into the row. -/
def put7 (w : World) (g o : Nat) (n : Nd) (a : Option Addr) (c : Nat) : World :=
  ((((((w.setCell ⟨g, o, none⟩ (.int .i64 n.kind)).setCell ⟨g, o + 1, none⟩ (.string n.name)).setCell ⟨g, o + 2, none⟩ (.int .i64 n.col)).setCell ⟨g, o + 3, none⟩ (.int .i64 n.op)).setCell ⟨g, o + 4, none⟩ (.int .i64 n.num)).setCell ⟨g, o + 5, none⟩ (.bool n.slot)).setCell ⟨g, o + 6, none⟩ (.slice a n.cols.length c)

theorem put7_block {o : Nat} {n : Nd} {a : Option Addr} {c i : Nat} (h : i ≠ g) : (put7 w g o n a c).heap[i]? = w.heap[i]? := by
  unfold put7
  rw [Below.heap_setCell _ _ _ i h, Below.heap_setCell _ _ _ i h, Below.heap_setCell _ _ _ i h, Below.heap_setCell _ _ _ i h, Below.heap_setCell _ _ _ i h, Below.heap_setCell _ _ _ i h, Below.heap_setCell _ _ _ i h]
theorem put7_below {B : Nat} {a0 : World} {o : Nat} {n : Nd} {a : Option Addr} {c : Nat} (h : Below B a0 w) (hB : B ≤ g) : Below B a0 (put7 w g o n a c) :=
  ((((((h.setCell hB _).setCell hB _).setCell hB _).setCell hB _).setCell hB _).setCell hB _).setCell hB _

/-- A node more is stored behind those that lie there. -/
theorem PartN.put (h : PartN w base g c m l j xs A C) {w1 : World} {n : Nd} {a1 : Option Addr} {c1 : Nat} (hj : j < m) (hn : l[j]? = some n) (hb : Below w.heap.size w w1)
    (ho : Own w1 w.heap.size 3 .i64 a1 c1 n.cols) (hbase : base ≤ w.heap.size) (hs : n.name.size ≤ maxLen) :
    ∃ xs', PartN (put7 w1 g (j * 7) n a1 c1) base g c m l (j + 1) xs' (fun i => if i = j then a1 else A i) (fun i => if i = j then c1 else C i) := by
  have hg := (owns_block h.own).2
  have h1 := h.below hb
  have s0 := (h1.own.stored (j * 7) (.int .i64 n.kind)).1
  have s1 := (s0.stored (j * 7 + 1) (.string n.name)).1
  have s2 := (s1.stored (j * 7 + 2) (.int .i64 n.col)).1
  have s3 := (s2.stored (j * 7 + 3) (.int .i64 n.op)).1
  have s4 := (s3.stored (j * 7 + 4) (.int .i64 n.num)).1
  have s5 := (s4.stored (j * 7 + 5) (.bool n.slot)).1
  have s6 := (s5.stored (j * 7 + 6) (.slice a1 n.cols.length c1)).1
  have hlen : xs.length = m * 7 := h.own.1
  refine ⟨_, s6, ?_, ?_, ?_, ?_, ?_⟩
  · intro i n' hi hn'
    by_cases hij : i = j
    · subst hij
      rw [hn] at hn'; cases hn'
      simp only [if_true]
      constructor <;> simp [List.getElem?_set, hlen] <;> omega
    · simp only [if_neg hij]
      have hc := h.cells i n' (by omega) hn'
      exact ⟨(get_set7 (by omega)).trans hc.c0, (get_set7 (by omega)).trans hc.c1, (get_set7 (by omega)).trans hc.c2, (get_set7 (by omega)).trans hc.c3, (get_set7 (by omega)).trans hc.c4, (get_set7 (by omega)).trans hc.c5, (get_set7 (by omega)).trans hc.c6⟩
  · intro i n' hi hn'
    by_cases hij : i = j
    · subst hij
      rw [hn] at hn'; cases hn'
      simp only [if_true]
      exact (ho.keep fun x hx _ => put7_block (by have := (ho.lt x hx).1; omega)).base_le hbase
    · simp only [if_neg hij]
      have hil : i < l.length := by
        rcases Nat.lt_or_ge i l.length with h1 | h1
        · exact h1
        · rw [List.getElem?_eq_none h1] at hn'; cases hn'
      exact (h1.cols i n' (by omega) hn').keep fun x hx _ => put7_block (h.row i x (by omega) hil hx)
  · intro i n' hi hn'
    by_cases hij : i = j
    · subst hij
      rw [hn] at hn'; cases hn'; exact hs
    · exact h.name i n' (by omega) hn'
  · intro i x hi hil hx
    by_cases hij : i = j
    · subst hij
      simp only [if_true] at hx
      have := (ho.lt x hx).1; omega
    · simp only [if_neg hij] at hx
      exact h.row i x (by omega) hil hx
  · intro i k x y hi hk hil hkl hik hx hy
    have key : ∀ i x, i < j → i < l.length → A i = some x → x.block < w.heap.size := fun i x hi hil hx => ((h.cols i _ hi (List.getElem?_eq_getElem hil)).lt x hx).2
    by_cases hij : i = j
    · subst hij
      simp only [if_true] at hx
      simp only [if_neg (Ne.symm hik)] at hy
      have := (ho.lt x hx).1
      have := key k y (by omega) hkl hy
      omega
    · simp only [if_neg hij] at hx
      by_cases hkj : k = j
      · subst hkj
        simp only [if_true] at hy
        have := (ho.lt y hy).1
        have := key i x (by omega) hil hx
        omega
      · simp only [if_neg hkj] at hy
        exact h.apart i k x y (by omega) (by omega) hil hkl hik hx hy
end

section
variable {w w' : World} {base : Nat} {ao : Option Addr} {c : Nat} {l : List Nd}
theorem OwnN.below (h : OwnN w base ao c l) (hb : Below w.heap.size w w') : OwnN w' base ao c l := by
  rcases h with h | ⟨g, xs, A, C, he, hp⟩
  · exact .inl h
  · exact .inr ⟨g, xs, A, C, he, hp.below hb⟩
theorem OwnN.base_le {base' : Nat} (h : OwnN w base ao c l) (hb : base' ≤ base) : OwnN w base' ao c l := by
  rcases h with h | ⟨g, xs, A, C, he, hp⟩
  · exact .inl h
  · exact .inr ⟨g, xs, A, C, he, hp.base_le hb⟩
theorem OwnN.rd (h : OwnN w base ao c l) : RdN w ao l := by
  rcases h with h | ⟨g, xs, A, C, rfl, hp⟩
  · exact .inl h
  · refine .inr ⟨g, 0, rfl, fun i n hn => ?_⟩
    have hil : i < l.length := by
      rcases Nat.lt_or_ge i l.length with h1 | h1
      · exact h1
      · rw [List.getElem?_eq_none h1] at hn; cases hn
    exact ⟨A i, C i, hp.at_ hil hil hn⟩
end
end Go.Proofs.YtanfllednlpbaaaGreat
namespace Go.Proofs.YtanfllednlpbaaaGreat
open Go.RowKit
set_option linter.unusedSimpArgs false
set_option linter.unusedVariables false

/-- The cell at place o of block b holds a slice that reads as the row r. -/
def RowAt (w : World) (b o : Nat) (r : List Int) (a : Option Addr) (c : Nat) : Prop :=
  w.cell? ⟨b, o, none⟩ = some (.slice a r.length c) ∧ Rd w .i64 a r ∧ r.length ≤ c ∧ c ≤ maxLen

/-- The slice that begins at 'ao' reads as the rows l. -/
def RdR (w : World) (ao : Option Addr) (l : List (List Int)) : Prop :=
  l = [] ∨ ∃ b off, ao = some ⟨b, off, none⟩ ∧ ∀ i r, l[i]? = some r → ∃ a c, RowAt w b (off + i) r a c

/-- The first j rows of l lie in the row g of the call's own, each in a row of its own. -/
structure PartR (w : World) (base g c m : Nat) (l : List (List Int)) (j : Nat) (xs : List Value) (A : Nat → Option Addr) (C : Nat → Nat) : Prop where
  own : w.ownsRow base 34 1 (.slice (some ⟨g, 0, none⟩) m c) m xs
  cells : ∀ (i : Nat) (r : List Int), i < j → l[i]? = some r → xs[i]? = some (.slice (A i) r.length (C i))
  cols : ∀ (i : Nat) (r : List Int), i < j → l[i]? = some r → Own w base 3 .i64 (A i) (C i) r
  row : ∀ (i : Nat) (x : Addr), i < j → i < l.length → A i = some x → x.block ≠ g
  apart : ∀ (i k : Nat) (x y : Addr), i < j → k < j → i < l.length → k < l.length → i ≠ k → A i = some x → A k = some y → x.block ≠ y.block

/-- A slice of rows of the call's own. -/
def OwnR (w : World) (base : Nat) (ao : Option Addr) (c : Nat) (l : List (List Int)) : Prop :=
  l = [] ∨ ∃ g xs A C, ao = some ⟨g, 0, none⟩ ∧ PartR w base g c l.length l l.length xs A C

/-- The call returned a slice of rows of its own, and nothing that was there has turned. -/
def MadeR (w : World) (l : List (List Int)) (en : Ending) (w' : World) : Prop :=
  ∃ ao c, en = .returned (.slice ao l.length c) ∧ OwnR w' w.heap.size ao c l ∧ l.length ≤ c ∧ c ≤ maxLen ∧ Below w.heap.size w w'

theorem lt_of_get {α : Type} {l : List α} {i : Nat} {x : α} (h : l[i]? = some x) : i < l.length := by
  rcases Nat.lt_or_ge i l.length with h1 | h1
  · exact h1
  · rw [List.getElem?_eq_none h1] at h; cases h

section
variable {w w' : World} {base b o : Nat} {ao : Option Addr} {c : Nat} {l : List (List Int)} {r : List Int} {a : Option Addr}

theorem RowAt.lt (h : RowAt w b o r a c) : b < w.heap.size := World.block_lt_of_cell? w ⟨b, o, none⟩ h.1
theorem RowAt.below (h : RowAt w b o r a c) (hb : Below w.heap.size w w') : RowAt w' b o r a c :=
  ⟨(hb.cell (p := ⟨b, o, none⟩) h.lt).trans h.1, h.2.1.below hb, h.2.2⟩
theorem RdR.nil : RdR w ao [] := .inl rfl
theorem RdR.below (h : RdR w ao l) (hb : Below w.heap.size w w') : RdR w' ao l := by
  rcases h with h | ⟨b, off, rfl, hc⟩
  · exact .inl h
  · refine .inr ⟨b, off, rfl, fun i n hi => ?_⟩
    obtain ⟨a, c, h⟩ := hc i n hi
    exact ⟨a, c, h.below hb⟩
theorem RdR.at_ (h : RdR w ao l) {i : Nat} (hi : i < l.length) : ∃ b off r a c, ao = some ⟨b, off, none⟩ ∧ l[i]? = some r ∧ RowAt w b (off + i) r a c := by
  rcases h with rfl | ⟨b, off, rfl, hc⟩
  · simp at hi
  · obtain ⟨a, c, h⟩ := hc i _ (List.getElem?_eq_getElem hi)
    exact ⟨b, off, _, a, c, rfl, List.getElem?_eq_getElem hi, h⟩
end

section
variable {w w' : World} {base g c m : Nat} {l : List (List Int)} {j : Nat} {xs : List Value} {A : Nat → Option Addr} {C : Nat → Nat}
theorem PartR.below (h : PartR w base g c m l j xs A C) (hb : Below w.heap.size w w') : PartR w' base g c m l j xs A C :=
  ⟨owns_keep h.own (hb.block _ (owns_block h.own).2), h.cells, fun i n hi hn => (h.cols i n hi hn).below hb, h.row, h.apart⟩
theorem PartR.base_le {base' : Nat} (h : PartR w base g c m l j xs A C) (hb : base' ≤ base) : PartR w base' g c m l j xs A C :=
  ⟨owns_base h.own hb, h.cells, fun i n hi hn => (h.cols i n hi hn).base_le hb, h.row, h.apart⟩
theorem PartR.cellAt (h : PartR w base g c m l j xs A C) {o : Nat} (ho : o < m) : w.cell? ⟨g, o, none⟩ = xs[o]? := World.ownsRow.cellAt h.own o (by omega)
theorem PartR.some_ (h : PartR w base g c m l j xs A C) {o : Nat} (ho : o < m) : ∃ y, w.cell? ⟨g, o, none⟩ = some y := by
  have hl : o < xs.length := by have := h.own.1; omega
  exact ⟨xs[o], by rw [h.cellAt ho, List.getElem?_eq_getElem hl]⟩
theorem PartR.frozen (h : PartR w base g c m l j xs A C) (o : Nat) : w.frozen? ⟨g, o, none⟩ = false := World.ownsRow.frozenAt h.own o
theorem PartR.at_ (h : PartR w base g c m l j xs A C) {i : Nat} {r : List Int} (hi : i < j) (hm : i < m) (hn : l[i]? = some r) : RowAt w g (0 + i) r (A i) (C i) := by
  have ho := h.cols i r hi hn
  rw [Nat.zero_add]
  exact ⟨(h.cellAt hm).trans (h.cells i r hi hn), ho.rd, ho.cap_ge, ho.cap_le⟩

/-- A row more is stored behind those that lie there. -/
theorem PartR.put (h : PartR w base g c m l j xs A C) {w1 : World} {r : List Int} {a1 : Option Addr} {c1 : Nat} (hj : j < m) (hn : l[j]? = some r) (hb : Below w.heap.size w w1)
    (ho : Own w1 w.heap.size 3 .i64 a1 c1 r) (hbase : base ≤ w.heap.size) :
    PartR (w1.setCell ⟨g, j, none⟩ (.slice a1 r.length c1)) base g c m l (j + 1) (xs.set j (.slice a1 r.length c1)) (fun i => if i = j then a1 else A i) (fun i => if i = j then c1 else C i) := by
  have hg := (owns_block h.own).2
  have h1 := h.below hb
  have s0 := (h1.own.stored j (.slice a1 r.length c1)).1
  have hlen : xs.length = m := by have := h.own.1; omega
  have hblk : ∀ i, i ≠ g → (w1.setCell ⟨g, j, none⟩ (.slice a1 r.length c1)).heap[i]? = w1.heap[i]? := fun i hi => Below.heap_setCell _ _ _ i hi
  refine ⟨s0, ?_, ?_, ?_, ?_⟩
  · intro i n' hi hn'
    by_cases hij : i = j
    · subst hij
      rw [hn] at hn'; cases hn'
      simp only [if_true]
      rw [List.getElem?_set_self (by omega)]
    · simp only [if_neg hij]
      rw [List.getElem?_set_ne (by omega)]
      exact h.cells i n' (by omega) hn'
  · intro i n' hi hn'
    by_cases hij : i = j
    · subst hij
      rw [hn] at hn'; cases hn'
      simp only [if_true]
      exact (ho.keep fun x hx _ => hblk _ (by have := (ho.lt x hx).1; omega)).base_le hbase
    · simp only [if_neg hij]
      exact (h1.cols i n' (by omega) hn').keep fun x hx _ => hblk _ (h.row i x (by omega) (lt_of_get hn') hx)
  · intro i x hi hil hx
    by_cases hij : i = j
    · subst hij
      simp only [if_true] at hx
      have := (ho.lt x hx).1; omega
    · simp only [if_neg hij] at hx
      exact h.row i x (by omega) hil hx
  · intro i k x y hi hk hil hkl hik hx hy
    have key : ∀ i x, i < j → i < l.length → A i = some x → x.block < w.heap.size := fun i x hi hil hx => ((h.cols i _ hi (List.getElem?_eq_getElem hil)).lt x hx).2
    by_cases hij : i = j
    · subst hij
      simp only [if_true] at hx
      simp only [if_neg (Ne.symm hik)] at hy
      have := (ho.lt x hx).1
      have := key k y (by omega) hkl hy
      omega
    · simp only [if_neg hij] at hx
      by_cases hkj : k = j
      · subst hkj
        simp only [if_true] at hy
        have := (ho.lt y hy).1
        have := key i x (by omega) hil hx
        omega
      · simp only [if_neg hkj] at hy
        exact h.apart i k x y (by omega) (by omega) hil hkl hik hx hy
end

section
variable {w w' : World} {base : Nat} {ao : Option Addr} {c : Nat} {l : List (List Int)}
theorem OwnR.below (h : OwnR w base ao c l) (hb : Below w.heap.size w w') : OwnR w' base ao c l := by
  rcases h with h | ⟨g, xs, A, C, he, hp⟩
  · exact .inl h
  · exact .inr ⟨g, xs, A, C, he, hp.below hb⟩
theorem OwnR.base_le {base' : Nat} (h : OwnR w base ao c l) (hb : base' ≤ base) : OwnR w base' ao c l := by
  rcases h with h | ⟨g, xs, A, C, he, hp⟩
  · exact .inl h
  · exact .inr ⟨g, xs, A, C, he, hp.base_le hb⟩
theorem OwnR.rd (h : OwnR w base ao c l) : RdR w ao l := by
  rcases h with h | ⟨g, xs, A, C, rfl, hp⟩
  · exact .inl h
  · exact .inr ⟨g, 0, rfl, fun i r hr => ⟨_, _, hp.at_ (lt_of_get hr) (lt_of_get hr) hr⟩⟩
end
end Go.Proofs.YtanfllednlpbaaaGreat
