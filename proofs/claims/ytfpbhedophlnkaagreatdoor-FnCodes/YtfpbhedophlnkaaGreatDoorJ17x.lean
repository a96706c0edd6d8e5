/-
  Contracts of the helpers over slices of int: eqIntS, markIntS, toIntS, heldIntS. For every slice of int. Contracts of the helpers over nodes: szIntS, szNode, toNode, eqNode. For every node. A row of nodes that the call itself owns: its cells, the columns of each node in a row of their own, all of them apart. No program, no walk.
-/
import Derived.Test.YtfpbhedophlnkaaGreatDoorJ3x
import Derived.Test.YtfpbhedophlnkaaGreatDoorJ16x
namespace Go.Proofs.YtfpbhedophlnkaaGreatDoor
open Go.RowKit
set_option linter.unusedSimpArgs false
set_option linter.unusedVariables false

set_option maxHeartbeats 800000 in
theorem eqIntS_any (a b : Option Addr) (c d : Nat) (l m : List Int) (w : World) (h : Rd w .i64 a l) (k : Rd w .i64 b m) (hn : l.length ≤ maxLen) (hm : m.length ≤ maxLen) :
    Calls Tryz.prog 214 #[.slice a l.length c, .slice b m.length d] w fun e w' => e = .returned (.bool (eqL l m)) ∧ Below w.heap.size w w' := by
  unfold maxLen at hn hm
  by_cases hlen : l.length = m.length
  · have hne : ((l.length : Int) != (m.length : Int)) = false := by simp [hlen]
    have HL := Lib.hid hlen; clear hlen
    rcases h with rfl | ⟨b1, o1, rfl, hc⟩
    · have hm0 : m = [] := List.eq_nil_of_length_eq_zero HL.out.symm
      subst hm0
      clear hne
      go_enter Tryz.func214, Tryz.ntmps214
      go_wp2
      refine wp_loop_rounds 1 ?_; rw [rounds_succ]; go_wp2
      go_ret
      exact ⟨rfl, Below.refl _ _⟩
    · rcases k with rfl | ⟨b2, o2, rfl, kc⟩
      · have hl0 : l = [] := List.eq_nil_of_length_eq_zero HL.out
        subst hl0
        clear hne hc
        go_enter Tryz.func214, Tryz.ntmps214
        go_wp2
        refine wp_loop_rounds 1 ?_; rw [rounds_succ]; go_wp2
        go_ret
        exact ⟨rfl, Below.refl _ _⟩
      · have HC := Lib.hid hc; have KC := Lib.hid kc; clear hc kc
        go_enter Tryz.func214, Tryz.ntmps214
        go_wp2
        go_loopw [5] (fun i wr => ∃ j q : Nat, j ≤ l.length ∧ i = .int .i64 j ∧ l.take j = m.take j ∧ wr = w.drewN q) (fun i _ => l.length - (intOf i).toNat)
        case atStart => exact ⟨0, 0, Nat.zero_le _, rfl, rfl, rfl⟩
        case round =>
          obtain ⟨j, q, hj, rfl, ht, rfl⟩ := hrel
          have HT := Lib.hid ht; clear ht
          by_cases hlt : j < l.length
          · have hlt2 : j < m.length := by have := HL.out; omega
            obtain ⟨x, _, hx, hcx, htx⟩ := Rd.at_ HC.out hlt
            obtain ⟨y, _, hy, hcy, hty⟩ := Rd.at_ KC.out hlt2
            have X := Lib.hid hx; have Y := Lib.hid hy; have TX := Lib.hid htx; have TY := Lib.hid hty
            clear hx hy htx hty
            have i1 : (j : Int) < (l.length : Int) := by omega
            have i2 : (j : Int) < (m.length : Int) := by omega
            by_cases hxy : x = y
            · subst hxy
              have hb : (x != x) = false := by simp
              go_wp2
              go_quiet (fail)
              go_wp2
              go_roundw
              case rel => exact ⟨j + 1, _, by omega, by go_num, by rw [TX.out, TY.out, HT.out], by first | rfl | rw [World.drewN_drewN]⟩
              case measure => simp [intOf]; omega
            · have hb : (x != y) = true := by simp [hxy]
              have HF := Lib.hid (eqL_no hxy X.out Y.out)
              clear hxy
              go_wp2
              go_quiet (fail)
              go_wp2
              go_ret
              exact ⟨ret_bool HF.out.symm, by first | exact below_drewN (Below.refl _ _) _ | exact below_drewN (below_drewN (Below.refl _ _) _) _⟩
          · go_wp2
            go_ret
            exact ⟨ret_bool (eqL_yes HL.out (by omega) HT.out).symm, below_drewN (Below.refl _ _) _⟩
  · have hne : ((l.length : Int) != (m.length : Int)) = true := by simp; omega
    have HF : Hid (eqL l m = false) := by
      show eqL l m = false
      unfold eqL; simp; rintro rfl; exact hlen rfl
    go_enter Tryz.func214, Tryz.ntmps214
    go_wp2
    go_ret
    exact ⟨ret_bool HF.out.symm, Below.refl _ _⟩
set_option maxHeartbeats 800000 in
theorem markIntS_any (base : Nat) (ao : Option Addr) (c : Nat) (l : List Int) (m : Int) (w : World) (h : Own w base 3 .i64 ao c l) (h0 : 0 ≤ m) (hm : m + l.length ≤ 4611686018427387904) :
    Calls Tryz.prog 143 #[.slice ao l.length c, .int .i64 m] w (Marked w id .i64 ao l.length m) := by
  rcases h.form with ⟨rfl, rfl, rfl⟩ | ⟨g, rfl, _⟩
  · go_enter Tryz.func143, Tryz.ntmps143
    go_wp2
    refine wp_loop_rounds 1 ?_; rw [rounds_succ]; go_wp2
    go_ret
    exact ⟨ret_int (by simp), .inl rfl, World.grownBy.refl _ _⟩
  · have hs : MarkRel w w base 3 .i64 id m g c l 0 := ⟨by have h' := h; unfold Own at h'; simpa [marksL] using h', World.grownBy.refl _ _⟩
    clear h
    go_enter Tryz.func143, Tryz.ntmps143
    go_wp2
    go_loopw [1, 5] (fun q i wr => ∃ j : Nat, j ≤ l.length ∧ i = .int .i64 j ∧ q = .int .i64 (m + j) ∧ MarkRel w wr base 3 .i64 id m g c l j) (fun _ i _ => l.length - (intOf i).toNat)
    case atStart => exact ⟨0, Nat.zero_le _, rfl, by simp, hs⟩
    case round =>
      clear hs
      obtain ⟨j, hj, rfl, rfl, hr⟩ := hrel
      by_cases hlt : j < l.length
      · obtain ⟨y, hy⟩ := hr.cell hlt
        have hf := hr.1.frozenAt j
        have R := Lib.hid (hr.step hlt)
        clear hr
        go_wp2
        go_roundw
        case rel => exact ⟨j + 1, by omega, by go_num, by go_num, R.out⟩
        case measure => simp [intOf]; omega
      · have e : j = l.length := by omega
        have D := Lib.hid (hr.done e)
        have G := Lib.hid hr.2
        clear hr
        subst e
        go_wp2
        go_ret
        exact ⟨rfl, D.out, G.out⟩

set_option maxHeartbeats 800000 in
theorem heldIntS_any (ao : Option Addr) (c n : Nat) (m : Int) (w : World) (h : Rd w .i64 ao (marksL id m n)) (h0 : 0 ≤ m) (hm : m + n ≤ 4611686018427387904) :
    Calls Tryz.prog 144 #[.slice ao n c, .int .i64 m] w fun e w' => e = .returned (.int .i64 (m + n)) ∧ w = w' := by
  rcases h with h | ⟨b, off, rfl, hc⟩
  · have hn : n = 0 := by have := congrArg List.length h; rw [marksL_len] at this; simpa using this
    subst hn
    clear h
    go_enter Tryz.func144, Tryz.ntmps144
    go_wp2
    refine wp_loop_rounds 1 ?_; rw [rounds_succ]; go_wp2
    go_ret
    exact ⟨ret_int (by simp), rfl⟩
  · have hc' : ∀ i : Nat, i < n → w.cell? ⟨b, off + i, none⟩ = some (.int .i64 (id (m + (i : Int)))) := by
      intro i hi
      rw [hc i (by rw [marksL_len]; exact hi), List.getD_eq_getElem?_getD, marksL_get _ _ _ _ hi]; rfl
    have HC := Lib.hid hc'; clear hc hc'
    go_enter Tryz.func144, Tryz.ntmps144
    go_wp2
    go_loop [1, 5] (fun q i => ∃ j : Nat, j ≤ n ∧ i = .int .i64 j ∧ q = .int .i64 (m + j)) (fun _ i => n - (intOf i).toNat)
    case atStart => exact ⟨0, Nat.zero_le _, rfl, by simp⟩
    case round =>
      obtain ⟨j, hj, rfl, rfl⟩ := hrel
      by_cases hlt : j < n
      · have hcz := HC.out j hlt
        go_wp2
        go_round
        case rel => exact ⟨j + 1, by omega, by go_num, by go_num⟩
        case measure => simp [intOf]; omega
      · obtain rfl : j = n := by omega
        go_wp2
        go_ret
        exact ⟨rfl, rfl⟩
end Go.Proofs.YtfpbhedophlnkaaGreatDoor
namespace Go.Proofs.YtfpbhedophlnkaaGreatDoor
open Go.RowKit
set_option linter.unusedSimpArgs false
set_option linter.unusedVariables false

theorem Own.far {w : World} {base : Nat} {e : TypeId} {k : IntKind} {ao : Option Addr} {c : Nat} {l : List Int} {p : Addr} (h : Own w base e k ao c l) (hp : ∀ x, ao = some x → x.block ≠ p.block) (u : Value) :
    Own (w.setCell p u) base e k ao c l := h.keep fun a ha _ => Below.heap_setCell w p u a.block (hp a ha)
theorem bcell {W w1 : World} (hb : Below W.heap.size W w1) :
    (∀ b o, b < W.heap.size → w1.cell? ⟨b, o, none⟩ = W.cell? ⟨b, o, none⟩) ∧ (∀ b o, b < W.heap.size → w1.frozen? ⟨b, o, none⟩ = W.frozen? ⟨b, o, none⟩) :=
  ⟨fun b o h => hb.cell (p := ⟨b, o, none⟩) h, fun b o h => hb.frozen (p := ⟨b, o, none⟩) h⟩

/-- What is left behind a node. -/
def szN (n : Nd) (left : Int) : Int :=
  if left < (n.name.size : Int) then -1 else if left - (n.name.size : Int) < (n.cols.length : Int) then -1 else left - n.name.size - n.cols.length

/-- The call returned the node n, its columns in memory of its own. -/
def MadeNd (w : World) (n : Nd) (en : Ending) (w' : World) : Prop :=
  ∃ a c, en = .returned (.agg #[.int .i64 n.kind, .string n.name, .int .i64 n.col, .int .i64 n.op, .int .i64 n.num, .bool n.slot, .slice a n.cols.length c]) ∧ Own w' w.heap.size 3 .i64 a c n.cols ∧ Below w.heap.size w w'

end Go.Proofs.YtfpbhedophlnkaaGreatDoor
namespace Go.Proofs.YtfpbhedophlnkaaGreatDoor
open Go.RowKit
set_option linter.unusedSimpArgs false
set_option linter.unusedVariables false

/-- Seven cells of a list of cells, as a node. -/
structure NdC (xs : List Value) (o : Nat) (n : Nd) (a : Option Addr) (c : Nat) : Prop where
  c0 : xs[o]? = some (.int .i64 n.kind)
  c1 : xs[o + 1]? = some (.string n.name)
  c2 : xs[o + 2]? = some (.int .i64 n.col)
  c3 : xs[o + 3]? = some (.int .i64 n.op)
  c4 : xs[o + 4]? = some (.int .i64 n.num)
  c5 : xs[o + 5]? = some (.bool n.slot)
  c6 : xs[o + 6]? = some (.slice a n.cols.length c)

/-- The first j nodes of l lie in the row g of the call's own. -/
structure PartN (w : World) (base g c m : Nat) (l : List Nd) (j : Nat) (xs : List Value) (A : Nat → Option Addr) (C : Nat → Nat) : Prop where
  own : w.ownsRow base 92 7 (.slice (some ⟨g, 0, none⟩) m c) m xs
  cells : ∀ (i : Nat) (n : Nd), i < j → l[i]? = some n → NdC xs (i * 7) n (A i) (C i)
  cols : ∀ (i : Nat) (n : Nd), i < j → l[i]? = some n → Own w base 3 .i64 (A i) (C i) n.cols
  name : ∀ (i : Nat) (n : Nd), i < j → l[i]? = some n → n.name.size ≤ maxLen
  row : ∀ (i : Nat) (x : Addr), i < j → i < l.length → A i = some x → x.block ≠ g
  apart : ∀ (i k : Nat) (x y : Addr), i < j → k < j → i < l.length → k < l.length → i ≠ k → A i = some x → A k = some y → x.block ≠ y.block

/-- A slice of nodes of the call's own. -/
def OwnN (w : World) (base : Nat) (ao : Option Addr) (c : Nat) (l : List Nd) : Prop :=
  l = [] ∨ ∃ g xs A C, ao = some ⟨g, 0, none⟩ ∧ PartN w base g c l.length l l.length xs A C

/-- The call returned a slice of nodes of its own, and nothing that was there has turned. -/
def MadeN (w : World) (l : List Nd) (en : Ending) (w' : World) : Prop :=
  ∃ ao c, en = .returned (.slice ao l.length c) ∧ OwnN w' w.heap.size ao c l ∧ Below w.heap.size w w'

/-- The call returned a slice of nodes of its own, a row even where there are none, and nothing that was there has turned. -/
def MadeP (w : World) (l : List Nd) (en : Ending) (w' : World) : Prop :=
  ∃ g c xs A C, en = .returned (.slice (some ⟨g, 0, none⟩) l.length c) ∧ PartN w' w.heap.size g c l.length l l.length xs A C ∧ Below w.heap.size w w'
theorem MadeP.made {w w' : World} {l : List Nd} {en : Ending} (h : MadeP w l en w') : MadeN w l en w' := by
  obtain ⟨g, c, xs, A, C, he, hp, hb⟩ := h
  exact ⟨_, c, he, .inr ⟨g, xs, A, C, rfl, hp⟩, hb⟩

theorem owns_block {w : World} {base : Nat} {e : TypeId} {size g c m : Nat} {xs : List Value} (h : w.ownsRow base e size (.slice (some ⟨g, 0, none⟩) m c) m xs) : base ≤ g ∧ g < w.heap.size :=
  h.lt g rfl
theorem owns_keep {w w' : World} {base : Nat} {e : TypeId} {size g c m : Nat} {xs : List Value} (h : w.ownsRow base e size (.slice (some ⟨g, 0, none⟩) m c) m xs) (hk : w'.heap[g]? = w.heap[g]?) : w'.ownsRow base e size (.slice (some ⟨g, 0, none⟩) m c) m xs := by
  refine ⟨h.1, ?_⟩
  rcases h.2 with h2 | ⟨g', cap, cur, hv, hb, hg, r⟩
  · exact .inl h2
  · refine .inr ⟨g', cap, cur, hv, hb, ?_, r⟩
    simp only [Value.slice.injEq, Option.some.injEq, Addr.mk.injEq, and_true] at hv
    rw [← hv.1, hk, hv.1]; exact hg
theorem owns_base {w : World} {base base' : Nat} {e : TypeId} {size g c m : Nat} {xs : List Value} (h : w.ownsRow base e size (.slice (some ⟨g, 0, none⟩) m c) m xs) (hb : base' ≤ base) : w.ownsRow base' e size (.slice (some ⟨g, 0, none⟩) m c) m xs := by
  refine ⟨h.1, ?_⟩
  rcases h.2 with h2 | ⟨g', cap, cur, hv, hb', r⟩
  · exact .inl h2
  · exact .inr ⟨g', cap, cur, hv, Nat.le_trans hb hb', r⟩

section
variable {w w' : World} {base g c m : Nat} {l : List Nd} {j : Nat} {xs : List Value} {A : Nat → Option Addr} {C : Nat → Nat}

theorem PartN.below (h : PartN w base g c m l j xs A C) (hb : Below w.heap.size w w') : PartN w' base g c m l j xs A C :=
  ⟨owns_keep h.own (hb.block _ (owns_block h.own).2), h.cells, fun i n hi hn => (h.cols i n hi hn).below hb, h.name, h.row, h.apart⟩
theorem PartN.base_le {base' : Nat} (h : PartN w base g c m l j xs A C) (hb : base' ≤ base) : PartN w base' g c m l j xs A C :=
  ⟨owns_base h.own hb, h.cells, fun i n hi hn => (h.cols i n hi hn).base_le hb, h.name, h.row, h.apart⟩
theorem PartN.cellAt (h : PartN w base g c m l j xs A C) {o : Nat} (ho : o < m * 7) : w.cell? ⟨g, o, none⟩ = xs[o]? := World.ownsRow.cellAt h.own o ho
theorem PartN.some_ (h : PartN w base g c m l j xs A C) {o : Nat} (ho : o < m * 7) : ∃ y, w.cell? ⟨g, o, none⟩ = some y := by
  have hl : o < xs.length := by rw [h.own.1]; exact ho
  exact ⟨xs[o], by rw [h.cellAt ho, List.getElem?_eq_getElem hl]⟩
theorem PartN.frozen (h : PartN w base g c m l j xs A C) (o : Nat) : w.frozen? ⟨g, o, none⟩ = false := World.ownsRow.frozenAt h.own o
theorem PartN.at_ (h : PartN w base g c m l j xs A C) {i : Nat} {n : Nd} (hi : i < j) (hm : i < m) (hn : l[i]? = some n) : NdAt w g (0 + i * 7) n (A i) (C i) := by
  have hc := h.cells i n hi hn
  have ho := h.cols i n hi hn
  rw [Nat.zero_add]
  exact ⟨(h.cellAt (by omega)).trans hc.c0, (h.cellAt (by omega)).trans hc.c1, (h.cellAt (by omega)).trans hc.c2, (h.cellAt (by omega)).trans hc.c3, (h.cellAt (by omega)).trans hc.c4, (h.cellAt (by omega)).trans hc.c5,
    (h.cellAt (by omega)).trans hc.c6, ho.rd, ho.cap_ge, ho.cap_le, h.name i n hi hn⟩

theorem get_set7 {xs : List Value} {o k : Nat} {v0 v1 v2 v3 v4 v5 v6 : Value} (h : k < o ∨ o + 6 < k) :
    (((((((xs.set o v0).set (o + 1) v1).set (o + 2) v2).set (o + 3) v3).set (o + 4) v4).set (o + 5) v5).set (o + 6) v6)[k]? = xs[k]? := by
  rw [List.getElem?_set_ne (by omega), List.getElem?_set_ne (by omega), List.getElem?_set_ne (by omega), List.getElem?_set_ne (by omega), List.getElem?_set_ne (by omega), List.getElem?_set_ne (by omega), List.getElem?_set_ne (by omega)]

/-- The world in which a node is stored into the row. -/
def put7 (w : World) (g o : Nat) (n : Nd) (a : Option Addr) (c : Nat) : World :=
  ((((((w.setCell ⟨g, o, none⟩ (.int .i64 n.kind)).setCell ⟨g, o + 1, none⟩ (.string n.name)).setCell ⟨g, o + 2, none⟩ (.int .i64 n.col)).setCell ⟨g, o + 3, none⟩ (.int .i64 n.op)).setCell ⟨g, o + 4, none⟩ (.int .i64 n.num)).setCell ⟨g, o + 5, none⟩ (.bool n.slot)).setCell ⟨g, o + 6, none⟩ (.slice a n.cols.length c)

theorem put7_block {o : Nat} {n : Nd} {a : Option Addr} {c i : Nat} (h : i ≠ g) : (put7 w g o n a c).heap[i]? = w.heap[i]? := by
  unfold put7
  rw [Below.heap_setCell _ _ _ i h, Below.heap_setCell _ _ _ i h, Below.heap_setCell _ _ _ i h, Below.heap_setCell _ _ _ i h, Below.heap_setCell _ _ _ i h, Below.heap_setCell _ _ _ i h, Below.heap_setCell _ _ _ i h]
theorem put7_below {B : Nat} {a0 : World} {o : Nat} {n : Nd} {a : Option Addr} {c : Nat} (h : Below B a0 w) (hB : B ≤ g) : Below B a0 (put7 w g o n a c) :=
  ((((((h.setCell hB _).setCell hB _).setCell hB _).setCell hB _).setCell hB _).setCell hB _).setCell hB _

/-- A node more is stored behind those that lie there. -/
theorem PartN.put (h : PartN w base g c m l j xs A C) {w1 : World} {n : Nd} {a1 : Option Addr} {c1 : Nat} (hj : j < m) (hn : l[j]? = some n) (hb : Below w.heap.size w w1)
    (ho : Own w1 w.heap.size 3 .i64 a1 c1 n.cols) (hbase : base ≤ w.heap.size) (hs : n.name.size ≤ maxLen) :
    ∃ xs', PartN (put7 w1 g (j * 7) n a1 c1) base g c m l (j + 1) xs' (fun i => if i = j then a1 else A i) (fun i => if i = j then c1 else C i) := by
  have hg := (owns_block h.own).2
  have h1 := h.below hb
  have s0 := (h1.own.stored (j * 7) (.int .i64 n.kind)).1
  have s1 := (s0.stored (j * 7 + 1) (.string n.name)).1
  have s2 := (s1.stored (j * 7 + 2) (.int .i64 n.col)).1
  have s3 := (s2.stored (j * 7 + 3) (.int .i64 n.op)).1
  have s4 := (s3.stored (j * 7 + 4) (.int .i64 n.num)).1
  have s5 := (s4.stored (j * 7 + 5) (.bool n.slot)).1
  have s6 := (s5.stored (j * 7 + 6) (.slice a1 n.cols.length c1)).1
  have hlen : xs.length = m * 7 := h.own.1
  refine ⟨_, s6, ?_, ?_, ?_, ?_, ?_⟩
  · intro i n' hi hn'
    by_cases hij : i = j
    · subst hij
      rw [hn] at hn'; cases hn'
      simp only [if_true]
      constructor <;> simp [List.getElem?_set, hlen] <;> omega
    · simp only [if_neg hij]
      have hc := h.cells i n' (by omega) hn'
      exact ⟨(get_set7 (by omega)).trans hc.c0, (get_set7 (by omega)).trans hc.c1, (get_set7 (by omega)).trans hc.c2, (get_set7 (by omega)).trans hc.c3, (get_set7 (by omega)).trans hc.c4, (get_set7 (by omega)).trans hc.c5, (get_set7 (by omega)).trans hc.c6⟩
  · intro i n' hi hn'
    by_cases hij : i = j
    · subst hij
      rw [hn] at hn'; cases hn'
      simp only [if_true]
      exact (ho.keep fun x hx _ => put7_block (by have := (ho.lt x hx).1; omega)).base_le hbase
    · simp only [if_neg hij]
      have hil : i < l.length := by
        rcases Nat.lt_or_ge i l.length with h1 | h1
        · exact h1
        · rw [List.getElem?_eq_none h1] at hn'; cases hn'
      exact (h1.cols i n' (by omega) hn').keep fun x hx _ => put7_block (h.row i x (by omega) hil hx)
  · intro i n' hi hn'
    by_cases hij : i = j
    · subst hij
      rw [hn] at hn'; cases hn'; exact hs
    · exact h.name i n' (by omega) hn'
  · intro i x hi hil hx
    by_cases hij : i = j
    · subst hij
      simp only [if_true] at hx
      have := (ho.lt x hx).1; omega
    · simp only [if_neg hij] at hx
      exact h.row i x (by omega) hil hx
  · intro i k x y hi hk hil hkl hik hx hy
    have key : ∀ i x, i < j → i < l.length → A i = some x → x.block < w.heap.size := fun i x hi hil hx => ((h.cols i _ hi (List.getElem?_eq_getElem hil)).lt x hx).2
    by_cases hij : i = j
    · subst hij
      simp only [if_true] at hx
      simp only [if_neg (Ne.symm hik)] at hy
      have := (ho.lt x hx).1
      have := key k y (by omega) hkl hy
      omega
    · simp only [if_neg hij] at hx
      by_cases hkj : k = j
      · subst hkj
        simp only [if_true] at hy
        have := (ho.lt y hy).1
        have := key i x (by omega) hil hx
        omega
      · simp only [if_neg hkj] at hy
        exact h.apart i k x y (by omega) (by omega) hil hkl hik hx hy
end

section
variable {w w' : World} {base : Nat} {ao : Option Addr} {c : Nat} {l : List Nd}
theorem OwnN.below (h : OwnN w base ao c l) (hb : Below w.heap.size w w') : OwnN w' base ao c l := by
  rcases h with h | ⟨g, xs, A, C, he, hp⟩
  · exact .inl h
  · exact .inr ⟨g, xs, A, C, he, hp.below hb⟩
theorem OwnN.base_le {base' : Nat} (h : OwnN w base ao c l) (hb : base' ≤ base) : OwnN w base' ao c l := by
  rcases h with h | ⟨g, xs, A, C, he, hp⟩
  · exact .inl h
  · exact .inr ⟨g, xs, A, C, he, hp.base_le hb⟩
theorem OwnN.rd (h : OwnN w base ao c l) : RdN w ao l := by
  rcases h with h | ⟨g, xs, A, C, rfl, hp⟩
  · exact .inl h
  · refine .inr ⟨g, 0, rfl, fun i n hn => ?_⟩
    have hil : i < l.length := by
      rcases Nat.lt_or_ge i l.length with h1 | h1
      · exact h1
      · rw [List.getElem?_eq_none h1] at hn; cases hn
    exact ⟨A i, C i, hp.at_ hil hil hn⟩
end
end Go.Proofs.YtfpbhedophlnkaaGreatDoor
