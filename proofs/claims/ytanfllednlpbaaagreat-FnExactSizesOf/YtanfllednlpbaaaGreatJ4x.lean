/-
  Contracts of the helpers over slices of rows: szIntSS, toIntSS, eqIntSS. For every slice of rows. A row of nodes of the call's own that is written into: field by field, and the columns of a node as a whole. What else stays as it was. No program, no walk. Contracts of markIntSS and heldIntSS: they write marks into rows of the call's own and into nothing else, and find them there. For every such slice of rows.
-/
import Derived.Test.YtanfllednlpbaaaGreatJ3x
import Derived.Deep.RegionWith
namespace Go.Proofs.YtanfllednlpbaaaGreat
open Go.RowKit
set_option linter.unusedSimpArgs false
set_option linter.unusedVariables false

theorem Tryz.infoSl : (Tryz.prog.info? 34).map (fun i => (i.zero, i.size, i.bytes)) = some (some (.slice none 0 0), 1, 24) := by kernel_rfl

/-- How many values there are. -/
def totR (l : List (List Int)) : Nat := (l.map List.length).sum
theorem totR_take {l : List (List Int)} {k : Nat} {r : List Int} (h : l[k]? = some r) : totR (l.take (k + 1)) = totR (l.take k) + r.length := by
  rw [List.take_add_one, h]; simp [totR]
theorem totR_mem {l : List (List Int)} {r : List Int} (h : r ∈ l) : r.length ≤ totR l := by
  unfold totR
  induction l with
  | nil => cases h
  | cons m l ih =>
    rcases List.mem_cons.1 h with rfl | h
    · simp only [List.map_cons, List.sum_cons]; omega
    · have := ih h; simp only [List.map_cons, List.sum_cons]; omega
def SzPostR (w : World) (l : List (List Int)) (left : Int) (e : Ending) (w' : World) : Prop :=
  ∃ r : Int, e = .returned (.int .i64 r) ∧ w = w' ∧ (r = -1 ∨ (0 ≤ r ∧ r + l.length + totR l = left))

set_option maxHeartbeats 800000 in
theorem szIntSS_any (ao : Option Addr) (c : Nat) (l : List (List Int)) (left : Int) (w : World) (h : RdR w ao l) (hl : l.length ≤ maxLen) (h0 : 0 ≤ left) (h1 : left ≤ 1048576) :
    Calls Tryz.prog 60 #[.slice ao l.length c, .int .i64 left] w (SzPostR w l left) := by
  have hl' := hl; unfold maxLen at hl'
  have H := Lib.hid h; clear h
  by_cases hlt : left < (l.length : Int)
  · have h2 : left - (l.length : Int) < 0 := by omega
    go_enter Tryz.func60, Tryz.ntmps60
    go_wp2_with fail
    go_ret
    exact ⟨-1, rfl, rfl, .inl rfl⟩
  · have h2 : 0 ≤ left - (l.length : Int) := by omega
    have h3 : (l.length : Int) ≤ left := by omega
    clear hl' hl
    go_enter Tryz.func60, Tryz.ntmps60
    go_wp2_with fail
    go_loop [1, 5] (fun r i => ∃ (k : Nat) (q : Int), k ≤ l.length ∧ i = .int .i64 k ∧ r = .int .i64 q ∧ 0 ≤ q ∧ q + l.length + totR (l.take k) = left) (fun _ i => l.length - (intOf i).toNat)
    case atStart => exact ⟨0, _, Nat.zero_le _, rfl, rfl, by omega, by simp [totR]⟩
    case round =>
      obtain ⟨k, q, hk, rfl, rfl, hq0, hq⟩ := hrel
      have HQ := Lib.hid hq; clear hq
      have hq1 : q ≤ 1048576 := by have := HQ.out; omega
      by_cases hlt2 : k < l.length
      · obtain ⟨b, off, n, a, c', rfl, hn, hat⟩ := H.out.at_ hlt2
        have HN := Lib.hid hn; clear hn
        obtain ⟨c0, rd, cap, mx⟩ := hat
        have cl : n.length ≤ maxLen := Nat.le_trans cap mx
        have Z := Lib.hid (szIntS_any a c' n q)
        clear cap mx rd
        go_wp2_with fail
        refine (Z.out _ hq0 hq1 cl).mono ?_
        rintro e w1 ⟨rfl, rfl⟩
        by_cases hs : q < (n.length : Int)
        · rw [if_pos hs]
          go_wp2_with fail
          go_ret
          exact ⟨-1, rfl, rfl, .inl rfl⟩
        · rw [if_neg hs]
          have hs' : 0 ≤ q - (n.length : Int) := by omega
          generalize hq' : q - (n.length : Int) = q' at hs' ⊢
          have S := Lib.hid hq'; clear hq' hs
          go_wp2_with fail
          go_round
          case rel => exact ⟨k + 1, q', by omega, by go_num, rfl, hs', by have := S.out; have := HQ.out; rw [totR_take HN.out]; omega⟩
          case measure => simp [intOf]; omega
      · have e : k = l.length := by omega
        subst e
        go_wp2_with fail
        go_ret
        exact ⟨q, rfl, rfl, .inr ⟨hq0, by have := HQ.out; rwa [List.take_length] at this⟩⟩

set_option maxRecDepth 100000 in
set_option maxHeartbeats 1600000 in
theorem toIntSS_any (ao : Option Addr) (c : Nat) (l : List (List Int)) (w : World) (h : RdR w ao l) (hl : l.length ≤ 1048576) (hc : ∀ r ∈ l, r.length ≤ 1048576) :
    Calls Tryz.prog 63 #[.slice ao l.length c] w (MadeR w l) := by
  obtain ⟨i0, hi, hz0, hz1, hz2⟩ := info_parts Tryz.infoSl
  have H := Lib.hid h; clear h
  have HC := Lib.hid hc; clear hc
  go_enter Tryz.func63, Tryz.ntmps63
  go_wp2_with (at_make; refine wpList_make_full _ rfl (.tmp 6) (.tmp 6) 29 rfl w.heap.size 34 i0 _ 1 Tryz.underlying29 hi hz0 hz1 .i64 .i64 _ _ l.length rfl rfl rfl rfl (by rw [hz2]; omega) (by unfold maxLen; omega) (Nat.le_refl _) ?_; intro w1 hown hgrow)
  have hbel : Below w.heap.size w w1 := below_of_grown hgrow (Nat.le_refl _) (by intro g hg; cases hg)
  clear hgrow hi hz0 hz1 hz2
  have P0 : Hid (∃ xs A C, PartR w1 w.heap.size w.heap.size l.length l.length l 0 xs A C) :=
    ⟨_, fun _ => none, fun _ => 0, hown, fun i n hi => absurd hi (Nat.not_lt_zero _), fun i n hi => absurd hi (Nat.not_lt_zero _), fun i x hi => absurd hi (Nat.not_lt_zero _), fun i k x y hi => absurd hi (Nat.not_lt_zero _)⟩
  clear hown
  go_loopw [4] (fun i wr => ∃ j : Nat, j ≤ l.length ∧ i = .int .i64 j ∧ (∃ xs A C, PartR wr w.heap.size w.heap.size l.length l.length l j xs A C) ∧ Below w.heap.size w wr) (fun i _ => l.length - (intOf i).toNat)
  case atStart => exact ⟨0, Nat.zero_le _, rfl, P0.out, hbel⟩
  case round =>
    clear P0 hbel
    obtain ⟨j, hj, rfl, ⟨xs, A, C, hp⟩, hb⟩ := hrel
    by_cases hlt : j < l.length
    · obtain ⟨b, off, n, a, c', rfl, hn, hat⟩ := (H.out.below hb).at_ hlt
      have hcl := HC.out n (List.mem_of_getElem? hn)
      have HN := Lib.hid hn; clear hn
      have HB := Lib.hid hb; clear hb
      have HP := Lib.hid hp; clear hp
      obtain ⟨c0, rd, cap, mx⟩ := hat
      have RD := Lib.hid rd; clear rd cap mx
      have T := Lib.hid (toIntS_any a c' n)
      go_wp2_with fail
      refine (T.out _ RD.out (by omega)).mono ?_
      rintro e w2 ⟨a2, c2', rfl, o2, b2⟩
      have hg : w.heap.size < w2.heap.size := Nat.lt_of_lt_of_le (owns_block HP.out.own).2 b2.size
      have HP2 := Lib.hid (HP.out.below b2)
      obtain ⟨y0, e0⟩ := HP2.out.some_ (o := j) (by omega)
      have hf := HP2.out.frozen
      have R := Lib.hid (HP.out.put hlt HN.out b2 o2 HB.out.size)
      have T2 := Lib.hid ((below_step HB.out (Nat.le_refl _) b2).setCell (p := ⟨w.heap.size, j, none⟩) (Nat.le_refl _) (.slice a2 n.length c2'))
      clear o2 b2 c0
      go_wp2_with fail
      go_roundw
      case rel => exact ⟨j + 1, by omega, by go_num, ⟨_, _, _, R.out⟩, T2.out⟩
      case measure => simp [intOf]; omega
    · have e : j = l.length := by omega
      subst e
      have HB := Lib.hid hb; have HP := Lib.hid hp; clear hb hp
      go_wp2_with fail
      go_ret
      exact ⟨_, _, rfl, .inr ⟨_, _, _, _, rfl, HP.out⟩, Nat.le_refl _, by unfold maxLen; omega, HB.out⟩

/-- Whether two lists of rows are the same. -/
def eqR (l m : List (List Int)) : Bool := decide (l = m)
theorem eqR_refl (l : List (List Int)) : eqR l l = true := by simp [eqR]
theorem eqR_no {l m : List (List Int)} {j : Nat} {x y : List Int} (hx : l[j]? = some x) (hy : m[j]? = some y) (h : eqL x y = false) : eqR l m = false := by
  unfold eqR; simp; rintro rfl; rw [hx] at hy; cases hy; rw [eqL_refl] at h; cases h
theorem eqR_yes {l m : List (List Int)} {j : Nat} (h : l.length = m.length) (hj : l.length ≤ j) (ht : l.take j = m.take j) : eqR l m = true := by
  unfold eqR; simp; rw [List.take_of_length_le hj, List.take_of_length_le (by omega)] at ht; exact ht
theorem eqR_len {l m : List (List Int)} (h : l.length ≠ m.length) : eqR l m = false := by
  unfold eqR; simp; rintro rfl; exact h rfl
theorem eqL_eq {x y : List Int} (h : eqL x y = true) : x = y := by unfold eqL at h; simpa using h
theorem take_eq_step {α : Type} {l m : List α} {j : Nat} {x : α} (ht : l.take j = m.take j) (hx : l[j]? = some x) (hy : m[j]? = some x) : l.take (j + 1) = m.take (j + 1) := by
  rw [List.take_add_one, List.take_add_one, ht, hx, hy]

set_option maxRecDepth 100000 in
set_option maxHeartbeats 1600000 in
theorem eqIntSS_any (a b : Option Addr) (c d : Nat) (l m : List (List Int)) (w : World) (h : RdR w a l) (k : RdR w b m) (hn : l.length ≤ maxLen) (hm : m.length ≤ maxLen) :
    Calls Tryz.prog 24 #[.slice a l.length c, .slice b m.length d] w fun e w' => e = .returned (.bool (eqR l m)) ∧ Below w.heap.size w w' := by
  unfold maxLen at hn hm
  have H := Lib.hid h; clear h
  have K := Lib.hid k; clear k
  by_cases hlen : l.length = m.length
  · have hne : ((l.length : Int) != (m.length : Int)) = false := by simp [hlen]
    have HL := Lib.hid hlen; clear hlen
    go_enter Tryz.func24, Tryz.ntmps24
    go_wp2_with fail
    go_loopw [5] (fun i wr => ∃ j : Nat, j ≤ l.length ∧ i = .int .i64 j ∧ l.take j = m.take j ∧ Below w.heap.size w wr) (fun i _ => l.length - (intOf i).toNat)
    case atStart => exact ⟨0, Nat.zero_le _, rfl, rfl, Below.refl _ _⟩
    case round =>
      obtain ⟨j, hj, rfl, ht, hb⟩ := hrel
      have HT := Lib.hid ht; clear ht
      by_cases hlt : j < l.length
      · have hlt2 : j < m.length := by have := HL.out; omega
        obtain ⟨b1, o1, x, a1, c1, rfl, hx, ⟨e0, rx, cx, mx⟩⟩ := (H.out.below hb).at_ hlt
        obtain ⟨b2, o2, y, a2, c2, rfl, hy, ⟨f0, ry, cy, my⟩⟩ := (K.out.below hb).at_ hlt2
        have X := Lib.hid hx; have Y := Lib.hid hy; have HB := Lib.hid hb
        have RX := Lib.hid rx; have RY := Lib.hid ry
        clear hx hy hb rx ry
        have lx := Nat.le_trans cx mx
        have ly := Nat.le_trans cy my
        have E := Lib.hid (fun W h1 h2 => eqIntS_any a1 a2 c1 c2 x y W h1 h2 lx ly)
        clear cx mx cy my lx ly
        have i1 : (j : Int) < (l.length : Int) := by omega
        have i2 : (j : Int) < (m.length : Int) := by omega
        cases hxy : eqL x y with
        | true =>
          have Q := Lib.hid hxy; clear hxy
          go_wp2_with fail
          go_region_with (go_at_call 33; refine (E.out _ (RX.out.below ((Below.refl _ _).drew)) (RY.out.below ((Below.refl _ _).drew))).mono ?_; rintro e w1 ⟨rfl, b1⟩; rw [Q.out]; have T1 := Lib.hid (below_step HB.out.drew (Nat.le_refl _) b1); clear b1)
          all_goals
            go_wp2_with fail
            go_roundw
            case rel => exact ⟨j + 1, by omega, by go_num, take_eq_step HT.out X.out (by rw [eqL_eq Q.out]; exact Y.out), T1.out⟩
            case measure => simp [intOf]; omega
        | false =>
          have Q := Lib.hid hxy; clear hxy
          have F := Lib.hid (eqR_no X.out Y.out Q.out)
          go_wp2_with fail
          go_region_with (go_at_call 33; refine (E.out _ (RX.out.below ((Below.refl _ _).drew)) (RY.out.below ((Below.refl _ _).drew))).mono ?_; rintro e w1 ⟨rfl, b1⟩; rw [Q.out]; have T1 := Lib.hid (below_step HB.out.drew (Nat.le_refl _) b1); clear b1)
          all_goals
            go_wp2_with fail
            go_ret
            exact ⟨ret_bool F.out.symm, T1.out⟩
      · have HB := Lib.hid hb; clear hb
        go_wp2_with fail
        go_ret
        exact ⟨ret_bool (eqR_yes HL.out (by omega) HT.out).symm, HB.out⟩
  · have hne : ((l.length : Int) != (m.length : Int)) = true := by simp; omega
    have HF := Lib.hid (eqR_len hlen)
    go_enter Tryz.func24, Tryz.ntmps24
    go_wp2_with fail
    go_ret
    exact ⟨ret_bool HF.out.symm, Below.refl _ _⟩
end Go.Proofs.YtanfllednlpbaaaGreat
namespace Go.Proofs.YtanfllednlpbaaaGreat
open Go.RowKit
set_option linter.unusedSimpArgs false
set_option linter.unusedVariables false

/-- Only blocks between lo and hi, and new ones, have turned. -/
structure Frame (lo hi : Nat) (w w' : World) : Prop where
  os : w'.os = w.os
  tape : w'.tape = w.tape
  output : w'.output = w.output
  size : w.heap.size ≤ w'.heap.size
  block : ∀ i, i < w.heap.size → (i < lo ∨ hi ≤ i) → w'.heap[i]? = w.heap[i]?

section
variable {w w' w'' : World} {lo hi : Nat}
theorem Frame.refl (lo hi : Nat) (w : World) : Frame lo hi w w := ⟨rfl, rfl, rfl, Nat.le_refl _, fun _ _ _ => rfl⟩
theorem Frame.trans (h : Frame lo hi w w') (k : Frame lo hi w' w'') : Frame lo hi w w'' :=
  ⟨k.os.trans h.os, k.tape.trans h.tape, k.output.trans h.output, Nat.le_trans h.size k.size, fun i hi h2 => (k.block i (Nat.lt_of_lt_of_le hi h.size) h2).trans (h.block i hi h2)⟩
theorem Frame.of_below (h : Below w.heap.size w w') : Frame lo hi w w' := ⟨h.os, h.tape, h.output, h.size, fun i hi _ => h.block i hi⟩
theorem Frame.of_grown {row : Option Nat} (h : w.grownBy w' row) (hr : ∀ g, row = some g → lo ≤ g ∧ g < hi) : Frame lo hi w w' :=
  ⟨h.os, h.tape, h.output, h.size, fun i hi h2 => h.block i hi (fun e => by have := hr i e.symm; omega)⟩
theorem Frame.setCell {p : Addr} (h1 : lo ≤ p.block) (h2 : p.block < hi) (u : Value) : Frame lo hi w (w.setCell p u) := by
  refine ⟨rfl, rfl, rfl, by simp [World.setCell], fun i _ h => Below.heap_setCell w p u i (by rintro rfl; omega)⟩
theorem Frame.below {B : Nat} {a0 : World} (h : Frame lo hi w w') (hb : Below B a0 w) (hB : B ≤ lo) (hz : B ≤ a0.heap.size) : Below B a0 w' :=
  ⟨h.os.trans hb.os, h.tape.trans hb.tape, h.output.trans hb.output, Nat.le_trans hb.size h.size, fun i hi => (h.block i (Nat.lt_of_lt_of_le hi (Nat.le_trans hz hb.size)) (.inl (Nat.lt_of_lt_of_le hi hB))).trans (hb.block i hi)⟩
end

/-- A row of nodes of the call's own, all of it below hi. -/
def OwnH (w : World) (lo hi : Nat) (ao : Option Addr) (c : Nat) (l : List Nd) : Prop :=
  l = [] ∨ ∃ g xs A C, ao = some ⟨g, 0, none⟩ ∧ PartN w lo g c l.length l l.length xs A C ∧ g < hi ∧ ∀ (i : Nat) (x : Addr), i < l.length → A i = some x → x.block < hi

theorem OwnN.hi {w : World} {base : Nat} {ao : Option Addr} {c : Nat} {l : List Nd} (h : OwnN w base ao c l) : OwnH w base w.heap.size ao c l := by
  rcases h with h | ⟨g, xs, A, C, he, hp⟩
  · exact .inl h
  · exact .inr ⟨g, xs, A, C, he, hp, (owns_block hp.own).2, fun i x hi hx => ((hp.cols i _ hi (List.getElem?_eq_getElem hi)).lt x hx).2⟩
theorem OwnH.below {w w' : World} {lo hi : Nat} {ao : Option Addr} {c : Nat} {l : List Nd} (h : OwnH w lo hi ao c l) (hb : Below w.heap.size w w') : OwnH w' lo hi ao c l := by
  rcases h with h | ⟨g, xs, A, C, he, hp, h1, h2⟩
  · exact .inl h
  · exact .inr ⟨g, xs, A, C, he, hp.below hb, h1, h2⟩
theorem OwnH.rd {w : World} {lo hi : Nat} {ao : Option Addr} {c : Nat} {l : List Nd} (h : OwnH w lo hi ao c l) : RdN w ao l := by
  rcases h with h | ⟨g, xs, A, C, he, hp, _⟩
  · exact .inl h
  · exact OwnN.rd (base := lo) (c := c) (.inr ⟨g, xs, A, C, he, hp⟩)
/-- What is done to one range leaves the rows of another. -/
theorem OwnH.frame {w w' : World} {lo hi lo' hi' : Nat} {ao : Option Addr} {c : Nat} {l : List Nd} (h : OwnH w lo hi ao c l) (hf : Frame lo' hi' w w') (hd : hi ≤ lo' ∨ hi' ≤ lo) : OwnH w' lo hi ao c l := by
  rcases h with h | ⟨g, xs, A, C, he, hp, h1, h2⟩
  · exact .inl h
  · have hg := owns_block hp.own
    refine .inr ⟨g, xs, A, C, he, ⟨owns_keep hp.own (hf.block g hg.2 (by omega)), hp.cells, fun i n hi hn => ?_, hp.name, hp.row, hp.apart⟩, h1, h2⟩
    have ho := hp.cols i n hi hn
    exact ho.keep fun x hx hlt => hf.block x.block hlt (by have := (ho.lt x hx).1; have := h2 i x hi hx; omega)
theorem Own.frame {w w' : World} {lo' hi' base : Nat} {e : TypeId} {k : IntKind} {ao : Option Addr} {c : Nat} {l : List Int} (h : Own w base e k ao c l) (hf : Frame lo' hi' w w') (hd : (∀ x, ao = some x → x.block < lo') ∨ hi' ≤ base) : Own w' base e k ao c l :=
  h.keep fun x hx hlt => hf.block x.block hlt (by
    rcases hd with hd | hd
    · exact .inl (hd x hx)
    · right; have := (h.lt x hx).1; omega)

section
variable {w w' : World} {base g c m : Nat} {l : List Nd} {j : Nat} {xs : List Value} {A : Nat → Option Addr} {C : Nat → Nat}

theorem get_set_ne' {l : List Nd} {i j : Nat} {n' : Nd} (h : i ≠ j) : (l.set j n')[i]? = l[i]? := List.getElem?_set_ne (by omega)

/-- One field of one node is stored anew. -/
theorem PartN.store (h : PartN w base g c m l j xs A C) {k t : Nat} {n n' : Nd} {v : Value} (hk : k < j) (hn : l[k]? = some n) (ht : t < 7) (hc : n'.cols = n.cols) (hs : n'.name.size ≤ maxLen)
    (hx : NdC xs (k * 7) n (A k) (C k) → NdC (xs.set (k * 7 + t) v) (k * 7) n' (A k) (C k)) :
    PartN (w.setCell ⟨g, k * 7 + t, none⟩ v) base g c m (l.set k n') j (xs.set (k * 7 + t) v) A C := by
  have hlen : (l.set k n').length = l.length := by simp
  refine ⟨(h.own.stored (k * 7 + t) v).1, ?_, ?_, ?_, ?_, ?_⟩
  · intro i m' hi hm
    by_cases hik : i = k
    · subst hik
      have hkl : i < l.length := by
        rcases Nat.lt_or_ge i l.length with h1 | h1
        · exact h1
        · rw [List.getElem?_eq_none h1] at hn; cases hn
      rw [List.getElem?_set_self hkl] at hm; cases hm
      exact hx (h.cells i n hi hn)
    · rw [get_set_ne' hik] at hm
      have hc' := h.cells i m' hi hm
      have key : ∀ s, s < 7 → (xs.set (k * 7 + t) v)[i * 7 + s]? = xs[i * 7 + s]? := fun s hs' => List.getElem?_set_ne (by omega)
      exact ⟨(key 0 (by omega)).trans hc'.c0, (key 1 (by omega)).trans hc'.c1, (key 2 (by omega)).trans hc'.c2, (key 3 (by omega)).trans hc'.c3, (key 4 (by omega)).trans hc'.c4, (key 5 (by omega)).trans hc'.c5, (key 6 (by omega)).trans hc'.c6⟩
  · intro i m' hi hm
    have hil : i < l.length := by
      rcases Nat.lt_or_ge i (l.set k n').length with h1 | h1
      · omega
      · rw [List.getElem?_eq_none h1] at hm; cases hm
    by_cases hik : i = k
    · subst hik
      rw [List.getElem?_set_self hil] at hm; cases hm
      rw [hc]
      exact (h.cols i n hi hn).far (fun x hx' => h.row i x hi hil hx') _
    · rw [get_set_ne' hik] at hm
      exact (h.cols i m' hi hm).far (fun x hx' => h.row i x hi hil hx') _
  · intro i m' hi hm
    by_cases hik : i = k
    · subst hik
      have hkl : i < l.length := by
        rcases Nat.lt_or_ge i l.length with h1 | h1
        · exact h1
        · rw [List.getElem?_eq_none h1] at hn; cases hn
      rw [List.getElem?_set_self hkl] at hm; cases hm; exact hs
    · rw [get_set_ne' hik] at hm; exact h.name i m' hi hm
  · intro i x hi hil hx'; exact h.row i x hi (by omega) hx'
  · intro i k' x y h1 h2 h3 h4; exact h.apart i k' x y h1 h2 (by omega) (by omega)

/-- The columns of one node are written anew. -/
theorem PartN.marked (h : PartN w base g c m l j xs A C) {k : Nat} {n : Nd} {zs : List Int} (hk : k < j) (hn : l[k]? = some n) (hz : zs.length = n.cols.length) (hg : w.grownBy w' ((A k).map (·.block))) (ho : Own w' base 3 .i64 (A k) (C k) zs) :
    PartN w' base g c m (l.set k { n with cols := zs }) j xs A C := by
  have hkl : k < l.length := by
    rcases Nat.lt_or_ge k l.length with h1 | h1
    · exact h1
    · rw [List.getElem?_eq_none h1] at hn; cases hn
  have hlen : (l.set k { n with cols := zs }).length = l.length := by simp
  have hne : ∀ i, i ≠ k → ∀ x, A i = some x → i < j → i < l.length → some x.block ≠ (A k).map (·.block) := by
    intro i hik x hx hi hil
    cases hA : A k with
    | none => simp
    | some y => simp; exact h.apart i k x y hi hk hil hkl hik hx hA
  refine ⟨owns_keep h.own (hg.block g (owns_block h.own).2 ?_), ?_, ?_, ?_, ?_, ?_⟩
  · cases hA : A k with
    | none => simp
    | some y => simp; exact Ne.symm (h.row k y hk hkl hA)
  · intro i m' hi hm
    by_cases hik : i = k
    · subst hik
      rw [List.getElem?_set_self hkl] at hm; cases hm
      have hc := h.cells i n hi hn
      exact ⟨hc.c0, hc.c1, hc.c2, hc.c3, hc.c4, hc.c5, by rw [hc.c6]; simp only; rw [hz]⟩
    · rw [get_set_ne' hik] at hm
      exact h.cells i m' hi hm
  · intro i m' hi hm
    have hil : i < l.length := by
      rcases Nat.lt_or_ge i (l.set k { n with cols := zs }).length with h1 | h1
      · omega
      · rw [List.getElem?_eq_none h1] at hm; cases hm
    by_cases hik : i = k
    · subst hik
      rw [List.getElem?_set_self hil] at hm; cases hm
      exact ho
    · rw [get_set_ne' hik] at hm
      exact (h.cols i m' hi hm).grown hg (fun x hx => hne i hik x hx hi hil)
  · intro i m' hi hm
    by_cases hik : i = k
    · subst hik
      rw [List.getElem?_set_self hkl] at hm; cases hm; exact h.name i n hi hn
    · rw [get_set_ne' hik] at hm; exact h.name i m' hi hm
  · intro i x hi hil hx'; exact h.row i x hi (by omega) hx'
  · intro i k' x y h1 h2 h3 h4; exact h.apart i k' x y h1 h2 (by omega) (by omega)
end

set_option maxHeartbeats 800000 in
/-- As markIntS_any, and the row stays the call's own. -/
theorem markIntS_own (base : Nat) (ao : Option Addr) (c : Nat) (l : List Int) (m : Int) (w : World) (h : Own w base 3 .i64 ao c l) (h0 : 0 ≤ m) (hm : m + l.length ≤ 4611686018427387904) :
    Calls Tryz.prog 34 #[.slice ao l.length c, .int .i64 m] w fun e w' => e = .returned (.int .i64 (m + l.length)) ∧ Own w' base 3 .i64 ao c (marksL id m l.length) ∧ w.grownBy w' (ao.map (·.block)) := by
  rcases h.form with ⟨rfl, rfl, rfl⟩ | ⟨g, rfl, _⟩
  · go_enter Tryz.func34, Tryz.ntmps34
    go_wp2
    refine wp_loop_rounds 1 ?_; rw [rounds_succ]; go_wp2
    go_ret
    exact ⟨ret_int (by simp), Own.none_, World.grownBy.refl _ _⟩
  · have hs : MarkRel w w base 3 .i64 id m g c l 0 := ⟨by have h' := h; unfold Own at h'; simpa [marksL] using h', World.grownBy.refl _ _⟩
    clear h
    go_enter Tryz.func34, Tryz.ntmps34
    go_wp2
    go_loopw [1, 5] (fun q i wr => ∃ j : Nat, j ≤ l.length ∧ i = .int .i64 j ∧ q = .int .i64 (m + j) ∧ MarkRel w wr base 3 .i64 id m g c l j) (fun _ i _ => l.length - (intOf i).toNat)
    case atStart => exact ⟨0, Nat.zero_le _, rfl, by simp, hs⟩
    case round =>
      clear hs
      obtain ⟨j, hj, rfl, rfl, hr⟩ := hrel
      by_cases hlt : j < l.length
      · obtain ⟨y, hy⟩ := hr.cell hlt
        have hf := hr.1.frozenAt j
        have R := Lib.hid (hr.step hlt)
        clear hr
        go_wp2
        go_roundw
        case rel => exact ⟨j + 1, by omega, by go_num, by go_num, R.out⟩
        case measure => simp [intOf]; omega
      · have e : j = l.length := by omega
        have G := Lib.hid hr.2
        have D : Hid (Own wr base 3 .i64 (some ⟨g, 0, none⟩) c (marksL id m l.length)) := by
          show Own wr base 3 .i64 (some ⟨g, 0, none⟩) c (marksL id m l.length)
          have h1 := hr.1
          subst e
          rw [List.drop_length, List.append_nil] at h1
          unfold Own
          rw [marksL_len]; exact h1
        clear hr
        subst e
        go_wp2
        go_ret
        exact ⟨rfl, D.out, G.out⟩
end Go.Proofs.YtanfllednlpbaaaGreat
namespace Go.Proofs.YtanfllednlpbaaaGreat
open Go.RowKit
set_option linter.unusedSimpArgs false
set_option linter.unusedVariables false

/-- Rows with their marks from k on. -/
def marksR : List (List Int) → Int → List (List Int)
  | [], _ => []
  | r :: l, k => marksL id k r.length :: marksR l (k + r.length)
theorem totR_nil : totR [] = 0 := rfl
theorem totR_cons (r : List Int) (l : List (List Int)) : totR (r :: l) = r.length + totR l := by simp [totR]
theorem totR_app (l m : List (List Int)) : totR (l ++ m) = totR l + totR m := by simp [totR]
theorem totR_take_le (l : List (List Int)) (j : Nat) : totR (l.take j) ≤ totR l := by
  have := totR_app (l.take j) (l.drop j)
  rw [List.take_append_drop] at this; omega
theorem marksR_len : ∀ (l : List (List Int)) (k : Int), (marksR l k).length = l.length
  | [], _ => rfl
  | n :: l, k => by simp [marksR, marksR_len l]
theorem marksR_app : ∀ (l m : List (List Int)) (k : Int), marksR (l ++ m) k = marksR l k ++ marksR m (k + totR l)
  | [], m, k => by simp [marksR, totR_nil]
  | n :: l, m, k => by
    simp only [List.cons_append, marksR]
    rw [marksR_app l m, totR_cons]
    rw [show k + (n.length : Int) + (totR l : Int) = k + ((n.length + totR l : Nat) : Int) by omega]
theorem marksR_at : ∀ (l : List (List Int)) (k : Int) (j : Nat) (r : List Int), l[j]? = some r → (marksR l k)[j]? = some (marksL id (k + totR (l.take j)) r.length)
  | [], _, j, n, h => by simp at h
  | m :: l, k, 0, n, h => by simp at h; subst h; simp [marksR, totR_nil]
  | m :: l, k, j + 1, n, h => by
    simp only [List.getElem?_cons_succ] at h
    simp only [marksR, List.getElem?_cons_succ, List.take_succ_cons]
    rw [marksR_at l _ j n h, totR_cons]
    rw [show k + (m.length : Int) + (totR (l.take j) : Int) = k + ((m.length + totR (l.take j) : Nat) : Int) by omega]
theorem marksR_tot : ∀ (l : List (List Int)) (k : Int), totR (marksR l k) = totR l
  | [], _ => rfl
  | r :: l, k => by simp only [marksR]; rw [totR_cons, totR_cons, marksL_len, marksR_tot l]
/-- The rows of which the first j are marked. -/
def mixR (l : List (List Int)) (j : Nat) (k : Int) : List (List Int) := marksR (l.take j) k ++ l.drop j
theorem mixR_len (l : List (List Int)) (j : Nat) (k : Int) : (mixR l j k).length = l.length := by simp [mixR, marksR_len]; omega
theorem mixR_at {l : List (List Int)} {j : Nat} {k : Int} {r : List Int} (h : l[j]? = some r) : (mixR l j k)[j]? = some r := by
  have hj := lt_of_get h
  unfold mixR
  rw [List.getElem?_append_right (by simp [marksR_len]; omega), marksR_len, List.length_take, Nat.min_eq_left (by omega), Nat.sub_self, List.getElem?_drop]; simpa using h
theorem mixR_step {l : List (List Int)} {j : Nat} {k : Int} {r : List Int} (h : l[j]? = some r) : (mixR l j k).set j (marksL id (k + totR (l.take j)) r.length) = mixR l (j + 1) k := by
  have hj := lt_of_get h
  have hn : l[j] = r := by rw [List.getElem?_eq_getElem hj] at h; injection h
  unfold mixR
  rw [List.set_append_right _ _ (by simp [marksR_len]; omega), marksR_len, List.length_take, Nat.min_eq_left (by omega), Nat.sub_self, List.drop_eq_getElem_cons hj, List.take_succ_eq_append_getElem hj, hn, marksR_app]
  simp [marksR]

/-- A slice of rows of the call's own, all of it below hi. -/
def OwnRH (w : World) (lo hi : Nat) (ao : Option Addr) (c : Nat) (l : List (List Int)) : Prop :=
  l = [] ∨ ∃ g xs A C, ao = some ⟨g, 0, none⟩ ∧ PartR w lo g c l.length l l.length xs A C ∧ g < hi ∧ ∀ (i : Nat) (x : Addr), i < l.length → A i = some x → x.block < hi

section
variable {w w' : World} {lo hi base c : Nat} {ao : Option Addr} {l : List (List Int)}
theorem OwnR.top (h : OwnR w base ao c l) : OwnRH w base w.heap.size ao c l := by
  rcases h with h | ⟨g, xs, A, C, he, hp⟩
  · exact .inl h
  · exact .inr ⟨g, xs, A, C, he, hp, (owns_block hp.own).2, fun i x hi hx => ((hp.cols i _ hi (List.getElem?_eq_getElem hi)).lt x hx).2⟩
theorem OwnRH.below (h : OwnRH w lo hi ao c l) (hb : Below w.heap.size w w') : OwnRH w' lo hi ao c l := by
  rcases h with h | ⟨g, xs, A, C, he, hp, h1, h2⟩
  · exact .inl h
  · exact .inr ⟨g, xs, A, C, he, hp.below hb, h1, h2⟩
theorem OwnRH.own (h : OwnRH w lo hi ao c l) : OwnR w lo ao c l := by
  rcases h with h | ⟨g, xs, A, C, he, hp, _⟩
  · exact .inl h
  · exact .inr ⟨g, xs, A, C, he, hp⟩
theorem OwnRH.rd (h : OwnRH w lo hi ao c l) : RdR w ao l := h.own.rd
theorem OwnRH.frame {lo' hi' : Nat} (h : OwnRH w lo hi ao c l) (hf : Frame lo' hi' w w') (hd : hi ≤ lo' ∨ hi' ≤ lo) : OwnRH w' lo hi ao c l := by
  rcases h with h | ⟨g, xs, A, C, he, hp, h1, h2⟩
  · exact .inl h
  · have hg := owns_block hp.own
    refine .inr ⟨g, xs, A, C, he, ⟨owns_keep hp.own (hf.block g hg.2 (by omega)), hp.cells, fun i n hi hn => ?_, hp.row, hp.apart⟩, h1, h2⟩
    have ho := hp.cols i n hi hn
    exact ho.keep fun x hx hlt => hf.block x.block hlt (by have := (ho.lt x hx).1; have := h2 i x hi hx; omega)
end

section
variable {w w' : World} {base g c m : Nat} {l : List (List Int)} {j : Nat} {xs : List Value} {A : Nat → Option Addr} {C : Nat → Nat}
/-- One row is written anew. -/
theorem PartR.marked (h : PartR w base g c m l j xs A C) {k : Nat} {n zs : List Int} (hk : k < j) (hn : l[k]? = some n) (hz : zs.length = n.length) (hg : w.grownBy w' ((A k).map (·.block))) (ho : Own w' base 3 .i64 (A k) (C k) zs) :
    PartR w' base g c m (l.set k zs) j xs A C := by
  have hkl := lt_of_get hn
  have hlen : (l.set k zs).length = l.length := by simp
  have hne : ∀ i, i ≠ k → ∀ x, A i = some x → i < j → i < l.length → some x.block ≠ (A k).map (·.block) := by
    intro i hik x hx hi hil
    cases hA : A k with
    | none => simp
    | some y => simp; exact h.apart i k x y hi hk hil hkl hik hx hA
  refine ⟨owns_keep h.own (hg.block g (owns_block h.own).2 ?_), ?_, ?_, ?_, ?_⟩
  · cases hA : A k with
    | none => simp
    | some y => simp; exact Ne.symm (h.row k y hk hkl hA)
  · intro i m' hi hm
    by_cases hik : i = k
    · subst hik
      rw [List.getElem?_set_self hkl] at hm; cases hm
      rw [h.cells i n hi hn, hz]
    · rw [List.getElem?_set_ne (by omega)] at hm
      exact h.cells i m' hi hm
  · intro i m' hi hm
    have hil : i < l.length := by have := lt_of_get hm; omega
    by_cases hik : i = k
    · subst hik
      rw [List.getElem?_set_self hil] at hm; cases hm
      exact ho
    · rw [List.getElem?_set_ne (by omega)] at hm
      exact (h.cols i m' hi hm).grown hg (fun x hx => hne i hik x hx hi hil)
  · intro i x hi hil hx'; exact h.row i x hi (by omega) hx'
  · intro i k' x y h1 h2 h3 h4; exact h.apart i k' x y h1 h2 (by omega) (by omega)
end

set_option maxRecDepth 100000 in
set_option maxHeartbeats 1600000 in
theorem markIntSS_any (lo hi : Nat) (ao : Option Addr) (c : Nat) (l : List (List Int)) (k : Int) (w : World) (h : OwnRH w lo hi ao c l) (hl : l.length ≤ 1048576) (h0 : 0 ≤ k) (hk : k + totR l ≤ 1000000000) :
    Calls Tryz.prog 31 #[.slice ao l.length c, .int .i64 k] w fun e w' => e = .returned (.int .i64 (k + totR l)) ∧ OwnRH w' lo hi ao c (marksR l k) ∧ Frame lo hi w w' := by
  rcases h with rfl | ⟨g, xs, A, C, rfl, hp, hgh, hA⟩
  · go_enter Tryz.func31, Tryz.ntmps31
    go_wp2_with fail
    refine wp_loop_rounds 1 ?_; rw [rounds_succ]; go_wp2_with fail
    go_ret
    exact ⟨ret_int (by simp [totR]), .inl rfl, Frame.refl _ _ _⟩
  · have hs : PartR w lo g c l.length (mixR l 0 k) l.length xs A C := by simpa [mixR, marksR] using hp
    have HA := Lib.hid hA; clear hA hp
    go_enter Tryz.func31, Tryz.ntmps31
    go_wp2_with fail
    go_loopw [1, 5] (fun q i wr => ∃ j : Nat, j ≤ l.length ∧ i = .int .i64 j ∧ q = .int .i64 (k + totR (l.take j)) ∧ PartR wr lo g c l.length (mixR l j k) l.length xs A C ∧ Frame lo hi w wr) (fun _ i _ => l.length - (intOf i).toNat)
    case atStart => exact ⟨0, Nat.zero_le _, rfl, by simp [totR], hs, Frame.refl _ _ _⟩
    case round =>
      clear hs
      obtain ⟨j, hj, rfl, rfl, hp, hf⟩ := hrel
      have m1 := totR_take_le l j
      by_cases hlt : j < l.length
      · have hn0 : l[j]? = some l[j] := List.getElem?_eq_getElem hlt
        generalize l[j] = r at hn0
        have hat := hp.at_ hlt hlt (mixR_at (k := k) hn0)
        have ho := hp.cols j r hlt (mixR_at (k := k) hn0)
        have HP := Lib.hid hp; have HF := Lib.hid hf; clear hp hf
        have MT := Lib.hid (totR_take hn0)
        have ST := Lib.hid (mixR_step (k := k) hn0)
        have AT := Lib.hid (mixR_at (k := k) hn0)
        have m2 : k + ((totR (l.take j) : Int) + r.length) ≤ 1000000000 := by have := totR_take_le l (j + 1); rw [MT.out] at this; omega
        have hblk : ∀ y, A j = some y → lo ≤ y.block ∧ y.block < hi := fun y hy => ⟨(ho.lt y hy).1, HA.out j y hlt hy⟩
        have HBK := Lib.hid hblk
        obtain ⟨c0, _, _, _⟩ := hat
        rw [Nat.zero_add] at c0
        have OJ := Lib.hid ho
        clear hn0 ho hblk
        generalize hkk : k + (totR (l.take j) : Int) = kk at ST ⊢
        have hk0 : 0 ≤ kk := by omega
        have hk1 : kk + r.length ≤ 4611686018427387904 := by omega
        have KK := Lib.hid hkk; clear hkk
        generalize hAj : A j = aj at c0 OJ HBK
        generalize hCj : C j = cj at c0 OJ
        have EA := Lib.hid hAj; have EC := Lib.hid hCj; clear hAj hCj
        go_wp2_with fail
        refine (markIntS_own lo aj cj r kk _ OJ.out hk0 hk1).mono ?_
        rintro e w1 ⟨rfl, o1, g1⟩
        have P1 := Lib.hid (HP.out.marked hlt AT.out (marksL_len id kk r.length) (by rw [EA.out]; exact g1) (by rw [EA.out, EC.out]; exact o1))
        have F1 := Lib.hid (HF.out.trans (Frame.of_grown g1 (fun y hy => by
          cases aj with
          | none => cases hy
          | some z => simp at hy; subst hy; exact HBK.out z rfl)))
        clear o1 g1
        go_wp2_with fail
        go_roundw
        case rel => exact ⟨j + 1, by omega, by go_num, by rw [MT.out]; have := KK.out; congr 1; omega, by rw [← ST.out]; exact P1.out, F1.out⟩
        case measure => simp [intOf]; omega
      · obtain rfl : j = l.length := by omega
        have HP := Lib.hid hp; have HF := Lib.hid hf; clear hp hf
        go_wp2_with fail
        go_ret
        have e1 : mixR l l.length k = marksR l k := by simp [mixR]
        refine ⟨ret_int (by simp), ?_, HF.out⟩
        have h1 := HP.out
        rw [e1] at h1
        refine .inr ⟨g, xs, A, C, rfl, by rw [marksR_len]; exact h1, hgh, fun i x hi hx => HA.out i x (by rw [marksR_len] at hi; exact hi) hx⟩

set_option maxRecDepth 100000 in
set_option maxHeartbeats 1600000 in
theorem heldIntSS_any (ao : Option Addr) (c : Nat) (l : List (List Int)) (k : Int) (w : World) (h : RdR w ao (marksR l k)) (hl : l.length ≤ 1048576) (h0 : 0 ≤ k) (hk : k + totR l ≤ 1000000000) :
    Calls Tryz.prog 32 #[.slice ao l.length c, .int .i64 k] w fun e w' => e = .returned (.int .i64 (k + totR l)) ∧ w = w' := by
  have H := Lib.hid h; clear h
  go_enter Tryz.func32, Tryz.ntmps32
  go_wp2_with fail
  go_loop [1, 5] (fun q i => ∃ j : Nat, j ≤ l.length ∧ i = .int .i64 j ∧ q = .int .i64 (k + totR (l.take j))) (fun _ i => l.length - (intOf i).toNat)
  case atStart => exact ⟨0, Nat.zero_le _, rfl, by simp [totR]⟩
  case round =>
    obtain ⟨j, hj, rfl, rfl⟩ := hrel
    have m1 := totR_take_le l j
    by_cases hlt : j < l.length
    · have hn0 : l[j]? = some l[j] := List.getElem?_eq_getElem hlt
      generalize l[j] = r at hn0
      obtain ⟨b, off, x, a, c', rfl, hx, ⟨c0, rd, _, _⟩⟩ := H.out.at_ (i := j) (by rw [marksR_len]; exact hlt)
      rw [marksR_at l k j r hn0] at hx
      cases hx
      have MT := Lib.hid (totR_take hn0)
      have m2 : k + ((totR (l.take j) : Int) + r.length) ≤ 1000000000 := by have := totR_take_le l (j + 1); rw [MT.out] at this; omega
      clear hn0
      generalize hkk : k + (totR (l.take j) : Int) = kk at c0 rd ⊢
      have hk0 : 0 ≤ kk := by omega
      have hk1 : kk + r.length ≤ 4611686018427387904 := by omega
      have KK := Lib.hid hkk
      rw [marksL_len] at c0
      have RD := Lib.hid rd; clear rd hkk
      go_wp2_with fail
      refine (heldIntS_any a c' r.length kk _ RD.out hk0 hk1).mono ?_
      rintro e w' ⟨rfl, rfl⟩
      go_wp2_with fail
      go_round
      case rel => exact ⟨j + 1, by omega, by go_num, by rw [MT.out]; have := KK.out; congr 1; omega⟩
      case measure => simp [intOf]; omega
    · obtain rfl : j = l.length := by omega
      go_wp2_with fail
      go_ret
      exact ⟨ret_int (by simp), rfl⟩
end Go.Proofs.YtanfllednlpbaaaGreat
