/-
  Contract of eqNodeS. For every two slices of nodes. A row of nodes of the call's own that is written into: field by field, and the columns of a node as a whole. What else stays as it was. No program, no walk. Contract of markNodeS: it writes marks into a row of nodes of the call's own and into its columns, and into nothing else. For every such row. Contract of heldNodeS: over a row of marked nodes it answers the number behind the last mark. For every such row.
-/
import Derived.Test.YtfpbhedophlnkaaGreatDoorHE
import Derived.Deep.RegionWith
import Derived.Test.YtfpbhedophlnkaaGreatDoorOwnN
import Derived.Test.YtfpbhedophlnkaaGreatDoorIntS
import Derived.Test.YtfpbhedophlnkaaGreatDoorMText
namespace Go.Proofs.YtfpbhedophlnkaaGreatDoor
open Go.RowKit
set_option linter.unusedSimpArgs false
set_option linter.unusedVariables false

/-- Whether two lists of nodes are the same. -/
def eqNs : List Nd → List Nd → Bool
  | [], [] => true
  | n :: l, m :: k => eqN n m && eqNs l k
  | _, _ => false
theorem eqNs_refl : ∀ l : List Nd, eqNs l l = true
  | [] => rfl
  | n :: l => by simp [eqNs, eqN_refl, eqNs_refl l]
theorem eqNs_len : ∀ l m : List Nd, l.length ≠ m.length → eqNs l m = false
  | [], [], h => absurd rfl h
  | [], _ :: _, _ => rfl
  | _ :: _, [], _ => rfl
  | n :: l, m :: k, h => by simp only [eqNs]; rw [eqNs_len l k (by simpa using h)]; simp
theorem eqNs_no : ∀ (l m : List Nd) (j : Nat) (x y : Nd), l[j]? = some x → m[j]? = some y → eqN x y = false → eqNs l m = false
  | [], _, j, x, y, h, _, _ => by simp at h
  | _ :: _, [], j, x, y, _, h, _ => by simp at h
  | n :: l, m :: k, 0, x, y, hx, hy, h => by simp at hx hy; subst hx hy; simp [eqNs, h]
  | n :: l, m :: k, j + 1, x, y, hx, hy, h => by simp at hx hy; simp [eqNs, eqNs_no l k j x y hx hy h]
theorem eqNs_yes : ∀ (l m : List Nd), l.length = m.length → (∀ (j : Nat) (x y : Nd), l[j]? = some x → m[j]? = some y → eqN x y = true) → eqNs l m = true
  | [], [], _, _ => rfl
  | [], _ :: _, h, _ => by simp at h
  | _ :: _, [], h, _ => by simp at h
  | n :: l, m :: k, h, hh => by
    simp only [eqNs]
    rw [hh 0 n m rfl rfl, eqNs_yes l k (by simpa using h) fun j x y hx hy => hh (j + 1) x y hx hy]; rfl

set_option maxRecDepth 100000 in
set_option maxHeartbeats 1600000 in
theorem eqNodeS_any (a b : Option Addr) (c d : Nat) (l m : List Nd) (w : World) (h : RdN w a l) (k : RdN w b m) (hn : l.length ≤ maxLen) (hm : m.length ≤ maxLen) :
    Calls Tryz.prog 60 #[.slice a l.length c, .slice b m.length d] w fun e w' => e = .returned (.bool (eqNs l m)) ∧ Below w.heap.size w w' := by
  unfold maxLen at hn hm
  have H := Lib.hid h; clear h
  have K := Lib.hid k; clear k
  by_cases hlen : l.length = m.length
  · have hne : ((l.length : Int) != (m.length : Int)) = false := by simp [hlen]
    have HL := Lib.hid hlen; clear hlen
    go_enter Tryz.func60, Tryz.ntmps60
    go_wp2_with fail
    go_loopw [5] (fun i wr => ∃ j : Nat, j ≤ l.length ∧ i = .int .i64 j ∧ (∀ i x y, i < j → l[i]? = some x → m[i]? = some y → eqN x y = true) ∧ Below w.heap.size w wr) (fun i _ => l.length - (intOf i).toNat)
    case atStart => exact ⟨0, Nat.zero_le _, rfl, fun i x y hi => absurd hi (Nat.not_lt_zero _), Below.refl _ _⟩
    case round =>
      obtain ⟨j, hj, rfl, ht, hb⟩ := hrel
      have HT := Lib.hid ht; clear ht
      by_cases hlt : j < l.length
      · have hlt2 : j < m.length := by have := HL.out; omega
        obtain ⟨b1, o1, x, ax, cx, rfl, hx, hat⟩ := (H.out.below hb).at_ hlt
        obtain ⟨b2, o2, y, ay, cy, rfl, hy, hay⟩ := (K.out.below hb).at_ hlt2
        have X := Lib.hid hx; have Y := Lib.hid hy; have HB := Lib.hid hb
        clear hx hy hb
        obtain ⟨c0, c1, c2, c3, c4, c5, c6, rd, cap, mx, nm⟩ := hat
        obtain ⟨d0, d1, d2, d3, d4, d5, d6, rd', cap', mx', nm'⟩ := hay
        have RD := Lib.hid rd; have RD' := Lib.hid rd'
        have E := Lib.hid (fun W => eqNode_any x y ax ay cx cy W)
        have l1 := Nat.le_trans cap mx; have l2 := Nat.le_trans cap' mx'
        clear rd rd' cap mx cap' mx' nm nm'
        have i1 : (j : Int) < (l.length : Int) := by omega
        have i2 : (j : Int) < (m.length : Int) := by omega
        cases hxy : eqN x y with
        | true =>
          have Q := Lib.hid hxy; clear hxy
          go_wp2_with fail
          go_region_with (go_at_call 141; refine (E.out _ ?_ ?_ l1 l2).mono ?_; exact RD.out; exact RD'.out; rintro e w1 ⟨rfl, b1⟩; rw [Q.out]; have T1 := Lib.hid (below_step HB.out.drew (Nat.le_refl _) b1); clear b1)
          all_goals
            go_wp2_with fail
            go_roundw
            case rel => exact ⟨j + 1, by omega, by go_num, fun i x' y' hi hx' hy' => by
              by_cases hij : i = j
              · subst hij; rw [X.out] at hx'; rw [Y.out] at hy'; cases hx'; cases hy'; exact Q.out
              · exact HT.out i x' y' (by omega) hx' hy', T1.out⟩
            case measure => simp [intOf]; omega
        | false =>
          have Q := Lib.hid hxy; clear hxy
          have F := Lib.hid (eqNs_no l m j x y X.out Y.out Q.out)
          go_wp2_with fail
          go_region_with (go_at_call 141; refine (E.out _ ?_ ?_ l1 l2).mono ?_; exact RD.out; exact RD'.out; rintro e w1 ⟨rfl, b1⟩; rw [Q.out]; have T1 := Lib.hid (below_step HB.out.drew (Nat.le_refl _) b1); clear b1)
          all_goals
            go_wp2_with fail
            go_ret
            exact ⟨ret_bool F.out.symm, T1.out⟩
      · have HB := Lib.hid hb; clear hb
        go_wp2_with fail
        go_ret
        refine ⟨ret_bool (eqNs_yes l m HL.out fun i x y hx hy => HT.out i x y ?_ hx hy).symm, HB.out⟩
        have : i < l.length := by
          rcases Nat.lt_or_ge i l.length with h1 | h1
          · exact h1
          · rw [List.getElem?_eq_none h1] at hx; cases hx
        omega
  · have hne : ((l.length : Int) != (m.length : Int)) = true := by simp; omega
    have HF := Lib.hid (eqNs_len l m hlen)
    go_enter Tryz.func60, Tryz.ntmps60
    go_wp2_with fail
    go_ret
    exact ⟨ret_bool HF.out.symm, Below.refl _ _⟩
end Go.Proofs.YtfpbhedophlnkaaGreatDoor
namespace Go.Proofs.YtfpbhedophlnkaaGreatDoor
open Go.RowKit
set_option linter.unusedSimpArgs false
set_option linter.unusedVariables false

/-- Only blocks between lo and hi, and new ones, have turned. -/
structure Frame (lo hi : Nat) (w w' : World) : Prop where
  os : w'.os = w.os
  tape : w'.tape = w.tape
  output : w'.output = w.output
  size : w.heap.size ≤ w'.heap.size
  block : ∀ i, i < w.heap.size → (i < lo ∨ hi ≤ i) → w'.heap[i]? = w.heap[i]?

section
variable {w w' w'' : World} {lo hi : Nat}
theorem Frame.refl (lo hi : Nat) (w : World) : Frame lo hi w w := ⟨rfl, rfl, rfl, Nat.le_refl _, fun _ _ _ => rfl⟩
theorem Frame.trans (h : Frame lo hi w w') (k : Frame lo hi w' w'') : Frame lo hi w w'' :=
  ⟨k.os.trans h.os, k.tape.trans h.tape, k.output.trans h.output, Nat.le_trans h.size k.size, fun i hi h2 => (k.block i (Nat.lt_of_lt_of_le hi h.size) h2).trans (h.block i hi h2)⟩
theorem Frame.of_below (h : Below w.heap.size w w') : Frame lo hi w w' := ⟨h.os, h.tape, h.output, h.size, fun i hi _ => h.block i hi⟩
theorem Frame.of_grown {row : Option Nat} (h : w.grownBy w' row) (hr : ∀ g, row = some g → lo ≤ g ∧ g < hi) : Frame lo hi w w' :=
  ⟨h.os, h.tape, h.output, h.size, fun i hi h2 => h.block i hi (fun e => by have := hr i e.symm; omega)⟩
theorem Frame.setCell {p : Addr} (h1 : lo ≤ p.block) (h2 : p.block < hi) (u : Value) : Frame lo hi w (w.setCell p u) := by
  refine ⟨rfl, rfl, rfl, by simp [World.setCell], fun i _ h => Below.heap_setCell w p u i (by rintro rfl; omega)⟩
theorem Frame.below {B : Nat} {a0 : World} (h : Frame lo hi w w') (hb : Below B a0 w) (hB : B ≤ lo) (hz : B ≤ a0.heap.size) : Below B a0 w' :=
  ⟨h.os.trans hb.os, h.tape.trans hb.tape, h.output.trans hb.output, Nat.le_trans hb.size h.size, fun i hi => (h.block i (Nat.lt_of_lt_of_le hi (Nat.le_trans hz hb.size)) (.inl (Nat.lt_of_lt_of_le hi hB))).trans (hb.block i hi)⟩
end

/-- A row of nodes of the call's own, all of it below hi. -/
def OwnH (w : World) (lo hi : Nat) (ao : Option Addr) (c : Nat) (l : List Nd) : Prop :=
  l = [] ∨ ∃ g xs A C, ao = some ⟨g, 0, none⟩ ∧ PartN w lo g c l.length l l.length xs A C ∧ g < hi ∧ ∀ (i : Nat) (x : Addr), i < l.length → A i = some x → x.block < hi

theorem OwnN.hi {w : World} {base : Nat} {ao : Option Addr} {c : Nat} {l : List Nd} (h : OwnN w base ao c l) : OwnH w base w.heap.size ao c l := by
  rcases h with h | ⟨g, xs, A, C, he, hp⟩
  · exact .inl h
  · exact .inr ⟨g, xs, A, C, he, hp, (owns_block hp.own).2, fun i x hi hx => ((hp.cols i _ hi (List.getElem?_eq_getElem hi)).lt x hx).2⟩
theorem OwnH.below {w w' : World} {lo hi : Nat} {ao : Option Addr} {c : Nat} {l : List Nd} (h : OwnH w lo hi ao c l) (hb : Below w.heap.size w w') : OwnH w' lo hi ao c l := by
  rcases h with h | ⟨g, xs, A, C, he, hp, h1, h2⟩
  · exact .inl h
  · exact .inr ⟨g, xs, A, C, he, hp.below hb, h1, h2⟩
theorem OwnH.rd {w : World} {lo hi : Nat} {ao : Option Addr} {c : Nat} {l : List Nd} (h : OwnH w lo hi ao c l) : RdN w ao l := by
  rcases h with h | ⟨g, xs, A, C, he, hp, _⟩
  · exact .inl h
  · exact OwnN.rd (base := lo) (c := c) (.inr ⟨g, xs, A, C, he, hp⟩)
/-- What is done to one range leaves the rows of another. -/
theorem OwnH.frame {w w' : World} {lo hi lo' hi' : Nat} {ao : Option Addr} {c : Nat} {l : List Nd} (h : OwnH w lo hi ao c l) (hf : Frame lo' hi' w w') (hd : hi ≤ lo' ∨ hi' ≤ lo) : OwnH w' lo hi ao c l := by
  rcases h with h | ⟨g, xs, A, C, he, hp, h1, h2⟩
  · exact .inl h
  · have hg := owns_block hp.own
    refine .inr ⟨g, xs, A, C, he, ⟨owns_keep hp.own (hf.block g hg.2 (by omega)), hp.cells, fun i n hi hn => ?_, hp.name, hp.row, hp.apart⟩, h1, h2⟩
    have ho := hp.cols i n hi hn
    exact ho.keep fun x hx hlt => hf.block x.block hlt (by have := (ho.lt x hx).1; have := h2 i x hi hx; omega)
theorem Own.frame {w w' : World} {lo' hi' base : Nat} {e : TypeId} {k : IntKind} {ao : Option Addr} {c : Nat} {l : List Int} (h : Own w base e k ao c l) (hf : Frame lo' hi' w w') (hd : (∀ x, ao = some x → x.block < lo') ∨ hi' ≤ base) : Own w' base e k ao c l :=
  h.keep fun x hx hlt => hf.block x.block hlt (by
    rcases hd with hd | hd
    · exact .inl (hd x hx)
    · right; have := (h.lt x hx).1; omega)

section
variable {w w' : World} {base g c m : Nat} {l : List Nd} {j : Nat} {xs : List Value} {A : Nat → Option Addr} {C : Nat → Nat}

theorem get_set_ne' {l : List Nd} {i j : Nat} {n' : Nd} (h : i ≠ j) : (l.set j n')[i]? = l[i]? := List.getElem?_set_ne (by omega)

/-- One field of one node is stored anew. -/
theorem PartN.store (h : PartN w base g c m l j xs A C) {k t : Nat} {n n' : Nd} {v : Value} (hk : k < j) (hn : l[k]? = some n) (ht : t < 7) (hc : n'.cols = n.cols) (hs : n'.name.size ≤ maxLen)
    (hx : NdC xs (k * 7) n (A k) (C k) → NdC (xs.set (k * 7 + t) v) (k * 7) n' (A k) (C k)) :
    PartN (w.setCell ⟨g, k * 7 + t, none⟩ v) base g c m (l.set k n') j (xs.set (k * 7 + t) v) A C := by
  have hlen : (l.set k n').length = l.length := by simp
  refine ⟨(h.own.stored (k * 7 + t) v).1, ?_, ?_, ?_, ?_, ?_⟩
  · intro i m' hi hm
    by_cases hik : i = k
    · subst hik
      have hkl : i < l.length := by
        rcases Nat.lt_or_ge i l.length with h1 | h1
        · exact h1
        · rw [List.getElem?_eq_none h1] at hn; cases hn
      rw [List.getElem?_set_self hkl] at hm; cases hm
      exact hx (h.cells i n hi hn)
    · rw [get_set_ne' hik] at hm
      have hc' := h.cells i m' hi hm
      have key : ∀ s, s < 7 → (xs.set (k * 7 + t) v)[i * 7 + s]? = xs[i * 7 + s]? := fun s hs' => List.getElem?_set_ne (by omega)
      exact ⟨(key 0 (by omega)).trans hc'.c0, (key 1 (by omega)).trans hc'.c1, (key 2 (by omega)).trans hc'.c2, (key 3 (by omega)).trans hc'.c3, (key 4 (by omega)).trans hc'.c4, (key 5 (by omega)).trans hc'.c5, (key 6 (by omega)).trans hc'.c6⟩
  · intro i m' hi hm
    have hil : i < l.length := by
      rcases Nat.lt_or_ge i (l.set k n').length with h1 | h1
      · omega
      · rw [List.getElem?_eq_none h1] at hm; cases hm
    by_cases hik : i = k
    · subst hik
      rw [List.getElem?_set_self hil] at hm; cases hm
      rw [hc]
      exact (h.cols i n hi hn).far (fun x hx' => h.row i x hi hil hx') _
    · rw [get_set_ne' hik] at hm
      exact (h.cols i m' hi hm).far (fun x hx' => h.row i x hi hil hx') _
  · intro i m' hi hm
    by_cases hik : i = k
    · subst hik
      have hkl : i < l.length := by
        rcases Nat.lt_or_ge i l.length with h1 | h1
        · exact h1
        · rw [List.getElem?_eq_none h1] at hn; cases hn
      rw [List.getElem?_set_self hkl] at hm; cases hm; exact hs
    · rw [get_set_ne' hik] at hm; exact h.name i m' hi hm
  · intro i x hi hil hx'; exact h.row i x hi (by omega) hx'
  · intro i k' x y h1 h2 h3 h4; exact h.apart i k' x y h1 h2 (by omega) (by omega)

/-- The columns of one node are written anew. -/
theorem PartN.marked (h : PartN w base g c m l j xs A C) {k : Nat} {n : Nd} {zs : List Int} (hk : k < j) (hn : l[k]? = some n) (hz : zs.length = n.cols.length) (hg : w.grownBy w' ((A k).map (·.block))) (ho : Own w' base 3 .i64 (A k) (C k) zs) :
    PartN w' base g c m (l.set k { n with cols := zs }) j xs A C := by
  have hkl : k < l.length := by
    rcases Nat.lt_or_ge k l.length with h1 | h1
    · exact h1
    · rw [List.getElem?_eq_none h1] at hn; cases hn
  have hlen : (l.set k { n with cols := zs }).length = l.length := by simp
  have hne : ∀ i, i ≠ k → ∀ x, A i = some x → i < j → i < l.length → some x.block ≠ (A k).map (·.block) := by
    intro i hik x hx hi hil
    cases hA : A k with
    | none => simp
    | some y => simp; exact h.apart i k x y hi hk hil hkl hik hx hA
  refine ⟨owns_keep h.own (hg.block g (owns_block h.own).2 ?_), ?_, ?_, ?_, ?_, ?_⟩
  · cases hA : A k with
    | none => simp
    | some y => simp; exact Ne.symm (h.row k y hk hkl hA)
  · intro i m' hi hm
    by_cases hik : i = k
    · subst hik
      rw [List.getElem?_set_self hkl] at hm; cases hm
      have hc := h.cells i n hi hn
      exact ⟨hc.c0, hc.c1, hc.c2, hc.c3, hc.c4, hc.c5, by rw [hc.c6]; simp only; rw [hz]⟩
    · rw [get_set_ne' hik] at hm
      exact h.cells i m' hi hm
  · intro i m' hi hm
    have hil : i < l.length := by
      rcases Nat.lt_or_ge i (l.set k { n with cols := zs }).length with h1 | h1
      · omega
      · rw [List.getElem?_eq_none h1] at hm; cases hm
    by_cases hik : i = k
    · subst hik
      rw [List.getElem?_set_self hil] at hm; cases hm
      exact ho
    · rw [get_set_ne' hik] at hm
      exact (h.cols i m' hi hm).grown hg (fun x hx => hne i hik x hx hi hil)
  · intro i m' hi hm
    by_cases hik : i = k
    · subst hik
      rw [List.getElem?_set_self hkl] at hm; cases hm; exact h.name i n hi hn
    · rw [get_set_ne' hik] at hm; exact h.name i m' hi hm
  · intro i x hi hil hx'; exact h.row i x hi (by omega) hx'
  · intro i k' x y h1 h2 h3 h4; exact h.apart i k' x y h1 h2 (by omega) (by omega)
end

set_option maxHeartbeats 800000 in
/-- As markIntS_any, and the row stays the call's own. -/
theorem markIntS_own (base : Nat) (ao : Option Addr) (c : Nat) (l : List Int) (m : Int) (w : World) (h : Own w base 3 .i64 ao c l) (h0 : 0 ≤ m) (hm : m + l.length ≤ 4611686018427387904) :
    Calls Tryz.prog 143 #[.slice ao l.length c, .int .i64 m] w fun e w' => e = .returned (.int .i64 (m + l.length)) ∧ Own w' base 3 .i64 ao c (marksL id m l.length) ∧ w.grownBy w' (ao.map (·.block)) := by
  rcases h.form with ⟨rfl, rfl, rfl⟩ | ⟨g, rfl, _⟩
  · go_enter Tryz.func143, Tryz.ntmps143
    go_wp2
    refine wp_loop_rounds 1 ?_; rw [rounds_succ]; go_wp2
    go_ret
    exact ⟨ret_int (by simp), Own.none_, World.grownBy.refl _ _⟩
  · have hs : MarkRel w w base 3 .i64 id m g c l 0 := ⟨by have h' := h; unfold Own at h'; simpa [marksL] using h', World.grownBy.refl _ _⟩
    clear h
    go_enter Tryz.func143, Tryz.ntmps143
    go_wp2
    go_loopw [1, 5] (fun q i wr => ∃ j : Nat, j ≤ l.length ∧ i = .int .i64 j ∧ q = .int .i64 (m + j) ∧ MarkRel w wr base 3 .i64 id m g c l j) (fun _ i _ => l.length - (intOf i).toNat)
    case atStart => exact ⟨0, Nat.zero_le _, rfl, by simp, hs⟩
    case round =>
      clear hs
      obtain ⟨j, hj, rfl, rfl, hr⟩ := hrel
      by_cases hlt : j < l.length
      · obtain ⟨y, hy⟩ := hr.cell hlt
        have hf := hr.1.frozenAt j
        have R := Lib.hid (hr.step hlt)
        clear hr
        go_wp2
        go_roundw
        case rel => exact ⟨j + 1, by omega, by go_num, by go_num, R.out⟩
        case measure => simp [intOf]; omega
      · have e : j = l.length := by omega
        have G := Lib.hid hr.2
        have D : Hid (Own wr base 3 .i64 (some ⟨g, 0, none⟩) c (marksL id m l.length)) := by
          show Own wr base 3 .i64 (some ⟨g, 0, none⟩) c (marksL id m l.length)
          have h1 := hr.1
          subst e
          rw [List.drop_length, List.append_nil] at h1
          unfold Own
          rw [marksL_len]; exact h1
        clear hr
        subst e
        go_wp2
        go_ret
        exact ⟨rfl, D.out, G.out⟩
end Go.Proofs.YtfpbhedophlnkaaGreatDoor
namespace Go.Proofs.YtfpbhedophlnkaaGreatDoor
open Go.RowKit
set_option linter.unusedSimpArgs false
set_option linter.unusedVariables false

/-- A node with its marks from k on. -/
def mkNd (n : Nd) (k : Int) : Nd := ⟨k, mtext (k + 1), k + 1 + 1, k + 1 + 1 + 1, k + 1 + 1 + 1 + 1, (k + 1 + 1 + 1 + 1 + 1) % 3 == 0, marksL id (k + 1 + 1 + 1 + 1 + 1 + 1) n.cols.length⟩
def markL : List Nd → Int → List Nd
  | [], _ => []
  | n :: l, k => mkNd n k :: markL l (k + 6 + n.cols.length)
/-- How many marks a list of nodes takes. -/
def mlen (l : List Nd) : Int := (6 * l.length + (l.map fun n => n.cols.length).sum : Nat)
theorem mlen_nil : mlen [] = 0 := rfl
theorem mlen_cons (n : Nd) (l : List Nd) : mlen (n :: l) = 6 + n.cols.length + mlen l := by simp [mlen]; omega
theorem mlen_pos (l : List Nd) : 0 ≤ mlen l := by unfold mlen; omega
theorem mlen_app (l m : List Nd) : mlen (l ++ m) = mlen l + mlen m := by simp [mlen]; omega
theorem markL_len : ∀ (l : List Nd) (k : Int), (markL l k).length = l.length
  | [], _ => rfl
  | n :: l, k => by simp [markL, markL_len l]
theorem markL_app : ∀ (l m : List Nd) (k : Int), markL (l ++ m) k = markL l k ++ markL m (k + mlen l)
  | [], m, k => by simp [markL, mlen_nil]
  | n :: l, m, k => by
    simp only [List.cons_append, markL]
    rw [markL_app l m, mlen_cons]
    rw [show k + 6 + (n.cols.length : Int) + mlen l = k + (6 + (n.cols.length : Int) + mlen l) by omega]
/-- The list of which the first j are marked. -/
def mixL (l : List Nd) (j : Nat) (k : Int) : List Nd := markL (l.take j) k ++ l.drop j
theorem mixL_len (l : List Nd) (j : Nat) (k : Int) : (mixL l j k).length = l.length := by simp [mixL, markL_len]; omega
theorem mixL_at {l : List Nd} {j : Nat} {k : Int} {n : Nd} (h : l[j]? = some n) : (mixL l j k)[j]? = some n := by
  have hj : j < l.length := by
    rcases Nat.lt_or_ge j l.length with h1 | h1
    · exact h1
    · rw [List.getElem?_eq_none h1] at h; cases h
  unfold mixL
  rw [List.getElem?_append_right (by simp [markL_len]; omega), markL_len, List.length_take, Nat.min_eq_left (by omega), Nat.sub_self, List.getElem?_drop]; simpa using h
theorem mixL_step {l : List Nd} {j : Nat} {k : Int} {n : Nd} (h : l[j]? = some n) : (mixL l j k).set j (mkNd n (k + mlen (l.take j))) = mixL l (j + 1) k := by
  have hj : j < l.length := by
    rcases Nat.lt_or_ge j l.length with h1 | h1
    · exact h1
    · rw [List.getElem?_eq_none h1] at h; cases h
  have hn : l[j] = n := by rw [List.getElem?_eq_getElem hj] at h; injection h
  unfold mixL
  rw [List.set_append_right _ _ (by simp [markL_len]; omega), markL_len, List.length_take, Nat.min_eq_left (by omega), Nat.sub_self, List.drop_eq_getElem_cons hj, List.take_succ_eq_append_getElem hj, hn, markL_app]
  simp [markL]
theorem mlen_take {l : List Nd} {j : Nat} {n : Nd} (h : l[j]? = some n) : mlen (l.take (j + 1)) = mlen (l.take j) + 6 + n.cols.length := by
  have hj : j < l.length := by
    rcases Nat.lt_or_ge j l.length with h1 | h1
    · exact h1
    · rw [List.getElem?_eq_none h1] at h; cases h
  have hn : l[j] = n := by rw [List.getElem?_eq_getElem hj] at h; injection h
  rw [List.take_succ_eq_append_getElem hj, hn, mlen_app, mlen_cons, mlen_nil]; omega
theorem mlen_take_le (l : List Nd) (j : Nat) : mlen (l.take j) ≤ mlen l := by
  have := mlen_app (l.take j) (l.drop j)
  rw [List.take_append_drop] at this
  have := mlen_pos (l.drop j); omega

section
variable {w : World} {base g c m : Nat} {l : List Nd} {j : Nat} {xs : List Value} {A : Nat → Option Addr} {C : Nat → Nat}
theorem PartN.st0 (h : PartN w base g c m l j xs A C) {k : Nat} {n : Nd} (hk : k < j) (hn : l[k]? = some n) (hm : k < m) (v : Int) :
    PartN (w.setCell ⟨g, k * 7, none⟩ (.int .i64 v)) base g c m (l.set k { n with kind := v }) j (xs.set (k * 7) (.int .i64 v)) A C := by
  have hlen := h.own.1
  exact h.store (k := k) (t := 0) (n' := { n with kind := v }) (v := .int .i64 v) hk hn (by omega) rfl (h.name k n hk hn) (fun hc => ⟨by simp [List.getElem?_set]; omega, by rw [List.getElem?_set_ne (by omega)]; exact hc.c1, by rw [List.getElem?_set_ne (by omega)]; exact hc.c2, by rw [List.getElem?_set_ne (by omega)]; exact hc.c3, by rw [List.getElem?_set_ne (by omega)]; exact hc.c4, by rw [List.getElem?_set_ne (by omega)]; exact hc.c5, by rw [List.getElem?_set_ne (by omega)]; exact hc.c6⟩)
theorem PartN.st1 (h : PartN w base g c m l j xs A C) {k : Nat} {n : Nd} (hk : k < j) (hn : l[k]? = some n) (hm : k < m) (v : ByteArray) (hs : v.size ≤ maxLen) :
    PartN (w.setCell ⟨g, k * 7 + 1, none⟩ (.string v)) base g c m (l.set k { n with name := v }) j (xs.set (k * 7 + 1) (.string v)) A C := by
  have hlen := h.own.1
  exact h.store (k := k) (t := 1) (n' := { n with name := v }) (v := .string v) hk hn (by omega) rfl hs (fun hc => ⟨by rw [List.getElem?_set_ne (by omega)]; exact hc.c0, by simp [List.getElem?_set]; omega, by rw [List.getElem?_set_ne (by omega)]; exact hc.c2, by rw [List.getElem?_set_ne (by omega)]; exact hc.c3, by rw [List.getElem?_set_ne (by omega)]; exact hc.c4, by rw [List.getElem?_set_ne (by omega)]; exact hc.c5, by rw [List.getElem?_set_ne (by omega)]; exact hc.c6⟩)
theorem PartN.st2 (h : PartN w base g c m l j xs A C) {k : Nat} {n : Nd} (hk : k < j) (hn : l[k]? = some n) (hm : k < m) (v : Int) :
    PartN (w.setCell ⟨g, k * 7 + 2, none⟩ (.int .i64 v)) base g c m (l.set k { n with col := v }) j (xs.set (k * 7 + 2) (.int .i64 v)) A C := by
  have hlen := h.own.1
  exact h.store (k := k) (t := 2) (n' := { n with col := v }) (v := .int .i64 v) hk hn (by omega) rfl (h.name k n hk hn) (fun hc => ⟨by rw [List.getElem?_set_ne (by omega)]; exact hc.c0, by rw [List.getElem?_set_ne (by omega)]; exact hc.c1, by simp [List.getElem?_set]; omega, by rw [List.getElem?_set_ne (by omega)]; exact hc.c3, by rw [List.getElem?_set_ne (by omega)]; exact hc.c4, by rw [List.getElem?_set_ne (by omega)]; exact hc.c5, by rw [List.getElem?_set_ne (by omega)]; exact hc.c6⟩)
theorem PartN.st3 (h : PartN w base g c m l j xs A C) {k : Nat} {n : Nd} (hk : k < j) (hn : l[k]? = some n) (hm : k < m) (v : Int) :
    PartN (w.setCell ⟨g, k * 7 + 3, none⟩ (.int .i64 v)) base g c m (l.set k { n with op := v }) j (xs.set (k * 7 + 3) (.int .i64 v)) A C := by
  have hlen := h.own.1
  exact h.store (k := k) (t := 3) (n' := { n with op := v }) (v := .int .i64 v) hk hn (by omega) rfl (h.name k n hk hn) (fun hc => ⟨by rw [List.getElem?_set_ne (by omega)]; exact hc.c0, by rw [List.getElem?_set_ne (by omega)]; exact hc.c1, by rw [List.getElem?_set_ne (by omega)]; exact hc.c2, by simp [List.getElem?_set]; omega, by rw [List.getElem?_set_ne (by omega)]; exact hc.c4, by rw [List.getElem?_set_ne (by omega)]; exact hc.c5, by rw [List.getElem?_set_ne (by omega)]; exact hc.c6⟩)
theorem PartN.st4 (h : PartN w base g c m l j xs A C) {k : Nat} {n : Nd} (hk : k < j) (hn : l[k]? = some n) (hm : k < m) (v : Int) :
    PartN (w.setCell ⟨g, k * 7 + 4, none⟩ (.int .i64 v)) base g c m (l.set k { n with num := v }) j (xs.set (k * 7 + 4) (.int .i64 v)) A C := by
  have hlen := h.own.1
  exact h.store (k := k) (t := 4) (n' := { n with num := v }) (v := .int .i64 v) hk hn (by omega) rfl (h.name k n hk hn) (fun hc => ⟨by rw [List.getElem?_set_ne (by omega)]; exact hc.c0, by rw [List.getElem?_set_ne (by omega)]; exact hc.c1, by rw [List.getElem?_set_ne (by omega)]; exact hc.c2, by rw [List.getElem?_set_ne (by omega)]; exact hc.c3, by simp [List.getElem?_set]; omega, by rw [List.getElem?_set_ne (by omega)]; exact hc.c5, by rw [List.getElem?_set_ne (by omega)]; exact hc.c6⟩)
theorem PartN.st5 (h : PartN w base g c m l j xs A C) {k : Nat} {n : Nd} (hk : k < j) (hn : l[k]? = some n) (hm : k < m) (v : Bool) :
    PartN (w.setCell ⟨g, k * 7 + 5, none⟩ (.bool v)) base g c m (l.set k { n with slot := v }) j (xs.set (k * 7 + 5) (.bool v)) A C := by
  have hlen := h.own.1
  exact h.store (k := k) (t := 5) (n' := { n with slot := v }) (v := .bool v) hk hn (by omega) rfl (h.name k n hk hn) (fun hc => ⟨by rw [List.getElem?_set_ne (by omega)]; exact hc.c0, by rw [List.getElem?_set_ne (by omega)]; exact hc.c1, by rw [List.getElem?_set_ne (by omega)]; exact hc.c2, by rw [List.getElem?_set_ne (by omega)]; exact hc.c3, by rw [List.getElem?_set_ne (by omega)]; exact hc.c4, by simp [List.getElem?_set]; omega, by rw [List.getElem?_set_ne (by omega)]; exact hc.c6⟩)
end

/-- What markNodeS answers and leaves. -/
def MarkedN (w : World) (lo hi : Nat) (ao : Option Addr) (c : Nat) (l : List Nd) (k : Int) (e : Ending) (w' : World) : Prop :=
  e = .returned (.int .i64 (k + mlen l)) ∧ OwnH w' lo hi ao c (markL l k) ∧ Frame lo hi w w'

set_option maxRecDepth 100000 in
set_option maxHeartbeats 4000000 in
theorem markNodeS_any (lo hi : Nat) (ao : Option Addr) (c : Nat) (l : List Nd) (k : Int) (w : World) (h : OwnH w lo hi ao c l) (hl : l.length ≤ 1048576) (h0 : 0 ≤ k) (hk : k + mlen l ≤ 1000000000) :
    Calls Tryz.prog 63 #[.slice ao l.length c, .int .i64 k] w (MarkedN w lo hi ao c l k) := by
  rcases h with rfl | ⟨g, xs, A, C, rfl, hp, hg, hA⟩
  · go_enter Tryz.func63, Tryz.ntmps63
    go_wp2_with fail
    refine wp_loop_rounds 1 ?_; rw [rounds_succ]; go_wp2_with fail
    go_ret
    exact ⟨ret_int (by simp [mlen_nil]), .inl rfl, Frame.refl _ _ _⟩
  · have HA := Lib.hid hA; clear hA
    have hlo := (owns_block hp.own).1
    have P0 : Hid (∃ xs, PartN w lo g c l.length (mixL l 0 k) l.length xs A C) := by
      refine ⟨xs, ?_⟩
      have e : mixL l 0 k = l := by simp [mixL, markL]
      rw [e]; exact hp
    clear hp
    go_enter Tryz.func63, Tryz.ntmps63
    go_wp2_with fail
    go_loopw [1, 5] (fun q i wr => ∃ j : Nat, j ≤ l.length ∧ i = .int .i64 j ∧ q = .int .i64 (k + mlen (l.take j)) ∧ (∃ xs, PartN wr lo g c l.length (mixL l j k) l.length xs A C) ∧ Frame lo hi w wr) (fun _ i _ => l.length - (intOf i).toNat)
    case atStart => exact ⟨0, Nat.zero_le _, rfl, by simp [mlen_nil], P0.out, Frame.refl _ _ _⟩
    case round =>
      clear P0
      obtain ⟨j, hj, rfl, rfl, ⟨ys, hp⟩, hf⟩ := hrel
      have HF := Lib.hid hf; clear hf
      have m0 := mlen_pos (l.take j)
      have m1 := mlen_take_le l j
      by_cases hlt : j < l.length
      · have hn0 : l[j]? = some l[j] := List.getElem?_eq_getElem hlt
        generalize l[j] = n at hn0
        have hn := mixL_at (k := k) hn0
        have MT := Lib.hid (mlen_take hn0)
        have MS := Lib.hid (mixL_step (k := k) hn0)
        have m2 : k + (mlen (l.take j) + 6 + n.cols.length) ≤ 1000000000 := by have := mlen_take_le l (j + 1); rw [MT.out] at this; omega
        clear hn0
        generalize hkk : k + mlen (l.take j) = kk at MS ⊢
        have hk0 : 0 ≤ kk := by omega
        have hk1 : kk + 6 + n.cols.length ≤ 1000000000 := by omega
        have KK := Lib.hid hkk; clear hkk
        obtain ⟨y0, e0⟩ := hp.some_ (o := j * 7) (by omega)
        have hf0 := hp.frozen
        have HN := Lib.hid hn; clear hn
        have HP := Lib.hid hp; clear hp
        go_wp2_with fail
        refine (markText_any (kk + 1) _ (by omega)).mono ?_
        rintro e w1 ⟨rfl, b1⟩
        have P1 := Lib.hid ((HP.out.st0 hlt HN.out hlt kk).below b1)
        have F1 := Lib.hid ((HF.out.trans (Frame.setCell (p := ⟨g, j * 7 + 0, none⟩) hlo hg (.int .i64 kk))).trans (Frame.of_below b1))
        clear b1
        obtain ⟨y1, e1⟩ := P1.out.some_ (o := j * 7 + 1) (by omega)
        obtain ⟨y2, e2⟩ := P1.out.some_ (o := j * 7 + 2) (by omega)
        obtain ⟨y3, e3⟩ := P1.out.some_ (o := j * 7 + 3) (by omega)
        obtain ⟨y4, e4⟩ := P1.out.some_ (o := j * 7 + 4) (by omega)
        obtain ⟨y5, e5⟩ := P1.out.some_ (o := j * 7 + 5) (by omega)
        have hf1 := P1.out.frozen
        have HN1 := Lib.hid (show ((mixL l j k).set j { n with kind := kk })[j]? = some { n with kind := kk } from List.getElem?_set_self (by rw [mixL_len]; exact hlt))
        have e6 : w1.cell? ⟨g, j * 7 + 6, none⟩ = some (.slice (A j) n.cols.length (C j)) := (P1.out.cellAt (by omega)).trans (P1.out.cells j _ hlt HN1.out).c6
        have z0 : ∀ n' : Nd, ((mixL l j k).set j n')[j]? = some n' := fun n' => List.getElem?_set_self (by rw [mixL_len]; exact hlt)
        have Q1 := Lib.hid (P1.out.st1 hlt HN1.out hlt (mtext (kk + 1)) (by have := mtext_size (kk + 1); unfold maxLen; omega))
        have Q2 := Lib.hid (Q1.out.st2 hlt (by rw [List.set_set]; exact z0 _) hlt (kk + 1 + 1))
        have Q3 := Lib.hid (Q2.out.st3 hlt (by rw [List.set_set, List.set_set]; exact z0 _) hlt (kk + 1 + 1 + 1))
        have Q4 := Lib.hid (Q3.out.st4 hlt (by rw [List.set_set, List.set_set, List.set_set]; exact z0 _) hlt (kk + 1 + 1 + 1 + 1))
        have Q5 := Lib.hid (Q4.out.st5 hlt (by rw [List.set_set, List.set_set, List.set_set, List.set_set]; exact z0 _) hlt ((kk + 1 + 1 + 1 + 1 + 1) % 3 == 0))
        have N5 := Lib.hid (show ((((((mixL l j k).set j { n with kind := kk }).set j { n with kind := kk, name := mtext (kk + 1) }).set j { n with kind := kk, name := mtext (kk + 1), col := kk + 1 + 1 }).set j { n with kind := kk, name := mtext (kk + 1), col := kk + 1 + 1, op := kk + 1 + 1 + 1 }).set j { n with kind := kk, name := mtext (kk + 1), col := kk + 1 + 1, op := kk + 1 + 1 + 1, num := kk + 1 + 1 + 1 + 1 }).set j { n with kind := kk, name := mtext (kk + 1), col := kk + 1 + 1, op := kk + 1 + 1 + 1, num := kk + 1 + 1 + 1 + 1, slot := (kk + 1 + 1 + 1 + 1 + 1) % 3 == 0 } = (mixL l j k).set j { n with kind := kk, name := mtext (kk + 1), col := kk + 1 + 1, op := kk + 1 + 1 + 1, num := kk + 1 + 1 + 1 + 1, slot := (kk + 1 + 1 + 1 + 1 + 1) % 3 == 0 } by rw [List.set_set, List.set_set, List.set_set, List.set_set, List.set_set])
        have F2 := Lib.hid (((((F1.out.trans (Frame.setCell (p := ⟨g, j * 7 + 1, none⟩) hlo hg (.string (mtext (kk + 1))))).trans (Frame.setCell (p := ⟨g, j * 7 + 2, none⟩) hlo hg (.int .i64 (kk + 1 + 1)))).trans (Frame.setCell (p := ⟨g, j * 7 + 3, none⟩) hlo hg (.int .i64 (kk + 1 + 1 + 1)))).trans (Frame.setCell (p := ⟨g, j * 7 + 4, none⟩) hlo hg (.int .i64 (kk + 1 + 1 + 1 + 1)))).trans (Frame.setCell (p := ⟨g, j * 7 + 5, none⟩) hlo hg (.bool ((kk + 1 + 1 + 1 + 1 + 1) % 3 == 0))))
        clear P1 F1 Q1 Q2 Q3 Q4 HN1 z0
        go_wp2_with fail
        have hz5 := N5.out ▸ Q5.out
        have hn5 : ((mixL l j k).set j { n with kind := kk, name := mtext (kk + 1), col := kk + 1 + 1, op := kk + 1 + 1 + 1, num := kk + 1 + 1 + 1 + 1, slot := (kk + 1 + 1 + 1 + 1 + 1) % 3 == 0 })[j]? = some { n with kind := kk, name := mtext (kk + 1), col := kk + 1 + 1, op := kk + 1 + 1 + 1, num := kk + 1 + 1 + 1 + 1, slot := (kk + 1 + 1 + 1 + 1 + 1) % 3 == 0 } := List.getElem?_set_self (by rw [mixL_len]; exact hlt)
        have O5 := Lib.hid (hz5.cols j _ hlt hn5)
        have Z5 := Lib.hid hz5
        have HN5 := Lib.hid hn5
        clear hz5 hn5
        refine (markIntS_own lo (A j) (C j) n.cols (kk + 1 + 1 + 1 + 1 + 1 + 1) _ O5.out (by omega) (by omega)).mono ?_
        rintro e w3 ⟨rfl, o3, g3⟩
        have P3 := Lib.hid (Z5.out.marked hlt HN5.out (by rw [marksL_len]) g3 o3)
        have hAj : ∀ x, A j = some x → lo ≤ x.block ∧ x.block < hi := fun x hx => ⟨(O5.out.lt x hx).1, HA.out j x hlt hx⟩
        have F3 := Lib.hid (F2.out.trans (Frame.of_grown g3 (by
          intro gg hgg
          cases hA : A j with
          | none => rw [hA] at hgg; cases hgg
          | some x => rw [hA] at hgg; simp at hgg; subst hgg; exact hAj x hA)))
        clear o3 g3 hAj F2
        go_wp2_with fail
        go_roundw
        case rel => exact ⟨j + 1, by omega, by go_num, by rw [MT.out]; have := KK.out; congr 1; omega, ⟨_, by
          have := P3.out
          rw [List.set_set] at this
          rw [← MS.out]
          exact this⟩, F3.out⟩
        case measure => simp [intOf]; omega
      · obtain rfl : j = l.length := by omega
        have HP := Lib.hid hp; clear hp
        go_wp2_with fail
        go_ret
        have e : mixL l l.length k = markL l k := by simp [mixL]
        refine ⟨ret_int (by rw [List.take_length]), .inr ⟨g, ys, A, C, rfl, ?_, hg, ?_⟩, HF.out⟩
        · have := HP.out; rw [e] at this; rw [markL_len]; exact this
        · rw [markL_len]; exact HA.out
end Go.Proofs.YtfpbhedophlnkaaGreatDoor
namespace Go.Proofs.YtfpbhedophlnkaaGreatDoor
open Go.RowKit
set_option linter.unusedSimpArgs false
set_option linter.unusedVariables false

theorem markL_at : ∀ (l : List Nd) (k : Int) (j : Nat) (n : Nd), l[j]? = some n → (markL l k)[j]? = some (mkNd n (k + mlen (l.take j)))
  | [], _, j, n, h => by simp at h
  | m :: l, k, 0, n, h => by simp at h; subst h; simp [markL, mlen_nil]
  | m :: l, k, j + 1, n, h => by
    simp only [List.getElem?_cons_succ] at h
    simp only [markL, List.getElem?_cons_succ, List.take_succ_cons]
    rw [markL_at l _ j n h, mlen_cons]
    rw [show k + 6 + (m.cols.length : Int) + mlen (l.take j) = k + (6 + (m.cols.length : Int) + mlen (l.take j)) by omega]

set_option maxRecDepth 100000 in
set_option maxHeartbeats 4000000 in
theorem heldNodeS_any (ao : Option Addr) (c : Nat) (l : List Nd) (k : Int) (w : World) (h : RdN w ao (markL l k)) (hl : l.length ≤ 1048576) (h0 : 0 ≤ k) (hk : k + mlen l ≤ 1000000000) :
    Calls Tryz.prog 64 #[.slice ao l.length c, .int .i64 k] w fun e w' => e = .returned (.int .i64 (k + mlen l)) ∧ Below w.heap.size w w' := by
  have H := Lib.hid h; clear h
  have ml := mlen_pos l
  go_enter Tryz.func64, Tryz.ntmps64
  go_wp2_with fail
  go_loopw [1, 5] (fun q i wr => ∃ j : Nat, j ≤ l.length ∧ i = .int .i64 j ∧ q = .int .i64 (k + mlen (l.take j)) ∧ Below w.heap.size w wr) (fun _ i _ => l.length - (intOf i).toNat)
  case atStart => exact ⟨0, Nat.zero_le _, rfl, by simp [mlen_nil], Below.refl _ _⟩
  case round =>
    obtain ⟨j, hj, rfl, rfl, hb⟩ := hrel
    have HB := Lib.hid hb
    have m0 := mlen_pos (l.take j)
    have m1 := mlen_take_le l j
    by_cases hlt : j < l.length
    · have hn0 : l[j]? = some l[j] := List.getElem?_eq_getElem hlt
      generalize l[j] = n at hn0
      obtain ⟨b, off, x, a, c', rfl, hx, hat⟩ := (H.out.below hb).at_ (i := j) (by rw [markL_len]; exact hlt)
      rw [markL_at l k j n hn0] at hx
      cases hx
      have MT := Lib.hid (mlen_take hn0)
      have m2 : k + (mlen (l.take j) + 6 + n.cols.length) ≤ 1000000000 := by have := mlen_take_le l (j + 1); rw [MT.out] at this; omega
      clear hn0 hb
      generalize hkk : k + mlen (l.take j) = kk at hat ⊢
      have hk0 : 0 ≤ kk := by omega
      have hk1 : kk + 6 + n.cols.length ≤ 1000000000 := by omega
      have KK := Lib.hid hkk; clear hkk
      obtain ⟨c0, c1, c2, c3, c4, c5, c6, rd, cap, mx, nm⟩ := hat
      simp only [mkNd] at c0 c1 c2 c3 c4 c5 c6 rd
      rw [marksL_len] at c6
      have RD := Lib.hid rd; clear rd cap mx nm
      have q0 : (kk != kk) = false := by simp
      have q2 : (kk + 1 + 1 != kk + 1 + 1) = false := by simp
      have q3 : (kk + 1 + 1 + 1 != kk + 1 + 1 + 1) = false := by simp
      have q4 : (kk + 1 + 1 + 1 + 1 != kk + 1 + 1 + 1 + 1) = false := by simp
      have i1 : (j : Int) < (l.length : Int) := by omega
      go_wp2_with fail
      first | go_region_with (go_at_call 142; refine (markText_any (kk + 1) _ (by omega)).mono ?_; rintro e w1 ⟨rfl, b1⟩; have T1 := Lib.hid (below_step HB.out.drew (Nat.le_refl _) b1); have hq1 := fun o => b1.cell (p := ⟨b, o, none⟩) (show b < _ from World.block_lt_of_cell? wr ⟨b, off + j * 7, none⟩ c0); have D1 := Lib.hid b1; clear b1) | fail
      all_goals
        go_wp2_with fail
        refine (heldIntS_any a c' n.cols.length (kk + 1 + 1 + 1 + 1 + 1 + 1) _ ((show Rd wr.drew .i64 a _ from RD.out).below D1.out) (by omega) (by omega)).mono ?_
        rintro e w' ⟨rfl, rfl⟩
        go_wp2_with fail
        go_roundw
        case rel => exact ⟨j + 1, by omega, by go_num, by rw [MT.out]; have := KK.out; congr 1; omega, T1.out⟩
        case measure => simp [intOf]; omega
    · obtain rfl : j = l.length := by omega
      clear hb
      go_wp2_with fail
      go_ret
      exact ⟨ret_int (by rw [List.take_length]), HB.out⟩
end Go.Proofs.YtfpbhedophlnkaaGreatDoor
