/-
  Contract of impl.copyNodes: the same nodes in memory of the call's own. For every slice of nodes.
-/
import Derived.Test.YtfbgflmolkgopaaK1
import Derived.Test.YtfbgflmolkgopaaLibI
import Derived.Test.YtfbgflmolkgopaaK5
namespace Go.Proofs.Ytfbgflmolkgopaa
open Go.RowKit Go.Shelf Go.Lib
set_option linter.unusedSimpArgs false
set_option linter.unusedVariables false

theorem Try.sizeNode : ∀ w, (Go.sizeOf 37).run Try.prog w = .ok 7 w := fun w => Try.sizeOf37 w

/-- What the clone of a slice of nodes gives: the same cells in a row of its own. -/
def Cloned (w : World) (l : List Nd) (A : Nat → Option Addr) (C : Nat → Nat) (e : Ending) (w' : World) : Prop :=
  ∃ ao c, e = .returned (.slice ao l.length c) ∧ (l = [] ∨ ∃ g, ao = some ⟨g, 0, none⟩ ∧ w'.ownsRow w.heap.size 37 7 (.slice ao l.length c) l.length (allCells l A C)) ∧ Below w.heap.size w w'

theorem cloneNode_any (b off c : Nat) (l : List Nd) (A : Nat → Option Addr) (C : Nat → Nat) (w : World) (h : ∀ i n, l[i]? = some n → NdAt w b (off + i * 7) n (A i) (C i)) (hl : l.length ≤ 1048576) :
    Calls Try.prog 68 #[.slice (some ⟨b, off, none⟩) l.length c] w (Cloned w l A C) := by
  obtain ⟨i0, hi, hz0, hz1, hz2⟩ := info_parts Try.infoNode
  refine (AnyE.slices_Clone Try.laysCloneNode i0 _ 7 80 hi hz0 hz1 hz2 rfl (by omega) Try.sizeNode b off l.length c (allCells l A C) w (allCells_len l A C) (by unfold maxLen; omega) (by omega) (allCells_cell h) (allCells_one l A C)).mono ?_
  rintro e w' ⟨v', rfl, ho, _, hb⟩
  rcases ho.2 with ⟨rfl, hn⟩ | ⟨g, cap, cur, rfl, r⟩
  · exact ⟨none, 0, by rw [hn], .inl (List.eq_nil_of_length_eq_zero hn), hb⟩
  · exact ⟨_, cap, rfl, .inr ⟨g, rfl, ho⟩, hb⟩

set_option maxRecDepth 100000 in
set_option maxHeartbeats 1600000 in
theorem copyNodes_any (ao : Option Addr) (c : Nat) (l : List Nd) (w : World) (h : RdN w ao l) (hne : l ≠ []) (hl : l.length ≤ 1048576) (hcol : ∀ n ∈ l, n.cols.length ≤ 1048576) :
    Calls Try.prog 37 #[.slice ao l.length c] w (MadeN w l) := by
  have HCOL := Lib.hid hcol; clear hcol
  obtain ⟨b, off, rfl, hat⟩ : ∃ b off, ao = some ⟨b, off, none⟩ ∧ ∀ i n, l[i]? = some n → ∃ a c, NdAt w b (off + i * 7) n a c := by
    rcases h with h | h
    · exact absurd h hne
    · exact h
  clear h
  obtain ⟨A0, C0, hA0⟩ := nodes_ind hat
  clear hat
  have HA := Lib.hid hA0; clear hA0
  have HNE := Lib.hid hne; clear hne
  go_enter Try.func37, Try.ntmps37
  go_wp2_with fail
  refine (cloneNode_any b off c l A0 C0 _ HA.out hl).mono ?_
  rintro e w1 ⟨ao1, c1, rfl, ho, b1⟩
  obtain ⟨g, rfl, ho⟩ : ∃ g, ao1 = some ⟨g, 0, none⟩ ∧ w1.ownsRow w.heap.size 37 7 (.slice ao1 l.length c1) l.length (allCells l A0 C0) := by
    rcases ho with h | h
    · exact absurd h HNE.out
    · exact h
  have P0 : Hid (∃ xs A C, PartN w1 w.heap.size g c1 l.length l 0 xs A C ∧ ∀ i n, 0 ≤ i → l[i]? = some n → NdC xs (i * 7) n (A0 i) (C0 i)) :=
    ⟨_, fun _ => none, fun _ => 0, ⟨ho, fun i n hi => absurd hi (Nat.not_lt_zero _), fun i n hi => absurd hi (Nat.not_lt_zero _), fun i n hi => absurd hi (Nat.not_lt_zero _), fun i x hi => absurd hi (Nat.not_lt_zero _), fun i k x y hi => absurd hi (Nat.not_lt_zero _)⟩, fun i n _ hn => by
      have k := allCells_get l A0 C0 i n hn
      exact ⟨k 0 (by omega), k 1 (by omega), k 2 (by omega), k 3 (by omega), k 4 (by omega), k 5 (by omega), k 6 (by omega)⟩⟩
  have B1 := Lib.hid b1
  clear ho b1
  go_wp2_with fail
  go_loopw [9] (fun i wr => ∃ j : Nat, j ≤ l.length ∧ i = .int .i64 j ∧ (∃ xs A C, PartN wr w.heap.size g c1 l.length l j xs A C ∧ ∀ i n, j ≤ i → l[i]? = some n → NdC xs (i * 7) n (A0 i) (C0 i)) ∧ Below w.heap.size w wr) (fun i _ => l.length - (intOf i).toNat)
  case atStart => exact ⟨0, Nat.zero_le _, rfl, P0.out, B1.out⟩
  case round =>
    clear P0 B1
    obtain ⟨j, hj, rfl, ⟨xs, A, C, hp, hr⟩, hb⟩ := hrel
    by_cases hlt : j < l.length
    · have hn0 : l[j]? = some l[j] := List.getElem?_eq_getElem hlt
      generalize l[j] = n at hn0
      have hcl := HCOL.out n (List.mem_of_getElem? hn0)
      have hat := (HA.out j n hn0).below hb
      have nc := hr j n (Nat.le_refl _) hn0
      have c6 := (hp.cellAt (o := j * 7 + 6) (by omega)).trans nc.c6
      have HN := Lib.hid hn0; have HB := Lib.hid hb; have HP := Lib.hid hp; have HR := Lib.hid hr; have NC := Lib.hid nc; have HAT := Lib.hid hat
      clear hn0 hb hp hr nc hat
      go_wp2_with fail
      refine (libClone_any (A0 j) (C0 j) n.cols _ HAT.out.rd (by omega)).mono ?_
      rintro e w2 ⟨a2, c2, rfl, o2, b2⟩
      obtain ⟨y6, e6⟩ := (HP.out.below b2).some_ (o := j * 7 + 6) (by omega)
      have hf := (HP.out.below b2).frozen
      have R := Lib.hid (HP.out.own1 hlt HN.out b2 NC.out o2 HB.out.size HAT.out.nm)
      have T2 := Lib.hid ((below_step HB.out (Nat.le_refl _) b2).setCell (p := ⟨g, j * 7 + 6, none⟩) (owns_block HP.out.own).1 (.slice a2 n.cols.length c2))
      clear o2 b2 c6
      go_wp2_with fail
      go_roundw
      case rel => exact ⟨j + 1, by omega, by go_num, ⟨_, _, _, R.out, fun i m hi hm => by
        have k := HR.out i m (by omega) hm
        have key : ∀ s, s < 7 → (xs.set (j * 7 + 6) (.slice a2 n.cols.length c2))[i * 7 + s]? = xs[i * 7 + s]? := fun s _ => List.getElem?_set_ne (by omega)
        exact ⟨(key 0 (by omega)).trans k.c0, (key 1 (by omega)).trans k.c1, (key 2 (by omega)).trans k.c2, (key 3 (by omega)).trans k.c3, (key 4 (by omega)).trans k.c4, (key 5 (by omega)).trans k.c5, (key 6 (by omega)).trans k.c6⟩⟩, T2.out⟩
      case measure => simp [intOf]; omega
    · obtain rfl : j = l.length := by omega
      have HB := Lib.hid hb; have HP := Lib.hid hp
      clear hb hp hr
      go_wp2_with fail
      go_ret
      exact ⟨_, _, rfl, .inr ⟨g, xs, A, C, rfl, HP.out⟩, HB.out⟩
set_option maxRecDepth 100000 in
set_option maxHeartbeats 1600000 in
theorem copyNodesNil_any (b off c : Nat) (w : World) :
    Calls Try.prog 37 #[.slice (some ⟨b, off, none⟩) 0 c] w (MadeN w []) := by
  go_enter Try.func37, Try.ntmps37
  go_wp2_with fail
  refine (cloneNode_any b off c [] (fun _ => none) (fun _ => 0) _ (fun i n h => by simp at h) (by simp)).mono ?_
  rintro e w1 ⟨ao1, c1, rfl, _, b1⟩
  have B1 := Lib.hid b1
  clear b1
  go_wp2_with fail
  refine wp_loop_rounds 1 ?_; rw [rounds_succ]
  go_wp2_with fail
  go_ret
  exact ⟨_, _, rfl, .inl rfl, B1.out⟩
theorem copyNodesAt_any (b off c : Nat) (l : List Nd) (w : World) (h : RdN w (some ⟨b, off, none⟩) l) (hl : l.length ≤ 1048576) (hcol : ∀ n ∈ l, n.cols.length ≤ 1048576) :
    Calls Try.prog 37 #[.slice (some ⟨b, off, none⟩) l.length c] w (MadeN w l) := by
  cases l with
  | nil => exact copyNodesNil_any b off c w
  | cons n l => exact copyNodes_any _ c (n :: l) w h (by simp) hl hcol
end Go.Proofs.Ytfbgflmolkgopaa
