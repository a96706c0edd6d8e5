/-
  Contract of impl.copyNodes: the same nodes in memory of the call's own. For every slice of nodes.
-/
import Derived.Test.YtoomhkdbgjhdgaaCopyN
import Derived.Test.YtoomhkdbgjhdgaaLibI
import Derived.Test.YtoomhkdbgjhdgaaHT
namespace Go.Proofs.Ytoomhkdbgjhdgaa
open Go.RowKit Go.Shelf Go.Lib
set_option linter.unusedSimpArgs false
set_option linter.unusedVariables false

theorem nodes_ind {l : List Nd} {P : Nat → Nd → Option Addr → Nat → Prop} (h : ∀ i n, l[i]? = some n → ∃ a c, P i n a c) : ∃ (A : Nat → Option Addr) (C : Nat → Nat), ∀ i n, l[i]? = some n → P i n (A i) (C i) := by
  have key : ∀ i, ∃ ac : Option Addr × Nat, ∀ n, l[i]? = some n → P i n ac.1 ac.2 := by
    intro i
    cases hn : l[i]? with
    | none => exact ⟨(none, 0), fun n hh => by cases hh⟩
    | some n =>
      obtain ⟨a, c, hp⟩ := h i n hn
      exact ⟨(a, c), fun m hh => by cases hh; exact hp⟩
  obtain ⟨f, hf⟩ := Classical.axiomOfChoice key
  exact ⟨fun i => (f i).1, fun i => (f i).2, fun i n hn => hf i n hn⟩

theorem Try.sizeNode : ∀ w, (Go.sizeOf 37).run Try.prog w = .ok 7 w := fun w => Try.sizeOf37 w

/-- The cells of a slice of nodes, one behind the other. -/
def allCells : List Nd → (Nat → Option Addr) → (Nat → Nat) → List Value
  | [], _, _ => []
  | n :: l, A, C => ndCells n (A 0) (C 0) ++ allCells l (fun i => A (i + 1)) (fun i => C (i + 1))
theorem allCells_len : ∀ (l : List Nd) (A : Nat → Option Addr) (C : Nat → Nat), (allCells l A C).length = l.length * 7
  | [], _, _ => rfl
  | n :: l, A, C => by simp [allCells, ndCells, allCells_len l]; omega
theorem allCells_get : ∀ (l : List Nd) (A : Nat → Option Addr) (C : Nat → Nat) (i : Nat) (n : Nd), l[i]? = some n → ∀ t, t < 7 → (allCells l A C)[i * 7 + t]? = (ndCells n (A i) (C i))[t]?
  | [], _, _, i, n, h, _, _ => by simp at h
  | m :: l, A, C, 0, n, h, t, ht => by
    simp at h; subst h
    simp only [allCells]
    rw [List.getElem?_append_left (by simp [ndCells]; omega)]; simp
  | m :: l, A, C, i + 1, n, h, t, ht => by
    simp only [List.getElem?_cons_succ] at h
    simp only [allCells]
    rw [List.getElem?_append_right (by simp [ndCells]; omega)]
    rw [show (i + 1) * 7 + t - (ndCells m (A 0) (C 0)).length = i * 7 + t by simp [ndCells]; omega]
    exact allCells_get l _ _ i n h t ht
theorem allCells_one : ∀ (l : List Nd) (A : Nat → Option Addr) (C : Nat → Nat), ∀ u ∈ allCells l A C, u.oneCell' = true
  | [], _, _, u, h => by cases h
  | n :: l, A, C, u, h => by
    simp only [allCells, List.mem_append] at h
    rcases h with h | h
    · simp [ndCells] at h; rcases h with rfl | rfl | rfl | rfl | rfl | rfl | rfl <;> rfl
    · exact allCells_one l _ _ u h
theorem allCells_cell {w : World} {b off : Nat} {A : Nat → Option Addr} {C : Nat → Nat} {l : List Nd} (h : ∀ i n, l[i]? = some n → NdAt w b (off + i * 7) n (A i) (C i)) :
    ∀ j u, (allCells l A C)[j]? = some u → w.cell? ⟨b, off + j, none⟩ = some u := by
  intro j u hu
  have hj : j < l.length * 7 := by
    rcases Nat.lt_or_ge j (allCells l A C).length with h1 | h1
    · rwa [allCells_len] at h1
    · rw [List.getElem?_eq_none h1] at hu; cases hu
  have hq : j / 7 < l.length := by omega
  have hd := h (j / 7) _ (List.getElem?_eq_getElem hq)
  have e := allCells_get l A C (j / 7) _ (List.getElem?_eq_getElem hq) (j % 7) (by omega)
  rw [show j / 7 * 7 + j % 7 = j by omega] at e
  rw [e] at hu
  have hm : j % 7 = 0 ∨ j % 7 = 1 ∨ j % 7 = 2 ∨ j % 7 = 3 ∨ j % 7 = 4 ∨ j % 7 = 5 ∨ j % 7 = 6 := by omega
  have hoff : off + j = off + j / 7 * 7 + j % 7 := by omega
  rw [hoff]
  rcases hm with hm | hm | hm | hm | hm | hm | hm <;> rw [hm] at hu ⊢ <;> simp [ndCells] at hu <;> rw [← hu]
  · exact hd.c0
  · exact hd.c1
  · exact hd.c2
  · exact hd.c3
  · exact hd.c4
  · exact hd.c5
  · exact hd.c6

/-- What the clone of a slice of nodes gives: the same cells in a row of its own. -/
def Cloned (w : World) (l : List Nd) (A : Nat → Option Addr) (C : Nat → Nat) (e : Ending) (w' : World) : Prop :=
  ∃ ao c, e = .returned (.slice ao l.length c) ∧ (l = [] ∨ ∃ g, ao = some ⟨g, 0, none⟩ ∧ w'.ownsRow w.heap.size 37 7 (.slice ao l.length c) l.length (allCells l A C)) ∧ Below w.heap.size w w'

theorem cloneNode_any (b off c : Nat) (l : List Nd) (A : Nat → Option Addr) (C : Nat → Nat) (w : World) (h : ∀ i n, l[i]? = some n → NdAt w b (off + i * 7) n (A i) (C i)) (hl : l.length ≤ 1048576) :
    Calls Try.prog 86 #[.slice (some ⟨b, off, none⟩) l.length c] w (Cloned w l A C) := by
  obtain ⟨i0, hi, hz0, hz1, hz2⟩ := info_parts Try.infoNode
  refine (AnyE.slices_Clone Try.laysCloneNode i0 _ 7 80 hi hz0 hz1 hz2 rfl (by omega) Try.sizeNode b off l.length c (allCells l A C) w (allCells_len l A C) (by unfold maxLen; omega) (by omega) (allCells_cell h) (allCells_one l A C)).mono ?_
  rintro e w' ⟨v', rfl, ho, _, hb⟩
  rcases ho.2 with ⟨rfl, hn⟩ | ⟨g, cap, cur, rfl, r⟩
  · exact ⟨none, 0, by rw [hn], .inl (List.eq_nil_of_length_eq_zero hn), hb⟩
  · exact ⟨_, cap, rfl, .inr ⟨g, rfl, ho⟩, hb⟩

set_option maxRecDepth 100000 in
set_option maxHeartbeats 1600000 in
theorem copyNodes_any (ao : Option Addr) (c : Nat) (l : List Nd) (w : World) (h : RdN w ao l) (hne : l ≠ []) (hl : l.length ≤ 1048576) (hcol : ∀ n ∈ l, n.cols.length ≤ 1048576) :
    Calls Try.prog 60 #[.slice ao l.length c] w (MadeN w l) := by
  have HCOL := Lib.hid hcol; clear hcol
  obtain ⟨b, off, rfl, hat⟩ : ∃ b off, ao = some ⟨b, off, none⟩ ∧ ∀ i n, l[i]? = some n → ∃ a c, NdAt w b (off + i * 7) n a c := by
    rcases h with h | h
    · exact absurd h hne
    · exact h
  clear h
  obtain ⟨A0, C0, hA0⟩ := nodes_ind hat
  clear hat
  have HA := Lib.hid hA0; clear hA0
  have HNE := Lib.hid hne; clear hne
  go_enter Try.func60, Try.ntmps60
  go_wp2_with fail
  refine (cloneNode_any b off c l A0 C0 _ HA.out hl).mono ?_
  rintro e w1 ⟨ao1, c1, rfl, ho, b1⟩
  obtain ⟨g, rfl, ho⟩ : ∃ g, ao1 = some ⟨g, 0, none⟩ ∧ w1.ownsRow w.heap.size 37 7 (.slice ao1 l.length c1) l.length (allCells l A0 C0) := by
    rcases ho with h | h
    · exact absurd h HNE.out
    · exact h
  have P0 : Hid (∃ xs A C, PartN w1 w.heap.size g c1 l.length l 0 xs A C ∧ ∀ i n, 0 ≤ i → l[i]? = some n → NdC xs (i * 7) n (A0 i) (C0 i)) :=
    ⟨_, fun _ => none, fun _ => 0, ⟨ho, fun i n hi => absurd hi (Nat.not_lt_zero _), fun i n hi => absurd hi (Nat.not_lt_zero _), fun i n hi => absurd hi (Nat.not_lt_zero _), fun i x hi => absurd hi (Nat.not_lt_zero _), fun i k x y hi => absurd hi (Nat.not_lt_zero _)⟩, fun i n _ hn => by
      have k := allCells_get l A0 C0 i n hn
      exact ⟨k 0 (by omega), k 1 (by omega), k 2 (by omega), k 3 (by omega), k 4 (by omega), k 5 (by omega), k 6 (by omega)⟩⟩
  have B1 := Lib.hid b1
  clear ho b1
  go_wp2_with fail
  go_loopw [9] (fun i wr => ∃ j : Nat, j ≤ l.length ∧ i = .int .i64 j ∧ (∃ xs A C, PartN wr w.heap.size g c1 l.length l j xs A C ∧ ∀ i n, j ≤ i → l[i]? = some n → NdC xs (i * 7) n (A0 i) (C0 i)) ∧ Below w.heap.size w wr) (fun i _ => l.length - (intOf i).toNat)
  case atStart => exact ⟨0, Nat.zero_le _, rfl, P0.out, B1.out⟩
  case round =>
    clear P0 B1
    obtain ⟨j, hj, rfl, ⟨xs, A, C, hp, hr⟩, hb⟩ := hrel
    by_cases hlt : j < l.length
    · have hn0 : l[j]? = some l[j] := List.getElem?_eq_getElem hlt
      generalize l[j] = n at hn0
      have hcl := HCOL.out n (List.mem_of_getElem? hn0)
      have hat := (HA.out j n hn0).below hb
      have nc := hr j n (Nat.le_refl _) hn0
      have c6 := (hp.cellAt (o := j * 7 + 6) (by omega)).trans nc.c6
      have HN := Lib.hid hn0; have HB := Lib.hid hb; have HP := Lib.hid hp; have HR := Lib.hid hr; have NC := Lib.hid nc; have HAT := Lib.hid hat
      clear hn0 hb hp hr nc hat
      go_wp2_with fail
      refine (libClone_any (A0 j) (C0 j) n.cols _ HAT.out.rd (by omega)).mono ?_
      rintro e w2 ⟨a2, c2, rfl, o2, b2⟩
      obtain ⟨y6, e6⟩ := (HP.out.below b2).some_ (o := j * 7 + 6) (by omega)
      have hf := (HP.out.below b2).frozen
      have R := Lib.hid (HP.out.own1 hlt HN.out b2 NC.out o2 HB.out.size HAT.out.nm)
      have T2 := Lib.hid ((below_step HB.out (Nat.le_refl _) b2).setCell (p := ⟨g, j * 7 + 6, none⟩) (owns_block HP.out.own).1 (.slice a2 n.cols.length c2))
      clear o2 b2 c6
      go_wp2_with fail
      go_roundw
      case rel => exact ⟨j + 1, by omega, by go_num, ⟨_, _, _, R.out, fun i m hi hm => by
        have k := HR.out i m (by omega) hm
        have key : ∀ s, s < 7 → (xs.set (j * 7 + 6) (.slice a2 n.cols.length c2))[i * 7 + s]? = xs[i * 7 + s]? := fun s _ => List.getElem?_set_ne (by omega)
        exact ⟨(key 0 (by omega)).trans k.c0, (key 1 (by omega)).trans k.c1, (key 2 (by omega)).trans k.c2, (key 3 (by omega)).trans k.c3, (key 4 (by omega)).trans k.c4, (key 5 (by omega)).trans k.c5, (key 6 (by omega)).trans k.c6⟩⟩, T2.out⟩
      case measure => simp [intOf]; omega
    · obtain rfl : j = l.length := by omega
      have HB := Lib.hid hb; have HP := Lib.hid hp
      clear hb hp hr
      go_wp2_with fail
      go_ret
      exact ⟨_, _, rfl, .inr ⟨g, xs, A, C, rfl, HP.out⟩, HB.out⟩
end Go.Proofs.Ytoomhkdbgjhdgaa
