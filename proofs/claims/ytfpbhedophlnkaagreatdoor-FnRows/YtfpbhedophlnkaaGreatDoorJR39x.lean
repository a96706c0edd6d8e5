/-
  Contract of impl.copyNodes: the same nodes in memory of the call's own. For every slice of nodes. Contracts of PartOf, of the model and of the program. For every slice of nodes and every number. Rows of nodes of the call's own, one put behind the other. No program, no walk.
-/
import Derived.Test.YtfpbhedophlnkaaGreatDoorJR30x
import Derived.Test.YtfpbhedophlnkaaGreatDoorJR10x
import Derived.Test.YtfpbhedophlnkaaGreatDoorJR38x
import Derived.Deep.RegionWith
namespace Go.Proofs.YtfpbhedophlnkaaGreatDoor
open Go.RowKit Go.Shelf Go.Lib
set_option linter.unusedSimpArgs false
set_option linter.unusedVariables false

theorem Tryz.sizeNode : ∀ w, (Go.sizeOf 92).run Tryz.prog w = .ok 7 w := fun w => Tryz.sizeOf92 w

/-- What the clone of a slice of nodes gives: the same cells in a row of its own. -/
def Cloned (w : World) (l : List Nd) (A : Nat → Option Addr) (C : Nat → Nat) (e : Ending) (w' : World) : Prop :=
  ∃ ao c, e = .returned (.slice ao l.length c) ∧ (l = [] ∨ ∃ g, ao = some ⟨g, 0, none⟩ ∧ w'.ownsRow w.heap.size 92 7 (.slice ao l.length c) l.length (allCells l A C)) ∧ Below w.heap.size w w'

theorem cloneNode_any (b off c : Nat) (l : List Nd) (A : Nat → Option Addr) (C : Nat → Nat) (w : World) (h : ∀ i n, l[i]? = some n → NdAt w b (off + i * 7) n (A i) (C i)) (hl : l.length ≤ 1048576) :
    Calls Tryz.prog 161 #[.slice (some ⟨b, off, none⟩) l.length c] w (Cloned w l A C) := by
  obtain ⟨i0, hi, hz0, hz1, hz2⟩ := info_parts Tryz.infoNode
  refine (AnyE.slices_Clone Tryz.laysCloneNode i0 _ 7 80 hi hz0 hz1 hz2 rfl (by omega) Tryz.sizeNode b off l.length c (allCells l A C) w (allCells_len l A C) (by unfold maxLen; omega) (by omega) (allCells_cell h) (allCells_one l A C)).mono ?_
  rintro e w' ⟨v', rfl, ho, _, hb⟩
  rcases ho.2 with ⟨rfl, hn⟩ | ⟨g, cap, cur, rfl, r⟩
  · exact ⟨none, 0, by rw [hn], .inl (List.eq_nil_of_length_eq_zero hn), hb⟩
  · exact ⟨_, cap, rfl, .inr ⟨g, rfl, ho⟩, hb⟩

set_option maxRecDepth 100000 in
set_option maxHeartbeats 1600000 in
theorem copyNodes_any (ao : Option Addr) (c : Nat) (l : List Nd) (w : World) (h : RdN w ao l) (hne : l ≠ []) (hl : l.length ≤ 1048576) (hcol : ∀ n ∈ l, n.cols.length ≤ 1048576) :
    Calls Tryz.prog 80 #[.slice ao l.length c] w (MadeN w l) := by
  have HCOL := Lib.hid hcol; clear hcol
  obtain ⟨b, off, rfl, hat⟩ : ∃ b off, ao = some ⟨b, off, none⟩ ∧ ∀ i n, l[i]? = some n → ∃ a c, NdAt w b (off + i * 7) n a c := by
    rcases h with h | h
    · exact absurd h hne
    · exact h
  clear h
  obtain ⟨A0, C0, hA0⟩ := nodes_ind hat
  clear hat
  have HA := Lib.hid hA0; clear hA0
  have HNE := Lib.hid hne; clear hne
  go_enter Tryz.func80, Tryz.ntmps80
  go_wp2_with fail
  refine (cloneNode_any b off c l A0 C0 _ HA.out hl).mono ?_
  rintro e w1 ⟨ao1, c1, rfl, ho, b1⟩
  obtain ⟨g, rfl, ho⟩ : ∃ g, ao1 = some ⟨g, 0, none⟩ ∧ w1.ownsRow w.heap.size 92 7 (.slice ao1 l.length c1) l.length (allCells l A0 C0) := by
    rcases ho with h | h
    · exact absurd h HNE.out
    · exact h
  have P0 : Hid (∃ xs A C, PartN w1 w.heap.size g c1 l.length l 0 xs A C ∧ ∀ i n, 0 ≤ i → l[i]? = some n → NdC xs (i * 7) n (A0 i) (C0 i)) :=
    ⟨_, fun _ => none, fun _ => 0, ⟨ho, fun i n hi => absurd hi (Nat.not_lt_zero _), fun i n hi => absurd hi (Nat.not_lt_zero _), fun i n hi => absurd hi (Nat.not_lt_zero _), fun i x hi => absurd hi (Nat.not_lt_zero _), fun i k x y hi => absurd hi (Nat.not_lt_zero _)⟩, fun i n _ hn => by
      have k := allCells_get l A0 C0 i n hn
      exact ⟨k 0 (by omega), k 1 (by omega), k 2 (by omega), k 3 (by omega), k 4 (by omega), k 5 (by omega), k 6 (by omega)⟩⟩
  have B1 := Lib.hid b1
  clear ho b1
  go_wp2_with fail
  go_loopw [9] (fun i wr => ∃ j : Nat, j ≤ l.length ∧ i = .int .i64 j ∧ (∃ xs A C, PartN wr w.heap.size g c1 l.length l j xs A C ∧ ∀ i n, j ≤ i → l[i]? = some n → NdC xs (i * 7) n (A0 i) (C0 i)) ∧ Below w.heap.size w wr) (fun i _ => l.length - (intOf i).toNat)
  case atStart => exact ⟨0, Nat.zero_le _, rfl, P0.out, B1.out⟩
  case round =>
    clear P0 B1
    obtain ⟨j, hj, rfl, ⟨xs, A, C, hp, hr⟩, hb⟩ := hrel
    by_cases hlt : j < l.length
    · have hn0 : l[j]? = some l[j] := List.getElem?_eq_getElem hlt
      generalize l[j] = n at hn0
      have hcl := HCOL.out n (List.mem_of_getElem? hn0)
      have hat := (HA.out j n hn0).below hb
      have nc := hr j n (Nat.le_refl _) hn0
      have c6 := (hp.cellAt (o := j * 7 + 6) (by omega)).trans nc.c6
      have HN := Lib.hid hn0; have HB := Lib.hid hb; have HP := Lib.hid hp; have HR := Lib.hid hr; have NC := Lib.hid nc; have HAT := Lib.hid hat
      clear hn0 hb hp hr nc hat
      go_wp2_with fail
      refine (libClone_any (A0 j) (C0 j) n.cols _ HAT.out.rd (by omega)).mono ?_
      rintro e w2 ⟨a2, c2, rfl, o2, b2⟩
      obtain ⟨y6, e6⟩ := (HP.out.below b2).some_ (o := j * 7 + 6) (by omega)
      have hf := (HP.out.below b2).frozen
      have R := Lib.hid (HP.out.own1 hlt HN.out b2 NC.out o2 HB.out.size HAT.out.nm)
      have T2 := Lib.hid ((below_step HB.out (Nat.le_refl _) b2).setCell (p := ⟨g, j * 7 + 6, none⟩) (owns_block HP.out.own).1 (.slice a2 n.cols.length c2))
      clear o2 b2 c6
      go_wp2_with fail
      go_roundw
      case rel => exact ⟨j + 1, by omega, by go_num, ⟨_, _, _, R.out, fun i m hi hm => by
        have k := HR.out i m (by omega) hm
        have key : ∀ s, s < 7 → (xs.set (j * 7 + 6) (.slice a2 n.cols.length c2))[i * 7 + s]? = xs[i * 7 + s]? := fun s _ => List.getElem?_set_ne (by omega)
        exact ⟨(key 0 (by omega)).trans k.c0, (key 1 (by omega)).trans k.c1, (key 2 (by omega)).trans k.c2, (key 3 (by omega)).trans k.c3, (key 4 (by omega)).trans k.c4, (key 5 (by omega)).trans k.c5, (key 6 (by omega)).trans k.c6⟩⟩, T2.out⟩
      case measure => simp [intOf]; omega
    · obtain rfl : j = l.length := by omega
      have HB := Lib.hid hb; have HP := Lib.hid hp
      clear hb hp hr
      go_wp2_with fail
      go_ret
      exact ⟨_, _, rfl, .inr ⟨g, xs, A, C, rfl, HP.out⟩, HB.out⟩
set_option maxRecDepth 100000 in
set_option maxHeartbeats 1600000 in
theorem copyNodesNil_any (b off c : Nat) (w : World) :
    Calls Tryz.prog 80 #[.slice (some ⟨b, off, none⟩) 0 c] w (MadeN w []) := by
  go_enter Tryz.func80, Tryz.ntmps80
  go_wp2_with fail
  refine (cloneNode_any b off c [] (fun _ => none) (fun _ => 0) _ (fun i n h => by simp at h) (by simp)).mono ?_
  rintro e w1 ⟨ao1, c1, rfl, _, b1⟩
  have B1 := Lib.hid b1
  clear b1
  go_wp2_with fail
  refine wp_loop_rounds 1 ?_; rw [rounds_succ]
  go_wp2_with fail
  go_ret
  exact ⟨_, _, rfl, .inl rfl, B1.out⟩
theorem copyNodesAt_any (b off c : Nat) (l : List Nd) (w : World) (h : RdN w (some ⟨b, off, none⟩) l) (hl : l.length ≤ 1048576) (hcol : ∀ n ∈ l, n.cols.length ≤ 1048576) :
    Calls Tryz.prog 80 #[.slice (some ⟨b, off, none⟩) l.length c] w (MadeN w l) := by
  cases l with
  | nil => exact copyNodesNil_any b off c w
  | cons n l => exact copyNodes_any _ c (n :: l) w h (by simp) hl hcol
end Go.Proofs.YtfpbhedophlnkaaGreatDoor
namespace Go.Proofs.YtfpbhedophlnkaaGreatDoor
open Go.RowKit
set_option linter.unusedSimpArgs false
set_option linter.unusedVariables false

theorem OwnN.cap {w : World} {base : Nat} {ao : Option Addr} {c : Nat} {l : List Nd} (h : OwnN w base ao c l) : l = [] ∨ (l.length ≤ c ∧ c ≤ maxLen) := by
  rcases h with h | ⟨g, xs, A, C, _, hp⟩
  · exact .inl h
  · right
    rcases hp.own.2 with ⟨hv, _⟩ | ⟨g', cap, cur, hv, _, _, h1, h2, _⟩
    · simp at hv
    · simp only [Value.slice.injEq] at hv
      rw [hv.2.2]; exact ⟨h1, h2⟩

/-- The part that begins at a place. -/
def partN (p : List Nd) (k : Int) : List Nd := if goodB p k = true then (p.drop k.toNat).take ((endOfN p k).toNat - k.toNat) else []

/-- What is known of a good place. -/
theorem part_good {p : List Nd} {k : Int} (h : goodB p k = true) : ∃ T S, treeN p = some T ∧ fnd k T = some S ∧ S.pl = k.toNat ∧ endOfN p k = S.en ∧ k.toNat < S.en ∧ S.en ≤ p.length ∧ 0 ≤ k ∧ partN p k = (p.drop k.toNat).take (S.en - k.toNat) ∧ (partN p k).length = S.en - k.toNat := by
  obtain ⟨T, S, ht, hf, hpl, hen, hlt, _, _, h0, h1, _⟩ := good_some h
  have he : endOfN p k = S.en := by unfold endOfN; rw [ht]; simp only; rw [hf]
  have hp : partN p k = (p.drop k.toNat).take (S.en - k.toNat) := by unfold partN; rw [if_pos h, he]; simp
  refine ⟨T, S, ht, hf, hpl, he, hlt, hen, h0, hp, ?_⟩
  rw [hp]; simp; omega
theorem part_mem {p : List Nd} {k : Int} {n : Nd} (h : n ∈ partN p k) : n ∈ p := by
  unfold partN at h
  split at h
  · exact List.mem_of_mem_drop (List.mem_of_mem_take h)
  · cases h
theorem partN_no {p : List Nd} {k : Int} (h : goodB p k = false) : partN p k = [] := by unfold partN; rw [if_neg (by simp [h])]

set_option maxRecDepth 100000 in
set_option maxHeartbeats 1600000 in
theorem implPartOf_any (ao : Option Addr) (c : Nat) (p : List Nd) (hp : Small p) (k : Int) (w : World) (h : RdN w ao p) (hcm : p = [] ∨ (p.length ≤ c ∧ c ≤ maxLen)) :
    Calls Tryz.prog 77 #[.slice ao p.length c, .int .i64 k] w (MadeN w (partN p k)) := by
  have H := Lib.hid h; clear h
  have hpl := hp.1
  have SM := Lib.hid hp; clear hp
  have HCM := Lib.hid hcm; clear hcm
  cases hg : goodB p k with
  | false =>
    have GN := Lib.hid (good_none hg)
    rw [partN_no hg]; clear hg
    go_enter Tryz.func77, Tryz.ntmps77
    go_wp2_with fail
    refine (treeOf_any ao c p SM.out _ H.out).mono ?_
    intro e w1 hpost
    rcases GN.out with ht | ⟨T, ht, hf⟩
    · rw [ht] at hpost
      obtain ⟨rfl, b1⟩ := hpost
      clear ht
      go_wp2_with fail
      refine (findNil_any _ _).mono ?_
      rintro e w' ⟨rfl, rfl⟩
      go_wp2_with fail
      go_ret
      exact ⟨none, 0, rfl, .inl rfl, b1⟩
    · rw [ht] at hpost
      obtain ⟨b, rfl, tr, b1⟩ := hpost
      have TR := Lib.hid tr; have B1 := Lib.hid b1; have HF := Lib.hid hf
      clear ht tr b1 hf
      go_wp2_with fail
      refine (find_any k T _ _ _ b TR.out).mono ?_
      rw [HF.out]
      rintro e w' ⟨rfl, rfl⟩
      go_wp2_with fail
      go_ret
      exact ⟨none, 0, rfl, .inl rfl, B1.out⟩
  | true =>
    obtain ⟨T, S, ht, hf, hSp, _, hlt, hen, h0, hpart, hplen⟩ := part_good hg
    obtain ⟨hc, hm⟩ : p.length ≤ c ∧ c ≤ maxLen := by
      rcases HCM.out with hh | hh
      · subst hh; simp at hen; omega
      · exact hh
    unfold maxLen at hm
    have HPA := Lib.hid hpart; have HPL := Lib.hid hplen; have HT := Lib.hid ht; have HF := Lib.hid hf; have HSP := Lib.hid hSp
    clear hg hpart hplen ht hf hSp
    obtain ⟨b, off, rfl⟩ : ∃ b off, ao = some ⟨b, off, none⟩ := by
      obtain ⟨b, off, _, _, _, rfl, _⟩ := H.out.at_ (i := k.toNat) (by omega); exact ⟨b, off, rfl⟩
    have k1 : S.pl < S.en := by have := HSP.out; omega
    have k2 : (S.en : Int) ≤ (c : Int) := by omega
    have k3 : (S.pl : Int) ≤ (c : Int) := by omega
    have k4 : (S.pl : Int) ≤ (S.en : Int) := by omega
    have hcne : ¬ (c = S.pl) := by omega
    go_enter Tryz.func77, Tryz.ntmps77
    go_wp2_with fail
    refine (treeOf_any _ c p SM.out _ H.out).mono ?_
    rw [HT.out]
    rintro e w1 ⟨bt, rfl, tr, b1⟩
    have TR := Lib.hid tr; have B1 := Lib.hid b1
    clear tr b1
    go_wp2_with fail
    refine (find_any k T _ _ _ bt TR.out).mono ?_
    rw [HF.out]
    rintro e w' ⟨bs, rfl, ts, rfl⟩
    obtain ⟨v, _, _, a, c', c0, c1, c2, c3⟩ := ts.head
    clear ts
    have LC := copyNodes_any (some ⟨b, off + S.pl * 7, none⟩) (c - S.pl) (partN p k) w1.drew (by rw [HPA.out, ← HSP.out]; exact (show RdN w1.drew _ p from H.out.below B1.out.drew).part _ _) (by intro hh; have := HPL.out; rw [hh] at this; simp at this; omega) (by rw [HPL.out]; omega) (fun n hn => SM.out.2 n (part_mem hn))
    rw [HPL.out, ← HSP.out] at LC
    have LC' := Lib.hid LC; clear LC
    go_wp2_with fail
    first | go_region_with (go_at_call 80; (try rw [if_neg hcne]); refine LC'.out.mono ?_; rintro e w3 ⟨a3, c3', rfl, o3, b3⟩; have O3 := Lib.hid (o3.base_le B1.out.drew.size); have B3 := Lib.hid (below_step B1.out.drew (Nat.le_refl _) b3); clear o3 b3) | fail
    all_goals
      go_wp2_with fail
      go_ret
      exact ⟨a3, c3', rfl, O3.out, B3.out⟩
end Go.Proofs.YtfpbhedophlnkaaGreatDoor
namespace Go.Proofs.YtfpbhedophlnkaaGreatDoor
open Go.RowKit
set_option linter.unusedSimpArgs false
set_option linter.unusedVariables false

theorem PartN.rdN {w : World} {base g c : Nat} {l : List Nd} {xs : List Value} {A : Nat → Option Addr} {C : Nat → Nat} (h : PartN w base g c l.length l l.length xs A C) : RdN w (some ⟨g, 0, none⟩) l := by
  refine .inr ⟨g, 0, rfl, fun i n hi => ⟨A i, C i, ?_⟩⟩
  have hl : i < l.length := by
    rcases Nat.lt_or_ge i l.length with h1 | h1
    · exact h1
    · rw [List.getElem?_eq_none h1] at hi; cases hi
  exact h.at_ hl hl hi
theorem PartN.xs_eq {w : World} {base g c : Nat} {l : List Nd} {xs : List Value} {A : Nat → Option Addr} {C : Nat → Nat} (h : PartN w base g c l.length l l.length xs A C) : xs = allCells l A C := by
  have hx : xs.length = l.length * 7 := h.own.1
  refine List.ext_getElem? fun j => ?_
  rcases Nat.lt_or_ge j (l.length * 7) with hj | hj
  · obtain ⟨q, r, rfl, hr⟩ : ∃ q r, j = q * 7 + r ∧ r < 7 := ⟨j / 7, j % 7, by omega, by omega⟩
    have hq : q < l.length := by omega
    have hc := h.cells q _ hq (List.getElem?_eq_getElem hq)
    rw [allCells_get l A C q _ (List.getElem?_eq_getElem hq) r hr]
    have hm : r = 0 ∨ r = 1 ∨ r = 2 ∨ r = 3 ∨ r = 4 ∨ r = 5 ∨ r = 6 := by omega
    rcases hm with rfl | rfl | rfl | rfl | rfl | rfl | rfl
    · exact hc.c0
    · exact hc.c1
    · exact hc.c2
    · exact hc.c3
    · exact hc.c4
    · exact hc.c5
    · exact hc.c6
  · rw [List.getElem?_eq_none (by omega), List.getElem?_eq_none (by rw [allCells_len]; omega)]
theorem some_lt {α : Type} {xs : List α} {i : Nat} {v : α} (h : xs[i]? = some v) : i < xs.length := (List.getElem?_eq_some_iff.1 h).1
theorem NdC.left {xs ys : List Value} {o : Nat} {n : Nd} {a : Option Addr} {c : Nat} (h : NdC xs o n a c) : NdC (xs ++ ys) o n a c := by
  have hl := some_lt h.c6
  exact ⟨by rw [List.getElem?_append_left (by omega)]; exact h.c0, by rw [List.getElem?_append_left (by omega)]; exact h.c1, by rw [List.getElem?_append_left (by omega)]; exact h.c2, by rw [List.getElem?_append_left (by omega)]; exact h.c3, by rw [List.getElem?_append_left (by omega)]; exact h.c4, by rw [List.getElem?_append_left (by omega)]; exact h.c5, by rw [List.getElem?_append_left (by omega)]; exact h.c6⟩
theorem NdC.right {xs ys : List Value} {o k : Nat} {n : Nd} {a : Option Addr} {c : Nat} (h : NdC ys o n a c) (hk : k = xs.length + o) : NdC (xs ++ ys) k n a c := by
  subst hk
  have key : ∀ t v, ys[o + t]? = some v → (xs ++ ys)[xs.length + o + t]? = some v := fun t v hv => by
    rw [List.getElem?_append_right (by omega), show xs.length + o + t - xs.length = o + t by omega]; exact hv
  exact ⟨key 0 _ h.c0, key 1 _ h.c1, key 2 _ h.c2, key 3 _ h.c3, key 4 _ h.c4, key 5 _ h.c5, key 6 _ h.c6⟩

/-- A whole row of nodes is put behind another. -/
theorem join_step {wb W3 w4 : World} {base g cc : Nat} {l : List Nd} {xs : List Value} {A : Nat → Option Addr} {C : Nat → Nat} {g2 c2 : Nat} {l2 : List Nd} {xs2 : List Value} {A2 : Nat → Option Addr} {C2 : Nat → Nat} {v' : Value}
    (hp : PartN wb base g cc l.length l l.length xs A C) (hb : Below wb.heap.size wb W3) (hp2 : PartN W3 wb.heap.size g2 c2 l2.length l2 l2.length xs2 A2 C2) (hbase : base ≤ wb.heap.size)
    (ho : w4.ownsRow base 92 7 v' (l.length + l2.length) (xs ++ xs2)) (hg : W3.grownBy w4 (some g)) (hblk : v'.ownBlock = some g ∨ v'.ownBlock = some W3.heap.size) :
    ∃ g' c4 A' C', v' = .slice (some ⟨g', 0, none⟩) (l.length + l2.length) c4 ∧ PartN w4 base g' c4 (l ++ l2).length (l ++ l2) (l ++ l2).length (xs ++ xs2) A' C' := by
  have hgb := owns_block hp.own
  have h3 := hp.below hb
  have z3 := hb.size
  have hx : xs.length = l.length * 7 := hp.own.1
  rcases ho.2 with ⟨rfl, hz⟩ | ⟨g', c4, cur, rfl, r⟩
  · simp [Value.ownBlock] at hblk
  · have hg' : g' = g ∨ g' = W3.heap.size := by simpa [Value.ownBlock] using hblk
    have hAlt : ∀ (i : Nat) (x : Addr), i < l.length → A i = some x → x.block < wb.heap.size := fun i x hi hx => ((hp.cols i _ hi (List.getElem?_eq_getElem hi)).lt x hx).2
    have hAlt2 : ∀ (i : Nat) (x : Addr), i < l2.length → A2 i = some x → wb.heap.size ≤ x.block ∧ x.block < W3.heap.size := fun i x hi hx => (hp2.cols i _ hi (List.getElem?_eq_getElem hi)).lt x hx
    refine ⟨g', c4, fun i => if i < l.length then A i else A2 (i - l.length), fun i => if i < l.length then C i else C2 (i - l.length), rfl, ?_⟩
    refine ⟨by rw [List.length_append]; exact ho, ?_, ?_, ?_, ?_, ?_⟩
    · intro i n hi hn
      by_cases hil : i < l.length
      · simp only [if_pos hil]
        rw [List.getElem?_append_left hil] at hn
        exact (hp.cells i n hil hn).left
      · simp only [if_neg hil]
        rw [List.getElem?_append_right (by omega)] at hn
        exact (hp2.cells _ n (some_lt hn) hn).right (by rw [hx]; omega)
    · intro i n hi hn
      by_cases hil : i < l.length
      · simp only [if_pos hil]
        rw [List.getElem?_append_left hil] at hn
        exact (h3.cols i n hil hn).grown hg (fun x hx => by simp; exact hp.row i x hil hil hx)
      · simp only [if_neg hil]
        rw [List.getElem?_append_right (by omega)] at hn
        exact ((hp2.cols _ n (some_lt hn) hn).grown hg (fun x hx => by have := hAlt2 _ x (some_lt hn) hx; simp; omega)).base_le hbase
    · intro i n hi hn
      by_cases hil : i < l.length
      · rw [List.getElem?_append_left hil] at hn
        exact hp.name i n hil hn
      · rw [List.getElem?_append_right (by omega)] at hn
        exact hp2.name _ n (some_lt hn) hn
    · intro i x _ hi hx'
      rw [List.length_append] at hi
      by_cases hil : i < l.length
      · simp only [if_pos hil] at hx'
        rcases hg' with rfl | rfl
        · exact hp.row i x hil hil hx'
        · have := hAlt i x hil hx'; omega
      · simp only [if_neg hil] at hx'
        have := hAlt2 _ x (by omega) hx'
        rcases hg' with rfl | rfl <;> omega
    · intro i k x y _ _ hi hk hik hx' hy'
      rw [List.length_append] at hi hk
      by_cases hil : i < l.length
      · simp only [if_pos hil] at hx'
        by_cases hkl : k < l.length
        · simp only [if_pos hkl] at hy'
          exact hp.apart i k x y hil hkl hil hkl hik hx' hy'
        · simp only [if_neg hkl] at hy'
          have := hAlt i x hil hx'
          have := hAlt2 _ y (by omega) hy'
          omega
      · simp only [if_neg hil] at hx'
        by_cases hkl : k < l.length
        · simp only [if_pos hkl] at hy'
          have := hAlt k y hkl hy'
          have := hAlt2 _ x (by omega) hx'
          omega
        · simp only [if_neg hkl] at hy'
          exact hp2.apart _ _ x y (by omega) (by omega) (by omega) (by omega) (by omega) hx' hy'

/-- 'append(out, more...)' at rows of nodes. -/
theorem wpList_appendNs {P : Program} (w : World) {ops : Array Oper} {rest : List Oper} {o : Oper} {a : Act} {Q : Exit → Act → World → Prop} (hgd : o.guard = none) (s x : Operand) (t : TypeId)
    (ho : o.op = .call { callee := .builtin .append, args := #[s, x], argTypes := #[t, t] }) (base : Nat) {z : Value} (ht : P.underlying t = some (.slice 92))
    (hi : (P.info? 92).map (fun i => (i.zero, i.size, i.bytes)) = some (some z, 7, 80)) (hz : z.cells.size = 7) (v : Value) (n : Nat) (xs : List Value) (hs : a.eval s = v)
    (hown : w.ownsRow base 92 7 v n xs) (b off m c2 : Nat) (l2 : List Nd) (A2 : Nat → Option Addr) (C2 : Nat → Nat) (hx : a.eval x = .slice (some ⟨b, off, none⟩) m c2) (hm : m = l2.length)
    (hc : ∀ i n, l2[i]? = some n → NdAt w b (off + i * 7) n (A2 i) (C2 i)) (hj : n + m ≤ 16777216) (hbase : base ≤ w.heap.size)
    (h : ∀ v' w', w'.ownsRow base 92 7 v' (n + m) (xs ++ allCells l2 A2 C2) → w.grownBy w' v.ownBlock → (v'.ownBlock = v.ownBlock ∨ v'.ownBlock = some w.heap.size) → wpList P ops Q rest (a.put o.dst v') w') :
    wpList P ops Q (o :: rest) a w := by
  obtain ⟨i, hi0, hz0, hz1, hz2⟩ := info_parts hi
  subst hm
  refine wpList_append_own_at w hgd s x t ho base 92 i z 7 80 ht hi0 hz0 hz1 hz2 hz (by omega) _ n xs hs hown ⟨b, off, none⟩ l2.length c2 (allCells l2 A2 C2) hx (allCells_len _ _ _) ?_ (allCells_one _ _ _) (by unfold maxLen; omega) (by omega) hbase ?_
  · intro j u hu
    have := allCells_cell hc j u hu
    unfold Addr.add
    split
    · rename_i h0; subst h0; exact this
    · exact this
  · intro v' w' h1 h2 _ h4
    exact h v' w' h1 h2 h4
end Go.Proofs.YtfpbhedophlnkaaGreatDoor
