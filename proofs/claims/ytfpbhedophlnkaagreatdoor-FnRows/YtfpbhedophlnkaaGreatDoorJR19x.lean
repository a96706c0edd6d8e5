/-
  Contracts of spec.l04Copy and spec.SortRows. For every slice of rows. Contract of spec.SortRows. For every slice of rows.
-/
import Derived.Test.YtfpbhedophlnkaaGreatDoorJR18x
import Derived.BigQuiet
namespace Go.Proofs.YtfpbhedophlnkaaGreatDoor
open Go.RowKit
set_option linter.unusedSimpArgs false
set_option linter.unusedVariables false

theorem below_appV {B : Nat} {w wr w1 : World} {e : TypeId} {ao : Option Addr} {c : Nat} {xs : List Value} {o : Obj} (hb : Below B w wr) (hB : B ≤ wr.heap.size) (ho : OwnV wr B e ao c xs) (hg : (wr.alloc o).grownBy w1 (ao.map (·.block))) : Below B w w1 := by
  refine (hb.alloc hB o).grown hg (by simp; omega) ?_
  intro g hg'
  rcases ao with _ | a
  · cases hg'
  · simp at hg'; subst hg'; exact (ho.lt a rfl).1

theorem OwnV.cap_le {w : World} {base : Nat} {e : TypeId} {ao : Option Addr} {c : Nat} {xs : List Value} (h : OwnV w base e ao c xs) : c ≤ maxLen := by
  rcases h.2 with ⟨hv, _⟩ | ⟨g, cap, cur, hv, _, _, _, h2, _⟩
  · simp only [Value.slice.injEq] at hv; rw [hv.2.2]; exact Nat.zero_le _
  · simp only [Value.slice.injEq] at hv; rw [hv.2.2]; exact h2

set_option maxRecDepth 100000 in
set_option maxHeartbeats 1600000 in
theorem l04Copy_any (ao : Option Addr) (c : Nat) (l : List (List Int)) (w : World) (h : RdR w ao l) (hl : l.length ≤ 1048576) (hr : ∀ r ∈ l, r.length ≤ 1048576) :
    Calls Tryz.prog 108 #[.slice ao l.length c] w (MadeR w l) := by
  have H := Lib.hid (h)
  have HR := Lib.hid (hr)
  have P0 : Hid (∃ xs A C, PartR (w.alloc (.cells #[] 47)) w.heap.size w.heap.size 0 0 l 0 xs A C) := ⟨_, _, _, PartR.start w l⟩
  have B0 := Lib.hid ((Below.refl w.heap.size w).alloc (Nat.le_refl _) (.cells #[] 47))
  clear h hr
  go_enter Tryz.func108, Tryz.ntmps108
  go_wp2_with fail
  go_loopw [3, 4] (fun s i wr => ∃ (j g cc : Nat), j ≤ l.length ∧ i = .int .i64 j ∧ s = .slice (some ⟨g, 0, none⟩) j cc ∧ cc ≤ maxLen ∧ (∃ xs A C, PartR wr w.heap.size g cc j l j xs A C) ∧ Below w.heap.size w wr) (fun _ i _ => l.length - (intOf i).toNat)
  case atStart => exact ⟨0, _, _, Nat.zero_le _, rfl, rfl, Nat.zero_le _, P0.out, B0.out⟩
  case round =>
    clear P0 B0
    obtain ⟨j, g, cc, hj, rfl, rfl, hcc, ⟨xs, A, C, hp⟩, hb⟩ := hrel
    have HP := Lib.hid (hp)
    have HB := Lib.hid (hb)
    have HCC := Lib.hid (hcc)
    by_cases hlt : j < l.length
    · obtain ⟨b, off, r, a, c', rfl, hn, ⟨c0, rd, cx, mx⟩⟩ := (H.out.below hb).at_ hlt
      have HN := Lib.hid (hn)
      have RD := Lib.hid (rd)
      have RL := Lib.hid (HR.out r (List.mem_of_getElem? hn))
      have XL : Hid (xs.length = j) := by have := hp.own.1; show _ = _; omega
      clear hn hp hb rd cx mx hcc
      have T := Lib.hid (fun w => l01CopyL_any a c' r w)
      go_wp2_with fail
      refine (T.out _ RD.out RL.out).mono ?_
      rintro e w2 ⟨a2, c2, rfl, o2, b2⟩
      have O2 := Lib.hid (o2)
      have B2 := Lib.hid (b2)
      have OV : Hid (OwnV w2 w.heap.size 47 (some ⟨g, 0, none⟩) cc xs) := by
        have := (HP.out.below b2).own
        show World.ownsRow _ _ _ _ _ _ _
        rw [XL.out]
        exact this
      clear o2 b2 c0
      go_wp2_with (at_builtin; refine wpList_appendV _ rfl (.tmp 12) (.tmp 18) 43 rfl w.heap.size 47 (.slice none 0 0) 24 Tryz.underlying43 infoRw rfl (some ⟨g, 0, none⟩) cc j xs rfl XL.out.symm (OV.out.alloc _) w2.heap.size 1 (.slice a2 r.length c2) rfl (cell_one _ _ _) rfl (by have := XL.out; unfold maxLen; omega) (by have := XL.out; omega) (by have := HB.out.size; have := B2.out.size; simp; omega) ?_; intro ao3 c3 w3 o3 g3 k3; obtain ⟨g', rfl, hp'⟩ := HP.out.push HN.out (B2.out.trans ((Below.refl _ w2).alloc B2.out.size _)) (O2.out.alloc _) HB.out.size o3 g3 k3; have P3 := Lib.hid hp'; have M3 := Lib.hid o3.cap_le; have B3 := Lib.hid (below_appV (o := .cells #[.slice a2 r.length c2] 47) (below_step HB.out (Nat.le_refl _) B2.out) (Nat.le_trans HB.out.size B2.out.size) OV.out g3); clear o3 g3 k3 hp')
      rw [XL.out]
      go_roundw
      case rel => exact ⟨j + 1, g', c3, by omega, by go_num, rfl, M3.out, ⟨_, _, _, P3.out⟩, B3.out⟩
      case measure => simp [intOf]; omega
    · obtain rfl : j = l.length := by omega
      have CG : Hid (l.length ≤ cc) := by
        rcases hp.own.2 with ⟨e, _⟩ | ⟨q, cap, cur, e, _, _, h1, _⟩
        · cases e
        · simp only [Value.slice.injEq] at e; rw [e.2.2]; exact h1
      clear hp hb hcc
      go_wp2_with fail
      go_ret
      exact ⟨_, _, rfl, .inr ⟨_, _, _, _, rfl, HP.out⟩, CG.out, HCC.out, HB.out⟩
end Go.Proofs.YtfpbhedophlnkaaGreatDoor
namespace Go.Proofs.YtfpbhedophlnkaaGreatDoor
open Go.RowKit
set_option linter.unusedSimpArgs false
set_option linter.unusedVariables false

/-- Between two rounds of putting x among Z: k of Z have gone by. -/
def InsAt {α : Type} (lt : α → α → Bool) (x : α) (Z : List α) (k : Nat) (put : Bool) (Y : List α) : Prop :=
  Y.length = k + (if put then 1 else 0) ∧ (if put then Y ++ Z.drop k = insL lt x Z else Y ++ insL lt x (Z.drop k) = insL lt x Z)
theorem InsAt.start {α : Type} (lt : α → α → Bool) (x : α) (Z : List α) : InsAt lt x Z 0 false [] := ⟨rfl, rfl⟩
section
variable {α : Type} {lt : α → α → Bool} {x z : α} {Z Y : List α} {k : Nat}
theorem InsAt.hit (h : InsAt lt x Z k false Y) (hz : Z[k]? = some z) (hl : lt x z = true) : InsAt lt x Z (k + 1) true (Y ++ [x] ++ [z]) := by
  obtain ⟨h0, h1⟩ := h
  have hlt := lt_of_get hz
  have e : Z.drop k = z :: Z.drop (k + 1) := by rw [List.drop_eq_getElem_cons hlt]; rw [List.getElem?_eq_getElem hlt] at hz; cases hz; rfl
  rw [if_neg (by simp), e] at h1
  refine ⟨by simp at h0 ⊢; omega, ?_⟩
  rw [if_pos rfl, ← h1]
  unfold insL
  rw [if_pos hl]; simp
theorem InsAt.miss (h : InsAt lt x Z k false Y) (hz : Z[k]? = some z) (hl : lt x z = false) : InsAt lt x Z (k + 1) false (Y ++ [z]) := by
  obtain ⟨h0, h1⟩ := h
  have hlt := lt_of_get hz
  have e : Z.drop k = z :: Z.drop (k + 1) := by rw [List.drop_eq_getElem_cons hlt]; rw [List.getElem?_eq_getElem hlt] at hz; cases hz; rfl
  rw [if_neg (by simp), e] at h1
  refine ⟨by simp at h0 ⊢; omega, ?_⟩
  rw [if_neg (by simp), ← h1]
  conv => rhs; unfold insL
  rw [if_neg (by simp [hl])]; simp
theorem InsAt.on (h : InsAt lt x Z k true Y) (hz : Z[k]? = some z) : InsAt lt x Z (k + 1) true (Y ++ [z]) := by
  obtain ⟨h0, h1⟩ := h
  have hlt := lt_of_get hz
  have e : Z.drop k = z :: Z.drop (k + 1) := by rw [List.drop_eq_getElem_cons hlt]; rw [List.getElem?_eq_getElem hlt] at hz; cases hz; rfl
  rw [if_pos rfl, e] at h1
  refine ⟨by simp at h0 ⊢; omega, ?_⟩
  rw [if_pos rfl, ← h1]; simp
theorem InsAt.end_no (h : InsAt lt x Z k false Y) (hk : k = Z.length) : Y ++ [x] = insL lt x Z := by
  obtain ⟨_, h1⟩ := h
  subst hk
  rw [if_neg (by simp), List.drop_length] at h1
  exact h1
theorem InsAt.end_yes (h : InsAt lt x Z k true Y) (hk : k = Z.length) : Y = insL lt x Z := by
  obtain ⟨_, h1⟩ := h
  subst hk
  rw [if_pos rfl, List.drop_length, List.append_nil] at h1
  exact h1
end
theorem sortL_take {α : Type} {lt : α → α → Bool} {l : List α} {i : Nat} {x : α} (h : l[i]? = some x) : sortL lt (l.take (i + 1)) = insL lt x (sortL lt (l.take i)) := by
  have e : l.take (i + 1) = l.take i ++ [x] := by rw [List.take_add_one, h]; rfl
  rw [e]; unfold sortL; rw [List.foldl_append]; rfl

theorem specRowLess_is {b : Bool} {x y : El} {W w : World} (hx : Good w x) (hy : Good w y) (hb : lessL x.r y.r = b) (hW : Below w.heap.size w W) :
    ∀ q, Calls Tryz.prog 107 #[.slice x.a x.r.length x.c, .slice y.a y.r.length y.c] (W.drewN q) fun e w' => e = .returned (.bool b) ∧ ∃ m, w' = (W.drewN q).drewN m := fun q => by
  have := specRowLess_q x.a y.a x.c y.c x.r y.r (W.drewN q) ((hx.1.below hW).drewN q) ((hy.1.below hW).drewN q) (Nat.le_trans hx.2.1 hx.2.2) (Nat.le_trans hy.2.1 hy.2.2)
  rwa [hb] at this

/-- What is held of the slice that is being made, and of the one that is gone through. -/
structure NextAt {w : World} (wo wr : World) (ao : Option Addr) (n cc : Nat) (Y : List (Els w)) : Prop where
  own : OwnV wr wo.heap.size 47 ao cc (Y.map encE)
  len : n = Y.length
  bel : Below wo.heap.size wo wr
theorem NextAt.put {w wo wr w3 : World} {ao ao3 : Option Addr} {n cc c3 : Nat} {Y : List (Els w)} (h : NextAt wo wr ao n cc Y) {x : Els w} {o : Obj} (o3 : OwnV w3 wo.heap.size 47 ao3 c3 (Y.map encE ++ [encE x])) (g3 : (wr.alloc o).grownBy w3 (ao.map (·.block))) : NextAt wo w3 ao3 (Y.length + 1) c3 (Y ++ [x]) :=
  ⟨by simpa using o3, by simp, below_appV h.bel h.bel.size h.own g3⟩
theorem NextAt.drew {w wo wr : World} {ao : Option Addr} {n cc : Nat} {Y : List (Els w)} (h : NextAt wo wr ao n cc Y) (q : Nat) : NextAt wo (wr.drewN q) ao n cc Y :=
  ⟨h.own.below (below_drewN (Below.refl _ _) q), h.len, below_drewN h.bel q⟩

set_option maxRecDepth 100000 in
set_option maxHeartbeats 6400000 in
theorem specSortRows_any (a : Option Addr) (c : Nat) (l : List (List Int)) (w : World) (h : RdR w a l) (hl : l.length ≤ 1048576) (hr : ∀ r ∈ l, r.length ≤ 1048576) :
    Calls Tryz.prog 28 #[.slice a l.length c] w (MadeR w (sortO l)) := by
  by_cases hlt : 200 < l.length
  · have E := Lib.hid (show sortO l = [] by unfold sortO; rw [if_pos hlt])
    have h2 : (200 : Int) < (l.length : Int) := by omega
    have B0 := Lib.hid ((Below.refl w.heap.size w).alloc (Nat.le_refl _) (.cells #[] 47))
    go_enter Tryz.func28, Tryz.ntmps28
    go_wp2_with fail
    go_ret
    rw [E.out]
    exact ⟨none, 0, rfl, .inl rfl, Nat.zero_le _, Nat.zero_le _, B0.out⟩
  · have E := Lib.hid (show sortO l = sortL lessL l by unfold sortO; rw [if_neg hlt])
    have h2 : (l.length : Int) ≤ 200 := by omega
    have h200 : l.length ≤ 200 := by omega
    obtain ⟨zs, hz, hL⟩ := h.els c
    have hzl : zs.length = l.length := by rw [← hz, rowsE_len]
    have HL := Lib.hid hL
    have HZ := Lib.hid hz
    have HR := Lib.hid hr
    have HZL := Lib.hid hzl
    obtain ⟨lt, hlt'⟩ : ∃ lt : Els w → Els w → Bool, lt = fun x y => lessL x.1.r y.1.r := ⟨_, rfl⟩
    have LT := Lib.hid hlt'
    have O0 := Lib.hid (show OwnV (w.alloc (.cells #[] 47)) w.heap.size 47 (some ⟨w.heap.size, 0, none⟩) 0 ((sortL lt (zs.take 0)).map encE) from World.ownsRow_lit w #[] 0 (Nat.le_refl _) (Nat.zero_le _) rfl)
    have B0 := Lib.hid ((Below.refl w.heap.size w).alloc (Nat.le_refl _) (.cells #[] 47))
    clear h hL hz hr hzl hlt hlt'
    go_enter Tryz.func28, Tryz.ntmps28
    go_wp2_with fail
    go_loopw [3, 4, 5, 6, 7] (fun s i _ _ _ wr => ∃ (j : Nat) (ao : Option Addr) (n cc : Nat), j ≤ l.length ∧ i = .int .i64 j ∧ s = .slice ao n cc ∧ n = ((sortL lt (zs.take j)).map encE).length ∧ OwnV wr w.heap.size 47 ao cc ((sortL lt (zs.take j)).map encE) ∧ Below w.heap.size w wr) (fun _ i _ _ _ _ => l.length - (intOf i).toNat)
    case atStart => exact ⟨0, _, _, _, Nat.zero_le _, rfl, rfl, by simp [sortL], O0.out, B0.out⟩
    case round =>
      clear O0 B0
      obtain ⟨j, ao, n, cc, hj, rfl, rfl, hn, ho, hb⟩ := hrel
      obtain ⟨wo, rfl⟩ : ∃ wo, wo = wr := ⟨_, rfl⟩
      have HO := Lib.hid ho
      have HB := Lib.hid hb
      have HN := Lib.hid hn
      clear ho hb hn
      by_cases hlt : j < l.length
      · have hlz : (j : Int) < (l.length : Int) := by omega
        obtain ⟨x, hx⟩ : ∃ x, zs[j]? = some x := ⟨_, List.getElem?_eq_getElem (by have := HZL.out; omega)⟩
        have SX := Lib.hid (sortL_take (lt := lt) hx)
        obtain ⟨b1, o1, a0, hb1, hcx⟩ : ∃ b off, a = some ⟨b, off, none⟩ ∧ b < w.heap.size ∧ w.cell? ⟨b, off + j, none⟩ = some (encE x) := by
          rcases HL.out with ⟨_, _, e, rfl⟩ | ⟨b, off, cap, e, hb, hc⟩
          · simp at hx
          · simp only [Value.slice.injEq] at e
            exact ⟨b, off, e.1, hb, hc j x hx⟩
        have hcx0 : ∀ W, Below w.heap.size w W → W.cell? ⟨b1, o1 + j, none⟩ = some (encE x) := fun W hW => (hW.cell (p := ⟨b1, o1 + j, none⟩) hb1).trans hcx
        have CX := Lib.hid hcx0
        subst a0
        have ZL := Lib.hid (show (sortL lt (zs.take j)).length ≤ 200 by rw [sortL_len, List.length_take]; omega)
        generalize hZ : sortL lt (zs.take j) = Z at HO HN SX ZL
        have hnz : n = Z.length := by have := HN.out; simpa using this
        have HNZ := Lib.hid hnz
        have hn200 : n ≤ 200 := by have := ZL.out; omega
        have N0 := Lib.hid (show NextAt wo (wo.alloc (.cells #[] 47)) (some ⟨wo.heap.size, 0, none⟩) 0 0 ([] : List (Els w)) from ⟨World.ownsRow_lit wo #[] 0 (Nat.le_refl _) (Nat.zero_le _) rfl, rfl, (Below.refl _ wo).alloc (Nat.le_refl _) _⟩)
        clear hcx hcx0 hZ hx hnz HN
        go_wp2_with fail
        go_loopw [5, 6, 7] (fun s p i w2 => ∃ (k : Nat) (put : Bool) (a2 : Option Addr) (n2 c2 : Nat) (Y : List (Els w)), k ≤ n ∧ i = .int .i64 k ∧ p = .bool put ∧ s = .slice a2 n2 c2 ∧ InsAt lt x Z k put Y ∧ NextAt wo w2 a2 n2 c2 Y) (fun _ _ i _ => n - (intOf i).toNat)
        case atStart => exact ⟨0, false, _, _, _, [], Nat.zero_le _, rfl, rfl, rfl, InsAt.start _ _ _, N0.out⟩
        case round =>
          clear N0
          obtain ⟨k, put, a2, n2, c2, Y, hk, rfl, rfl, rfl, hI, hN⟩ := hrel
          have II := Lib.hid hI
          have NN := Lib.hid hN
          have hy2 : (Y.map encE).length ≤ 201 := by have := hI.1; rw [List.length_map]; split at this <;> omega
          have YB := Lib.hid hy2
          have hB2 := Lib.hid (below_step HB.out (Nat.le_refl _) hN.bel)
          clear hI hN hy2
          by_cases hk2 : k < n
          · have hkz : (k : Int) < (n : Int) := by omega
            obtain ⟨z, hz⟩ : ∃ z, Z[k]? = some z := ⟨_, List.getElem?_eq_getElem (by have := HNZ.out; omega)⟩
            have ZZ := Lib.hid hz
            obtain ⟨g, hg, hcz0⟩ : ∃ g, ao = some ⟨g, 0, none⟩ ∧ ∀ W, Below wo.heap.size wo W → W.cell? ⟨g, k, none⟩ = some (encE z) := by
              rcases HO.out.form with ⟨_, _, e⟩ | ⟨g, e, _, hlt⟩
              · have := congrArg List.length e; simp at this; rw [this] at hz; simp at hz
              · subst e
                refine ⟨g, rfl, fun W hW => ?_⟩
                rw [hW.cell (p := ⟨g, k, none⟩) hlt, HO.out.cell k (by have := lt_of_get hz; simpa using this), List.getElem?_map, hz]; rfl
            have CZ := Lib.hid hcz0
            subst hg
            have hcx := CX.out _ hB2.out
            have hcz := CZ.out _ NN.out.bel
            unfold encE at hcx hcz
            clear hz hcz0
            cases put with
            | true =>
              have J := Lib.hid (II.out.on ZZ.out)
              go_wp2_with fail
              go_quiet (fail)
              have NQ := Lib.hid (NN.out.drew nq)
              have hcz5 := CZ.out _ NQ.out.bel
              unfold encE at hcz5
              clear hcx hcz hB2 NN
              generalize wr.drewN nq = w5 at NQ hcz5 ⊢
              go_wp2_with (at_builtin; refine wpList_appendV _ rfl (.tmp 45) (.tmp 50) 43 rfl wo.heap.size 47 (.slice none 0 0) 24 Tryz.underlying43 infoRw rfl _ _ _ (Y.map encE) rfl (by rw [NQ.out.len, List.length_map]) (NQ.out.own.alloc _) _ 1 (encE z) rfl (cell_one _ _ _) rfl (by have := YB.out; unfold maxLen; simp at this ⊢; omega) (by have := YB.out; simp at this ⊢; omega) (by have := NQ.out.bel.size; simp; omega) ?_; intro qa qc qw qo qg qk; have N3 := Lib.hid (NQ.out.put qo qg); clear qo qg qk)
              go_roundw
              case rel => exact ⟨k + 1, true, _, _, _, _, by omega, by go_num, rfl, rfl, J.out, N3.out⟩
              case measure => simp [intOf]; omega
            | false =>
              cases hlx : lessL x.1.r z.1.r with
              | true =>
                have LS := Lib.hid hlx
                have J := Lib.hid (II.out.hit ZZ.out (by rw [LT.out]; exact hlx))
                clear hlx
                go_wp2_with fail
                go_quiet ((go_at_call 107; exact Calls.quiet_of (specRowLess_is x.2 z.2 LS.out hB2.out _)))
                have NQ := Lib.hid (NN.out.drew nq)
                have hcx5 := CX.out _ (below_drewN hB2.out nq)
                have hcz5 := CZ.out _ NQ.out.bel
                unfold encE at hcx5 hcz5
                clear hcx hcz hB2 NN
                generalize wr.drewN nq = w5 at NQ hcx5 hcz5 ⊢
                go_wp2_with (first | (at_builtin; refine wpList_appendV _ rfl (.tmp 38) (.tmp 43) 43 rfl wo.heap.size 47 (.slice none 0 0) 24 Tryz.underlying43 infoRw rfl _ _ _ (Y.map encE) rfl (by rw [NQ.out.len, List.length_map]) (NQ.out.own.alloc _) _ 1 (encE x) rfl (cell_one _ _ _) rfl (by have := YB.out; unfold maxLen; simp at this ⊢; omega) (by have := YB.out; simp at this ⊢; omega) (by have := NQ.out.bel.size; simp; omega) ?_; intro qa qc qw qo qg qk; have N3 := Lib.hid (NQ.out.put qo qg); clear qo qg qk; have hcz6 := CZ.out _ N3.out.bel; unfold encE at hcz6) | (at_builtin; refine wpList_appendV _ rfl (.tmp 45) (.tmp 50) 43 rfl wo.heap.size 47 (.slice none 0 0) 24 Tryz.underlying43 infoRw rfl _ _ _ ((Y ++ [x]).map encE) rfl (by rw [N3.out.len, List.length_map]) (N3.out.own.alloc _) _ 1 (encE z) rfl (cell_one _ _ _) rfl (by have := YB.out; unfold maxLen; simp at this ⊢; omega) (by have := YB.out; simp at this ⊢; omega) (by have := N3.out.bel.size; simp; omega) ?_; intro pa pc pw po pg pk; have N4 := Lib.hid (N3.out.put po pg); clear po pg pk))
                go_roundw
                case rel => exact ⟨k + 1, true, _, _, _, _, by omega, by go_num, rfl, rfl, J.out, by simpa using N4.out⟩
                case measure => simp [intOf]; omega
              | false =>
                have LS := Lib.hid hlx
                have J := Lib.hid (II.out.miss ZZ.out (by rw [LT.out]; exact hlx))
                clear hlx
                go_wp2_with fail
                go_quiet ((go_at_call 107; exact Calls.quiet_of (specRowLess_is x.2 z.2 LS.out hB2.out _)))
                have NQ := Lib.hid (NN.out.drew nq)
                have hcx5 := CX.out _ (below_drewN hB2.out nq)
                have hcz5 := CZ.out _ NQ.out.bel
                unfold encE at hcx5 hcz5
                clear hcx hcz hB2 NN
                generalize wr.drewN nq = w5 at NQ hcx5 hcz5 ⊢
                go_wp2_with (at_builtin; refine wpList_appendV _ rfl (.tmp 45) (.tmp 50) 43 rfl wo.heap.size 47 (.slice none 0 0) 24 Tryz.underlying43 infoRw rfl _ _ _ (Y.map encE) rfl (by rw [NQ.out.len, List.length_map]) (NQ.out.own.alloc _) _ 1 (encE z) rfl (cell_one _ _ _) rfl (by have := YB.out; unfold maxLen; simp at this ⊢; omega) (by have := YB.out; simp at this ⊢; omega) (by have := NQ.out.bel.size; simp; omega) ?_; intro qa qc qw qo qg qk; have N3 := Lib.hid (NQ.out.put qo qg); clear qo qg qk)
                go_roundw
                case rel => exact ⟨k + 1, false, _, _, _, _, by omega, by go_num, rfl, rfl, J.out, N3.out⟩
                case measure => simp [intOf]; omega
          · have e : k = n := by omega
            subst e
            have hcx := CX.out _ hB2.out
            unfold encE at hcx
            cases put with
            | true =>
              have J := Lib.hid (II.out.end_yes HNZ.out)
              go_wp2_with fail
              go_roundw
              case rel =>
                refine ⟨j + 1, _, _, _, by omega, by go_num, rfl, ?_, ?_, hB2.out⟩
                · rw [SX.out, ← J.out]; rw [List.length_map]; exact NN.out.len
                · rw [SX.out, ← J.out]; exact NN.out.own.base_le HB.out.size
              case measure => simp [intOf]; omega
            | false =>
              have J := Lib.hid (II.out.end_no HNZ.out)
              go_wp2_with (at_builtin; refine wpList_appendV _ rfl (.tmp 54) (.tmp 59) 43 rfl wo.heap.size 47 (.slice none 0 0) 24 Tryz.underlying43 infoRw rfl _ _ _ (Y.map encE) rfl (by rw [NN.out.len, List.length_map]) (NN.out.own.alloc _) _ 1 (encE x) rfl (cell_one _ _ _) rfl (by have := YB.out; unfold maxLen; simp at this ⊢; omega) (by have := YB.out; simp at this ⊢; omega) (by have := NN.out.bel.size; simp; omega) ?_; intro qa qc qw qo qg qk; have N3 := Lib.hid (NN.out.put qo qg); clear qo qg qk)
              go_roundw
              case rel =>
                refine ⟨j + 1, _, _, _, by omega, by go_num, rfl, ?_, ?_, below_step HB.out (Nat.le_refl _) N3.out.bel⟩
                · rw [SX.out, ← J.out]; rw [List.length_map]; exact N3.out.len
                · rw [SX.out, ← J.out]; exact N3.out.own.base_le HB.out.size
              case measure => simp [intOf]; omega
      · obtain rfl : j = l.length := by omega
        have EQ := Lib.hid (show rowsE (sortL lt (zs.take l.length)) = sortL lessL l by
          rw [List.take_of_length_le (by have := HZL.out; omega), LT.out, ← HZ.out]
          exact sortL_map (fun x : Els w => x.1.r) lessL zs)
        have hrd : RdR wo ao (rowsE (sortL lt (zs.take l.length))) := owns_rdR (v := .slice ao ((sortL lt (zs.take l.length)).map encE).length cc) (show wo.ownsRow w.heap.size 47 1 (.slice ao ((sortL lt (zs.take l.length)).map encE).length cc) ((sortL lt (zs.take l.length)).map encE).length ((sortL lt (zs.take l.length)).map encE) from HO.out) HB.out
        rw [EQ.out] at hrd
        have RD := Lib.hid hrd
        clear hrd
        have hn2 : n = (sortL lessL l).length := by rw [HN.out, List.length_map, ← rowsE_len, EQ.out]
        subst hn2
        have CP := Lib.hid (l04Copy_any ao cc (sortL lessL l) wo RD.out (by rw [sortL_len]; exact hl) (fun r hm => HR.out r (sortL_mem hm)))
        clear HN
        go_wp2_with fail
        refine Calls.mono CP.out ?_
        intro e w3 h5
        have M := Lib.hid (h5.base HB.out)
        obtain ⟨ao3, c3, rfl, _⟩ := h5
        clear CP
        go_wp2_with fail
        go_ret
        rw [E.out]
        exact M.out
end Go.Proofs.YtfpbhedophlnkaaGreatDoor
