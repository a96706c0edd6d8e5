/-
  Contract of spec.RowLess. For every two rows. Contracts of cmp.Compare at int, slices.Compare at rows and impl.RowLess. For every two rows. Contract of impl.SortRows. For every slice of rows. append of one number to a row of numbers of the call's own. No walk. Contract of spec.l01Copy. For every slice of int.
-/
import Derived.Test.YtfpbhedophlnkaaGreatDoorJR17x
import Derived.Deep.RegionWith
import Derived.Test.YtfpbhedophlnkaaGreatDoorJR10x
import Derived.Test.YtfpbhedophlnkaaGreatDoorJR3x
import Derived.Test.YtfpbhedophlnkaaGreatDoorJR5x
namespace Go.Proofs.YtfpbhedophlnkaaGreatDoor
open Go.RowKit
set_option linter.unusedSimpArgs false
set_option linter.unusedVariables false

theorem Rd.drewN {w : World} {k : IntKind} {ao : Option Addr} {l : List Int} (h : Rd w k ao l) (q : Nat) : Rd (w.drewN q) k ao l := h.below (below_drewN (Below.refl _ _) q)

set_option maxRecDepth 100000 in
set_option maxHeartbeats 1600000 in
theorem specRowLess_q (a b : Option Addr) (c d : Nat) (l m : List Int) (w : World) (h : Rd w .i64 a l) (k : Rd w .i64 b m) (hn : l.length ≤ maxLen) (hm : m.length ≤ maxLen) :
    Calls Tryz.prog 107 #[.slice a l.length c, .slice b m.length d] w fun e w' => e = .returned (.bool (lessL l m)) ∧ ∃ q, w' = w.drewN q := by
  unfold maxLen at hn hm
  have H := Lib.hid h; clear h
  have K := Lib.hid k; clear k
  go_enter Tryz.func107, Tryz.ntmps107
  go_wp2_with fail
  go_loopw [5] (fun i wr => ∃ j q : Nat, j ≤ l.length ∧ j ≤ m.length ∧ i = .int .i64 j ∧ l.take j = m.take j ∧ wr = w.drewN q) (fun i _ => l.length - (intOf i).toNat)
  case atStart => exact ⟨0, 0, Nat.zero_le _, Nat.zero_le _, rfl, rfl, rfl⟩
  case round =>
    obtain ⟨j, q, hj, hj2, rfl, ht, rfl⟩ := hrel
    have HT := Lib.hid ht; clear ht
    by_cases hlt : j < l.length
    · by_cases hlt2 : j < m.length
      · obtain ⟨b1, o1, x, rfl, hx, cx⟩ := H.out.get hlt
        obtain ⟨b2, o2, y, rfl, hy, cy⟩ := K.out.get hlt2
        have X := Lib.hid hx; have Y := Lib.hid hy
        clear hx hy
        have i1 : (j : Int) < (l.length : Int) := by omega
        have i2 : (j : Int) < (m.length : Int) := by omega
        by_cases hxy : x = y
        · subst hxy
          have hb : (x != x) = false := by simp
          go_wp2_with fail
          go_quiet (fail)
          go_wp2_with fail
          go_roundw
          case rel => exact ⟨j + 1, _, by omega, by omega, by go_num, take_eq_step HT.out X.out Y.out, by first | rfl | rw [World.drewN_drewN]⟩
          case measure => simp [intOf]; omega
        · have hb : (x != y) = true := by simp [hxy]
          have F := Lib.hid (lessL_at l m j x y HT.out X.out Y.out hxy)
          clear hxy
          go_wp2_with fail
          go_quiet (fail)
          go_wp2_with fail
          go_quiet (fail)
          go_wp2_with fail
          go_ret
          exact ⟨ret_bool F.out.symm, _, by first | rfl | (rw [World.drewN_drewN, World.drewN_drewN]) | rw [World.drewN_drewN]⟩
      · have i1 : (j : Int) < (l.length : Int) := by omega
        have i2 : ¬ (j : Int) < (m.length : Int) := by omega
        have F := Lib.hid (lessL_end l m j HT.out (.inr (by omega)))
        go_wp2_with fail
        go_ret
        exact ⟨ret_bool (by rw [F.out]; try simp), _, rfl⟩
    · have i1 : ¬ (j : Int) < (l.length : Int) := by omega
      have F := Lib.hid (lessL_end l m j HT.out (.inl (by omega)))
      go_wp2_with fail
      go_ret
      exact ⟨ret_bool (by rw [F.out]; try simp), _, rfl⟩
theorem specRowLess_any (a b : Option Addr) (c d : Nat) (l m : List Int) (w : World) (h : Rd w .i64 a l) (k : Rd w .i64 b m) (hn : l.length ≤ maxLen) (hm : m.length ≤ maxLen) :
    Calls Tryz.prog 107 #[.slice a l.length c, .slice b m.length d] w fun e w' => e = .returned (.bool (lessL l m)) ∧ Below w.heap.size w w' :=
  (specRowLess_q a b c d l m w h k hn hm).mono fun e w' ⟨h1, q, h2⟩ => ⟨h1, by rw [h2]; exact below_drewN (Below.refl _ _) q⟩
end Go.Proofs.YtfpbhedophlnkaaGreatDoor
namespace Go.Proofs.YtfpbhedophlnkaaGreatDoor
open Go.RowKit
set_option linter.unusedSimpArgs false
set_option linter.unusedVariables false

def cmpI (x y : Int) : Int := if x < y then -1 else if y < x then 1 else 0
theorem isNaNI_any (x : Int) (w : World) : Calls Tryz.prog 241 #[.int .i64 x] w fun e w' => e = .returned (.bool false) ∧ w = w' := by
  have hx : (x != x) = false := by simp
  go_enter Tryz.func241, Tryz.ntmps241
  go_wp2_with fail
  go_ret
  exact ⟨rfl, rfl⟩
theorem compareI_any (x y : Int) (w : World) : Calls Tryz.prog 187 #[.int .i64 x, .int .i64 y] w fun e w' => e = .returned (.int .i64 (cmpI x y)) ∧ w = w' := by
  go_enter Tryz.func187, Tryz.ntmps187
  go_wp2_with fail
  refine (isNaNI_any x _).mono ?_
  rintro e w1 ⟨rfl, rfl⟩
  go_wp2_with fail
  refine (isNaNI_any y _).mono ?_
  rintro e w1 ⟨rfl, rfl⟩
  by_cases h1 : x < y
  · have E := Lib.hid (show cmpI x y = -1 by simp [cmpI, h1])
    go_wp2_with fail
    go_ret
    exact ⟨ret_int E.out.symm, rfl⟩
  · by_cases h2 : y < x
    · have E := Lib.hid (show cmpI x y = 1 by simp [cmpI, h1, h2])
      have h3 : y ≤ x := by omega
      go_wp2_with fail
      go_ret
      exact ⟨ret_int E.out.symm, rfl⟩
    · have E := Lib.hid (show cmpI x y = 0 by simp [cmpI, h1, h2])
      have h3 : y ≤ x := by omega
      have h4 : x ≤ y := by omega
      go_wp2_with fail
      go_ret
      exact ⟨ret_int E.out.symm, rfl⟩

/-- How two rows compare. -/
def cmpL (l m : List Int) : Int := if lessL l m then -1 else if l = m then 0 else 1
theorem lessL_irr : ∀ l : List Int, lessL l l = false
  | [] => rfl
  | x :: l => by simp [lessL, lessL_irr l]
theorem cmpL_at {l m : List Int} {j : Nat} {x y : Int} (ht : l.take j = m.take j) (hx : l[j]? = some x) (hy : m[j]? = some y) (h : x ≠ y) : cmpL l m = cmpI x y := by
  unfold cmpL cmpI
  have hne : l ≠ m := by rintro rfl; rw [hx] at hy; cases hy; exact h rfl
  rw [lessL_at l m j x y ht hx hy h]
  by_cases hlt : x < y
  · simp [hlt]
  · have : y < x := by omega
    simp [hlt, this, hne]
theorem cmpL_more {l m : List Int} {j : Nat} (ht : l.take j = m.take j) (hl : j < l.length) (hm : m.length ≤ j) : cmpL l m = 1 := by
  unfold cmpL
  have hne : l ≠ m := by rintro rfl; omega
  rw [lessL_end l m j ht (.inr hm)]
  have : ¬ l.length < m.length := by omega
  simp [this, hne]
theorem cmpL_less {l m : List Int} {j : Nat} (ht : l.take j = m.take j) (hl : l.length ≤ j) (h : l.length < m.length) : cmpL l m = -1 := by
  unfold cmpL
  rw [lessL_end l m j ht (.inl hl)]
  simp [h]
theorem cmpL_same {l m : List Int} {j : Nat} (ht : l.take j = m.take j) (hl : l.length ≤ j) (hm : m.length ≤ j) : cmpL l m = 0 := by
  have : l = m := by rw [List.take_of_length_le hl, List.take_of_length_le hm] at ht; exact ht
  subst this
  simp [cmpL, lessL_irr]
theorem cmpL_neg (l m : List Int) : decide (cmpL l m < 0) = lessL l m := by
  unfold cmpL
  cases h : lessL l m
  · simp; split <;> simp
  · simp

set_option maxRecDepth 100000 in
set_option maxHeartbeats 1600000 in
theorem compareL_any (a b : Option Addr) (c d : Nat) (l m : List Int) (w : World) (h : Rd w .i64 a l) (k : Rd w .i64 b m) (hn : l.length ≤ maxLen) (hm : m.length ≤ maxLen) :
    Calls Tryz.prog 111 #[.slice a l.length c, .slice b m.length d] w fun e w' => e = .returned (.int .i64 (cmpL l m)) ∧ w = w' := by
  unfold maxLen at hn hm
  have H := Lib.hid h; clear h
  have K := Lib.hid k; clear k
  go_enter Tryz.func111, Tryz.ntmps111
  go_wp2_with fail
  go_loop [11] (fun i => ∃ j : Nat, j ≤ l.length ∧ j ≤ m.length ∧ i = .int .i64 j ∧ l.take j = m.take j) (fun i => l.length - (intOf i).toNat)
  case atStart => exact ⟨0, Nat.zero_le _, Nat.zero_le _, rfl, rfl⟩
  case round =>
    obtain ⟨j, hj, hj2, rfl, ht⟩ := hrel
    have HT := Lib.hid ht; clear ht
    by_cases hlt : j < l.length
    · obtain ⟨b1, o1, x, rfl, hx, cx⟩ := H.out.get hlt
      by_cases hlt2 : j < m.length
      · obtain ⟨b2, o2, y, rfl, hy, cy⟩ := K.out.get hlt2
        have X := Lib.hid hx; have Y := Lib.hid hy
        clear hx hy
        have i1 : (j : Int) < (l.length : Int) := by omega
        have i2 : (j : Int) < (m.length : Int) := by omega
        by_cases hxy : x = y
        · subst hxy
          go_wp2_with fail
          refine (compareI_any x x _).mono ?_
          rintro e w1 ⟨rfl, rfl⟩
          rw [show cmpI x x = 0 by simp [cmpI]]
          go_wp2_with fail
          go_round
          case rel => exact ⟨j + 1, by omega, by omega, by go_num, take_eq_step HT.out X.out Y.out⟩
          case measure => simp [intOf]; omega
        · have F := Lib.hid (cmpL_at HT.out X.out Y.out hxy)
          have hc : (cmpI x y != 0) = true := by unfold cmpI; split <;> (try split) <;> simp <;> omega
          go_wp2_with fail
          refine (compareI_any x y _).mono ?_
          rintro e w1 ⟨rfl, rfl⟩
          generalize cmpI x y = z at F hc
          go_wp2_with fail
          go_ret
          exact ⟨ret_int F.out.symm, rfl⟩
      · have X := Lib.hid hx
        clear hx
        have i1 : (j : Int) < (l.length : Int) := by omega
        have i2 : (m.length : Int) ≤ (j : Int) := by omega
        have F := Lib.hid (cmpL_more HT.out hlt (by omega))
        go_wp2_with fail
        go_ret
        exact ⟨ret_int F.out.symm, rfl⟩
    · have i1 : ¬ (j : Int) < (l.length : Int) := by omega
      by_cases hlen : l.length < m.length
      · have F := Lib.hid (cmpL_less HT.out (by omega) hlen)
        have i2 : (l.length : Int) < (m.length : Int) := by omega
        go_wp2_with fail
        go_ret
        exact ⟨ret_int F.out.symm, rfl⟩
      · have F := Lib.hid (cmpL_same HT.out (by omega) (by omega))
        have i2 : ¬ (l.length : Int) < (m.length : Int) := by omega
        go_wp2_with fail
        go_ret
        exact ⟨ret_int F.out.symm, rfl⟩

theorem implRowLess_q (a b : Option Addr) (c d : Nat) (l m : List Int) (w : World) (h : Rd w .i64 a l) (k : Rd w .i64 b m) (hn : l.length ≤ maxLen) (hm : m.length ≤ maxLen) :
    Calls Tryz.prog 33 #[.slice a l.length c, .slice b m.length d] w fun e w' => e = .returned (.bool (lessL l m)) ∧ w = w' := by
  have H := Lib.hid h; clear h
  have K := Lib.hid k; clear k
  have E := Lib.hid (cmpL_neg l m)
  go_enter Tryz.func33, Tryz.ntmps33
  go_wp2_with fail
  refine (compareL_any a b c d l m _ H.out K.out hn hm).mono ?_
  rintro e w1 ⟨rfl, rfl⟩
  go_wp2_with fail
  go_ret
  exact ⟨ret_bool E.out, rfl⟩
theorem implRowLess_any (a b : Option Addr) (c d : Nat) (l m : List Int) (w : World) (h : Rd w .i64 a l) (k : Rd w .i64 b m) (hn : l.length ≤ maxLen) (hm : m.length ≤ maxLen) :
    Calls Tryz.prog 33 #[.slice a l.length c, .slice b m.length d] w fun e w' => e = .returned (.bool (lessL l m)) ∧ Below w.heap.size w w' :=
  (implRowLess_q a b c d l m w h k hn hm).mono fun e w' ⟨h1, h2⟩ => ⟨h1, by rw [← h2]; exact Below.refl _ _⟩
end Go.Proofs.YtfpbhedophlnkaaGreatDoor
namespace Go.Proofs.YtfpbhedophlnkaaGreatDoor
open Go.RowKit
set_option linter.unusedSimpArgs false
set_option linter.unusedVariables false

theorem insL_map {α β : Type} (f : α → β) (lt : β → β → Bool) (x : α) : ∀ l : List α, (insL (fun x y => lt (f x) (f y)) x l).map f = insL lt (f x) (l.map f)
  | [] => rfl
  | y :: l => by
    unfold insL
    simp only [List.map_cons]
    split
    · simp
    · simp [insL_map f lt x l]
theorem sortL_map {α β : Type} (f : α → β) (lt : β → β → Bool) (l : List α) : (sortL (fun x y => lt (f x) (f y)) l).map f = sortL lt (l.map f) := by
  unfold sortL
  have key : ∀ (l acc : List α), (l.foldl (fun out x => insL (fun x y => lt (f x) (f y)) x out) acc).map f = (l.map f).foldl (fun out x => insL lt x out) (acc.map f) := by
    intro l
    induction l with
    | nil => intro acc; rfl
    | cons x l ih => intro acc; rw [List.foldl_cons, ih, insL_map]; rfl
  exact key l []
/-- The rows of a slice, sorted; none where they are too many. -/
def sortO (l : List (List Int)) : List (List Int) := if 200 < l.length then [] else sortL lessL l
theorem sortL_mem {l : List (List Int)} {r : List Int} (h : r ∈ sortL lessL l) : r ∈ l := (sortL_asc wkL l).2.mem wkL h
theorem MadeR.base {w w' w2 : World} {l : List (List Int)} {e : Ending} (h : MadeR w2 l e w') (hb : Below w.heap.size w w2) : MadeR w l e w' := by
  obtain ⟨ao, c, h1, h2, h3, h4, h5⟩ := h
  exact ⟨ao, c, h1, h2.base_le hb.size, h3, h4, below_step hb (Nat.le_refl _) h5⟩

set_option maxRecDepth 100000 in
set_option maxHeartbeats 1600000 in
theorem implSortRows_any (a : Option Addr) (c : Nat) (l : List (List Int)) (w : World) (h : RdR w a l) (hl : l.length ≤ 1048576) (hr : ∀ r ∈ l, r.length ≤ 1048576) :
    Calls Tryz.prog 26 #[.slice a l.length c] w (MadeR w (sortO l)) := by
  by_cases hlt : 200 < l.length
  · have E : Hid (sortO l = []) := by show _ = _; unfold sortO; rw [if_pos hlt]
    have h2 : (200 : Int) < (l.length : Int) := by omega
    go_enter Tryz.func26, Tryz.ntmps26
    go_wp2_with fail
    go_ret
    rw [E.out]
    exact ⟨none, 0, rfl, .inl rfl, Nat.zero_le _, Nat.zero_le _, Below.refl _ _⟩
  · have E : Hid (sortO l = sortL lessL l) := by show _ = _; unfold sortO; rw [if_neg hlt]
    have h2 : (l.length : Int) ≤ 200 := by omega
    obtain ⟨zs, hz, hL⟩ := h.els c
    have hzl : zs.length = l.length := by rw [← hz, rowsE_len]
    obtain ⟨w1, hw1⟩ : ∃ w1, w1 = w.alloc (.cells #[.slice a l.length c] 43) := ⟨_, rfl⟩
    have b1 : Below w.heap.size w w1 := by rw [hw1]; exact (Below.refl _ w).alloc (Nat.le_refl _) _
    have c1 : w1.cell? ⟨w.heap.size, 0, none⟩ = some (.slice a l.length c) := by rw [hw1]; simp
    have s1 : w1.heap.size = w.heap.size + 1 := by rw [hw1]; simp
    have VAL : Aside _ := callsIn_wide.1 (valuesR_in Fence.wide 1 trivial rfl a l.length c w)
    rw [← hw1] at VAL
    have SRT : Aside _ := sortedR_any (wb := w) (fun x y => lessL x.1.r y.1.r) (wkOf wkL fun x : Els w => x.1.r) 33 #[] (enters_of Tryz.func33 (by kernel_rfl) rfl) 184 w.heap.size #[.pointer (some ⟨w.heap.size, 0, none⟩)] (enters_of Tryz.func184 (by kernel_rfl) rfl) zs (fun pre => pre <+: zs) (by omega) w1 (by omega)
      (fun W hW => valuesR_stops Fence.wide 2 trivial rfl (by omega) w.heap.size w.heap.size (.slice a l.length c) zs (by omega) W (by have := hW.size; omega) (by have := hW.size; omega) ((hW.cell (p := ⟨w.heap.size, 0, none⟩) (by show w.heap.size < _; omega)).trans c1) (hL.below (b1.trans (hW.mono (by omega)))))
      (fun W hW x y => (implRowLess_q x.1.a y.1.a x.1.c y.1.c x.1.r y.1.r W (x.2.1.below (b1.trans (hW.mono (by omega)))) (y.2.1.below (b1.trans (hW.mono (by omega)))) (Nat.le_trans x.2.2.1 x.2.2.2) (Nat.le_trans y.2.2.1 y.2.2.2)).mono fun e w' ⟨h1, h2⟩ => ⟨h1, h2.symm⟩)
    have HR : Hid _ := hr
    have HZ : Hid _ := hz
    have B1 : Hid _ := b1
    have HZL : Hid _ := hzl
    have hlz : l.length ≤ 9223372036854775807 := by omega
    clear h hL hz hr c1 s1 hw1 b1 hzl hlt
    go_enter Tryz.func26, Tryz.ntmps26
    go_wp2_with fail
    refine Calls.mono VAL.out ?_
    rintro e w1' ⟨rfl, rfl⟩
    go_wp2_with fail
    refine Calls.mono SRT.out ?_
    rintro e w2 ⟨v, rfl, h3, _, h4⟩
    have B2 : Hid (Below w.heap.size w w2) := below_step B1.out (Nat.le_refl _) h4
    have EQ : Hid (rowsE (sortL (fun x y : Els w => lessL x.1.r y.1.r) zs) = sortL lessL l) := by
      show _ = _
      rw [← HZ.out]
      exact sortL_map (fun x : Els w => x.1.r) lessL zs
    obtain ⟨ao, n, cc, rfl⟩ : ∃ ao n cc, v = .slice ao n cc := by
      rcases h3.2 with ⟨rfl, _⟩ | ⟨g, cap, cur, rfl, _⟩
      · exact ⟨_, _, _, rfl⟩
      · exact ⟨_, _, _, rfl⟩
    have hn : n = zs.length := by
      rcases h3.2 with ⟨e, h⟩ | ⟨g, cap, cur, e, _⟩
      · simp only [Value.slice.injEq] at e; omega
      · simp only [Value.slice.injEq] at e; exact e.2.1
    have RD : Hid (RdR w2 ao (sortL lessL l)) := by
      rw [← EQ.out]
      rw [← hn] at h3
      exact owns_rdR (v := .slice ao n cc) h3 B2.out
    have hn2 : n = (sortL lessL l).length := by rw [hn, sortL_len, HZL.out]
    subst hn2
    have CP : Aside _ := copyRows_any ao cc (sortL lessL l) w2 RD.out (by rw [sortL_len]; exact hl) (fun r hm => Nat.le_trans (HR.out r (sortL_mem hm)) (by omega))
    clear h3 h4 SRT VAL hn
    go_wp2_with fail
    refine Calls.mono CP.out ?_
    intro e w3 h5
    have M : Hid _ := h5.base B2.out
    obtain ⟨ao3, c3, rfl, _⟩ := h5
    clear CP
    go_wp2_with fail
    go_ret
    rw [E.out]
    exact M.out
end Go.Proofs.YtfpbhedophlnkaaGreatDoor
namespace Go.Proofs.YtfpbhedophlnkaaGreatDoor
open Go.RowKit
set_option linter.unusedSimpArgs false
set_option linter.unusedVariables false

theorem own_of_V {w : World} {base : Nat} {e : TypeId} {k : IntKind} {ao : Option Addr} {c : Nat} {l : List Int} (h : OwnV w base e ao c (l.map (Value.int k))) : Own w base e k ao c l := by
  unfold OwnV at h; unfold Own; rw [List.length_map] at h; exact h
theorem V_of_own {w : World} {base : Nat} {e : TypeId} {k : IntKind} {ao : Option Addr} {c : Nat} {l : List Int} (h : Own w base e k ao c l) : OwnV w base e ao c (l.map (Value.int k)) := by
  unfold Own at h; unfold OwnV; rw [List.length_map]; exact h
/-- 'append(xs, z)' at a slice of int of the call's own. -/
theorem wpList_appendI {P : Program} (w : World) {ops : Array Oper} {rest : List Oper} {o : Oper} {a : Act} {Q : Exit → Act → World → Prop} (hgd : o.guard = none) (s x : Operand) (t : TypeId)
    (ho : o.op = .call { callee := .builtin .append, args := #[s, x], argTypes := #[t, t] }) (base : Nat) (e : TypeId) (ht : P.underlying t = some (.slice e))
    (hi : (P.info? e).map (fun i => (i.zero, i.size, i.bytes)) = some (some (.int .i64 0), 1, 8))
    (ao : Option Addr) (c n : Nat) (l : List Int) (hs : a.eval s = .slice ao n c) (hn : n = l.length) (hown : Own w base e .i64 ao c l)
    (bl cx : Nat) (z : Int) (hx : a.eval x = .slice (some ⟨bl, 0, none⟩) 1 cx) (hv : w.cell? ⟨bl, 0, none⟩ = some (.int .i64 z))
    (hby : l.length ≤ 1048576) (hbase : base ≤ w.heap.size)
    (h : ∀ ao' c' w', Own w' base e .i64 ao' c' (l ++ [z]) → w.grownBy w' (ao.map (·.block)) → wpList P ops Q rest (a.put o.dst (.slice ao' (l.length + 1) c')) w') :
    wpList P ops Q (o :: rest) a w := by
  refine wpList_appendV w hgd s x t ho base e (.int .i64 0) 8 ht hi rfl ao c n (l.map (Value.int .i64)) hs (by simpa using hn) (V_of_own hown) bl cx (.int .i64 z) hx hv rfl (by simp [maxLen]; omega) (by simp; omega) hbase ?_
  intro ao' c' w' ho' hg' _
  have := h ao' c' w' (own_of_V (by rw [List.map_append]; exact ho')) hg'
  simpa using this
theorem below_app {w wr w1 : World} {e : TypeId} {ao : Option Addr} {c : Nat} {l : List Int} {o : Obj} (hb : Below w.heap.size w wr) (ho : Own wr w.heap.size e .i64 ao c l) (hg : (wr.alloc o).grownBy w1 (ao.map (·.block))) : Below w.heap.size w w1 := by
  refine (hb.alloc hb.size o).grown hg (by have := hb.size; simp; omega) ?_
  intro g hg'
  rcases ao with _ | a
  · cases hg'
  · simp at hg'; subst hg'; exact (ho.lt a rfl).1

theorem own_empty {w : World} {base : Nat} {e : TypeId} {k : IntKind} (h : base ≤ w.heap.size) : Own (w.alloc (.cells #[] e)) base e k (some ⟨w.heap.size, 0, none⟩) 0 [] :=
  ⟨rfl, .inr ⟨w.heap.size, 0, #[], rfl, h, heap_alloc_new w _, Nat.le_refl _, Nat.zero_le _, rfl, rfl⟩⟩

theorem Tryz.infoInt : (Tryz.prog.info? 3).map (fun i => (i.zero, i.size, i.bytes)) = some (some (.int .i64 0), 1, 8) := by kernel_rfl
end Go.Proofs.YtfpbhedophlnkaaGreatDoor
namespace Go.Proofs.YtfpbhedophlnkaaGreatDoor
open Go.RowKit
set_option linter.unusedSimpArgs false
set_option linter.unusedVariables false

set_option maxHeartbeats 1600000 in
theorem l01CopyL_any (a : Option Addr) (c : Nat) (l : List Int) (w : World) (h : Rd w .i64 a l) (hl : l.length ≤ 1048576) :
    Calls Tryz.prog 186 #[.slice a l.length c] w (Made w 3 .i64 l) := by
  have H := Lib.hid h; clear h
  have O0 := Lib.hid (own_empty (w := w) (base := w.heap.size) (e := 3) (k := .i64) (Nat.le_refl _))
  have B0 := Lib.hid ((Below.refl w.heap.size w).alloc (Nat.le_refl _) (.cells #[] 3))
  go_enter Tryz.func186, Tryz.ntmps186
  go_wp2_with fail
  go_loopw [3, 4] (fun s i wr => ∃ (j : Nat) (ao : Option Addr) (cc : Nat), j ≤ l.length ∧ i = .int .i64 j ∧ s = .slice ao j cc ∧ Own wr w.heap.size 3 .i64 ao cc (l.take j) ∧ Below w.heap.size w wr) (fun _ i _ => l.length - (intOf i).toNat)
  case atStart => exact ⟨0, _, _, Nat.zero_le _, rfl, rfl, O0.out, B0.out⟩
  case round =>
    clear O0 B0
    obtain ⟨j, ao, cc, hj, rfl, rfl, ho, hb⟩ := hrel
    have HO := Lib.hid ho; have HB := Lib.hid hb
    by_cases hlt : j < l.length
    · obtain ⟨b, off, rfl, hc⟩ : ∃ b off, a = some ⟨b, off, none⟩ ∧ ∀ i, i < l.length → wr.cell? ⟨b, off + i, none⟩ = some (.int .i64 (l.getD i 0)) := by
        rcases H.out.below hb with rfl | h'
        · simp at hlt
        · exact h'
      obtain ⟨z, _, _, hcz, ht⟩ := Rd.at_ hc hlt
      have HT := Lib.hid ht
      have hlen : (l.take j).length = j := by simp; omega
      have HL := Lib.hid hlen
      clear ho hb hc ht hlen
      go_wp2_with (at_builtin; refine wpList_appendI _ rfl (.tmp 12) (.tmp 17) 47 rfl w.heap.size 3 Tryz.underlying47 Tryz.infoInt ao cc j (l.take j) rfl HL.out.symm (HO.out.alloc _) wr.heap.size 1 z rfl (cell_one _ _ _) (by have := HL.out; omega) (by have := HB.out.size; simp; omega) ?_; intro ao2 c2 w2 o2 g2; have b2 := below_app HB.out HO.out g2; have O2 := Lib.hid o2; have B2 := Lib.hid b2; clear o2 g2 b2)
      go_roundw
      case rel => exact ⟨j + 1, ao2, c2, by omega, by go_num, by first | rfl | rw [HL.out], by rw [HT.out]; exact O2.out, B2.out⟩
      case measure => simp [intOf]; omega
    · obtain rfl : j = l.length := by omega
      clear ho hb
      go_wp2_with fail
      go_ret
      refine ⟨ao, cc, rfl, ?_, HB.out⟩
      have := HO.out
      rwa [List.take_length] at this
end Go.Proofs.YtfpbhedophlnkaaGreatDoor
