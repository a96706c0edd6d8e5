/-
  What reads so goes on reading so where every cell that stands goes on standing. Contract of spec.l04Once. For every slice of rows. Contract of spec.l04Sort. For every sort and every slice of rows.
-/
import Derived.Test.YtanfllednlpbaaaGreatM49x
import Derived.Test.YtanfllednlpbaaaGreatM34x
import Derived.Test.YtanfllednlpbaaaGreatM25x
import Derived.Test.YtanfllednlpbaaaGreatM32x
import Derived.Test.YtanfllednlpbaaaGreatM38x
import Derived.Test.YtanfllednlpbaaaGreatM24x
namespace Go.Proofs.YtanfllednlpbaaaGreat
open Go.RowKit
set_option linter.unusedSimpArgs false
set_option linter.unusedVariables false
def Stays (w w' : World) : Prop := ∀ (b i : Nat) (v : Value), w.cell? ⟨b, i, none⟩ = some v → w'.cell? ⟨b, i, none⟩ = some v
theorem Rd.stays {w w' : World} {k : IntKind} {a : Option Addr} {l : List Int} (h : Rd w k a l) (hk : Stays w w') : Rd w' k a l := by
  rcases h with h | ⟨b, off, rfl, hc⟩
  · exact .inl h
  · exact .inr ⟨b, off, rfl, fun i hi => hk _ _ _ (hc i hi)⟩
theorem RdR.stays {w w' : World} {a : Option Addr} {l : RowsL} (h : RdR w a l) (hk : Stays w w') : RdR w' a l := by
  rcases h with h | ⟨b, off, rfl, hc⟩
  · exact .inl h
  · refine .inr ⟨b, off, rfl, fun i r hr => ?_⟩
    obtain ⟨a, c, h1, h2, h3⟩ := hc i r hr
    exact ⟨a, c, hk _ _ _ h1, h2.stays hk, h3⟩
theorem RdX.staysX {z : Nat → Prop} {w w' : World} {a : Option Addr} {l : RowsL} (h : RdX z w a l) (hk : Stays w w') : RdX z w' a l := by
  rcases h with h | ⟨b, off, rfl, hb, hc⟩
  · exact .inl h
  · refine .inr ⟨b, off, rfl, hb, fun i r hr => ?_⟩
    obtain ⟨a, c, h1, h2, h3⟩ := hc i r hr
    exact ⟨a, c, hk _ _ _ h1, h2.stays hk, h3⟩
theorem stays_grown {w w5 : World} {base : Nat} {e : TypeId} {g c : Nat} {xs : List Value} {o : Obj} (ho : OwnV w base e (some ⟨g, 0, none⟩) c xs) (hc : c = 0) (hg : (w.alloc o).grownBy w5 (some g)) : Stays w w5 := by
  subst hc
  intro b i v hv
  have hb : b < w.heap.size := World.block_lt_of_cell? w ⟨b, i, none⟩ hv
  by_cases hbg : b = g
  · subst hbg
    exfalso
    rcases ho.2 with ⟨hv', _⟩ | ⟨q, cap, cur, he, _, h2, _, _, h5, _⟩
    · cases hv'
    · simp only [Value.slice.injEq, Option.some.injEq, Addr.mk.injEq] at he
      obtain ⟨⟨rfl, _⟩, _, rfl⟩ := he
      have hz : cur.size = 0 := by simpa using h5
      have : cur = #[] := Array.eq_empty_of_size_eq_zero hz
      subst this
      simp [World.cell?, h2] at hv
  · have h1 : (w.alloc o).cell? ⟨b, i, none⟩ = some v := (((Below.refl w.heap.size w).alloc (Nat.le_refl _) o).cell (p := ⟨b, i, none⟩) hb).trans hv
    exact (World.cell?_of_block (hg.block b (by simp; omega) (by simpa using hbg))).trans h1
theorem RdX.off {z : Nat → Prop} {w w' : World} {a : Option Addr} {l : RowsL} {g : Nat} (h : RdX z w a l) (hk : Stays w w') (hno : ∀ (i : Nat) (v : Value), w.cell? ⟨g, i, none⟩ ≠ some v) : RdX (fun k => z k ∨ k = g) w' a l := by
  rcases h with h | ⟨b, off, rfl, hb, hc⟩
  · exact .inl h
  · by_cases hl : l = []
    · exact .inl hl
    · refine .inr ⟨b, off, rfl, ?_, fun i r hr => ?_⟩
      · rintro (h | h)
        · exact hb h
        · obtain ⟨a, c, h1, _⟩ := hc 0 _ (List.getElem?_eq_getElem (List.length_pos_iff.2 hl))
          rw [h] at h1
          exact hno _ _ h1
      · obtain ⟨a, c, h1, h2, h3, h4, h5⟩ := hc i r hr
        refine ⟨a, c, hk _ _ _ h1, h2.stays hk, h3, h4, fun hr x hx => ?_⟩
        rintro (h | h)
        · exact h5 hr x hx h
        · rcases h2 with h2 | ⟨b2, o2, h6, h7⟩
          · exact hr h2
          · have h8 := h7 0 (List.length_pos_iff.2 hr)
            have : b2 = g := by
              have e : a = some x := hx
              rw [h6, Option.some.injEq] at e
              rw [← h, ← e]
            rw [this] at h8
            exact hno _ _ h8
theorem held_none {w : World} {base : Nat} {e : TypeId} {g c g' : Nat} {xs : List Value} (ho : OwnV w base e (some ⟨g, 0, none⟩) c xs) (hc : c = 0) (hg : g' = g ∨ w.heap.size ≤ g') : ∀ (i : Nat) (v : Value), w.cell? ⟨g', i, none⟩ ≠ some v := by
  subst hc
  intro i v hv
  have hb : g' < w.heap.size := World.block_lt_of_cell? w ⟨g', i, none⟩ hv
  rcases hg with rfl | hg
  · rcases ho.2 with ⟨hv', _⟩ | ⟨q, cap, cur, he, _, h2, _, _, h5, _⟩
    · cases hv'
    · simp only [Value.slice.injEq, Option.some.injEq, Addr.mk.injEq] at he
      obtain ⟨⟨rfl, _⟩, _, rfl⟩ := he
      have hz : cur.size = 0 := by simpa using h5
      have : cur = #[] := Array.eq_empty_of_size_eq_zero hz
      subst this
      simp [World.cell?, h2] at hv
  · omega
theorem joinL_len (n : Nd) (l m : RowsL) : (joinL n l m).length ≤ l.length * m.length := by
  induction l with
  | nil => simp [joinL]
  | cons a l ih =>
    have e : joinL n (a :: l) m = joinRow n a m ++ joinL n l m := rfl
    have h1 : (joinRow n a m).length ≤ m.length := by unfold joinRow; rw [List.length_map]; exact List.length_filter_le _ _
    rw [e, List.length_append, List.length_cons, Nat.add_mul, Nat.one_mul]
    omega
set_option maxRecDepth 100000 in
set_option maxHeartbeats 6400000 in
theorem specOnce_any (z : Nat → Prop) (a : Option Addr) (c : Nat) (l : RowsL) (w : World) (h : RdX z w a l) (hzw : ∀ k, z k → k < w.heap.size) (hl : l.length ≤ 1048576) :
    Calls Tryz.prog 84 #[.slice a l.length c] w (GivesR z w (onceL l)) := by
  obtain ⟨zs, hz, hL, hPX⟩ := h.els c
  have HPX := Lib.hid hPX
  have HZW := Lib.hid hzw
  clear hPX hzw
  have hzl : zs.length = l.length := by rw [← hz, rowsE_len]
  have FE := Lib.hid (show rowsE (onceE zs) = onceL l by rw [onceE_rows, hz])
  have HL := Lib.hid hL
  have HZL := Lib.hid hzl
  generalize onceL l = L at FE ⊢
  have O0 := Lib.hid (show OwnV (w.alloc (.cells #[] 34)) w.heap.size 34 (some ⟨w.heap.size, 0, none⟩) 0 (([] : List (Els w)).map encE) from World.ownsRow_lit w #[] 0 (Nat.le_refl _) (Nat.zero_le _) rfl)
  have B0 := Lib.hid ((Below.refl w.heap.size w).alloc (Nat.le_refl _) (.cells #[] 34))
  clear h hL hz hzl
  go_enter Tryz.func84, Tryz.ntmps84
  go_wp2_with fail
  go_loopw [3, 4] (fun s i wr => ∃ (j : Nat) (ao : Option Addr) (m cc : Nat) (Y : List (Els w)), j ≤ l.length ∧ i = .int .i64 j ∧ s = .slice ao m cc ∧ m = Y.length ∧ Y = onceE (zs.take j) ∧ OwnV wr w.heap.size 34 ao cc (Y.map encE) ∧ Below w.heap.size w wr) (fun _ i _ => l.length - (intOf i).toNat)
  case atStart => exact ⟨0, _, _, _, [], Nat.zero_le _, rfl, rfl, rfl, by simp [onceE], O0.out, B0.out⟩
  case round =>
    clear O0 B0
    obtain ⟨j, ao, m, cc, Y, hj, rfl, rfl, hm, hY, ho, hb⟩ := hrel
    have YL := Lib.hid (show Y.length ≤ 1048576 by rw [hY]; have := onceE_len (zs.take j); have := List.length_take_le j zs; have := HZL.out; omega)
    have RY := Lib.hid (show RdR wr ao (rowsE Y) from by
      have h := ho
      unfold OwnV at h
      rw [List.length_map] at h
      exact owns_rdR (v := .slice ao Y.length cc) h hb)
    have HM := Lib.hid hm
    have HY := Lib.hid hY
    have HO := Lib.hid ho
    have HB := Lib.hid hb
    clear hm hY ho
    by_cases hlt : j < l.length
    · have hlz : (j : Int) < (l.length : Int) := by omega
      obtain ⟨x, hx⟩ : ∃ x, zs[j]? = some x := ⟨_, List.getElem?_eq_getElem (by have := HZL.out; omega)⟩
      obtain ⟨b1, o1, a0, hb1, hcx⟩ : ∃ b off, a = some ⟨b, off, none⟩ ∧ b < w.heap.size ∧ w.cell? ⟨b, off + j, none⟩ = some (encE x) := by
        rcases HL.out with ⟨_, _, e, rfl⟩ | ⟨b, off, cap, e, hb, hc⟩
        · simp at hx
        · simp only [Value.slice.injEq] at e
          exact ⟨b, off, e.1, hb, hc j x hx⟩
      subst a0
      have hcr := (hb.cell (p := ⟨b1, o1 + j, none⟩) hb1).trans hcx
      have hxg : Good wr x.1 := ⟨x.2.1.below hb, x.2.2⟩
      have CS := Lib.hid (show Calls Tryz.prog 117 #[.slice ao m cc, .slice x.1.a x.1.r.length x.1.c] wr fun e w' => e = .returned (.int .i64 (countL (rowsE Y) x.1.r)) ∧ Below wr.heap.size wr w' from by
        rw [HM.out, ← rowsE_len Y]
        exact specCountSame_any ao x.1.a cc x.1.c (rowsE Y) x.1.r wr RY.out hxg.1 (by rw [rowsE_len]; exact YL.out) (Nat.le_trans hxg.2.1 hxg.2.2))
      have TAKE := Lib.hid (show zs.take (j + 1) = zs.take j ++ [x] by rw [List.take_add_one, hx]; rfl)
      have e1y := Lib.hid (show countL (rowsE Y) x.1.r = 0 → Y ++ [x] = onceE (zs.take (j + 1)) from fun h => by rw [TAKE.out]; rw [HY.out] at h ⊢; exact (onceE_y h).symm)
      have e1n := Lib.hid (show ¬ countL (rowsE Y) x.1.r = 0 → Y = onceE (zs.take (j + 1)) from fun h => by rw [TAKE.out, onceE_n (by rw [← HY.out]; exact h)]; exact HY.out)
      unfold encE at hcr
      clear hcx hx hxg hb
      generalize countL (rowsE Y) x.1.r = cn at CS e1y e1n
      by_cases h : cn = 0
      · have NY := Lib.hid (e1y.out h)
        subst h
        clear e1n
        go_wp2_with (first | (go_at_call 117; refine CS.out.mono ?_; rintro e w3 ⟨rfl, b3⟩; have B3 := Lib.hid b3; have hcr3 := (b3.cell (p := ⟨b1, o1 + j, none⟩) (World.block_lt_of_cell? wr _ hcr)).trans hcr; have O3 := Lib.hid (HO.out.below b3); have HB3 := Lib.hid (below_step HB.out (Nat.le_refl _) b3); clear b3 hcr) | (at_builtin; refine wpList_appendV _ rfl (.tmp 19) (.tmp 24) 29 rfl w.heap.size 34 (.slice none 0 0) 24 Tryz.underlying29 infoRw rfl _ _ _ (Y.map encE) rfl (by rw [HM.out, List.length_map]) (O3.out.alloc _) _ 1 (encE x) rfl (cell_one _ _ _) rfl (by have := YL.out; unfold maxLen; rw [List.length_map]; omega) (by have := YL.out; rw [List.length_map]; omega) (by have := HB3.out.size; simp; omega) ?_; intro qa qc qw qo qg qk; have QO := Lib.hid qo; have QB := Lib.hid (below_appV HB3.out HB3.out.size O3.out qg); clear qo qg qk))
        go_roundw
        case rel => exact ⟨j + 1, _, _, _, Y ++ [x], by omega, by go_num, rfl, by simp, NY.out, by simpa using QO.out, QB.out⟩
        case measure => simp [intOf]; omega
      · have NY := Lib.hid (e1n.out h)
        have h' : ¬ ((cn : Int) = 0) := by omega
        clear e1y
        go_wp2_with (go_at_call 117; refine CS.out.mono ?_; rintro e w3 ⟨rfl, b3⟩; have B3 := Lib.hid b3; have O3 := Lib.hid (HO.out.below b3); have HB3 := Lib.hid (below_step HB.out (Nat.le_refl _) b3); clear b3)
        go_roundw
        case rel => exact ⟨j + 1, _, _, _, Y, by omega, by go_num, rfl, HM.out, NY.out, O3.out, HB3.out⟩
        case measure => simp [intOf]; omega
    · obtain rfl : j = l.length := by omega
      clear hb
      go_wp2_with fail
      go_ret
      have e : zs.take l.length = zs := List.take_of_length_le (by rw [HZL.out]; exact Nat.le_refl _)
      have hYL : rowsE Y = L := by rw [HY.out, e]; exact FE.out
      rw [HM.out]
      exact gives_els hYL HO.out HB.out HB.out HZW.out (fun x hx => by rw [HY.out] at hx; exact HPX.out x (List.mem_of_mem_take (onceE_mem hx)))
set_option maxRecDepth 100000 in
set_option maxHeartbeats 12800000 in
theorem specSort_any (z0 : Nat → Prop) (n0 : Nd) (na : Option Addr) (nc : Nat) (a : Option Addr) (c : Nat) (l : RowsL) (w : World) (h : RdX z0 w a l) (hzw : ∀ k, z0 k → k < w.heap.size) (h200 : l.length ≤ 200) (hcol : 0 ≤ n0.col) (hfit : ∀ r ∈ l, n0.col < (r.length : Int)) :
    Calls Tryz.prog 83 #[.agg #[.int .i64 n0.kind, .string n0.name, .int .i64 n0.col, .int .i64 n0.op, .int .i64 n0.num, .bool n0.slot, .slice na n0.cols.length nc], .slice a l.length c] w (GivesR z0 w (sortL (lessC n0.col) l)) := by
  obtain ⟨kc, hkc⟩ : ∃ k : Nat, n0.col = (k : Int) := ⟨_, (Int.toNat_of_nonneg hcol).symm⟩
  obtain ⟨zs, hz, hL, hPX⟩ := h.els c
  have HPX := Lib.hid hPX
  have HZW := Lib.hid hzw
  clear hPX hzw
  have hzl : zs.length = l.length := by rw [← hz, rowsE_len]
  have KC := Lib.hid hkc
  have HL := Lib.hid hL
  have HZ := Lib.hid hz
  have HZL := Lib.hid hzl
  have PF := Lib.hid (show ∀ x ∈ zs, ∃ xb xo, encE x = .slice (some ⟨xb, xo, none⟩) x.1.r.length x.1.c ∧ kc < x.1.r.length ∧ cellV x.1.r n0.col = x.1.r.getD kc 0 ∧ ∀ W, Below w.heap.size w W → W.cell? ⟨xb, xo + kc, none⟩ = some (.int .i64 (x.1.r.getD kc 0)) from fun x hx => by
    have h1 := hfit x.1.r (by rw [← hz]; exact List.mem_map.2 ⟨x, hx, rfl⟩)
    have h2 : kc < x.1.r.length := by omega
    rcases x.2.1 with h0 | ⟨xb, xo, ha, hc⟩
    · rw [h0] at h2; cases h2
    · refine ⟨xb, xo, by unfold encE; rw [ha], h2, ?_, fun W b => ?_⟩
      · unfold cellV; rw [hkc, Int.toNat_natCast, List.getD_eq_getElem?_getD]
      · have l1 := World.block_lt_of_cell? w _ (hc kc h2)
        exact (b.cell (p := ⟨xb, xo + kc, none⟩) l1).trans (hc kc h2))
  obtain ⟨lt, hlt'⟩ : ∃ lt : Els w → Els w → Bool, lt = fun x y => lessC n0.col x.1.r y.1.r := ⟨_, rfl⟩
  have LT := Lib.hid hlt'
  have EQ := Lib.hid (show rowsE (sortL lt (zs.take l.length)) = sortL (lessC n0.col) l by
    rw [List.take_of_length_le (by have := HZL.out; omega), LT.out, ← HZ.out]
    exact sortL_map (fun x : Els w => x.1.r) (lessC n0.col) zs)
  have LV := Lib.hid (show ∀ x z : Els w, lt x z = decide (cellV x.1.r n0.col < cellV z.1.r n0.col) from fun x z => by rw [hlt']; rfl)
  generalize sortL (lessC n0.col) l = LL at EQ ⊢
  clear h hL hz hzl hlt' hkc hcol hfit
  go_enter Tryz.func83, Tryz.ntmps83
  go_wp2_with fail
  obtain ⟨u, hu⟩ : ∃ u, w.alloc (.cells #[.int .i64 n0.kind, .string n0.name, .int .i64 n0.col, .int .i64 n0.op, .int .i64 n0.num, .bool n0.slot, .slice na n0.cols.length nc] 39) = u := ⟨_, rfl⟩
  have bu : Below w.heap.size w u := by rw [← hu]; exact (Below.refl _ w).alloc (Nat.le_refl _) _
  have su : u.heap.size = w.heap.size + 1 := by rw [← hu]; simp
  have q2 : u.cell? ⟨w.heap.size, 2, none⟩ = some (.int .i64 n0.col) := by rw [← hu]; simp
  rw [KC.out] at q2
  have Q2 := Lib.hid q2
  have BU := Lib.hid bu
  have HS := Lib.hid (show w.heap.size < u.heap.size by omega)
  have O0 := Lib.hid (show OwnV (u.alloc (.cells #[] 34)) u.heap.size 34 (some ⟨w.heap.size + 1, 0, none⟩) 0 ((sortL lt (zs.take 0)).map encE) from by rw [← su]; exact World.ownsRow_lit u #[] 0 (Nat.le_refl _) (Nat.zero_le _) rfl)
  have B0 := Lib.hid ((Below.refl u.heap.size u).alloc (Nat.le_refl _) (.cells #[] 34))
  try rw [hu]
  clear hu bu su q2
  go_loopw [5, 6, 7, 8, 9] (fun s i _ _ _ wr => ∃ (j : Nat) (ao : Option Addr) (n cc : Nat), j ≤ l.length ∧ i = .int .i64 j ∧ s = .slice ao n cc ∧ n = ((sortL lt (zs.take j)).map encE).length ∧ OwnV wr u.heap.size 34 ao cc ((sortL lt (zs.take j)).map encE) ∧ Below u.heap.size u wr) (fun _ i _ _ _ _ => l.length - (intOf i).toNat)
  case atStart => exact ⟨0, _, _, _, Nat.zero_le _, rfl, rfl, by simp [sortL], O0.out, B0.out⟩
  case round =>
    clear O0 B0
    obtain ⟨j, ao, n, cc, hj, rfl, rfl, hn, ho, hb⟩ := hrel
    obtain ⟨wo, rfl⟩ : ∃ wo, wo = wr := ⟨_, rfl⟩
    have HO := Lib.hid ho
    have HB := Lib.hid hb
    have HN := Lib.hid hn
    clear ho hb hn
    by_cases hlt : j < l.length
    · have hlz : (j : Int) < (l.length : Int) := by omega
      obtain ⟨x, hx⟩ : ∃ x, zs[j]? = some x := ⟨_, List.getElem?_eq_getElem (by have := HZL.out; omega)⟩
      have SX := Lib.hid (sortL_take (lt := lt) hx)
      obtain ⟨xb, xo, ex, hxk, hxv, hxc⟩ := PF.out x (List.mem_of_getElem? hx)
      generalize x.1.r.getD kc 0 = vx at hxv hxc
      generalize x.1.r.length = xl at ex hxk
      have EX := Lib.hid ex
      have XV := Lib.hid hxv
      have XC := Lib.hid hxc
      have MZ := Lib.hid (show ∀ z ∈ sortL lt (zs.take j), z ∈ zs from fun z hz => by
        unfold sortL at hz
        rcases sort_mem _ [] hz with hz | hz
        · cases hz
        · exact List.mem_of_mem_take hz)
      obtain ⟨b1, o1, a0, hb1, hcx⟩ : ∃ b off, a = some ⟨b, off, none⟩ ∧ b < w.heap.size ∧ w.cell? ⟨b, off + j, none⟩ = some (encE x) := by
        rcases HL.out with ⟨_, _, e, rfl⟩ | ⟨b, off, cap, e, hb, hc⟩
        · simp at hx
        · simp only [Value.slice.injEq] at e
          exact ⟨b, off, e.1, hb, hc j x hx⟩
      have hcx0 : ∀ W, Below w.heap.size w W → W.cell? ⟨b1, o1 + j, none⟩ = some (encE x) := fun W hW => (hW.cell (p := ⟨b1, o1 + j, none⟩) hb1).trans hcx
      have CX := Lib.hid hcx0
      subst a0
      have ZL := Lib.hid (show (sortL lt (zs.take j)).length ≤ 200 by rw [sortL_len, List.length_take]; omega)
      generalize hZ : sortL lt (zs.take j) = Z at HO HN SX ZL MZ
      have hnz : n = Z.length := by have := HN.out; simpa using this
      have HNZ := Lib.hid hnz
      have hn200 : n ≤ 200 := by have := ZL.out; omega
      have N0 := Lib.hid (show NextAt wo (wo.alloc (.cells #[] 34)) (some ⟨wo.heap.size, 0, none⟩) 0 0 ([] : List (Els w)) from ⟨World.ownsRow_lit wo #[] 0 (Nat.le_refl _) (Nat.zero_le _) rfl, rfl, (Below.refl _ wo).alloc (Nat.le_refl _) _⟩)
      clear hcx hcx0 hZ hx hnz HN ex hxv hxc
      go_wp2_with fail
      go_loopw [7, 8, 9] (fun s p i w2 => ∃ (k : Nat) (put : Bool) (a2 : Option Addr) (n2 c2 : Nat) (Y : List (Els w)), k ≤ n ∧ i = .int .i64 k ∧ p = .bool put ∧ s = .slice a2 n2 c2 ∧ InsAt lt x Z k put Y ∧ NextAt wo w2 a2 n2 c2 Y) (fun _ _ i _ => n - (intOf i).toNat)
      case atStart => exact ⟨0, false, _, _, _, [], Nat.zero_le _, rfl, rfl, rfl, InsAt.start _ _ _, N0.out⟩
      case round =>
        clear N0
        obtain ⟨k, put, a2, n2, c2, Y, hk, rfl, rfl, rfl, hI, hN⟩ := hrel
        have II := Lib.hid hI
        have NN := Lib.hid hN
        have hy2 : (Y.map encE).length ≤ 201 := by have := hI.1; rw [List.length_map]; split at this <;> omega
        have YB := Lib.hid hy2
        have hB2 := Lib.hid (below_step HB.out (Nat.le_refl _) hN.bel)
        have hW2 := Lib.hid (BU.out.trans (hB2.out.mono BU.out.size))
        have p2 := (hB2.out.cell (p := ⟨w.heap.size, 2, none⟩) HS.out).trans Q2.out
        have zx := XC.out _ hW2.out
        clear hI hN hy2
        by_cases hk2 : k < n
        · have hkz : (k : Int) < (n : Int) := by omega
          obtain ⟨z, hz⟩ : ∃ z, Z[k]? = some z := ⟨_, List.getElem?_eq_getElem (by have := HNZ.out; omega)⟩
          have ZZ := Lib.hid hz
          obtain ⟨g, hg, hcz0⟩ : ∃ g, ao = some ⟨g, 0, none⟩ ∧ ∀ W, Below wo.heap.size wo W → W.cell? ⟨g, k, none⟩ = some (encE z) := by
            rcases HO.out.form with ⟨_, _, e⟩ | ⟨g, e, _, hlt⟩
            · have := congrArg List.length e; simp at this; rw [this] at hz; simp at hz
            · subst e
              refine ⟨g, rfl, fun W hW => ?_⟩
              rw [hW.cell (p := ⟨g, k, none⟩) hlt, HO.out.cell k (by have := lt_of_get hz; simpa using this), List.getElem?_map, hz]; rfl
          have CZ := Lib.hid hcz0
          subst hg
          have hcx := CX.out _ hW2.out
          obtain ⟨zb, zo, ez, hzk, hzv, hzc⟩ := PF.out z (MZ.out z (List.mem_of_getElem? hz))
          generalize z.1.r.getD kc 0 = vz at hzv hzc
          generalize z.1.r.length = zl at ez hzk
          have EZ := Lib.hid ez
          have hcz := CZ.out _ NN.out.bel
          rw [EX.out] at hcx
          rw [EZ.out] at hcz
          have zz := hzc _ hW2.out
          have LZ := Lib.hid (show lt x z = decide (vx < vz) by rw [LV.out, XV.out, hzv])
          clear hz hcz0 ez hzv hzc
          cases put with
          | true =>
            have J := Lib.hid (II.out.on ZZ.out)
            go_wp2_with fail
            go_quiet (fail)
            have NQ := Lib.hid (NN.out.drew nq)
            have hcz5 := CZ.out _ NQ.out.bel
            rw [EZ.out] at hcz5
            clear hcx hcz hB2 hW2 NN p2 zx zz
            generalize wr.drewN nq = w5 at NQ hcz5 ⊢
            go_wp2_with (at_builtin; refine wpList_appendV _ rfl (.tmp 52) (.tmp 57) 29 rfl wo.heap.size 34 (.slice none 0 0) 24 Tryz.underlying29 infoRw rfl _ _ _ (Y.map encE) rfl (by rw [NQ.out.len, List.length_map]) (NQ.out.own.alloc _) _ 1 (.slice (some ⟨zb, zo, none⟩) zl z.1.c) rfl (cell_one _ _ _) rfl (by have := YB.out; unfold maxLen; simp at this ⊢; omega) (by have := YB.out; simp at this ⊢; omega) (by have := NQ.out.bel.size; simp; omega) ?_; intro qa qc qw qo qg qk; have N3 := Lib.hid (NQ.out.put (x := z) (by rw [EZ.out]; exact qo) qg); clear qo qg qk)
            go_roundw
            case rel => exact ⟨k + 1, true, _, _, _, _, by omega, by go_num, rfl, rfl, J.out, N3.out⟩
            case measure => simp [intOf]; omega
          | false =>
            cases hlx : lt x z with
            | true =>
              have hd : decide (vx < vz) = true := by rw [← LZ.out]; exact hlx
              have J := Lib.hid (II.out.hit ZZ.out hlx)
              clear hlx
              go_wp2_with fail
              go_quiet (fail)
              have NQ := Lib.hid (NN.out.drew nq)
              have hcx5 := CX.out _ (below_drewN hW2.out nq)
              have hcz5 := CZ.out _ NQ.out.bel
              rw [EX.out] at hcx5; rw [EZ.out] at hcz5
              clear hcx hcz hB2 hW2 NN p2 zx zz
              generalize wr.drewN nq = w5 at NQ hcx5 hcz5 ⊢
              go_wp2_with (first | (at_builtin; refine wpList_appendV _ rfl (.tmp 45) (.tmp 50) 29 rfl wo.heap.size 34 (.slice none 0 0) 24 Tryz.underlying29 infoRw rfl _ _ _ (Y.map encE) rfl (by rw [NQ.out.len, List.length_map]) (NQ.out.own.alloc _) _ 1 (.slice (some ⟨xb, xo, none⟩) xl x.1.c) rfl (cell_one _ _ _) rfl (by have := YB.out; unfold maxLen; simp at this ⊢; omega) (by have := YB.out; simp at this ⊢; omega) (by have := NQ.out.bel.size; simp; omega) ?_; intro qa qc qw qo qg qk; have N3 := Lib.hid (NQ.out.put (x := x) (by rw [EX.out]; exact qo) qg); clear qo qg qk; have hcz6 := CZ.out _ N3.out.bel; rw [EZ.out] at hcz6) | (at_builtin; refine wpList_appendV _ rfl (.tmp 52) (.tmp 57) 29 rfl wo.heap.size 34 (.slice none 0 0) 24 Tryz.underlying29 infoRw rfl _ _ _ ((Y ++ [x]).map encE) rfl (by rw [N3.out.len, List.length_map]) (N3.out.own.alloc _) _ 1 (.slice (some ⟨zb, zo, none⟩) zl z.1.c) rfl (cell_one _ _ _) rfl (by have := YB.out; unfold maxLen; simp at this ⊢; omega) (by have := YB.out; simp at this ⊢; omega) (by have := N3.out.bel.size; simp; omega) ?_; intro pa pc pw po pg pk; have N4 := Lib.hid (N3.out.put (x := z) (by rw [EZ.out]; exact po) pg); clear po pg pk))
              go_roundw
              case rel => exact ⟨k + 1, true, _, _, _, _, by omega, by go_num, rfl, rfl, J.out, by simpa using N4.out⟩
              case measure => simp [intOf]; omega
            | false =>
              have hd : decide (vx < vz) = false := by rw [← LZ.out]; exact hlx
              have J := Lib.hid (II.out.miss ZZ.out hlx)
              clear hlx
              go_wp2_with fail
              go_quiet (fail)
              have NQ := Lib.hid (NN.out.drew nq)
              have hcx5 := CX.out _ (below_drewN hW2.out nq)
              have hcz5 := CZ.out _ NQ.out.bel
              rw [EX.out] at hcx5; rw [EZ.out] at hcz5
              clear hcx hcz hB2 hW2 NN p2 zx zz
              generalize wr.drewN nq = w5 at NQ hcx5 hcz5 ⊢
              go_wp2_with (at_builtin; refine wpList_appendV _ rfl (.tmp 52) (.tmp 57) 29 rfl wo.heap.size 34 (.slice none 0 0) 24 Tryz.underlying29 infoRw rfl _ _ _ (Y.map encE) rfl (by rw [NQ.out.len, List.length_map]) (NQ.out.own.alloc _) _ 1 (.slice (some ⟨zb, zo, none⟩) zl z.1.c) rfl (cell_one _ _ _) rfl (by have := YB.out; unfold maxLen; simp at this ⊢; omega) (by have := YB.out; simp at this ⊢; omega) (by have := NQ.out.bel.size; simp; omega) ?_; intro qa qc qw qo qg qk; have N3 := Lib.hid (NQ.out.put (x := z) (by rw [EZ.out]; exact qo) qg); clear qo qg qk)
              go_roundw
              case rel => exact ⟨k + 1, false, _, _, _, _, by omega, by go_num, rfl, rfl, J.out, N3.out⟩
              case measure => simp [intOf]; omega
        · have e : k = n := by omega
          subst e
          have hcx := CX.out _ hW2.out
          rw [EX.out] at hcx
          cases put with
          | true =>
            have J := Lib.hid (II.out.end_yes HNZ.out)
            go_wp2_with fail
            go_roundw
            case rel =>
              refine ⟨j + 1, _, _, _, by omega, by go_num, rfl, ?_, ?_, hB2.out⟩
              · rw [SX.out, ← J.out]; rw [List.length_map]; exact NN.out.len
              · rw [SX.out, ← J.out]; exact NN.out.own.base_le HB.out.size
            case measure => simp [intOf]; omega
          | false =>
            have J := Lib.hid (II.out.end_no HNZ.out)
            go_wp2_with (at_builtin; refine wpList_appendV _ rfl (.tmp 61) (.tmp 66) 29 rfl wo.heap.size 34 (.slice none 0 0) 24 Tryz.underlying29 infoRw rfl _ _ _ (Y.map encE) rfl (by rw [NN.out.len, List.length_map]) (NN.out.own.alloc _) _ 1 (.slice (some ⟨xb, xo, none⟩) xl x.1.c) rfl (cell_one _ _ _) rfl (by have := YB.out; unfold maxLen; simp at this ⊢; omega) (by have := YB.out; simp at this ⊢; omega) (by have := NN.out.bel.size; simp; omega) ?_; intro qa qc qw qo qg qk; have N3 := Lib.hid (NN.out.put (x := x) (by rw [EX.out]; exact qo) qg); clear qo qg qk)
            go_roundw
            case rel =>
              refine ⟨j + 1, _, _, _, by omega, by go_num, rfl, ?_, ?_, below_step HB.out (Nat.le_refl _) N3.out.bel⟩
              · rw [SX.out, ← J.out]; rw [List.length_map]; exact N3.out.len
              · rw [SX.out, ← J.out]; exact N3.out.own.base_le HB.out.size
            case measure => simp [intOf]; omega
    · obtain rfl : j = l.length := by omega
      go_wp2_with fail
      go_ret
      have BW := BU.out.trans (HB.out.mono BU.out.size)
      have e : n = (sortL lt (zs.take l.length)).length := by rw [HN.out, List.length_map]
      subst e
      exact gives_els EQ.out HO.out BW BW (fun k hk => Nat.lt_trans (HZW.out k hk) HS.out) (fun x hx => by
        unfold sortL at hx
        rcases sort_mem _ [] hx with hx | hx
        · cases hx
        · exact HPX.out x (List.mem_of_mem_take hx))
end Go.Proofs.YtanfllednlpbaaaGreat
