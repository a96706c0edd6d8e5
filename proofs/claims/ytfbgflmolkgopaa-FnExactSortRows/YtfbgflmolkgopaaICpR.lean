/-
  Contracts of slices.Clone at slices of rows, impl.copyRows and impl.SortRows.
-/
import Derived.Test.YtfbgflmolkgopaaElR
import Derived.Test.YtfbgflmolkgopaaLibI
import Derived.Maps.AppendAt
namespace Go.Proofs.Ytfbgflmolkgopaa
open Go.RowKit
set_option linter.unusedSimpArgs false
set_option linter.unusedVariables false

theorem cellsAt_of {w : World} {b off : Nat} {wb : World} {zs : List (Els wb)} (hc : ∀ j x, zs[j]? = some x → w.cell? ⟨b, off + j, none⟩ = some (encE x)) (o : Obj) : ∀ j u, (zs.map encE)[j]? = some u → (w.alloc o).cell? ((⟨b, off, none⟩ : Addr).add j) = some u := by
  intro j u hj
  rw [List.getElem?_map] at hj
  cases hx : zs[j]? with
  | none => rw [hx] at hj; cases hj
  | some x =>
    rw [hx] at hj; simp at hj; subst hj
    have h1 := hc j x hx
    have h2 := ((Below.refl w.heap.size w).alloc (Nat.le_refl _) o).cell (p := ⟨b, off + j, none⟩) (World.block_lt_of_cell? w ⟨b, off + j, none⟩ h1)
    by_cases h0 : j = 0
    · subst h0; simpa [Addr.add] using h2.trans h1
    · simpa [Addr.add, h0] using h2.trans h1

set_option maxRecDepth 100000 in
set_option maxHeartbeats 1600000 in
theorem cloneR_any {wb : World} (a : Option Addr) (n c : Nat) (zs : List (Els wb)) (w : World) (hL : Lies w.heap.size w (.slice a n c) zs) (hlen : zs.length ≤ 1048576) :
    Calls Try.prog 75 #[.slice a n c] w fun e W' => ∃ v, e = .returned v ∧ W'.ownsRow w.heap.size 32 1 v zs.length (zs.map encE) ∧ Below w.heap.size w W' := by
  have hn : n = zs.length := by
    rcases hL with ⟨a', c', e, rfl⟩ | ⟨b, off, cap, e, _⟩
    · simp only [Value.slice.injEq] at e; simp [e.2.1]
    · simp only [Value.slice.injEq] at e; exact e.2.1
  cases a with
  | none =>
    have h0 : zs = [] := by
      rcases hL with ⟨a', c', e, rfl⟩ | ⟨b, off, cap, e, _⟩
      · rfl
      · simp at e
    subst h0
    subst hn
    have he : ∀ w : World, (binOp .eql 40 (.slice none 0 c) (.slice none 0 0)).run Try.prog w = .ok (.bool true) w := fun _ => rfl
    go_enter Try.func75, Try.ntmps75
    go_wp2_with fail
    go_ret
    exact ⟨_, rfl, World.ownsRow_nil _ _ _ _, Below.refl _ _⟩
  | some ad =>
    obtain ⟨i0, hi, hz0, hz1, hz2⟩ := info_parts infoRw
    have hcells : ∀ j u, (zs.map encE)[j]? = some u → (w.alloc (.cells #[] 32)).cell? (ad.add j) = some u := by
      rcases hL with ⟨a', c', e, rfl⟩ | ⟨b, off, cap, e, hb, hc⟩
      · intro j u hj; simp at hj
      · simp only [Value.slice.injEq, Option.some.injEq] at e
        obtain ⟨rfl, -, -⟩ := e
        exact cellsAt_of hc _
    subst hn
    have HC : Hid _ := hcells
    have O0 : Hid ((w.alloc (.cells #[] 32)).ownsRow w.heap.size 32 1 (.slice (some ⟨w.heap.size, 0, none⟩) 0 0) 0 []) := World.ownsRow_lit w #[] 0 (Nat.le_refl _) (Nat.zero_le _) rfl
    have B0 : Hid _ := (Below.refl w.heap.size w).alloc (Nat.le_refl _) (.cells #[] 32)
    have ML : Hid (0 + zs.length ≤ maxLen) := by show _ ≤ _; unfold maxLen; omega
    clear hcells hL
    have he : ∀ w : World, (binOp .eql 40 (.slice (some ad) zs.length c) (.slice none 0 0)).run Try.prog w = .ok (.bool false) w := fun _ => rfl
    go_enter Try.func75, Try.ntmps75
    go_wp2_with (at_builtin; refine wpList_append_own_at _ rfl (.tmp 5) (.tmp 6) 40 rfl w.heap.size 32 i0 (.slice none 0 0) 1 24 Try.underlying40 hi hz0 hz1 hz2 rfl (by omega) _ 0 [] rfl O0.out ad zs.length c (zs.map encE) rfl (by simp) HC.out (by intro u hu; obtain ⟨x, _, rfl⟩ := List.mem_map.1 hu; rfl) ML.out (by omega) (by simp) ?_; intro v' w1 ho hg _ _; have F1 := Lib.hid ho; have F2 := Lib.hid (below_grow B0.out (by simp) (ao := some ⟨w.heap.size, 0, none⟩) hg (by intro x hx; cases hx; exact Nat.le_refl _)); clear ho hg)
    go_ret
    exact ⟨v', rfl, by have := F1.out; simpa using this, F2.out⟩

set_option maxRecDepth 100000 in
set_option maxHeartbeats 1600000 in
theorem copyRows_any (ao : Option Addr) (c : Nat) (l : List (List Int)) (w : World) (h : RdR w ao l) (hl : l.length ≤ 1048576) (hr : ∀ r ∈ l, r.length ≤ 17592186044416) :
    Calls Try.prog 50 #[.slice ao l.length c] w (MadeR w l) := by
  obtain ⟨zs, hz, hL⟩ := h.els c
  have hzl : zs.length = l.length := by rw [← hz, rowsE_len]
  have CL : Aside _ := cloneR_any ao l.length c zs w hL (by omega)
  have HZ : Hid _ := hz
  have HR : Hid _ := hr
  clear h hL hz hr
  go_enter Try.func50, Try.ntmps50
  go_wp2_with fail
  refine Calls.mono CL.out ?_
  rintro e w1 ⟨v, rfl, ho, hb⟩
  have HB : Hid _ := hb
  clear CL
  rcases ho.2 with ⟨rfl, h0⟩ | ⟨g, cap, cur, rfl, hg, _, hcl, hcm, _⟩
  · have l0 : l = [] := List.eq_nil_of_length_eq_zero (by omega)
    have L0 : Hid _ := l0
    clear ho hb l0
    go_wp2_with fail
    go_loopw [9] (fun i wr => i = .int .i64 0 ∧ w1 = wr) (fun _ _ => 0)
    case atStart => exact ⟨rfl, rfl⟩
    case round =>
      obtain ⟨rfl, rfl⟩ := hrel
      go_wp2
      go_ret
      rw [L0.out]
      exact ⟨none, 0, rfl, .inl rfl, Nat.zero_le _, Nat.zero_le _, HB.out⟩
  · have P0 : Hid (∃ xs A C, PartR w1 w.heap.size g cap zs.length l 0 xs A C ∧ ∀ i x, 0 ≤ i → zs[i]? = some x → xs[i]? = some (encE x)) :=
      ⟨_, fun _ => none, fun _ => 0, ⟨ho, fun i n hi => absurd hi (Nat.not_lt_zero _), fun i n hi => absurd hi (Nat.not_lt_zero _), fun i x hi => absurd hi (Nat.not_lt_zero _), fun i k x y hi => absurd hi (Nat.not_lt_zero _)⟩, fun i x _ hx => by rw [List.getElem?_map, hx]; rfl⟩
    have CC : Hid (zs.length ≤ cap ∧ cap ≤ maxLen) := ⟨hcl, hcm⟩
    have hgw : w.heap.size ≤ g := hg
    have hz9 : zs.length ≤ 9223372036854775807 := by omega
    clear ho hb hcl hcm hg
    go_wp2_with fail
    go_loopw [4, 9] (fun _ i wr => ∃ j : Nat, j ≤ zs.length ∧ i = .int .i64 j ∧ (∃ xs A C, PartR wr w.heap.size g cap zs.length l j xs A C ∧ ∀ i x, j ≤ i → zs[i]? = some x → xs[i]? = some (encE x)) ∧ Below w.heap.size w wr) (fun _ i _ => zs.length - (intOf i).toNat)
    case atStart => exact ⟨0, Nat.zero_le _, rfl, P0.out, HB.out⟩
    case round =>
      clear P0 HB
      obtain ⟨j, hj, rfl, ⟨xs, A, C, hp, hrest⟩, hb⟩ := hrel
      by_cases hlt : j < zs.length
      · have hx : zs[j]? = some zs[j] := List.getElem?_eq_getElem hlt
        have hlr : l[j]? = some zs[j].1.r := by rw [← HZ.out]; exact rowsE_at hx
        generalize zs[j] = x at hx hlr
        have c0 : wr.cell? ⟨g, j, none⟩ = some (.slice x.1.a x.1.r.length x.1.c) := (hp.cellAt hlt).trans (hrest j x (Nat.le_refl _) hx)
        have RD : Hid (Rd wr .i64 x.1.a x.1.r) := x.2.1.below hb
        have RL : Hid (x.1.r.length ≤ 17592186044416) := HR.out _ (List.mem_of_getElem? hlr)
        obtain ⟨⟨ea, er, ec⟩, egood⟩ := x
        simp only at c0 RD RL hlr
        have HX : Hid _ := hx
        have HLR : Hid _ := hlr
        have HP : Hid _ := hp
        have HBB : Hid _ := hb
        have HRE : Hid _ := hrest
        clear hx hlr hp hb hrest
        have T : Aside _ := fun w => libClone_any ea ec er w
        go_wp2_with fail
        refine (T.out _ RD.out RL.out).mono ?_
        rintro e w2 ⟨a2, c2', rfl, o2, b2⟩
        have HP2 : Hid _ := HP.out.below b2
        obtain ⟨y0, e0⟩ := HP2.out.some_ (o := j) hlt
        have hf := HP2.out.frozen j
        have R : Hid _ := HP.out.put hlt HLR.out b2 o2 HBB.out.size
        have T2 : Hid _ := (below_step HBB.out (Nat.le_refl _) b2).setCell (p := ⟨g, j, none⟩) hgw (.slice a2 er.length c2')
        clear o2 b2 c0 T
        go_wp2_with fail
        go_roundw
        case rel => exact ⟨j + 1, by omega, by go_num, ⟨_, _, _, R.out, fun i x hi hx => by rw [List.getElem?_set_ne (by omega)]; exact HRE.out i x (by omega) hx⟩, T2.out⟩
        case measure => simp [intOf]; omega
      · have e : j = zs.length := by omega
        subst e
        have HBB : Hid _ := hb; have HP : Hid _ := hp
        clear hb hp hrest
        have HZL : Hid _ := hzl
        go_wp2_with fail
        go_ret
        rw [HZL.out] at HP ⊢
        exact ⟨_, _, rfl, .inr ⟨_, _, _, _, rfl, HP.out⟩, by rw [← HZL.out]; exact CC.out.1, CC.out.2, HBB.out⟩
end Go.Proofs.Ytfbgflmolkgopaa
