/-
  Contract of impl.SortRows. For every slice of rows.
-/
import Derived.Test.YtfbgflmolkgopaaICpR
import Derived.Test.YtfbgflmolkgopaaISrt2
import Derived.Test.YtfbgflmolkgopaaILess
namespace Go.Proofs.Ytfbgflmolkgopaa
open Go.RowKit
set_option linter.unusedSimpArgs false
set_option linter.unusedVariables false

theorem insL_map {α β : Type} (f : α → β) (lt : β → β → Bool) (x : α) : ∀ l : List α, (insL (fun x y => lt (f x) (f y)) x l).map f = insL lt (f x) (l.map f)
  | [] => rfl
  | y :: l => by
    unfold insL
    simp only [List.map_cons]
    split
    · simp
    · simp [insL_map f lt x l]
theorem sortL_map {α β : Type} (f : α → β) (lt : β → β → Bool) (l : List α) : (sortL (fun x y => lt (f x) (f y)) l).map f = sortL lt (l.map f) := by
  unfold sortL
  have key : ∀ (l acc : List α), (l.foldl (fun out x => insL (fun x y => lt (f x) (f y)) x out) acc).map f = (l.map f).foldl (fun out x => insL lt x out) (acc.map f) := by
    intro l
    induction l with
    | nil => intro acc; rfl
    | cons x l ih => intro acc; rw [List.foldl_cons, ih, insL_map]; rfl
  exact key l []
/-- The rows of a slice, sorted; none where they are too many. -/
def sortO (l : List (List Int)) : List (List Int) := if 200 < l.length then [] else sortL lessL l
theorem sortL_mem {l : List (List Int)} {r : List Int} (h : r ∈ sortL lessL l) : r ∈ l := (sortL_asc wkL l).2.mem wkL h
theorem MadeR.base {w w' w2 : World} {l : List (List Int)} {e : Ending} (h : MadeR w2 l e w') (hb : Below w.heap.size w w2) : MadeR w l e w' := by
  obtain ⟨ao, c, h1, h2, h3, h4, h5⟩ := h
  exact ⟨ao, c, h1, h2.base_le hb.size, h3, h4, below_step hb (Nat.le_refl _) h5⟩

set_option maxRecDepth 100000 in
set_option maxHeartbeats 1600000 in
theorem implSortRows_any (a : Option Addr) (c : Nat) (l : List (List Int)) (w : World) (h : RdR w a l) (hl : l.length ≤ 1048576) (hr : ∀ r ∈ l, r.length ≤ 1048576) :
    Calls Try.prog 23 #[.slice a l.length c] w (MadeR w (sortO l)) := by
  by_cases hlt : 200 < l.length
  · have E : Hid (sortO l = []) := by show _ = _; unfold sortO; rw [if_pos hlt]
    have h2 : (200 : Int) < (l.length : Int) := by omega
    go_enter Try.func23, Try.ntmps23
    go_wp2_with fail
    go_ret
    rw [E.out]
    exact ⟨none, 0, rfl, .inl rfl, Nat.zero_le _, Nat.zero_le _, Below.refl _ _⟩
  · have E : Hid (sortO l = sortL lessL l) := by show _ = _; unfold sortO; rw [if_neg hlt]
    have h2 : (l.length : Int) ≤ 200 := by omega
    obtain ⟨zs, hz, hL⟩ := h.els c
    have hzl : zs.length = l.length := by rw [← hz, rowsE_len]
    obtain ⟨w1, hw1⟩ : ∃ w1, w1 = w.alloc (.cells #[.slice a l.length c] 40) := ⟨_, rfl⟩
    have b1 : Below w.heap.size w w1 := by rw [hw1]; exact (Below.refl _ w).alloc (Nat.le_refl _) _
    have c1 : w1.cell? ⟨w.heap.size, 0, none⟩ = some (.slice a l.length c) := by rw [hw1]; simp
    have s1 : w1.heap.size = w.heap.size + 1 := by rw [hw1]; simp
    have VAL : Aside _ := callsIn_wide.1 (valuesR_in Fence.wide 1 trivial rfl a l.length c w)
    rw [← hw1] at VAL
    have SRT : Aside _ := sortedR_any (wb := w) (fun x y => lessL x.1.r y.1.r) (wkOf wkL fun x : Els w => x.1.r) 53 #[] (enters_of Try.func53 (by kernel_rfl) rfl) 78 w.heap.size #[.pointer (some ⟨w.heap.size, 0, none⟩)] (enters_of Try.func78 (by kernel_rfl) rfl) zs (fun pre => pre <+: zs) (by omega) w1 (by omega)
      (fun W hW => valuesR_stops Fence.wide 2 trivial rfl (by omega) w.heap.size w.heap.size (.slice a l.length c) zs (by omega) W (by have := hW.size; omega) (by have := hW.size; omega) ((hW.cell (p := ⟨w.heap.size, 0, none⟩) (by show w.heap.size < _; omega)).trans c1) (hL.below (b1.trans (hW.mono (by omega)))))
      (fun W hW x y => (implRowLess_q x.1.a y.1.a x.1.c y.1.c x.1.r y.1.r W (x.2.1.below (b1.trans (hW.mono (by omega)))) (y.2.1.below (b1.trans (hW.mono (by omega)))) (Nat.le_trans x.2.2.1 x.2.2.2) (Nat.le_trans y.2.2.1 y.2.2.2)).mono fun e w' ⟨h1, h2⟩ => ⟨h1, h2.symm⟩)
    have HR : Hid _ := hr
    have HZ : Hid _ := hz
    have B1 : Hid _ := b1
    have HZL : Hid _ := hzl
    have hlz : l.length ≤ 9223372036854775807 := by omega
    clear h hL hz hr c1 s1 hw1 b1 hzl hlt
    go_enter Try.func23, Try.ntmps23
    go_wp2_with fail
    refine Calls.mono VAL.out ?_
    rintro e w1' ⟨rfl, rfl⟩
    go_wp2_with fail
    refine Calls.mono SRT.out ?_
    rintro e w2 ⟨v, rfl, h3, _, h4⟩
    have B2 : Hid (Below w.heap.size w w2) := below_step B1.out (Nat.le_refl _) h4
    have EQ : Hid (rowsE (sortL (fun x y : Els w => lessL x.1.r y.1.r) zs) = sortL lessL l) := by
      show _ = _
      rw [← HZ.out]
      exact sortL_map (fun x : Els w => x.1.r) lessL zs
    obtain ⟨ao, n, cc, rfl⟩ : ∃ ao n cc, v = .slice ao n cc := by
      rcases h3.2 with ⟨rfl, _⟩ | ⟨g, cap, cur, rfl, _⟩
      · exact ⟨_, _, _, rfl⟩
      · exact ⟨_, _, _, rfl⟩
    have hn : n = zs.length := by
      rcases h3.2 with ⟨e, h⟩ | ⟨g, cap, cur, e, _⟩
      · simp only [Value.slice.injEq] at e; omega
      · simp only [Value.slice.injEq] at e; exact e.2.1
    have RD : Hid (RdR w2 ao (sortL lessL l)) := by
      rw [← EQ.out]
      rw [← hn] at h3
      exact owns_rdR (v := .slice ao n cc) h3 B2.out
    have hn2 : n = (sortL lessL l).length := by rw [hn, sortL_len, HZL.out]
    subst hn2
    have CP : Aside _ := copyRows_any ao cc (sortL lessL l) w2 RD.out (by rw [sortL_len]; exact hl) (fun r hm => Nat.le_trans (HR.out r (sortL_mem hm)) (by omega))
    clear h3 h4 SRT VAL hn
    go_wp2_with fail
    refine Calls.mono CP.out ?_
    intro e w3 h5
    have M : Hid _ := h5.base B2.out
    obtain ⟨ao3, c3, rfl, _⟩ := h5
    clear CP
    go_wp2_with fail
    go_ret
    rw [E.out]
    exact M.out
end Go.Proofs.Ytfbgflmolkgopaa
