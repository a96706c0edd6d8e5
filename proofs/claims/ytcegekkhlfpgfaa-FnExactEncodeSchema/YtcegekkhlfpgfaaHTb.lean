/-
  Contracts of the helpers over tables: szTable, szTableS, toTable, toTableS, eqTable, eqTableS. For every slice of tables.
-/
import Derived.Test.YtcegekkhlfpgfaaTb
import Derived.Deep.RegionWith
namespace Go.Proofs.Ytcegekkhlfpgfaa
open Go.RowKit
set_option linter.unusedSimpArgs false
set_option linter.unusedVariables false

/-- A table's value. -/
abbrev tbV (t : Tb) : Value := .agg #[.string t.name, .int .i64 t.width]
theorem Try.infoTable : (Try.prog.info? 77).map (fun i => (i.zero, i.size, i.bytes)) = some (some (.agg #[.string ⟨#[]⟩, .int .i64 0]), 2, 24) := by kernel_rfl
def szB (t : Tb) (left : Int) : Int := if left - (t.name.size : Int) < 0 then -1 else left - t.name.size

set_option maxHeartbeats 800000 in
theorem szTable_any (t : Tb) (left : Int) (w : World) (h0 : 0 ≤ left) (h1 : left ≤ 1048576) (hs : t.name.size ≤ maxLen) :
    Calls Try.prog 53 #[.agg #[.string t.name, .int .i64 t.width], .int .i64 left] w fun e w' => e = .returned (.int .i64 (szB t left)) ∧ Below w.heap.size w w' := by
  unfold maxLen at hs
  by_cases h : left - (t.name.size : Int) < 0
  · have E := Lib.hid (show szB t left = -1 from if_pos h)
    go_enter Try.func53, Try.ntmps53
    go_wp2_with fail
    go_ret
    rw [E.out]
    exact ⟨rfl, (Below.refl _ _).alloc (Nat.le_refl _) _⟩
  · have E := Lib.hid (show szB t left = left - t.name.size from if_neg h)
    have h' : 0 ≤ left - (t.name.size : Int) := by omega
    clear h
    go_enter Try.func53, Try.ntmps53
    go_wp2_with fail
    go_ret
    rw [E.out]
    exact ⟨rfl, (Below.refl _ _).alloc (Nat.le_refl _) _⟩

/-- How many letters there are. -/
def totT (l : List Tb) : Nat := (l.map fun t => t.name.size).sum
theorem totT_take {l : List Tb} {k : Nat} {t : Tb} (h : l[k]? = some t) : totT (l.take (k + 1)) = totT (l.take k) + t.name.size := by
  rw [List.take_add_one, h]; simp [totT]
def SzPostT (w : World) (l : List Tb) (left : Int) (e : Ending) (w' : World) : Prop :=
  ∃ r : Int, e = .returned (.int .i64 r) ∧ Below w.heap.size w w' ∧ (r = -1 ∨ (0 ≤ r ∧ r + l.length + totT l = left))
theorem szB_neg {t : Tb} {left : Int} (h : szB t left < 0) : szB t left = -1 := by unfold szB at h ⊢; split <;> omega
theorem szB_pos {t : Tb} {left : Int} (h : 0 ≤ szB t left) : szB t left + t.name.size = left := by unfold szB at h ⊢; split <;> omega

set_option maxHeartbeats 800000 in
theorem szTableS_any (ao : Option Addr) (c : Nat) (l : List Tb) (left : Int) (w : World) (h : RdT w ao l) (hl : l.length ≤ maxLen) (h0 : 0 ≤ left) (h1 : left ≤ 1048576) :
    Calls Try.prog 24 #[.slice ao l.length c, .int .i64 left] w (SzPostT w l left) := by
  have hl' := hl; unfold maxLen at hl'
  have H := Lib.hid h; clear h
  by_cases hlt : left < (l.length : Int)
  · have h2 : left - (l.length : Int) < 0 := by omega
    go_enter Try.func24, Try.ntmps24
    go_wp2_with fail
    go_ret
    exact ⟨-1, rfl, Below.refl _ _, .inl rfl⟩
  · have h2 : 0 ≤ left - (l.length : Int) := by omega
    have h3 : (l.length : Int) ≤ left := by omega
    clear hl' hl
    go_enter Try.func24, Try.ntmps24
    go_wp2_with fail
    go_loopw [1, 5] (fun r i wr => ∃ (k : Nat) (q : Int), k ≤ l.length ∧ i = .int .i64 k ∧ r = .int .i64 q ∧ 0 ≤ q ∧ q + l.length + totT (l.take k) = left ∧ Below w.heap.size w wr) (fun _ i _ => l.length - (intOf i).toNat)
    case atStart => exact ⟨0, _, Nat.zero_le _, rfl, rfl, by omega, by simp [totT], Below.refl _ _⟩
    case round =>
      obtain ⟨k, q, hk, rfl, rfl, hq0, hq, hb⟩ := hrel
      have HQ := Lib.hid hq; clear hq
      have hq1 : q ≤ 1048576 := by have := HQ.out; omega
      by_cases hlt2 : k < l.length
      · obtain ⟨b, off, t, rfl, hn, hat⟩ := (H.out.below hb).at_ hlt2
        have HN := Lib.hid hn; clear hn
        have HB := Lib.hid hb; clear hb
        obtain ⟨c0, c1, nm⟩ := hat
        have Z := Lib.hid (szTable_any t q)
        go_wp2_with fail
        refine (Z.out _ hq0 hq1 nm).mono ?_
        rintro e w1 ⟨rfl, b1⟩
        have T1 := Lib.hid (below_step HB.out (Nat.le_refl _) b1)
        clear b1
        by_cases hs : szB t q < 0
        · have S := Lib.hid (szB_neg hs)
          go_wp2_with fail
          go_ret
          exact ⟨-1, rfl, T1.out, .inl rfl⟩
        · have hs' : 0 ≤ szB t q := by omega
          have S := Lib.hid (szB_pos hs')
          clear hs
          generalize szB t q = q' at S hs' ⊢
          go_wp2_with fail
          go_roundw
          case rel => exact ⟨k + 1, q', by omega, by go_num, rfl, hs', by have := S.out; have := HQ.out; rw [totT_take HN.out]; omega, T1.out⟩
          case measure => simp [intOf]; omega
      · have e : k = l.length := by omega
        subst e
        have HB := Lib.hid hb; clear hb
        go_wp2_with fail
        go_ret
        exact ⟨q, rfl, HB.out, .inr ⟨hq0, by have := HQ.out; rwa [List.take_length] at this⟩⟩

set_option maxHeartbeats 800000 in
theorem toTable_any (t : Tb) (w : World) :
    Calls Try.prog 55 #[.agg #[.string t.name, .int .i64 t.width]] w fun e w' => e = .returned (.agg #[.string t.name, .int .i64 t.width]) ∧ Below w.heap.size w w' := by
  go_enter Try.func55, Try.ntmps55
  go_wp2
  refine bodyPost_ret (v := .agg #[.string t.name, .int .i64 t.width]) (by simp [results, Try.results55, go_sem]) rfl ⟨rfl, ?_⟩
  repeat (refine Below.setCell ?_ (by simp; try omega) _)
  exact (((Below.refl _ w).alloc (Nat.le_refl _) _).alloc (by simp) _).alloc (by simp; omega) _

/-- A row of tables of which the first j are laid. -/
def PartT (w : World) (base g c m : Nat) (l : List Tb) (j : Nat) : Prop :=
  ∃ xs, w.ownsRow base 77 2 (.slice (some ⟨g, 0, none⟩) m c) m xs ∧ xs.take (j * 2) = tbC (l.take j)
theorem PartT.below {w w' : World} {base g c m : Nat} {l : List Tb} {j : Nat} (h : PartT w base g c m l j) (hb : Below w.heap.size w w') : PartT w' base g c m l j := by
  obtain ⟨xs, h1, h2⟩ := h
  have hg := (h1.lt g rfl).2
  refine ⟨xs, ⟨h1.1, ?_⟩, h2⟩
  rcases h1.2 with h3 | ⟨g', cap, cur, hv, hb', hg', r⟩
  · exact .inl h3
  · refine .inr ⟨g', cap, cur, hv, hb', ?_, r⟩
    simp only [Value.slice.injEq, Option.some.injEq, Addr.mk.injEq, and_true] at hv
    rw [hb.block g' (by rw [← hv.1]; exact hg)]; exact hg'
theorem take_set2 {xs : List Value} {j : Nat} {u v : Value} (h : j * 2 + 1 < xs.length) : (((xs.set (j * 2) u).set (j * 2 + 1) v).take ((j + 1) * 2)) = xs.take (j * 2) ++ [u, v] := by
  apply List.ext_getElem?
  intro i
  rw [List.getElem?_take]
  by_cases hi : i < (j + 1) * 2
  · rw [if_pos hi]
    by_cases h1 : i < j * 2
    · rw [List.getElem?_set_ne (by omega), List.getElem?_set_ne (by omega), List.getElem?_append_left (by simp; omega), List.getElem?_take_of_lt h1]
    · rw [List.getElem?_append_right (by simp; omega)]
      have hl : (xs.take (j * 2)).length = j * 2 := by simp; omega
      rw [hl]
      by_cases h2 : i = j * 2
      · subst h2; rw [List.getElem?_set_ne (by omega), List.getElem?_set_self (by omega)]; simp
      · obtain rfl : i = j * 2 + 1 := by omega
        rw [List.getElem?_set_self (by simp; omega), show j * 2 + 1 - j * 2 = 1 by omega]; rfl
  · rw [if_neg hi, List.getElem?_eq_none (by simp; omega)]
theorem PartT.put {w : World} {base g c m : Nat} {l : List Tb} {j : Nat} {t : Tb} (h : PartT w base g c m l j) (hj : j < m) (ht : l[j]? = some t) :
    PartT ((w.setCell ⟨g, j * 2, none⟩ (.string t.name)).setCell ⟨g, j * 2 + 1, none⟩ (.int .i64 t.width)) base g c m l (j + 1) := by
  obtain ⟨xs, h1, h2⟩ := h
  have s0 := (h1.stored (j * 2) (.string t.name)).1
  have s1 := (s0.stored (j * 2 + 1) (.int .i64 t.width)).1
  refine ⟨_, s1, ?_⟩
  rw [take_set2 (by rw [h1.1]; omega), h2, List.take_add_one, ht, tbC_app]; rfl
theorem PartT.some_ {w : World} {base g c m : Nat} {l : List Tb} {j : Nat} (h : PartT w base g c m l j) {o : Nat} (ho : o < m * 2) : ∃ y, w.cell? ⟨g, o, none⟩ = some y := by
  obtain ⟨xs, h1, _⟩ := h
  exact ⟨xs[o]'(by rw [h1.1]; exact ho), by rw [World.ownsRow.cellAt h1 o ho, List.getElem?_eq_getElem]⟩
theorem PartT.frozen {w : World} {base g c m : Nat} {l : List Tb} {j : Nat} (h : PartT w base g c m l j) (o : Nat) : w.frozen? ⟨g, o, none⟩ = false := by
  obtain ⟨xs, h1, _⟩ := h
  exact World.ownsRow.frozenAt h1 o
theorem PartT.own {w : World} {base g c : Nat} {l : List Tb} (h : PartT w base g c l.length l l.length) (hs : ∀ t ∈ l, t.name.size ≤ maxLen) : OwnT w base (some ⟨g, 0, none⟩) c l := by
  obtain ⟨xs, h1, h2⟩ := h
  rw [List.take_of_length_le (by rw [h1.1]; omega), List.take_length] at h2
  subst h2
  exact ⟨h1, hs⟩

set_option maxRecDepth 100000 in
set_option maxHeartbeats 1600000 in
theorem toTableS_any (ao : Option Addr) (c : Nat) (l : List Tb) (w : World) (h : RdT w ao l) (hl : l.length ≤ 1048576) :
    Calls Try.prog 26 #[.slice ao l.length c] w (MadeT w l) := by
  obtain ⟨i0, hi, hz0, hz1, hz2⟩ := info_parts Try.infoTable
  have H := Lib.hid h; clear h
  go_enter Try.func26, Try.ntmps26
  go_wp2_with (at_make; refine wpList_make_full _ rfl (.tmp 6) (.tmp 6) 48 rfl w.heap.size 77 i0 _ 2 Try.underlying48 hi hz0 hz1 .i64 .i64 _ _ l.length rfl rfl rfl rfl (by rw [hz2]; omega) (by unfold maxLen; omega) (Nat.le_refl _) ?_; intro w1 hown hgrow)
  have hbel : Below w.heap.size w w1 := below_of_grown hgrow (Nat.le_refl _) (by intro g hg; cases hg)
  clear hgrow hi hz0 hz1 hz2
  have P0 := Lib.hid (show PartT w1 w.heap.size w.heap.size l.length l.length l 0 from ⟨_, hown, rfl⟩)
  clear hown
  go_loopw [4] (fun i wr => ∃ j : Nat, j ≤ l.length ∧ i = .int .i64 j ∧ PartT wr w.heap.size w.heap.size l.length l.length l j ∧ Below w.heap.size w wr) (fun i _ => l.length - (intOf i).toNat)
  case atStart => exact ⟨0, Nat.zero_le _, rfl, P0.out, hbel⟩
  case round =>
    clear P0 hbel
    obtain ⟨j, hj, rfl, hp, hb⟩ := hrel
    by_cases hlt : j < l.length
    · obtain ⟨b, off, t, rfl, hn, hat⟩ := (H.out.below hb).at_ hlt
      have HN := Lib.hid hn; clear hn
      have HB := Lib.hid hb; clear hb
      have HP := Lib.hid hp; clear hp
      obtain ⟨c0, c1, nm⟩ := hat
      have T := Lib.hid (toTable_any t)
      go_wp2_with fail
      refine (T.out _).mono ?_
      rintro e w2 ⟨rfl, b2⟩
      have HP2 := Lib.hid (HP.out.below b2)
      obtain ⟨y0, e0⟩ := HP2.out.some_ (o := j * 2) (by omega)
      obtain ⟨y1, e1⟩ := HP2.out.some_ (o := j * 2 + 1) (by omega)
      have hf := HP2.out.frozen
      have R := Lib.hid (HP2.out.put hlt HN.out)
      have T2 := Lib.hid (((below_step HB.out (Nat.le_refl _) b2).setCell (p := ⟨w.heap.size, j * 2, none⟩) (Nat.le_refl _) (.string t.name)).setCell (p := ⟨w.heap.size, j * 2 + 1, none⟩) (Nat.le_refl _) (.int .i64 t.width))
      clear b2 c0 c1
      go_wp2_with fail
      go_roundw
      case rel => exact ⟨j + 1, by omega, by go_num, R.out, T2.out⟩
      case measure => simp [intOf]; omega
    · obtain rfl : j = l.length := by omega
      have HB := Lib.hid hb; clear hb
      have HP := Lib.hid hp; clear hp
      go_wp2_with fail
      go_ret
      exact ⟨_, _, rfl, HP.out.own fun t ht => H.out.name ht, HB.out⟩
end Go.Proofs.Ytcegekkhlfpgfaa
