/-
  Contracts of the helpers over slices of strings: eqStringS, markStringS, heldStringS. For every slice of strings. Contracts of markStringS and heldStringS. For every row of strings of the call's own.
-/
import Derived.Test.YtfpbhedophlnkaaStrs
import Derived.Deep.RegionWith
namespace Go.Proofs.Ytfpbhedophlnkaa
open Go.RowKit
set_option linter.unusedSimpArgs false
set_option linter.unusedVariables false

set_option maxHeartbeats 1600000 in
theorem eqStringS_any (a b : Option Addr) (c d : Nat) (l m : List ByteArray) (w : World) (h : RdS w a l) (k : RdS w b m) (hn : l.length ≤ maxLen) (hm : m.length ≤ maxLen) :
    Calls Try.prog 6 #[.slice a l.length c, .slice b m.length d] w fun e w' => e = .returned (.bool (eqSs l m)) ∧ Below w.heap.size w w' := by
  unfold maxLen at hn hm
  by_cases hlen : l.length = m.length
  · have hne : ((l.length : Int) != (m.length : Int)) = false := by simp [hlen]
    have HL := Lib.hid hlen; clear hlen
    rcases h with rfl | ⟨b1, o1, rfl, hc⟩
    · have hm0 : m = [] := List.eq_nil_of_length_eq_zero HL.out.symm
      subst hm0
      clear hne
      go_enter Try.func6, Try.ntmps6
      go_wp2
      refine wp_loop_rounds 1 ?_; rw [rounds_succ]; go_wp2
      go_ret
      exact ⟨rfl, Below.refl _ _⟩
    · rcases k with rfl | ⟨b2, o2, rfl, kc⟩
      · have hl0 : l = [] := List.eq_nil_of_length_eq_zero HL.out
        subst hl0
        clear hne hc
        go_enter Try.func6, Try.ntmps6
        go_wp2
        refine wp_loop_rounds 1 ?_; rw [rounds_succ]; go_wp2
        go_ret
        exact ⟨rfl, Below.refl _ _⟩
      · have HC := Lib.hid hc; have KC := Lib.hid kc; clear hc kc
        go_enter Try.func6, Try.ntmps6
        go_wp2
        go_loopw [5] (fun i wr => ∃ j q : Nat, j ≤ l.length ∧ i = .int .i64 j ∧ (l.take j).map ByteArray.toList = (m.take j).map ByteArray.toList ∧ wr = w.drewN q) (fun i _ => l.length - (intOf i).toNat)
        case atStart => exact ⟨0, 0, Nat.zero_le _, rfl, rfl, rfl⟩
        case round =>
          obtain ⟨j, q, hj, rfl, ht, rfl⟩ := hrel
          have HT := Lib.hid ht; clear ht
          by_cases hlt : j < l.length
          · have hlt2 : j < m.length := by have := HL.out; omega
            obtain ⟨x, _, hx, hcx, htx⟩ := RdS.at_ HC.out hlt
            obtain ⟨y, _, hy, hcy, hty⟩ := RdS.at_ KC.out hlt2
            have X := Lib.hid hx; have Y := Lib.hid hy; have TX := Lib.hid htx; have TY := Lib.hid hty
            clear hx hy htx hty
            have i1 : (j : Int) < (l.length : Int) := by omega
            have i2 : (j : Int) < (m.length : Int) := by omega
            by_cases hxy : x.toList = y.toList
            · have XY := Lib.hid hxy
              have hb : (x.toList == y.toList) = true := by simp [hxy]
              have hb2 : (x.toList != y.toList) = false := by simp [hxy]
              clear hxy
              go_wp2
              go_quiet (fail)
              go_wp2
              go_roundw
              case rel => exact ⟨j + 1, _, by omega, by go_num, by rw [TX.out, TY.out, List.map_append, List.map_append, HT.out]; simp [XY.out], by first | rfl | rw [World.drewN_drewN]⟩
              case measure => simp [intOf]; omega
            · have hb : (x.toList == y.toList) = false := by simp [hxy]
              have hb2 : (x.toList != y.toList) = true := by simp [hxy]
              have HF := Lib.hid (eqSs_no hxy X.out Y.out)
              clear hxy
              go_wp2
              go_quiet (fail)
              go_wp2
              go_ret
              exact ⟨ret_bool HF.out.symm, by first | exact below_drewN (Below.refl _ _) _ | exact below_drewN (below_drewN (Below.refl _ _) _) _⟩
          · go_wp2
            go_ret
            exact ⟨ret_bool (eqSs_yes HL.out (by omega) HT.out).symm, below_drewN (Below.refl _ _) _⟩
  · have hne : ((l.length : Int) != (m.length : Int)) = true := by simp; omega
    have HF : Hid (eqSs l m = false) := by
      show eqSs l m = false
      unfold eqSs; simp only [decide_eq_false_iff_not]; intro he; exact hlen (by simpa using congrArg List.length he)
    go_enter Try.func6, Try.ntmps6
    go_wp2
    go_ret
    exact ⟨ret_bool HF.out.symm, Below.refl _ _⟩
end Go.Proofs.Ytfpbhedophlnkaa
namespace Go.Proofs.Ytfpbhedophlnkaa
open Go.RowKit
set_option linter.unusedSimpArgs false
set_option linter.unusedVariables false

/-- What markStringS answers and leaves: nothing that was there turns but the row. -/
def MarkedS (w : World) (base : Nat) (ao : Option Addr) (c n : Nat) (m : Int) (en : Ending) (w' : World) : Prop :=
  en = .returned (.int .i64 (m + n)) ∧ OwnS w' base ao c (marksS m n) ∧ w.grownBy w' (ao.map (·.block))

/-- The row of which the first j are marked. -/
def MarkRelS (w wr : World) (base : Nat) (m : Int) (g c : Nat) (l : List ByteArray) (j : Nat) : Prop :=
  wr.ownsRow base 9 1 (.slice (some ⟨g, 0, none⟩) l.length c) l.length ((marksS m j ++ l.drop j).map Value.string) ∧ w.grownBy wr (some g)

section
variable {w wr w1 : World} {base : Nat} {m : Int} {g c : Nat} {l : List ByteArray} {j : Nat}
theorem MarkRelS.lt (h : MarkRelS w wr base m g c l j) : g < wr.heap.size := by
  rcases h.1.2 with ⟨hv, _⟩ | ⟨g', _, _, hv, _, hg, _⟩
  · cases hv
  · simp only [Value.slice.injEq, Option.some.injEq, Addr.mk.injEq] at hv
    obtain ⟨⟨rfl, _⟩, _⟩ := hv
    rcases Nat.lt_or_ge g wr.heap.size with hlt | hge
    · exact hlt
    · rw [Array.getElem?_eq_none hge] at hg; cases hg
theorem MarkRelS.below (h : MarkRelS w wr base m g c l j) (hb : Below wr.heap.size wr w1) : MarkRelS w w1 base m g c l j := by
  have hlt := h.lt
  refine ⟨⟨h.1.1, ?_⟩, ?_⟩
  · rcases h.1.2 with h2 | ⟨g', cap, cur, hv, hb', hg, r⟩
    · exact .inl h2
    · refine .inr ⟨g', cap, cur, hv, hb', ?_, r⟩
      simp only [Value.slice.injEq, Option.some.injEq, Addr.mk.injEq] at hv
      obtain ⟨⟨rfl, _⟩, _⟩ := hv
      rw [hb.block _ hlt]; exact hg
  · exact ⟨hb.os.trans h.2.os, hb.tape.trans h.2.tape, hb.output.trans h.2.output, Nat.le_trans h.2.size hb.size, fun i hi hne => (hb.block i (Nat.lt_of_lt_of_le hi h.2.size)).trans (h.2.block i hi hne)⟩
theorem MarkRelS.cell (h : MarkRelS w wr base m g c l j) (hj : j < l.length) : ∃ y, wr.cell? ⟨g, j, none⟩ = some (.string y) := by
  have h1 := h.1.cellAt j (by omega)
  have hl : j < (marksS m j ++ l.drop j).length := by simp [marksS_len]; omega
  rw [List.getElem?_map, List.getElem?_eq_getElem hl] at h1
  exact ⟨_, h1⟩
theorem MarkRelS.step (h : MarkRelS w wr base m g c l j) (hj : j < l.length) :
    MarkRelS w (wr.setCell ⟨g, j, none⟩ (.string (mtext (m + (j : Int))))) base m g c l (j + 1) := by
  have h1 := h.1.stored j (.string (mtext (m + (j : Int))))
  rw [map_set_str, marksS_step m l j hj] at h1
  exact ⟨h1.1, ⟨h1.2.os.trans h.2.os, h1.2.tape.trans h.2.tape, h1.2.output.trans h.2.output, Nat.le_trans h.2.size h1.2.size, fun i hi hne => (h1.2.block i (Nat.lt_of_lt_of_le hi h.2.size) hne).trans (h.2.block i hi hne)⟩⟩
theorem MarkRelS.done (h : MarkRelS w wr base m g c l j) (hj : j = l.length) : OwnS wr base (some ⟨g, 0, none⟩) c (marksS m l.length) := by
  subst hj
  have h1 := h.1
  rw [List.drop_length, List.append_nil] at h1
  unfold OwnS
  rw [marksS_len]; exact h1
end

set_option maxRecDepth 100000 in
set_option maxHeartbeats 1600000 in
theorem markStringS_any (base : Nat) (ao : Option Addr) (c : Nat) (l : List ByteArray) (m : Int) (w : World) (h : OwnS w base ao c l) (h0 : 0 ≤ m) (hm : m + l.length ≤ 1000000000) :
    Calls Try.prog 7 #[.slice ao l.length c, .int .i64 m] w (MarkedS w base ao c l.length m) := by
  rcases h.form with ⟨rfl, rfl, rfl⟩ | ⟨g, rfl, _⟩
  · go_enter Try.func7, Try.ntmps7
    go_wp2_with fail
    refine wp_loop_rounds 1 ?_; rw [rounds_succ]; go_wp2_with fail
    go_ret
    exact ⟨ret_int (by simp), OwnS.none_, World.grownBy.refl _ _⟩
  · have hs : MarkRelS w w base m g c l 0 := ⟨by have h' := h; unfold OwnS at h'; simpa [marksS] using h', World.grownBy.refl _ _⟩
    clear h
    go_enter Try.func7, Try.ntmps7
    go_wp2_with fail
    go_loopw [1, 5] (fun q i wr => ∃ j : Nat, j ≤ l.length ∧ i = .int .i64 j ∧ q = .int .i64 (m + j) ∧ MarkRelS w wr base m g c l j) (fun _ i _ => l.length - (intOf i).toNat)
    case atStart => exact ⟨0, Nat.zero_le _, rfl, by simp, hs⟩
    case round =>
      clear hs
      obtain ⟨j, hj, rfl, rfl, hr⟩ := hrel
      by_cases hlt : j < l.length
      · have HR := Lib.hid hr; clear hr
        have i1 : (j : Int) < (l.length : Int) := by omega
        go_wp2_with fail
        refine (markText_any (m + j) _ (by omega)).mono ?_
        rintro e w1 ⟨rfl, b1⟩
        have hr := HR.out.below b1
        obtain ⟨y, hy⟩ := hr.cell hlt
        have hf := hr.1.frozenAt j
        have R := Lib.hid (hr.step hlt)
        clear hr b1
        go_wp2_with fail
        go_roundw
        case rel => exact ⟨j + 1, by omega, by go_num, by go_num, R.out⟩
        case measure => simp [intOf]; omega
      · have e : j = l.length := by omega
        have D := Lib.hid (hr.done e)
        have G := Lib.hid hr.2
        clear hr
        subst e
        go_wp2_with fail
        go_ret
        exact ⟨rfl, D.out, G.out⟩

set_option maxRecDepth 100000 in
set_option maxHeartbeats 1600000 in
theorem heldStringS_any (ao : Option Addr) (c n : Nat) (m : Int) (w : World) (h : RdS w ao (marksS m n)) (h0 : 0 ≤ m) (hm : m + n ≤ 1000000000) :
    Calls Try.prog 8 #[.slice ao n c, .int .i64 m] w fun e w' => e = .returned (.int .i64 (m + n)) ∧ Below w.heap.size w w' := by
  rcases h with h | ⟨b, off, rfl, hc⟩
  · have hn : n = 0 := by have := congrArg List.length h; rw [marksS_len] at this; simpa using this
    subst hn
    clear h
    go_enter Try.func8, Try.ntmps8
    go_wp2_with fail
    refine wp_loop_rounds 1 ?_; rw [rounds_succ]; go_wp2_with fail
    go_ret
    exact ⟨ret_int (by simp), Below.refl _ _⟩
  · have hc' : ∀ i : Nat, i < n → w.cell? ⟨b, off + i, none⟩ = some (.string (mtext (m + (i : Int)))) := by
      intro i hi
      rw [hc i (by rw [marksS_len]; exact hi), List.getD_eq_getElem?_getD, marksS_get _ _ _ hi]; rfl
    have HC := Lib.hid hc'; clear hc hc'
    go_enter Try.func8, Try.ntmps8
    go_wp2_with fail
    go_loopw [1, 5] (fun q i wr => ∃ j : Nat, j ≤ n ∧ i = .int .i64 j ∧ q = .int .i64 (m + j) ∧ Below w.heap.size w wr) (fun _ i _ => n - (intOf i).toNat)
    case atStart => exact ⟨0, Nat.zero_le _, rfl, by simp, Below.refl _ _⟩
    case round =>
      obtain ⟨j, hj, rfl, rfl, hb⟩ := hrel
      have HB := Lib.hid hb
      by_cases hlt : j < n
      · have hcz := HC.out j hlt
        have hcw := (hb.cell (World.block_lt_of_cell? w ⟨b, off + j, none⟩ hcz)).trans hcz
        have i1 : (j : Int) < (n : Int) := by omega
        clear hb
        go_wp2_with fail
        first | go_region_with (go_at_call 10; refine (markText_any (m + j) _ (by omega)).mono ?_; rintro e w1 ⟨rfl, b1⟩; have T1 := Lib.hid (below_step HB.out.drew (Nat.le_refl _) b1); have hq1 := (b1.cell (World.block_lt_of_cell? wr ⟨b, off + j, none⟩ hcw)).trans hcw; clear b1) | fail
        all_goals
          go_wp2_with fail
          go_roundw
          case rel => exact ⟨j + 1, by omega, by go_num, by go_num, T1.out⟩
          case measure => simp [intOf]; omega
      · obtain rfl : j = n := by omega
        clear hb
        go_wp2_with fail
        go_ret
        exact ⟨rfl, HB.out⟩
end Go.Proofs.Ytfpbhedophlnkaa
