/-
  Contracts of markTableS and heldTableS. For every row of tables of the call's own.
-/
import Derived.Test.YtcegekkhlfpgfaaDoorTb
import Derived.Deep.RegionWith
namespace Go.Proofs.YtcegekkhlfpgfaaDoor
open Go.RowKit
set_option linter.unusedSimpArgs false
set_option linter.unusedVariables false

/-- What marking lays into n tables from the number m on. -/
def marksT (m : Int) (n : Nat) : List Tb := (List.range n).map fun (i : Nat) => ⟨mtext (m + 2 * (i : Int)), m + 2 * (i : Int) + 1⟩
theorem marksT_len (m : Int) (n : Nat) : (marksT m n).length = n := by simp [marksT]
theorem marksT_succ (m : Int) (n : Nat) : marksT m (n + 1) = marksT m n ++ [⟨mtext (m + 2 * (n : Int)), m + 2 * (n : Int) + 1⟩] := by simp [marksT, List.range_succ]
theorem marksT_get (m : Int) (n i : Nat) (h : i < n) : (marksT m n)[i]? = some ⟨mtext (m + 2 * (i : Int)), m + 2 * (i : Int) + 1⟩ := by simp [marksT, h]
theorem marksT_step (m : Int) (l : List Tb) (j : Nat) (h : j < l.length) :
    ((tbC (marksT m j ++ l.drop j)).set (j * 2) (.string (mtext (m + 2 * (j : Int))))).set (j * 2 + 1) (.int .i64 (m + 2 * (j : Int) + 1)) = tbC (marksT m (j + 1) ++ l.drop (j + 1)) := by
  rw [tbC_app, List.drop_eq_getElem_cons h, marksT_succ, List.append_assoc, tbC_app]
  have hl : (tbC (marksT m j)).length = j * 2 := by rw [tbC_len, marksT_len]
  rw [List.set_append_right _ _ (by omega), List.set_append_right _ _ (by omega), hl, Nat.sub_self, show j * 2 + 1 - j * 2 = 1 by omega]
  rfl
/-- A row of tables, by its cells alone. -/
def RowT (w : World) (base : Nat) (ao : Option Addr) (c : Nat) (l : List Tb) : Prop := w.ownsRow base 71 2 (.slice ao l.length c) l.length (tbC l)
def MarkedT (w : World) (base : Nat) (ao : Option Addr) (c n : Nat) (m : Int) (en : Ending) (w' : World) : Prop :=
  en = .returned (.int .i64 (m + 2 * n)) ∧ RowT w' base ao c (marksT m n) ∧ w.grownBy w' (ao.map (·.block))
def MarkRelT (w wr : World) (base : Nat) (m : Int) (g c : Nat) (l : List Tb) (j : Nat) : Prop :=
  wr.ownsRow base 71 2 (.slice (some ⟨g, 0, none⟩) l.length c) l.length (tbC (marksT m j ++ l.drop j)) ∧ w.grownBy wr (some g)

theorem RowT.form {w : World} {base : Nat} {ao : Option Addr} {c : Nat} {l : List Tb} (h : RowT w base ao c l) : (ao = none ∧ l = []) ∨ ∃ g, ao = some ⟨g, 0, none⟩ ∧ base ≤ g ∧ g < w.heap.size := by
  rcases h.2 with ⟨hv, hn⟩ | ⟨g, cap, cur, hv, hb, hg, _⟩
  · simp only [Value.slice.injEq] at hv
    exact .inl ⟨hv.1, List.eq_nil_of_length_eq_zero hn⟩
  · simp only [Value.slice.injEq] at hv
    exact .inr ⟨g, hv.1, hb, (Array.getElem?_eq_some_iff.1 hg).1⟩
theorem RowT.below {w w' : World} {base : Nat} {ao : Option Addr} {c : Nat} {l : List Tb} (h : RowT w base ao c l) (hb : Below w.heap.size w w') : RowT w' base ao c l := by
  refine ⟨h.1, ?_⟩
  rcases h.2 with h2 | ⟨g, cap, cur, hv, hb', hg, r⟩
  · exact .inl h2
  · exact .inr ⟨g, cap, cur, hv, hb', (hb.block g (Array.getElem?_eq_some_iff.1 hg).1).trans hg, r⟩

section
variable {w wr w1 : World} {base : Nat} {m : Int} {g c : Nat} {l : List Tb} {j : Nat}
theorem MarkRelT.lt (h : MarkRelT w wr base m g c l j) : g < wr.heap.size := (h.1.lt g rfl).2
theorem MarkRelT.below (h : MarkRelT w wr base m g c l j) (hb : Below wr.heap.size wr w1) : MarkRelT w w1 base m g c l j := by
  have hlt := h.lt
  refine ⟨⟨h.1.1, ?_⟩, ?_⟩
  · rcases h.1.2 with h2 | ⟨g', cap, cur, hv, hb', hg, r⟩
    · exact .inl h2
    · exact .inr ⟨g', cap, cur, hv, hb', (hb.block g' (Array.getElem?_eq_some_iff.1 hg).1).trans hg, r⟩
  · exact ⟨hb.os.trans h.2.os, hb.tape.trans h.2.tape, hb.output.trans h.2.output, Nat.le_trans h.2.size hb.size, fun i hi hne => (hb.block i (Nat.lt_of_lt_of_le hi h.2.size)).trans (h.2.block i hi hne)⟩
theorem MarkRelT.cell (h : MarkRelT w wr base m g c l j) {o : Nat} (ho : o < l.length * 2) : ∃ y, wr.cell? ⟨g, o, none⟩ = some y := by
  have h1 := h.1.cellAt o ho
  have hl : o < (tbC (marksT m j ++ l.drop j)).length := by rw [h.1.1]; exact ho
  exact ⟨_, h1.trans (List.getElem?_eq_getElem hl)⟩
theorem MarkRelT.step (h : MarkRelT w wr base m g c l j) (hj : j < l.length) :
    MarkRelT w ((wr.setCell ⟨g, j * 2, none⟩ (.string (mtext (m + 2 * (j : Int))))).setCell ⟨g, j * 2 + 1, none⟩ (.int .i64 (m + 2 * (j : Int) + 1))) base m g c l (j + 1) := by
  have h1 := h.1.stored (j * 2) (.string (mtext (m + 2 * (j : Int))))
  have h2 := h1.1.stored (j * 2 + 1) (.int .i64 (m + 2 * (j : Int) + 1))
  rw [marksT_step m l j hj] at h2
  have g1 := h1.2
  have g2 := h2.2
  exact ⟨h2.1, ⟨g2.os.trans (g1.os.trans h.2.os), g2.tape.trans (g1.tape.trans h.2.tape), g2.output.trans (g1.output.trans h.2.output), Nat.le_trans h.2.size (Nat.le_trans g1.size g2.size),
    fun i hi hne => (g2.block i (Nat.lt_of_lt_of_le hi (Nat.le_trans h.2.size g1.size)) hne).trans ((g1.block i (Nat.lt_of_lt_of_le hi h.2.size) hne).trans (h.2.block i hi hne))⟩⟩
theorem MarkRelT.done (h : MarkRelT w wr base m g c l j) (hj : j = l.length) : RowT wr base (some ⟨g, 0, none⟩) c (marksT m l.length) := by
  subst hj
  have h1 := h.1
  rw [List.drop_length, List.append_nil] at h1
  unfold RowT
  rw [marksT_len]; exact h1
end

set_option maxRecDepth 100000 in
set_option maxHeartbeats 1600000 in
theorem markTableS_any (base : Nat) (ao : Option Addr) (c : Nat) (l : List Tb) (m : Int) (w : World) (h : OwnT w base ao c l) (h0 : 0 ≤ m) (hm : m + 2 * l.length ≤ 1000000000) :
    Calls Tryd.prog 18 #[.slice ao l.length c, .int .i64 m] w (MarkedT w base ao c l.length m) := by
  rcases h.form with ⟨rfl, rfl, rfl⟩ | ⟨g, rfl, _⟩
  · go_enter Tryd.func18, Tryd.ntmps18
    go_wp2_with fail
    refine wp_loop_rounds 1 ?_; rw [rounds_succ]; go_wp2_with fail
    go_ret
    exact ⟨ret_int (by simp), (OwnT.none_ (w := w) (base := base)).1, World.grownBy.refl _ _⟩
  · have hs : MarkRelT w w base m g c l 0 := ⟨by simpa [marksT] using h.1, World.grownBy.refl _ _⟩
    clear h
    go_enter Tryd.func18, Tryd.ntmps18
    go_wp2_with fail
    go_loopw [1, 5] (fun q i wr => ∃ j : Nat, j ≤ l.length ∧ i = .int .i64 j ∧ q = .int .i64 (m + 2 * j) ∧ MarkRelT w wr base m g c l j) (fun _ i _ => l.length - (intOf i).toNat)
    case atStart => exact ⟨0, Nat.zero_le _, rfl, by simp, hs⟩
    case round =>
      clear hs
      obtain ⟨j, hj, rfl, rfl, hr⟩ := hrel
      by_cases hlt : j < l.length
      · have HR := Lib.hid hr; clear hr
        have i1 : (j : Int) < (l.length : Int) := by omega
        go_wp2_with fail
        refine (markText_any (m + 2 * j) _ (by omega)).mono ?_
        rintro e w1 ⟨rfl, b1⟩
        have hr := HR.out.below b1
        obtain ⟨y0, e0⟩ := hr.cell (o := j * 2) (by omega)
        obtain ⟨y1, e1⟩ := hr.cell (o := j * 2 + 1) (by omega)
        have hf := fun o => hr.1.frozenAt o
        have hz := hr.lt
        have R := Lib.hid (hr.step hlt)
        clear hr b1
        go_wp2_with fail
        go_roundw
        case rel => exact ⟨j + 1, by omega, by go_num, by go_num, R.out⟩
        case measure => simp [intOf]; omega
      · have e : j = l.length := by omega
        have D := Lib.hid (hr.done e)
        have G := Lib.hid hr.2
        clear hr
        subst e
        go_wp2_with fail
        go_ret
        exact ⟨rfl, D.out, G.out⟩

set_option maxRecDepth 100000 in
set_option maxHeartbeats 1600000 in
theorem heldTableS_any (base : Nat) (ao : Option Addr) (c n : Nat) (m : Int) (w : World) (h : RowT w base ao c (marksT m n)) (h0 : 0 ≤ m) (hm : m + 2 * n ≤ 1000000000) :
    Calls Tryd.prog 19 #[.slice ao n c, .int .i64 m] w fun e w' => e = .returned (.int .i64 (m + 2 * n)) ∧ Below w.heap.size w w' := by
  rcases h.form with ⟨_, h0'⟩ | ⟨g, rfl, _, hg⟩
  · have hn : n = 0 := by have := congrArg List.length h0'; rw [marksT_len] at this; simpa using this
    subst hn
    clear h h0'
    go_enter Tryd.func19, Tryd.ntmps19
    go_wp2_with fail
    refine wp_loop_rounds 1 ?_; rw [rounds_succ]; go_wp2_with fail
    go_ret
    exact ⟨ret_int (by simp), Below.refl _ _⟩
  · have hc0 : ∀ i : Nat, i < n → w.cell? ⟨g, i * 2, none⟩ = some (.string (mtext (m + 2 * (i : Int)))) := by
      intro i hi
      exact (World.ownsRow.cellAt h (i * 2) (by rw [marksT_len]; omega)).trans (tbC_get0 _ _ _ (marksT_get m n i hi))
    have hc1 : ∀ i : Nat, i < n → w.cell? ⟨g, i * 2 + 1, none⟩ = some (.int .i64 (m + 2 * (i : Int) + 1)) := by
      intro i hi
      exact (World.ownsRow.cellAt h (i * 2 + 1) (by rw [marksT_len]; omega)).trans (tbC_get1 _ _ _ (marksT_get m n i hi))
    have HC0 := Lib.hid hc0; have HC1 := Lib.hid hc1; clear hc0 hc1 h
    go_enter Tryd.func19, Tryd.ntmps19
    go_wp2_with fail
    go_loopw [1, 5] (fun q i wr => ∃ j : Nat, j ≤ n ∧ i = .int .i64 j ∧ q = .int .i64 (m + 2 * j) ∧ Below w.heap.size w wr) (fun _ i _ => n - (intOf i).toNat)
    case atStart => exact ⟨0, Nat.zero_le _, rfl, by simp, Below.refl _ _⟩
    case round =>
      obtain ⟨j, hj, rfl, rfl, hb⟩ := hrel
      have HB := Lib.hid hb
      by_cases hlt : j < n
      · have hcw := (hb.cell (p := ⟨g, j * 2, none⟩) hg).trans (HC0.out j hlt)
        have hcv := (hb.cell (p := ⟨g, j * 2 + 1, none⟩) hg).trans (HC1.out j hlt)
        have hgr : g < wr.heap.size := Nat.lt_of_lt_of_le hg hb.size
        have i1 : (j : Int) < (n : Int) := by omega
        clear hb
        go_wp2_with fail
        first | go_region_with (go_at_call 57; refine (markText_any (m + 2 * j) _ (by omega)).mono ?_; rintro e w1 ⟨rfl, b1⟩; have T1 := Lib.hid (below_step HB.out.drew (Nat.le_refl _) b1); have hq1 := (b1.cell (p := ⟨g, j * 2, none⟩) hgr).trans hcw; have hq2 := (b1.cell (p := ⟨g, j * 2 + 1, none⟩) hgr).trans hcv; clear b1) | fail
        all_goals
          go_wp2_with fail
          go_roundw
          case rel => exact ⟨j + 1, by omega, by go_num, by go_num, T1.out⟩
          case measure => simp [intOf]; omega
      · obtain rfl : j = n := by omega
        clear hb
        go_wp2_with fail
        go_ret
        exact ⟨rfl, HB.out⟩
end Go.Proofs.YtcegekkhlfpgfaaDoor
