/-
  Contracts of spec.l02DrawLoose and spec.DrawPlanOk: some nodes in memory of the draw's own. For every slice of bytes.
-/
import Derived.Test.YtfpbhedophlnkaaGreatDoorJR45x
namespace Go.Proofs.YtfpbhedophlnkaaGreatDoor
open Go.RowKit
set_option linter.unusedSimpArgs false
set_option linter.unusedVariables false

def onceN : Nd := ⟨7, ⟨#[]⟩, 0, 0, 0, false, []⟩
def scanT : Nd := ⟨0, ⟨#[116, 49]⟩, 0, 0, 0, false, []⟩
theorem allC_app (l l2 : List Nd) : allCells (l ++ l2) (fun _ => none) (fun _ => 0) = allCells l (fun _ => none) (fun _ => 0) ++ allCells l2 (fun _ => none) (fun _ => 0) := by
  have h := allCells_app l l2 (fun _ => none) (fun _ => none) (fun _ => 0) (fun _ => 0)
  simpa using h
theorem drew_row {w0 w W w' : World} {g : Nat} {xo : Option Addr} {d : Nat} {code : List Int} {row : Option Nat} (h0 : Cur w0 g xo d code) (hd : Drew w0 g xo d code w) (hW : Below w.heap.size w W) (hg : W.grownBy w' row) (hr : ∀ q, row = some q → w0.heap.size ≤ q) : Drew w0 g xo d code w' := by
  have hz := hd.2.size
  have hk : ∀ q, q < w0.heap.size → w'.heap[q]? = w.heap[q]? := fun q hq => (hg.block q (by have := hW.size; omega) (fun e => by have := hr q e.symm; omega)).trans (hW.block q (by omega))
  exact ⟨hd.1.keepI h0.lt h0.code_lt hk, ⟨hg.os.trans (hW.os.trans hd.2.os), hg.tape.trans (hW.tape.trans hd.2.tape), hg.output.trans (hW.output.trans hd.2.output), Nat.le_trans hz (Nat.le_trans hW.size hg.size), fun q hq hne => (hk q hq).trans (hd.2.block q hq hne)⟩⟩
theorem owns_below {w w' : World} {base : Nat} {e : TypeId} {size n : Nat} {v : Value} {xs : List Value} (h : w.ownsRow base e size v n xs) (hb : Below w.heap.size w w') : w'.ownsRow base e size v n xs := by
  refine ⟨h.1, ?_⟩
  rcases h.2 with h2 | ⟨g', cap, cur, hv, hb', hg, r⟩
  · exact .inl h2
  · refine .inr ⟨g', cap, cur, hv, hb', ?_, r⟩
    have hlt : g' < w.heap.size := by
      rcases Nat.lt_or_ge g' w.heap.size with h1 | h1
      · exact h1
      · rw [Array.getElem?_eq_none h1] at hg; cases hg
    rw [hb.block g' hlt]; exact hg
/-- Onces that are laid one by one. -/
def TowRel (w : World) (g : Nat) (xo : Option Addr) (d : Nat) (code : List Int) (wr : World) (v i : Value) : Prop :=
  ∃ j : Nat, i = .int .i64 j ∧ j ≤ 10 ∧ wr.ownsRow w.heap.size 92 7 v j (allCells (List.replicate j onceN) (fun _ => none) fun _ => 0) ∧ Drew w g xo d code wr
theorem tow_next {w wr W w' : World} {g : Nat} {xo : Option Addr} {d : Nat} {code : List Int} {j : Nat} {v v' : Value} (h0 : Cur w g xo d code) (hd : Drew w g xo d code wr) (hj : j < 10) (hw : wr.ownsRow w.heap.size 92 7 v j (allCells (List.replicate j onceN) (fun _ => none) fun _ => 0)) (hW : Below wr.heap.size wr W)
    (ho : w'.ownsRow w.heap.size 92 7 v' (j + 1) (allCells (List.replicate j onceN) (fun _ => none) (fun _ => 0) ++ allCells [onceN] (fun _ => none) (fun _ => 0))) (hg : W.grownBy w' v.ownBlock) : TowRel w g xo d code w' v' (.int .i64 ((j : Int) + 1)) := by
  refine ⟨j + 1, by simp, by omega, ?_, drew_row h0 hd hW hg (fun q hq => (hw.lt q hq).1)⟩
  rw [List.replicate_succ', allC_app]
  exact ho
theorem loose_plain {w : World} {base b c m : Nat} {l : List Nd} (ho : w.ownsRow base 92 7 (.slice (some ⟨b, 0, none⟩) m c) m (allCells l (fun _ => none) fun _ => 0)) (hm : l.length = m) (hc : ∀ n ∈ l, n.cols = [] ∧ n.name.size ≤ 100) : LooseN w base b c l := by
  have hcap := owns_cap ho
  refine ⟨(owns_block ho).1, by omega, hcap.2, fun i n hi => ⟨none, 0, ?_, fun x hx => by cases hx⟩⟩
  have hl := some_lt hi
  obtain ⟨hcc, hnn⟩ := hc n (List.mem_of_getElem? hi)
  have key : ∀ t, t < 7 → w.cell? ⟨b, 0 + i * 7 + t, none⟩ = (ndCells n none 0)[t]? := fun t ht => by
    rw [Nat.zero_add, World.ownsRow.cellAt ho _ (by omega)]
    exact allCells_get l _ _ i n hi t ht
  exact ⟨key 0 (by omega), key 1 (by omega), key 2 (by omega), key 3 (by omega), key 4 (by omega), key 5 (by omega), key 6 (by omega), by rw [hcc]; exact .inl rfl, by rw [hcc]; simp, by unfold maxLen; omega, by unfold maxLen; omega⟩
theorem tow_end {w wr W w' : World} {g : Nat} {xo : Option Addr} {d : Nat} {code : List Int} {j : Nat} {v : Value} {b c : Nat} {e : Ending} (h0 : Cur w g xo d code) (hd : Drew w g xo d code wr) (hj : j ≤ 10) (hw : wr.ownsRow w.heap.size 92 7 v j (allCells (List.replicate j onceN) (fun _ => none) fun _ => 0)) (hW : Below wr.heap.size wr W)
    (ho : w'.ownsRow w.heap.size 92 7 (.slice (some ⟨b, 0, none⟩) (j + 1) c) (j + 1) (allCells (List.replicate j onceN) (fun _ => none) (fun _ => 0) ++ allCells [scanT] (fun _ => none) (fun _ => 0))) (hg : W.grownBy w' v.ownBlock) (he : e = .returned (.slice (some ⟨b, 0, none⟩) (j + 1) c)) : LooseP w g xo d code e w' := by
  rw [← allC_app] at ho
  have hl : (List.replicate j onceN ++ [scanT]).length = j + 1 := by simp
  have hm : ∀ n ∈ List.replicate j onceN ++ [scanT], n.cols = [] ∧ n.name.size ≤ 100 := by
    intro n hn
    rcases List.mem_append.1 hn with hn | hn
    · rw [List.eq_of_mem_replicate hn]; exact ⟨rfl, by decide⟩
    · simp at hn; subst hn; exact ⟨rfl, by decide⟩
  exact ⟨_, b, c, by rw [he, hl], by rw [hl]; omega, fun n hn => by rw [(hm n hn).1]; simp, loose_plain ho hl hm, drew_row h0 hd hW hg (fun q hq => (hw.lt q hq).1)⟩

set_option maxRecDepth 100000 in
set_option maxHeartbeats 4000000 in
theorem drawLoose_any (g : Nat) (xo : Option Addr) (d : Nat) (code : List Int) (b : Option Addr) (c : Nat) (w : World) (hc : Cur w g xo d code) (hl : code.length ≤ 1048577) :
    Calls Tryz.prog 69 #[.pointer (some ⟨g, 0, none⟩), .slice b code.length c] w (LooseP w g xo d code) := by
  have hglt := hc.lt
  have HC := Lib.hid hc; have HL := Lib.hid hl; clear hc hl
  go_enter Tryz.func69, Tryz.ntmps69
  go_wp2_with fail
  refine (drawDeep_any g xo d code b c _ HC.out HL.out).mono ?_
  rintro e w1 ⟨l, b1, c1, xs, A, C, rfl, h1, h2, h3, p1, d1⟩
  have BR := Lib.hid (break_any g xo d code w w1 b1 c1 l xs A C HC.out HL.out d1 p1 h1 h2 h3)
  clear h3 p1 d1
  go_wp2_with fail
  refine BR.out.mono ?_
  rintro e w2 ⟨l2, b2, c2, rfl, k1, k2, ln2, d2⟩
  have LN2 := Lib.hid ln2; have D2 := Lib.hid d2; have K2 := Lib.hid k2
  clear ln2 d2 k2 BR
  go_wp2_with fail
  refine (l01Once_any g xo d code 30 _ D2.out.1 HL.out (by omega) (by omega)).mono ?_
  rintro e w3 ⟨bo, rfl, c3, g3⟩
  have D3 := Lib.hid (drew_once D2.out c3 g3); have LN3 := Lib.hid (LN2.out.draw g3 hglt)
  clear c3 g3 D2 LN2
  cases bo with
  | false =>
    go_wp2_with fail
    go_ret
    exact ⟨l2, b2, c2, rfl, k1, K2.out, LN3.out, D3.out⟩
  | true =>
    clear LN3
    go_wp2_with fail
    refine (below_d g xo d code 2 _ D3.out.1 HL.out (by omega) (by omega)).mono ?_
    rintro e w4 ⟨y, hy0, hy1, rfl, d4⟩
    have P0 := Lib.hid (show TowRel w g xo d code w4 (.slice none 0 0) (.int .i64 0) from ⟨0, rfl, by omega, World.ownsRow_nil _ _ _ _, D3.out.next d4⟩)
    clear d4 D3
    go_wp2_with fail
    go_loopw [5, 7] (fun v i wr => TowRel w g xo d code wr v i) (fun _ i _ => 10 - (intOf i).toNat)
    case atStart => exact P0.out
    case round =>
      clear P0
      obtain ⟨j, rfl, hj, hw, hd⟩ := hrel
      have HW := Lib.hid hw; have HD := Lib.hid hd
      clear hw hd
      by_cases hlt : (j : Int) < 9 + y
      · have NW := Lib.hid (nd_new wr onceN none 0 (.inl rfl) (by decide) (by decide) (by decide))
        have OA := Lib.hid (owns_below HW.out ((Below.refl _ wr).alloc (Nat.le_refl _) (.cells (ndCells onceN none 0).toArray 92)))
        have hb : w.heap.size ≤ (wr.alloc (.cells (ndCells onceN none 0).toArray 92)).heap.size := by have := HD.out.2.size; simp; omega
        have BA := Lib.hid ((Below.refl _ wr).alloc (Nat.le_refl _) (.cells (ndCells onceN none 0).toArray 92))
        go_wp2_with (at_builtin; go_must (refine wpList_appendNs _ rfl (.tmp 23) (.tmp 25) 25 rfl w.heap.size Tryz.underlying25 Tryz.infoNode rfl _ j _ rfl OA.out wr.heap.size 0 1 1 [onceN] (fun _ => none) (fun _ => 0) rfl rfl NW.out (by omega) hb ?_; intro v' w5 o5 g5 _; have R := Lib.hid (tow_next HC.out HD.out (by omega) HW.out BA.out o5 g5); clear o5 g5))
        go_roundw
        case rel => exact R.out
        case measure => simp [intOf]; omega
      · have NW := Lib.hid (nd_new wr scanT none 0 (.inl rfl) (by decide) (by decide) (by decide))
        have OA := Lib.hid (owns_below HW.out ((Below.refl _ wr).alloc (Nat.le_refl _) (.cells (ndCells scanT none 0).toArray 92)))
        have hb : w.heap.size ≤ (wr.alloc (.cells (ndCells scanT none 0).toArray 92)).heap.size := by have := HD.out.2.size; simp; omega
        have BA := Lib.hid ((Below.refl _ wr).alloc (Nat.le_refl _) (.cells (ndCells scanT none 0).toArray 92))
        go_wp2_with (at_builtin; go_must (refine wpList_appendNs _ rfl (.tmp 27) (.tmp 29) 25 rfl w.heap.size Tryz.underlying25 Tryz.infoNode rfl _ j _ rfl OA.out wr.heap.size 0 1 1 [scanT] (fun _ => none) (fun _ => 0) rfl rfl NW.out (by omega) hb ?_; intro v' w5 o5 g5 _; obtain ⟨b5, c5, rfl⟩ := row_form o5 (by omega); have R := Lib.hid (tow_end HC.out HD.out hj HW.out BA.out o5 g5 rfl); clear o5 g5))
        go_ret
        exact R.out
/-- What DrawPlanOk gives. -/
def DrawnP (w : World) (e : Ending) (w' : World) : Prop :=
  ∃ (l : List Nd) (b c : Nat), e = .returned (.slice (some ⟨b, 0, none⟩) l.length c) ∧ l.length ≤ 82 ∧ Small l ∧ l.length ≤ c ∧ c ≤ maxLen ∧ RdN w' (some ⟨b, 0, none⟩) l ∧ Below w.heap.size w w'
end Go.Proofs.YtfpbhedophlnkaaGreatDoor
