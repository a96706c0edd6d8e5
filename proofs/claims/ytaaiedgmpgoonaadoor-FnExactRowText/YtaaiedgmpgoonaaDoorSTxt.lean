/-
  Contract of spec.RowText. For every row.
-/
import Derived.Test.YtaaiedgmpgoonaaDoorTxtP
import Derived.Test.YtaaiedgmpgoonaaDoorSLess
namespace Go.Proofs.YtaaiedgmpgoonaaDoor
open Go.RowKit
set_option linter.unusedSimpArgs false
set_option linter.unusedVariables false

theorem ret_str {X Y : ByteArray} (h : X = Y) : Ending.returned (.string X) = .returned (.string Y) := by rw [h]
def TxtRelR (w : World) (r : List Int) (wr : World) (s i : Value) : Prop :=
  ∃ (j : Nat) (X : ByteArray), j ≤ r.length ∧ i = .int .i64 j ∧ s = .string X ∧ X.data.toList = jc ((r.take j).map vL) ∧ Below w.heap.size w wr
theorem txtr_next {w w1 : World} {r : List Int} {j : Nat} {x : Int} {X S : ByteArray} (hx : r[j]? = some x) (hX : X.data.toList = jc ((r.take j).map vL)) (hb : Below w.heap.size w w1)
    (hS : S.data.toList = (if j = 0 then vL x else X.data.toList ++ [44] ++ vL x)) : TxtRelR w r w1 (.string S) (.int .i64 ((j : Int) + 1)) := by
  refine ⟨j + 1, S, (List.getElem?_eq_some_iff.1 hx).1, by simp, rfl, ?_, hb⟩
  rw [jc_take hx, ← hX, hS]
theorem vL_none : vL (-2000000) = [45] := by unfold vL vT; rfl
theorem vL_num {x : Int} (h : x ≠ -2000000) : vL x = (numT x).data.toList := by unfold vL vT; rw [if_neg h]

set_option maxRecDepth 100000 in
set_option maxHeartbeats 1600000 in
theorem specRowText_any (a : Option Addr) (c : Nat) (r : List Int) (w : World) (h : Rd w .i64 a r) (hl : r.length ≤ 1048576) (h64 : I64s r) :
    Calls Tryd.prog 5 #[.slice a r.length c] w fun e w' => e = .returned (.string ⟨(rowT r).toArray⟩) ∧ Below w.heap.size w w' := by
  have H := Lib.hid h; have V := Lib.hid h64; clear h h64
  by_cases hnil : r = []
  · subst hnil
    go_enter Tryd.func5, Tryd.ntmps5
    go_wp2_with fail
    go_ret
    exact ⟨rfl, Below.refl _ _⟩
  have E := Lib.hid (show rowT r = jc (r.map vL) by unfold rowT; rw [if_neg hnil])
  have hpos : 0 < r.length := List.length_pos_iff.2 hnil
  have hne : ((r.length : Int) == 0) = false := by simp; omega
  clear hnil
  have P0 := Lib.hid (show TxtRelR w r w (.string ⟨#[]⟩) (.int .i64 0) from ⟨0, _, Nat.zero_le _, rfl, rfl, rfl, Below.refl _ _⟩)
  go_enter Tryd.func5, Tryd.ntmps5
  go_wp2_with fail
  go_loopw [3, 4] (fun s i wr => TxtRelR w r wr s i) (fun _ i _ => r.length - (intOf i).toNat)
  case atStart => exact P0.out
  case round =>
    clear P0
    obtain ⟨j, X, hj, rfl, rfl, hX, hb⟩ := hrel
    have HX := Lib.hid hX; have HB := Lib.hid hb
    have hxs : X.size ≤ 22020096 := by
      have h1 : X.data.toList.length = X.size := by rw [Array.length_toList]; rfl
      have h2 := jc_len (r.take j) (fun z hz => V.out z (List.mem_of_mem_take hz))
      rw [← hX, h1] at h2
      have : (r.take j).length ≤ 1048576 := by simp; omega
      omega
    clear hX
    by_cases hlt : j < r.length
    · obtain ⟨b, off, x, rfl, hx, cx⟩ := (H.out.below hb).get hlt
      have hv := V.out x (List.mem_of_getElem? hx)
      have X0 := Lib.hid hx; clear hx hb
      have i1 : (j : Int) < (r.length : Int) := by omega
      by_cases h0 : j = 0
      · have Z := Lib.hid h0
        have j0 : ¬ (0 : Int) < (j : Int) := by omega
        clear h0
        by_cases hn : x = -2000000
        · subst hn
          have e1 : ¬ (9223372036854775807 < X.size + 1) := by omega
          go_wp2_with fail
          go_roundw
          case rel => exact txtr_next X0.out HX.out HB.out (by rw [if_pos Z.out, vL_none]; have := HX.out; rw [Z.out] at this; simp [jc] at this; simp [ByteArray.data_append, this])
          case measure => simp [intOf]; omega
        · have hn' : (x == -2000000) = false := by simp [hn]
          have VN := Lib.hid (vL_num hn); clear hn
          have hsz := numT_size hv.1 hv.2
          have e1 : ¬ (9223372036854775807 < X.size + (numT x).size) := by omega
          have NA := Lib.hid (fun W => num_all x hv.1 hv.2 W)
          go_wp2_with fail
          refine (NA.out _).mono ?_
          rintro e w1 ⟨rfl, b1⟩
          have B1 := Lib.hid (below_step HB.out (Nat.le_refl _) b1); clear b1
          generalize numT x = T at VN hsz e1
          go_wp2_with fail
          go_roundw
          case rel => exact txtr_next X0.out HX.out B1.out (by rw [if_pos Z.out, VN.out]; have := HX.out; rw [Z.out] at this; simp [jc] at this; simp [ByteArray.data_append, this])
          case measure => simp [intOf]; omega
      · have Z := Lib.hid h0
        have j0 : (0 : Int) < (j : Int) := by omega
        clear h0
        have e0 : ¬ (9223372036854775807 < X.size + 1) := by omega
        by_cases hn : x = -2000000
        · subst hn
          have e1 : ¬ (9223372036854775807 < X.size + 1 + 1) := by omega
          go_wp2_with fail
          go_roundw
          case rel => exact txtr_next X0.out HX.out HB.out (by rw [if_neg Z.out, vL_none]; simp [ByteArray.data_append])
          case measure => simp [intOf]; omega
        · have hn' : (x == -2000000) = false := by simp [hn]
          have VN := Lib.hid (vL_num hn); clear hn
          have hsz := numT_size hv.1 hv.2
          have e1 : ¬ (9223372036854775807 < X.size + 1 + (numT x).size) := by omega
          have NA := Lib.hid (fun W => num_all x hv.1 hv.2 W)
          go_wp2_with fail
          refine (NA.out _).mono ?_
          rintro e w1 ⟨rfl, b1⟩
          have B1 := Lib.hid (below_step HB.out (Nat.le_refl _) b1); clear b1
          generalize numT x = T at VN hsz e1
          go_wp2_with fail
          go_roundw
          case rel => exact txtr_next X0.out HX.out B1.out (by rw [if_neg Z.out, VN.out]; simp [ByteArray.data_append])
          case measure => simp [intOf]; omega
    · obtain rfl : j = r.length := by omega
      clear hb
      go_wp2_with fail
      go_ret
      have hX := HX.out
      rw [List.take_length, ← E.out] at hX
      have eX : X = ⟨(rowT r).toArray⟩ := by apply ByteArray.ext; rw [← hX]
      exact ⟨ret_str eX, HB.out⟩
end Go.Proofs.YtaaiedgmpgoonaaDoor
