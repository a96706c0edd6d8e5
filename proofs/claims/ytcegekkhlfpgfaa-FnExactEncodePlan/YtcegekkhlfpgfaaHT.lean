/-
  Contract of toNodeS. For every slice of nodes.
-/
import Derived.Test.YtcegekkhlfpgfaaOwnN
namespace Go.Proofs.Ytcegekkhlfpgfaa
open Go.RowKit
set_option linter.unusedSimpArgs false
set_option linter.unusedVariables false

theorem Try.infoNode : (Try.prog.info? 28).map (fun i => (i.zero, i.size, i.bytes)) = some (some (.agg #[.int .i64 0, .string ⟨#[]⟩, .int .i64 0, .int .i64 0, .int .i64 0, .bool false, .slice none 0 0]), 7, 80) := by kernel_rfl

set_option maxRecDepth 100000 in
set_option maxHeartbeats 1600000 in
theorem toNodeSP_any (ao : Option Addr) (c : Nat) (l : List Nd) (w : World) (h : RdN w ao l) (hl : l.length ≤ 1048576) (hc : ∀ n ∈ l, n.cols.length ≤ 1048576) :
    Calls Try.prog 18 #[.slice ao l.length c] w (MadeP w l) := by
  obtain ⟨i0, hi, hz0, hz1, hz2⟩ := info_parts Try.infoNode
  have H := Lib.hid h; clear h
  have HC := Lib.hid hc; clear hc
  go_enter Try.func18, Try.ntmps18
  go_wp2_with (at_make; refine wpList_make_full _ rfl (.tmp 6) (.tmp 6) 39 rfl w.heap.size 28 i0 _ 7 Try.underlying39 hi hz0 hz1 .i64 .i64 _ _ l.length rfl rfl rfl rfl (by rw [hz2]; omega) (by unfold maxLen; omega) (Nat.le_refl _) ?_; intro w1 hown hgrow)
  have hbel : Below w.heap.size w w1 := below_of_grown hgrow (Nat.le_refl _) (by intro g hg; cases hg)
  clear hgrow hi hz0 hz1 hz2
  have P0 : Hid (∃ xs A C, PartN w1 w.heap.size w.heap.size l.length l.length l 0 xs A C) :=
    ⟨_, fun _ => none, fun _ => 0, hown, fun i n hi => absurd hi (Nat.not_lt_zero _), fun i n hi => absurd hi (Nat.not_lt_zero _), fun i n hi => absurd hi (Nat.not_lt_zero _), fun i x hi => absurd hi (Nat.not_lt_zero _), fun i k x y hi => absurd hi (Nat.not_lt_zero _)⟩
  clear hown
  go_loopw [4] (fun i wr => ∃ j : Nat, j ≤ l.length ∧ i = .int .i64 j ∧ (∃ xs A C, PartN wr w.heap.size w.heap.size l.length l.length l j xs A C) ∧ Below w.heap.size w wr) (fun i _ => l.length - (intOf i).toNat)
  case atStart => exact ⟨0, Nat.zero_le _, rfl, P0.out, hbel⟩
  case round =>
    clear P0 hbel
    obtain ⟨j, hj, rfl, ⟨xs, A, C, hp⟩, hb⟩ := hrel
    by_cases hlt : j < l.length
    · obtain ⟨b, off, n, a, c', rfl, hn, hat⟩ := (H.out.below hb).at_ hlt
      have hcl := HC.out n (List.mem_of_getElem? hn)
      have HN := Lib.hid hn; clear hn
      have HB := Lib.hid hb; clear hb
      have HP := Lib.hid hp; clear hp
      obtain ⟨c0, c1, c2, c3, c4, c5, c6, rd, cap, mx, nm⟩ := hat
      have RD := Lib.hid rd; clear rd cap mx
      have T := Lib.hid (toNode_any n a c')
      go_wp2_with fail
      refine (T.out _ RD.out (by omega)).mono ?_
      rintro e w2 ⟨a2, c2', rfl, o2, b2⟩
      have hg : w.heap.size < w2.heap.size := Nat.lt_of_lt_of_le (owns_block HP.out.own).2 b2.size
      have HP2 := Lib.hid (HP.out.below b2)
      obtain ⟨y0, e0⟩ := HP2.out.some_ (o := j * 7) (by omega)
      obtain ⟨y1, e1⟩ := HP2.out.some_ (o := j * 7 + 1) (by omega)
      obtain ⟨y2, e2⟩ := HP2.out.some_ (o := j * 7 + 2) (by omega)
      obtain ⟨y3, e3⟩ := HP2.out.some_ (o := j * 7 + 3) (by omega)
      obtain ⟨y4, e4⟩ := HP2.out.some_ (o := j * 7 + 4) (by omega)
      obtain ⟨y5, e5⟩ := HP2.out.some_ (o := j * 7 + 5) (by omega)
      obtain ⟨y6, e6⟩ := HP2.out.some_ (o := j * 7 + 6) (by omega)
      have hf := HP2.out.frozen
      have R := Lib.hid (HP.out.put hlt HN.out b2 o2 HB.out.size nm)
      have T2 := Lib.hid (put7_below (g := w.heap.size) (o := j * 7) (n := n) (a := a2) (c := c2') (below_step HB.out (Nat.le_refl _) b2) (Nat.le_refl _))
      clear o2 b2 c0 c1 c2 c3 c4 c5 c6
      go_wp2_with fail
      go_roundw
      case rel => exact ⟨j + 1, by omega, by go_num, ⟨_, _, _, R.out.choose_spec⟩, T2.out⟩
      case measure => simp [intOf]; omega
    · obtain rfl : j = l.length := by omega
      have HB := Lib.hid hb; clear hb
      have HP := Lib.hid hp; clear hp
      go_wp2_with fail
      go_ret
      exact ⟨_, _, _, _, _, rfl, HP.out, HB.out⟩
theorem toNodeS_any (ao : Option Addr) (c : Nat) (l : List Nd) (w : World) (h : RdN w ao l) (hl : l.length ≤ 1048576) (hc : ∀ n ∈ l, n.cols.length ≤ 1048576) :
    Calls Try.prog 18 #[.slice ao l.length c] w (MadeN w l) := (toNodeSP_any ao c l w h hl hc).mono fun _ _ h => h.made
end Go.Proofs.Ytcegekkhlfpgfaa
