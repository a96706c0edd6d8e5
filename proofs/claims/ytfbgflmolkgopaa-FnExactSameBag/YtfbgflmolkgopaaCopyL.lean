/-
  Contract of spec.l01Copy. For every slice of int.
-/
import Derived.Test.YtfbgflmolkgopaaKids0
namespace Go.Proofs.Ytfbgflmolkgopaa
open Go.RowKit
set_option linter.unusedSimpArgs false
set_option linter.unusedVariables false

set_option maxHeartbeats 1600000 in
theorem l01CopyL_any (a : Option Addr) (c : Nat) (l : List Int) (w : World) (h : Rd w .i64 a l) (hl : l.length ≤ 1048576) :
    Calls Try.prog 74 #[.slice a l.length c] w (Made w 3 .i64 l) := by
  have H := Lib.hid h; clear h
  have O0 := Lib.hid (own_empty (w := w) (base := w.heap.size) (e := 3) (k := .i64) (Nat.le_refl _))
  have B0 := Lib.hid ((Below.refl w.heap.size w).alloc (Nat.le_refl _) (.cells #[] 3))
  go_enter Try.func74, Try.ntmps74
  go_wp2_with fail
  go_loopw [3, 4] (fun s i wr => ∃ (j : Nat) (ao : Option Addr) (cc : Nat), j ≤ l.length ∧ i = .int .i64 j ∧ s = .slice ao j cc ∧ Own wr w.heap.size 3 .i64 ao cc (l.take j) ∧ Below w.heap.size w wr) (fun _ i _ => l.length - (intOf i).toNat)
  case atStart => exact ⟨0, _, _, Nat.zero_le _, rfl, rfl, O0.out, B0.out⟩
  case round =>
    clear O0 B0
    obtain ⟨j, ao, cc, hj, rfl, rfl, ho, hb⟩ := hrel
    have HO := Lib.hid ho; have HB := Lib.hid hb
    by_cases hlt : j < l.length
    · obtain ⟨b, off, rfl, hc⟩ : ∃ b off, a = some ⟨b, off, none⟩ ∧ ∀ i, i < l.length → wr.cell? ⟨b, off + i, none⟩ = some (.int .i64 (l.getD i 0)) := by
        rcases H.out.below hb with rfl | h'
        · simp at hlt
        · exact h'
      obtain ⟨z, _, _, hcz, ht⟩ := Rd.at_ hc hlt
      have HT := Lib.hid ht
      have hlen : (l.take j).length = j := by simp; omega
      have HL := Lib.hid hlen
      clear ho hb hc ht hlen
      go_wp2_with (at_builtin; refine wpList_appendI _ rfl (.tmp 12) (.tmp 17) 32 rfl w.heap.size 3 Try.underlying32 Try.infoInt ao cc j (l.take j) rfl HL.out.symm (HO.out.alloc _) wr.heap.size 1 z rfl (cell_one _ _ _) (by have := HL.out; omega) (by have := HB.out.size; simp; omega) ?_; intro ao2 c2 w2 o2 g2; have b2 := below_app HB.out HO.out g2; have O2 := Lib.hid o2; have B2 := Lib.hid b2; clear o2 g2 b2)
      go_roundw
      case rel => exact ⟨j + 1, ao2, c2, by omega, by go_num, by first | rfl | rw [HL.out], by rw [HT.out]; exact O2.out, B2.out⟩
      case measure => simp [intOf]; omega
    · obtain rfl : j = l.length := by omega
      clear ho hb
      go_wp2_with fail
      go_ret
      refine ⟨ao, cc, rfl, ?_, HB.out⟩
      have := HO.out
      rwa [List.take_length] at this
end Go.Proofs.Ytfbgflmolkgopaa
