/-
  Contracts of the program's reader of a table, and of its end. For every slice of bytes and every place.
-/
import Derived.Test.YtcegekkhlfpgfaaDoorRdrB
import Derived.Test.YtcegekkhlfpgfaaDoorRCntP
import Derived.Deep.QuietTactic
import Derived.BigQuiet
namespace Go.Proofs.YtcegekkhlfpgfaaDoor
open Go.RowKit
set_option linter.unusedSimpArgs false
set_option linter.unusedVariables false

set_option maxRecDepth 100000 in
set_option maxHeartbeats 1600000 in
theorem rTable_any (R : Nat) (b : Option Addr) (d : Nat) (l : List Int) (s : Option Int) (w : World) (h : Rdr w R b d l s) :
    Calls Tryd.prog 53 #[.pointer (some ⟨R, 0, none⟩)] w (TookR (.agg #[.string (tableR l s).1.name, .int .i64 (tableR l s).1.width]) R b d l (tableR l s).2 w) := by
  have T1 := Lib.hid (fun W (h : Rdr W R b d l s) => rWord_any R b d l s W h)
  have TR : tableR l s = (⟨(wordR l s).1, (numR l (wordR l s).2).1⟩, (numR l (wordR l s).2).2) := rfl
  obtain ⟨⟨x1, s1⟩, hx1⟩ : ∃ r, r = wordR l s := ⟨_, rfl⟩
  rw [← hx1] at T1 TR
  simp only at TR
  have T2 := Lib.hid (fun W (h : Rdr W R b d l s1) => rNum_any R b d l s1 W h)
  obtain ⟨⟨x2, s2⟩, hx2⟩ : ∃ r, r = numR l s1 := ⟨_, rfl⟩
  rw [← hx2] at T2 TR
  simp only at TR
  rw [TR]
  clear hx1 hx2 TR
  have hR := h.lt
  have HBT := Lib.hid h.bytes
  have H := Lib.hid (h.below ((Below.refl _ w).alloc (Nat.le_refl _) (.cells #[.string ⟨#[]⟩, .int .i64 0] 71)))
  clear h
  go_enter Tryd.func53, Tryd.ntmps53
  go_wp2_with fail
  refine (T1.out _ H.out).mono ?_
  rintro e w1 ⟨rfl, h1, g1⟩
  have H1 := Lib.hid h1
  go_wp2_with fail
  refine (T2.out _ H1.out).mono ?_
  rintro e w2 ⟨rfl, h2, g2⟩
  have H2 := Lib.hid h2; have G2 := Lib.hid (grownBy_trans g1 g2)
  obtain ⟨hc0, hf0⟩ := gcell G2.out (X := w.heap.size) (by simp) (by omega)
  have GW := Lib.hid (below_grownBy ((Below.refl _ w).alloc (Nat.le_refl _) _) G2.out)
  clear h1 g1 h2 g2 H1 T1 T2
  go_wp2_with fail
  refine bodyPost_ret (v := .agg #[.string x1, .int .i64 x2]) (by simp [results, Tryd.results53, go_sem, hc0]) rfl ⟨rfl, H2.out.belowB hR HBT.out ?_, grownBy_belowB GW.out ?_⟩
  all_goals
    repeat (refine Below.setCell ?_ (by simp; try omega) _)
    exact Below.refl _ _

set_option maxRecDepth 100000 in
theorem rEnd_any (R : Nat) (b : Option Addr) (d : Nat) (l : List Int) (p : Int) (w : World) (h : Rdr w R b d l (some p)) :
    Calls Tryd.prog 54 #[.pointer (some ⟨R, 0, none⟩)] w fun e w' => e = .returned (.bool (p == l.length)) ∧ Below w.heap.size w w' := by
  obtain ⟨q, er, hh, hp, he, _⟩ := h
  obtain rfl : q = p := by
    rcases he with ⟨hs, _⟩ | ⟨hs, _⟩
    · injection hs with hs; exact hs.symm
    · cases hs
  have c0 : w.cell? ⟨R, 0, none⟩ = some (.slice b l.length d) := cell_of_row w R 0 _ _ _ hh
  have c1 : w.cell? ⟨R, 1, none⟩ = some (.int .i64 q) := cell_of_row w R 1 _ _ _ hh
  clear hh he hp
  go_enter Tryd.func54, Tryd.ntmps54
  go_wp2_with fail
  go_quiet (fail)
  go_wp2_with fail
  go_ret
  exact ⟨rfl, below_drewN (Below.refl _ _) _⟩
end Go.Proofs.YtcegekkhlfpgfaaDoor
