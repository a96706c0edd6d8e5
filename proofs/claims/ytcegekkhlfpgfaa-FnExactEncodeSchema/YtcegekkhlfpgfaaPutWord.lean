/-
  The contract of spec.PutWord: it answers, in memory of its own, the word's length and its bytes; nothing where it is no word. For every text.
-/
import Derived.Test.YtcegekkhlfpgfaaIPutWord
import Derived.Laws.IdiomStrings
namespace Go.Proofs.Ytcegekkhlfpgfaa
open Go.RowKit
set_option linter.unusedSimpArgs false
set_option linter.unusedVariables false

/-- The row that '[]byte(s)' lays. -/
theorem rd_bytesRow (w : World) (s : ByteArray) (cap : Nat) (e : TypeId) (m : Nat × Nat) : Rd (w.alloc (.cells (bytesRow s cap) e m)) .u8 (some ⟨w.heap.size, 0, none⟩) (strL s) := by
  refine .inr ⟨w.heap.size, 0, rfl, fun i hi => ?_⟩
  rw [strL_len] at hi
  have hh : (w.alloc (.cells (bytesRow s cap) e m)).heap[w.heap.size]? = some (.cells (bytesRow s cap) e m) := heap_alloc_new w _
  rw [Nat.zero_add, cell_of_row _ _ _ _ _ _ hh, bytesRow_at s cap i hi]
  simp [strL, List.getD_eq_getElem?_getD]
  rw [Array.getElem?_eq_getElem (by simpa using hi)]
  rfl

set_option maxRecDepth 100000 in
set_option maxHeartbeats 800000 in
theorem specPutWord_any (s : ByteArray) (w : World) (hs : s.size ≤ maxLen) : Calls Try.prog 34 #[.string s] w (Made w 5 .u8 (putW s)) := by
  have C := Lib.hid (specWordOk_any s w hs)
  cases hb : wordB s.data.toList with
  | false =>
    rw [show putW s = [] by unfold putW; rw [hb]; rfl]
    have c := C.out; rw [hb] at c
    have C1 := Lib.hid c; clear c C hb
    go_enter Try.func34, Try.ntmps34
    go_wp2_with (go_at_call 60; refine C1.out.mono ?_; rintro e w' ⟨rfl, rfl⟩)
    go_ret
    exact ⟨none, 0, rfl, Own.none_, Below.refl _ _⟩
  | true =>
    have hsz := wordB_size hb
    rw [show putW s = putN s.size ++ strL s by unfold putW; rw [hb]; rfl]
    have c := C.out; rw [hb] at c
    have C1 := Lib.hid c; clear c C hb
    have hcv := fun w s => run_bytes_of_string (P := Try.prog) w 9 26 5 s Try.underlying9 Try.underlying26 Try.underlying5
    obtain ⟨p, hp⟩ : ∃ p, p = putN (s.size : Int) := ⟨_, rfl⟩
    have hpl : p.length ≤ 3 := by rw [hp]; exact putN_len _
    have P1 : Hid (∀ w : World, Calls Try.prog 32 #[.int .i64 s.size] w (Made w 5 .u8 p)) := by rw [hp]; exact fun w => specPutNum_any _ w
    rw [← hp]
    have J : Hid (∀ (a0 b : Option Addr) (d0 d : Nat) (w : World), Rd w .u8 a0 p → Rd w .u8 b (strL s) → Calls Try.prog 33 #[.slice a0 p.length d0, .slice b s.size d] w (Made w 5 .u8 (p ++ strL s))) := by
      intro a0 b d0 d w h0 h1
      have := l01Join_any a0 b d0 d p (strL s) w h0 h1 (by rw [strL_len]; omega)
      rwa [strL_len] at this
    clear hp
    go_enter Try.func34, Try.ntmps34
    go_wp2_with (go_at_call 60; refine C1.out.mono ?_; rintro e w' ⟨rfl, rfl⟩)
    refine (P1.out _).mono ?_
    rintro e w1 ⟨a1, c1, rfl, o1, b1⟩
    have O1 := Lib.hid o1; have B1 := Lib.hid b1; clear o1 b1
    go_wp2_with fail
    refine (J.out _ _ _ _ _ ?_ ?_).mono ?_
    · exact (O1.out.below ((Below.refl _ _).alloc (Nat.le_refl _) _)).rd
    · exact rd_bytesRow w1 s _ _ _
    rintro e w2 ⟨a2, c2, rfl, o2, b2⟩
    have O2 := Lib.hid o2; have B2 := Lib.hid b2; clear o2 b2 hcv
    go_wp2
    go_ret
    have b3 : Below w1.heap.size w1 w2 := by
      have hb2 := B2.out
      exact ((Below.refl _ _).alloc (Nat.le_refl _) _).drew.trans (hb2.mono (by simp))
    refine ⟨a2, c2, ret_slice (by simp), O2.out.base_le ?_, below_step B1.out (Nat.le_refl _) b3⟩
    have := B1.out.size
    simp; omega

end Go.Proofs.Ytcegekkhlfpgfaa
