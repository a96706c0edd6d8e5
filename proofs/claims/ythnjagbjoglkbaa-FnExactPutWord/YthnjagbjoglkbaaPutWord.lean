/-
  The contracts of spec.PutWord and impl.PutWord: both answer, in memory of their own, the word's length and its bytes; nothing where it is no word. For every text.
-/
import Derived.Test.YthnjagbjoglkbaaJoin2
import Derived.Test.YthnjagbjoglkbaaWord
import Derived.Laws.IdiomStrings
namespace Go.Proofs.Ythnjagbjoglkbaa
open Go.RowKit

def putW (s : ByteArray) : List Int := if wordB s.data.toList then putN s.size ++ strL s else []
theorem wordB_size {s : ByteArray} (h : wordB s.data.toList = true) : 1 ≤ s.size ∧ s.size ≤ 12 := by
  have h0 : ¬ ¬ (1 ≤ s.size ∧ s.size ≤ 12) := fun hn => by rw [wordB_len hn] at h; cases h
  exact Decidable.not_not.1 h0
theorem putW_len (s : ByteArray) : (putW s).length ≤ 15 := by
  unfold putW
  split
  · rename_i h
    have := wordB_size h
    have := putN_len s.size
    simp [strL_len]; omega
  · simp
theorem putW_by (s : ByteArray) : By (putW s) := by
  unfold putW; split
  · exact (putN_by _).app (strL_by s)
  · exact By.nil
theorem putN_size {n : Nat} (h : n ≤ 1000000) : putN (n : Int) = enc (fold (n : Int)) := by
  unfold putN; rw [isN_mk (by omega)]; rfl

/-- The row that '[]byte(s)' lays. -/
theorem rd_bytesRow (w : World) (s : ByteArray) (cap : Nat) (e : TypeId) (m : Nat × Nat) : Rd (w.alloc (.cells (bytesRow s cap) e m)) .u8 (some ⟨w.heap.size, 0, none⟩) (strL s) := by
  refine .inr ⟨w.heap.size, 0, rfl, fun i hi => ?_⟩
  rw [strL_len] at hi
  have hh : (w.alloc (.cells (bytesRow s cap) e m)).heap[w.heap.size]? = some (.cells (bytesRow s cap) e m) := heap_alloc_new w _
  rw [Nat.zero_add, cell_of_row _ _ _ _ _ _ hh, bytesRow_at s cap i hi]
  simp [strL, List.getD_eq_getElem?_getD]
  rw [Array.getElem?_eq_getElem (by simpa using hi)]
  rfl

set_option maxRecDepth 100000 in
set_option maxHeartbeats 800000 in
theorem specPutWord_any (s : ByteArray) (w : World) (hs : s.size ≤ maxLen) : Calls Try.prog 16 #[.string s] w (Made w 5 .u8 (putW s)) := by
  have C := Lib.hid (specWordOk_any s w hs)
  cases hb : wordB s.data.toList with
  | false =>
    rw [show putW s = [] by unfold putW; rw [hb]; rfl]
    have c := C.out; rw [hb] at c
    have C1 := Lib.hid c; clear c C hb
    go_enter Try.func16, Try.ntmps16
    go_wp2_with (go_at_call 9; refine C1.out.mono ?_; rintro e w' ⟨rfl, rfl⟩)
    go_ret
    exact ⟨none, 0, rfl, Own.none_, Below.refl _ _⟩
  | true =>
    have hsz := wordB_size hb
    rw [show putW s = putN s.size ++ strL s by unfold putW; rw [hb]; rfl]
    have c := C.out; rw [hb] at c
    have C1 := Lib.hid c; clear c C hb
    have hcv := fun w s => run_bytes_of_string (P := Try.prog) w 9 23 5 s Try.underlying9 Try.underlying23 Try.underlying5
    obtain ⟨p, hp⟩ : ∃ p, p = putN (s.size : Int) := ⟨_, rfl⟩
    have hpl : p.length ≤ 3 := by rw [hp]; exact putN_len _
    have P1 : Hid (∀ w : World, Calls Try.prog 11 #[.int .i64 s.size] w (Made w 5 .u8 p)) := by rw [hp]; exact fun w => specPutNum_any _ w
    rw [← hp]
    have J : Hid (∀ (a0 b : Option Addr) (d0 d : Nat) (w : World), Rd w .u8 a0 p → Rd w .u8 b (strL s) → Calls Try.prog 34 #[.slice a0 p.length d0, .slice b s.size d] w (Made w 5 .u8 (p ++ strL s))) := by
      intro a0 b d0 d w h0 h1
      have := l01Join_any a0 b d0 d p (strL s) w h0 h1 (by rw [strL_len]; omega)
      rwa [strL_len] at this
    clear hp
    go_enter Try.func16, Try.ntmps16
    go_wp2_with (go_at_call 9; refine C1.out.mono ?_; rintro e w' ⟨rfl, rfl⟩)
    refine (P1.out _).mono ?_
    rintro e w1 ⟨a1, c1, rfl, o1, b1⟩
    have O1 := Lib.hid o1; have B1 := Lib.hid b1; clear o1 b1
    go_wp2_with fail
    refine (J.out _ _ _ _ _ ?_ ?_).mono ?_
    · exact (O1.out.below ((Below.refl _ _).alloc (Nat.le_refl _) _)).rd
    · exact rd_bytesRow w1 s _ _ _
    rintro e w2 ⟨a2, c2, rfl, o2, b2⟩
    have O2 := Lib.hid o2; have B2 := Lib.hid b2; clear o2 b2 hcv
    go_wp2
    go_ret
    have b3 : Below w1.heap.size w1 w2 := by
      have hb2 := B2.out
      exact ((Below.refl _ _).alloc (Nat.le_refl _) _).drew.trans (hb2.mono (by simp))
    refine ⟨a2, c2, ret_slice (by simp), O2.out.base_le ?_, below_step B1.out (Nat.le_refl _) b3⟩
    have := B1.out.size
    simp; omega

set_option maxRecDepth 100000 in
set_option maxHeartbeats 800000 in
theorem implPutWord_any (s : ByteArray) (w : World) (hs : s.size ≤ maxLen) : Calls Try.prog 17 #[.string s] w (Made w 5 .u8 (putW s)) := by
  have C := Lib.hid (implWordOk_any s w hs)
  cases hb : wordB s.data.toList with
  | false =>
    rw [show putW s = [] by unfold putW; rw [hb]; rfl]
    have c := C.out; rw [hb] at c
    have C1 := Lib.hid c; clear c C hb
    go_enter Try.func17, Try.ntmps17
    go_wp2_with (go_at_call 10; refine C1.out.mono ?_; rintro e w' ⟨rfl, rfl⟩)
    go_ret
    exact ⟨none, 0, rfl, Own.none_, Below.refl _ _⟩
  | true =>
    have hsz := wordB_size hb
    rw [show putW s = putN s.size ++ strL s by unfold putW; rw [hb]; rfl, putN_size (by omega)]
    have c := C.out; rw [hb] at c
    have C1 := Lib.hid c; clear c C hb
    have hel := enc_len (fold (s.size : Int)) (by have := fold_le (x := (s.size : Int)) (by omega); omega)
    obtain ⟨p, hp⟩ : ∃ p, p = enc (fold (s.size : Int)) := ⟨_, rfl⟩
    have N : Hid (∀ w : World, Calls Try.prog 33 #[.pointer (some ⟨w.heap.size, 0, none⟩), .int .i64 s.size] (w.alloc (Obj.cells #[.slice none 0 0] 42)) (Added (w.alloc (Obj.cells #[.slice none 0 0] 42)) w.heap.size w.heap.size 42 5 p)) := by
      intro w
      have := addNum_any w.heap.size w.heap.size [] (s.size : Int) _ (by omega) (Wr.new w 42 5) (by simp) (by simp)
      rw [List.nil_append, ← hp] at this
      exact this
    rw [← hp] at hel ⊢
    clear hp
    go_enter Try.func17, Try.ntmps17
    go_wp2_with (go_at_call 10; refine C1.out.mono ?_; rintro e w' ⟨rfl, rfl⟩)
    refine (N.out w).mono ?_
    rintro e w1 ⟨rfl, hw1, hb1⟩
    have W1 := Lib.hid hw1; have B1 := Lib.hid hb1; clear hw1 hb1
    go_wp2_with fail
    refine (addText_any w.heap.size w.heap.size p s w1 W1.out (by have := B1.out.size; simp at this; omega) (by omega)).mono ?_
    rintro e w2 ⟨rfl, ⟨ao, c, hblk, _, ho⟩, hb2⟩
    have hc := cell_of_one hblk
    have HO := Lib.hid ho; have B2 := Lib.hid hb2; clear ho hb2 hblk
    go_wp2
    go_ret
    exact ⟨ao, c, ret_slice (by simp), HO.out, (below_after B1.out).trans B2.out⟩
end Go.Proofs.Ythnjagbjoglkbaa
