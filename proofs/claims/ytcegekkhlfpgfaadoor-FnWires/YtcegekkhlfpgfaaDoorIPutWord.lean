/-
  The contract of impl.PutWord: it answers, in memory of its own, the word's length and its bytes; nothing where it is no word. For every text.
-/
import Derived.Test.YtcegekkhlfpgfaaDoorJoin2
import Derived.Test.YtcegekkhlfpgfaaDoorWord
import Derived.Laws.IdiomStrings
namespace Go.Proofs.YtcegekkhlfpgfaaDoor
open Go.RowKit
set_option linter.unusedSimpArgs false
set_option linter.unusedVariables false

def putW (s : ByteArray) : List Int := if wordB s.data.toList then putN s.size ++ strL s else []
theorem wordB_size {s : ByteArray} (h : wordB s.data.toList = true) : 1 ≤ s.size ∧ s.size ≤ 12 := by
  have h0 : ¬ ¬ (1 ≤ s.size ∧ s.size ≤ 12) := fun hn => by rw [wordB_len hn] at h; cases h
  exact Decidable.not_not.1 h0
theorem putW_len (s : ByteArray) : (putW s).length ≤ 15 := by
  unfold putW
  split
  · rename_i h
    have := wordB_size h
    have := putN_len s.size
    simp [strL_len]; omega
  · simp
theorem putW_by (s : ByteArray) : By (putW s) := by
  unfold putW; split
  · exact (putN_by _).app (strL_by s)
  · exact By.nil
theorem putN_size {n : Nat} (h : n ≤ 1000000) : putN (n : Int) = enc (fold (n : Int)) := by
  unfold putN; rw [isN_mk (by omega)]; rfl

set_option maxRecDepth 100000 in
set_option maxHeartbeats 800000 in
theorem implPutWord_any (s : ByteArray) (w : World) (hs : s.size ≤ maxLen) : Calls Tryd.prog 32 #[.string s] w (Made w 5 .u8 (putW s)) := by
  have C := Lib.hid (implWordOk_any s w hs)
  cases hb : wordB s.data.toList with
  | false =>
    rw [show putW s = [] by unfold putW; rw [hb]; rfl]
    have c := C.out; rw [hb] at c
    have C1 := Lib.hid c; clear c C hb
    go_enter Tryd.func32, Tryd.ntmps32
    go_wp2_with (go_at_call 71; refine C1.out.mono ?_; rintro e w' ⟨rfl, rfl⟩)
    go_ret
    exact ⟨none, 0, rfl, Own.none_, Below.refl _ _⟩
  | true =>
    have hsz := wordB_size hb
    rw [show putW s = putN s.size ++ strL s by unfold putW; rw [hb]; rfl, putN_size (by omega)]
    have c := C.out; rw [hb] at c
    have C1 := Lib.hid c; clear c C hb
    have hel := enc_len (fold (s.size : Int)) (by have := fold_le (x := (s.size : Int)) (by omega); omega)
    obtain ⟨p, hp⟩ : ∃ p, p = enc (fold (s.size : Int)) := ⟨_, rfl⟩
    have N : Hid (∀ w : World, Calls Tryd.prog 64 #[.pointer (some ⟨w.heap.size, 0, none⟩), .int .i64 s.size] (w.alloc (Obj.cells #[.slice none 0 0] 59)) (Added (w.alloc (Obj.cells #[.slice none 0 0] 59)) w.heap.size w.heap.size 59 5 p)) := by
      intro w
      have := addNum_any w.heap.size w.heap.size [] (s.size : Int) _ (by omega) (Wr.new w 59 5) (by simp) (by simp)
      rw [List.nil_append, ← hp] at this
      exact this
    rw [← hp] at hel ⊢
    clear hp
    go_enter Tryd.func32, Tryd.ntmps32
    go_wp2_with (go_at_call 71; refine C1.out.mono ?_; rintro e w' ⟨rfl, rfl⟩)
    refine (N.out w).mono ?_
    rintro e w1 ⟨rfl, hw1, hb1⟩
    have W1 := Lib.hid hw1; have B1 := Lib.hid hb1; clear hw1 hb1
    go_wp2_with fail
    refine (addText_any w.heap.size w.heap.size p s w1 W1.out (by have := B1.out.size; simp at this; omega) (by omega)).mono ?_
    rintro e w2 ⟨rfl, ⟨ao, c, hblk, _, ho⟩, hb2⟩
    have hc := cell_of_one hblk
    have HO := Lib.hid ho; have B2 := Lib.hid hb2; clear ho hb2 hblk
    go_wp2
    go_ret
    exact ⟨ao, c, ret_slice (by simp), HO.out, (below_after B1.out).trans B2.out⟩
end Go.Proofs.YtcegekkhlfpgfaaDoor
