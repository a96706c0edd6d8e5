/-
  Contracts of the helpers over slices of nodes: szNodeS, eqNodeS. For every slice of nodes.
-/
import Derived.Test.YtfpbhedophlnkaaDoorHE
import Derived.Deep.RegionWith
namespace Go.Proofs.YtfpbhedophlnkaaDoor
open Go.RowKit
set_option linter.unusedSimpArgs false
set_option linter.unusedVariables false

/-- How many letters and columns there are. -/
def tot (l : List Nd) : Nat := (l.map fun n => n.name.size + n.cols.length).sum
theorem tot_take {l : List Nd} {k : Nat} {n : Nd} (h : l[k]? = some n) : tot (l.take (k + 1)) = tot (l.take k) + (n.name.size + n.cols.length) := by
  have hk : k < l.length := by
    rcases Nat.lt_or_ge k l.length with h1 | h1
    · exact h1
    · rw [List.getElem?_eq_none h1] at h; cases h
  rw [List.take_succ_eq_append_getElem hk]
  have : l[k] = n := by rw [List.getElem?_eq_getElem hk] at h; injection h
  rw [this]; simp [tot]

/-- What szNodeS answers. -/
def SzPost (w : World) (l : List Nd) (left : Int) (e : Ending) (w' : World) : Prop :=
  ∃ r : Int, e = .returned (.int .i64 r) ∧ Below w.heap.size w w' ∧ (r = -1 ∨ (0 ≤ r ∧ r + l.length + tot l = left))

theorem szN_neg {n : Nd} {left : Int} (h : szN n left < 0) (h0 : 0 ≤ left) : szN n left = -1 := by
  unfold szN at h ⊢; split
  · rfl
  · rw [if_neg (by assumption)] at h
    split
    · rfl
    · rw [if_neg (by assumption)] at h; omega
theorem szN_pos {n : Nd} {left : Int} (h : 0 ≤ szN n left) : szN n left + (n.name.size + n.cols.length : Nat) = left := by
  unfold szN at h ⊢; split
  · rw [if_pos (by assumption)] at h; omega
  · rw [if_neg (by assumption)] at h
    split
    · rw [if_pos (by assumption)] at h; omega
    · omega

set_option maxHeartbeats 800000 in
theorem szNodeS_any (ao : Option Addr) (c : Nat) (l : List Nd) (left : Int) (w : World) (h : RdN w ao l) (hl : l.length ≤ maxLen) (h0 : 0 ≤ left) (h1 : left ≤ 1048576) :
    Calls Tryd.prog 11 #[.slice ao l.length c, .int .i64 left] w (SzPost w l left) := by
  have hl' := hl; unfold maxLen at hl'
  have H := Lib.hid h; clear h
  by_cases hlt : left < (l.length : Int)
  · have h2 : left - (l.length : Int) < 0 := by omega
    go_enter Tryd.func11, Tryd.ntmps11
    go_wp2_with fail
    go_ret
    exact ⟨-1, rfl, Below.refl _ _, .inl rfl⟩
  · have h2 : 0 ≤ left - (l.length : Int) := by omega
    have h3 : (l.length : Int) ≤ left := by omega
    clear hl' hl
    go_enter Tryd.func11, Tryd.ntmps11
    go_wp2_with fail
    go_loopw [1, 5] (fun r i wr => ∃ (k : Nat) (q : Int), k ≤ l.length ∧ i = .int .i64 k ∧ r = .int .i64 q ∧ 0 ≤ q ∧ q + l.length + tot (l.take k) = left ∧ Below w.heap.size w wr) (fun _ i _ => l.length - (intOf i).toNat)
    case atStart => exact ⟨0, _, Nat.zero_le _, rfl, rfl, by omega, by simp [tot], Below.refl _ _⟩
    case round =>
      obtain ⟨k, q, hk, rfl, rfl, hq0, hq, hb⟩ := hrel
      have HQ := Lib.hid hq; clear hq
      have hq1 : q ≤ 1048576 := by have := HQ.out; omega
      by_cases hlt2 : k < l.length
      · obtain ⟨b, off, n, a, c', rfl, hn, hat⟩ := (H.out.below hb).at_ hlt2
        have HN := Lib.hid hn; clear hn
        have HB := Lib.hid hb; clear hb
        obtain ⟨c0, c1, c2, c3, c4, c5, c6, rd, cap, mx, nm⟩ := hat
        have RD := Lib.hid rd; clear rd
        have cl : n.cols.length ≤ maxLen := Nat.le_trans cap mx
        have Z := Lib.hid (szNode_any n a c' q)
        clear cap mx
        go_wp2_with fail
        refine (Z.out _ hq0 hq1 cl nm).mono ?_
        rintro e w1 ⟨rfl, b1⟩
        have T1 := Lib.hid (below_step HB.out (Nat.le_refl _) b1)
        clear b1
        by_cases hs : szN n q < 0
        · have S := Lib.hid (szN_neg hs hq0)
          go_wp2_with fail
          go_ret
          exact ⟨-1, rfl, T1.out, .inl rfl⟩
        · have hs' : 0 ≤ szN n q := by omega
          have S := Lib.hid (szN_pos hs')
          clear hs
          generalize szN n q = q' at S hs' ⊢
          go_wp2_with fail
          go_roundw
          case rel => exact ⟨k + 1, q', by omega, by go_num, rfl, hs', by have := S.out; have := HQ.out; rw [tot_take HN.out]; omega, T1.out⟩
          case measure => simp [intOf]; omega
      · have e : k = l.length := by omega
        subst e
        have HB := Lib.hid hb; clear hb
        go_wp2_with fail
        go_ret
        exact ⟨q, rfl, HB.out, .inr ⟨hq0, by have := HQ.out; rwa [List.take_length] at this⟩⟩
end Go.Proofs.YtfpbhedophlnkaaDoor
