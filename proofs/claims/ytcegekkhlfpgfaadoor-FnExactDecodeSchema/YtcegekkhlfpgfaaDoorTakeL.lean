/-
  The contracts of spec.TakeNums, of the program's listAt and of impl.TakeNums. For every slice of bytes and every place.
-/
import Derived.Test.YtcegekkhlfpgfaaDoorITake
import Derived.Test.YtcegekkhlfpgfaaDoorPutNum
import Derived.Test.YtcegekkhlfpgfaaDoorWord
namespace Go.Proofs.YtcegekkhlfpgfaaDoor
open Go.RowKit
set_option linter.unusedSimpArgs false
set_option linter.unusedVariables false

/-- k numbers read from place p0 on, one behind the other, and the place behind them. -/
def rdN (l : List Int) (p0 : Int) : Nat → Option (List Int × Int)
  | 0 => some ([], p0)
  | k + 1 => match rdN l p0 k with
    | none => none
    | some (acc, p) => if (takeN l p).2 = -1 then none else some (acc ++ [(takeN l p).1], (takeN l p).2)
theorem rdN_yes {l : List Int} {p0 p x q : Int} {k : Nat} {acc : List Int} (h : rdN l p0 k = some (acc, p)) (ht : (x, q) = takeN l p) (hq : q ≠ -1) : rdN l p0 (k + 1) = some (acc ++ [x], q) := by
  rw [rdN, h]; simp only; rw [← ht]; simp only; rw [if_neg hq]
theorem rdN_no {l : List Int} {p0 p x q : Int} {k : Nat} {acc : List Int} (h : rdN l p0 k = some (acc, p)) (ht : (x, q) = takeN l p) (hq : q = -1) : rdN l p0 (k + 1) = none := by
  rw [rdN, h]; simp only; rw [← ht]; simp only; rw [if_pos hq]
theorem rdN_stays {l : List Int} {p0 : Int} {k : Nat} (h : rdN l p0 k = none) : ∀ m, k ≤ m → rdN l p0 m = none := by
  intro m hm
  induction m with
  | zero => obtain rfl : k = 0 := by omega
            exact h
  | succ m ih =>
    by_cases e : k = m + 1
    · rw [← e]; exact h
    · rw [rdN, ih (by omega)]
def takeNs (l : List Int) (at_ : Int) : List Int × Int :=
  if (takeN l at_).2 < 0 ∨ (takeN l at_).1 < 0 ∨ 300 < (takeN l at_).1 then ([], -1) else (rdN l (takeN l at_).2 (takeN l at_).1.toNat).getD ([], -1)
theorem rdN_bd {l : List Int} (hl : By l) {p0 : Int} (h0 : 0 ≤ p0) (h1 : p0 ≤ l.length) : ∀ (k : Nat) (acc : List Int) (p : Int), rdN l p0 k = some (acc, p) → acc.length = k ∧ 0 ≤ p ∧ p ≤ l.length := by
  intro k
  induction k with
  | zero =>
    intro acc p h
    rw [rdN] at h
    simp at h
    obtain ⟨rfl, rfl⟩ := h
    exact ⟨rfl, h0, h1⟩
  | succ k ih =>
    intro acc p h
    rw [rdN] at h
    rcases hk : rdN l p0 k with _ | ⟨acc', p'⟩
    · rw [hk] at h; cases h
    · rw [hk] at h
      simp only at h
      by_cases ht : (takeN l p').2 = -1
      · rw [if_pos ht] at h; cases h
      · rw [if_neg ht] at h
        simp at h
        obtain ⟨rfl, rfl⟩ := h
        have := ih acc' p' hk
        have bd := takeN_bd hl p'
        refine ⟨by simp; exact this.1, by omega, by omega⟩
/-- As 'Made', beside a place. -/
def TookL (r : List Int × Int) (w : World) (e : Ending) (w' : World) : Prop :=
  ∃ ao c, e = .returned (.tuple #[.slice ao r.1.length c, .int .i64 r.2]) ∧ Own w' w.heap.size 3 .i64 ao c r.1 ∧ Below w.heap.size w w'
theorem tookL_no {r : List Int × Int} {w w' : World} (h : r = ([], -1)) (hb : Below w.heap.size w w') : TookL r w (.returned (.tuple #[.slice none 0 0, .int .i64 (-1)])) w' := by
  rw [h]; exact ⟨none, 0, rfl, Own.none_, hb⟩
theorem tookL_yes {r : List Int × Int} {w w' : World} {acc : List Int} {p : Int} {ao : Option Addr} {c n : Nat} (h : r = (acc, p)) (hn : n = acc.length) (ho : Own w' w.heap.size 3 .i64 ao c acc) (hb : Below w.heap.size w w') : TookL r w (.returned (.tuple #[.slice ao n c, .int .i64 p])) w' := by
  rw [h, hn]; exact ⟨ao, c, rfl, ho, hb⟩

def SnRel (w wr : World) (l : List Int) (p0 : Int) (m : Nat) (nx v i : Value) : Prop :=
  ∃ (k : Nat) (acc : List Int) (p : Int) (ao : Option Addr) (c n : Nat), nx = .int .i64 p ∧ v = .slice ao n c ∧ i = .int .i64 k ∧ n = acc.length ∧ k ≤ m ∧ rdN l p0 k = some (acc, p) ∧ Own wr w.heap.size 3 .i64 ao c acc ∧ Below w.heap.size w wr

set_option maxRecDepth 100000 in
set_option maxHeartbeats 1600000 in
theorem specTakeNums_any (b : Option Addr) (d : Nat) (l : List Int) (at_ : Int) (w : World) (h : Rd w .u8 b l) (hby : By l) (hl : l.length ≤ maxLen) (ha : at_ ≤ 9223372036854775807) :
    Calls Tryd.prog 42 #[.slice b l.length d, .int .i64 at_] w (TookL (takeNs l at_) w) := by
  have C := Lib.hid (specTakeNum_any b d l at_ w h hby hl ha)
  have CA : Hid (∀ (p : Int) (w : World), Rd w .u8 b l → p ≤ 9223372036854775807 → Calls Tryd.prog 49 #[.slice b l.length d, .int .i64 p] w (Took (takeN l p) w)) := fun p w h hp => specTakeNum_any b d l p w h hby hl hp
  have bd := takeN_bd hby at_
  have HBY := Lib.hid hby; have H := Lib.hid h
  obtain ⟨r, hr⟩ : ∃ r, r = takeNs l at_ := ⟨_, rfl⟩
  rw [← hr]
  unfold takeNs at hr
  obtain ⟨⟨n, nx⟩, hnx⟩ : ∃ x, x = takeN l at_ := ⟨_, rfl⟩
  rw [← hnx] at C bd hr
  simp only at hr bd
  have HR := Lib.hid hr; clear hr hnx ha hby h
  unfold maxLen at hl
  by_cases h0 : nx < 0
  · have e : r = ([], -1) := by rw [HR.out, if_pos (.inl h0)]
    have HE := Lib.hid e; clear e
    have hb0 : decide (nx < 0) = true := by simpa using h0
    go_enter Tryd.func42, Tryd.ntmps42
    go_wp2_with (go_at_call 49; refine C.out.mono ?_; rintro e w' ⟨rfl, rfl⟩)
    go_ret2
    exact tookL_no HE.out (Below.refl _ _)
  have hb0 : decide (nx < 0) = false := by simpa using h0
  by_cases h1 : 0 ≤ n ∧ n ≤ 300
  · obtain ⟨m, rfl⟩ : ∃ m : Nat, n = m := ⟨n.toNat, by omega⟩
    have e : r = (rdN l nx m).getD ([], -1) := by rw [HR.out, if_neg (by omega), Int.toNat_natCast]
    have HE := Lib.hid e; clear e
    have hin : (decide ((0 : Int) ≤ m) && decide ((m : Int) ≤ 300)) = true := by simp; omega
    have HIN := Lib.hid hin; clear hin
    have hst : Own (w.alloc (Obj.cells #[] 3)) w.heap.size 3 .i64 (some ⟨w.heap.size, 0, none⟩) 0 [] := World.ownsRow_lit w #[] 0 (Nat.le_refl _) (Nat.zero_le _) rfl
    have HST := Lib.hid hst; clear hst
    have hnl : nx ≤ l.length := by omega
    have hn0 : 0 ≤ nx := by omega
    clear bd
    go_enter Tryd.func42, Tryd.ntmps42
    go_wp2_with (first | (go_at_call 49; refine C.out.mono ?_; rintro e w' ⟨rfl, rfl⟩) | (go_at_call 50; refine (l01In_any _ _ _ _).mono ?_; rintro e w' ⟨rfl, rfl⟩; rw [HIN.out]))
    go_loopw [7, 8, 9] (fun nx' v i wr => SnRel w wr l nx m nx' v i) (fun _ _ i _ => m - (intOf i).toNat)
    case atStart => exact ⟨0, [], nx, _, _, _, rfl, rfl, rfl, rfl, Nat.zero_le _, rfl, HST.out, (Below.refl _ _).alloc (Nat.le_refl _) _⟩
    case round =>
      obtain ⟨k, acc, p, ao, c, n', rfl, rfl, rfl, hn', hk, hrd, ho, hb⟩ := hrel
      have hbd := rdN_bd HBY.out hn0 hnl k acc p hrd
      have hacc : acc.length ≤ 300 := by omega
      have hp0 : 0 ≤ p := hbd.2.1
      have hp1 : p ≤ l.length := hbd.2.2
      have HNN := Lib.hid hn'; have HRD := Lib.hid hrd; have HO := Lib.hid ho; have HB := Lib.hid hb; have HLEN := Lib.hid hbd.1; clear hn' hrd ho hb hbd
      by_cases hlt : k < m
      · have CP := CA.out p wr (H.out.below HB.out) (by omega)
        have bd := takeN_bd HBY.out p
        obtain ⟨⟨x, q⟩, hxq⟩ : ∃ x, x = takeN l p := ⟨_, rfl⟩
        rw [← hxq] at CP bd
        simp only at bd
        have HXQ := Lib.hid hxq; have CP1 := Lib.hid CP; clear hxq CP
        by_cases hq : q < 0
        · have HN : Hid (r = ([], -1)) := by
            show r = _
            rw [HE.out, rdN_stays (rdN_no HRD.out HXQ.out (by omega)) m (by omega)]; rfl
          have hqb : decide (q < 0) = true := by simpa using hq
          clear bd
          go_wp2_with (go_at_call 49; refine CP1.out.mono ?_; rintro e w' ⟨rfl, rfl⟩)
          go_ret2
          exact tookL_no HN.out HB.out
        · have hqb : decide (q < 0) = false := by simpa using hq
          have R1 := Lib.hid (rdN_yes HRD.out HXQ.out (by omega))
          clear bd
          go_wp2_with (first | (go_at_call 49; refine CP1.out.mono ?_; rintro e w' ⟨rfl, rfl⟩) | (at_builtin; refine wpList_append1 _ rfl (.tmp 39) (.tmp 41) 23 rfl w.heap.size 3 .i64 8 Tryd.underlying23 Tryd.infoI64 ao c n' acc rfl HNN.out (HO.out.alloc _) wr.heap.size 1 x rfl (cell_one _ _ _) (by unfold maxLen; omega) (by omega) (base_le HB.out) ?_; intro ao' c' w1 ho' hg'; have HO' := Lib.hid ho'; have HG' := Lib.hid hg'; clear ho' hg'))
          go_roundw
          case rel => exact ⟨k + 1, acc ++ [x], q, ao', c', _, rfl, rfl, by go_num, by simp, by omega, R1.out, HO'.out, below_app1 HB.out HO.out HG'.out⟩
          case measure => simp [intOf]; omega
      · have e : r = (acc, p) := by
          rw [HE.out, show m = k by omega, HRD.out]; rfl
        have HN := Lib.hid e; clear e
        go_wp2
        go_ret2
        exact tookL_yes HN.out HNN.out HO.out HB.out
  · have e : r = ([], -1) := by rw [HR.out, if_pos (by omega)]
    have HE := Lib.hid e; clear e
    have hin : (decide (0 ≤ n) && decide (n ≤ 300)) = false := by simp; omega
    have HIN := Lib.hid hin; clear hin
    go_enter Tryd.func42, Tryd.ntmps42
    go_wp2_with (first | (go_at_call 49; refine C.out.mono ?_; rintro e w' ⟨rfl, rfl⟩) | (go_at_call 50; refine (l01In_any _ _ _ _).mono ?_; rintro e w' ⟨rfl, rfl⟩; rw [HIN.out]))
    go_ret2
    exact tookL_no HE.out (Below.refl _ _)
end Go.Proofs.YtcegekkhlfpgfaaDoor
