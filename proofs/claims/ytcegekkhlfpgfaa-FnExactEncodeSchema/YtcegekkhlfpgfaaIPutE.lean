/-
  Contracts of impl.flagOf, putEach, putFields and PutNode: the node's bytes in memory of the call's own; nothing where it is none. For every node.
-/
import Derived.Test.YtcegekkhlfpgfaaIBhd
import Derived.Test.YtcegekkhlfpgfaaINode
import Derived.Test.YtcegekkhlfpgfaaIPutWord
import Derived.Test.YtcegekkhlfpgfaaPutNums
import Derived.Deep.RegionHeld3
namespace Go.Proofs.Ytcegekkhlfpgfaa
open Go.RowKit
set_option linter.unusedSimpArgs false
set_option linter.unusedVariables false

theorem row_rdI (w : World) (t : TypeId) (l : List Int) : Rd (w.alloc (.cells (l.map (Value.int .i64)).toArray t)) .i64 (some ⟨w.heap.size, 0, none⟩) l := by
  refine .inr ⟨w.heap.size, 0, rfl, fun i hi => ?_⟩
  rw [Nat.zero_add, cell_of_row _ _ _ _ _ _ (heap_alloc_new w _)]
  simp [hi, List.getD_eq_getElem?_getD]
theorem Try.infoBs : (Try.prog.info? 26).map (fun i => (i.zero, i.size, i.bytes)) = some (some (.slice none 0 0), 1, 24) := by kernel_rfl
theorem map_flat (f : Int → List Int) (l : List Int) : (l.map f).flatten = l.flatMap f := by simp [List.flatMap]
theorem made_up {w w1 w2 : World} {e : TypeId} {k : IntKind} {l : List Int} {en : Ending} (hb : Below w.heap.size w w1) (h : Made w1 e k l en w2) : Made w e k l en w2 := by
  obtain ⟨ao, c, rfl, ho, hb2⟩ := h
  exact ⟨ao, c, rfl, ho.base_le hb.size, below_step hb (Nat.le_refl _) hb2⟩

def PeRel (w wr : World) (l : List Int) (v i : Value) : Prop :=
  ∃ (ao : Option Addr) (c j : Nat), v = .slice ao j c ∧ i = .int .i64 j ∧ j ≤ l.length ∧ OwnB wr w.heap.size ao c ((l.take j).map putN) ∧ Below w.heap.size w wr

theorem flagOf_any (b : Bool) (w : World) : Calls Try.prog 68 #[.bool b] w fun e w' => e = .returned (.int .i64 (flagI b)) ∧ w' = w := by
  cases b
  all_goals
    go_enter Try.func68, Try.ntmps68
    go_wp2
    go_ret
    exact ⟨rfl, rfl⟩

set_option maxRecDepth 100000 in
set_option maxHeartbeats 1600000 in
theorem putEach_any (b d n : Nat) (l : List Int) (w : World) (h : Rd w .i64 (some ⟨b, 0, none⟩) l) (hn : n = l.length) (hl : l.length ≤ 10) (hpos : 0 < l.length) :
    Calls Try.prog 67 #[.slice (some ⟨b, 0, none⟩) n d] w (Made w 5 .u8 (l.flatMap putN)) := by
  subst hn
  have H := Lib.hid h; clear h
  go_enter Try.func67, Try.ntmps67
  go_wp2_with fail
  go_loopw [3, 8] (fun v i wr => PeRel w wr l v i) (fun _ i _ => l.length - (intOf i).toNat)
  case atStart => exact ⟨none, 0, 0, rfl, rfl, Nat.zero_le _, by simpa using OwnB.none_, Below.refl _ _⟩
  case round =>
    obtain ⟨ao, c, j, rfl, rfl, hj, ho, hb⟩ := hrel
    have HO := Lib.hid ho; have HB := Lib.hid hb; clear ho hb
    by_cases hlt : j < l.length
    · obtain ⟨b', off', heq, hc⟩ : ∃ b' off', (some ⟨b, 0, none⟩ : Option Addr) = some ⟨b', off', none⟩ ∧ ∀ i, i < l.length → wr.cell? ⟨b', off' + i, none⟩ = some (.int .i64 (l.getD i 0)) := by
        rcases H.out.below HB.out with rfl | h'
        · simp at hlt
        · exact h'
      simp only [Option.some.injEq, Addr.mk.injEq, and_true] at heq
      obtain ⟨rfl, rfl⟩ := heq
      obtain ⟨z, _, _, hcz, ht⟩ := Rd.at_ hc hlt
      rw [Nat.zero_add] at hcz
      have HT := Lib.hid ht; clear ht hc
      obtain ⟨q, hq⟩ : ∃ q, q = putN z := ⟨_, rfl⟩
      have PZ : Hid (∀ w : World, Calls Try.prog 41 #[.int .i64 z] w (Made w 5 .u8 q)) := by rw [hq]; exact fun w => implPutNum_any _ w
      have HQ := Lib.hid hq; clear hq
      go_wp2_with fail
      refine (PZ.out _).mono ?_
      rintro e w2 ⟨a2, c2, rfl, o2, b2⟩
      obtain ⟨vs, hV, hvl, hvp⟩ := HO.out.below b2
      have hjv : j = vs.length := by rw [hvl]; simp; omega
      have O2 := Lib.hid (o2.base_le HB.out.size); have B2 := Lib.hid (below_step HB.out (Nat.le_refl _) b2)
      have HV := Lib.hid hV; have HVP := Lib.hid hvp; have HVL := Lib.hid hvl; have HJV := Lib.hid hjv
      have hv10 : vs.length ≤ 10 := by omega
      clear o2 b2 hV hvp hvl hjv
      go_wp2_with (at_builtin; go_must (refine wpList_appendV _ rfl (.tmp 12) (.tmp 15) 70 rfl w.heap.size 26 (.slice none 0 0) 24 Try.underlying70 Try.infoBs rfl ao c j vs rfl HJV.out (HV.out.alloc _) w2.heap.size 1 (.slice a2 q.length c2) rfl (cell_one _ _ _) rfl (by unfold maxLen; omega) (by omega) (by have := B2.out.size; simp; omega) ?_; intro ao' c6 w6 o6 g6 l6))
      have NEW := OwnB.push (HV.out.alloc (.cells #[.slice a2 q.length c2] 26)) HVL.out (fun i l' hi => by obtain ⟨x, y, h4, h5⟩ := HVP.out i l' hi; exact ⟨x, y, h4, h5.alloc _⟩) (O2.out.alloc _) o6 g6
      have hB' : Below w.heap.size w w6 := below_grow (B2.out.alloc B2.out.size _) (Nat.le_refl _) g6 (fun x hx => (HV.out.lt x hx).1)
      have e1 : (l.take j).map putN ++ [q] = (l.take (j + 1)).map putN := by rw [HT.out, HQ.out]; simp
      rw [e1] at NEW
      have NEW' := Lib.hid NEW; have HB' := Lib.hid hB'
      clear NEW hB' e1 o6 g6 l6
      go_roundw
      case rel => exact ⟨ao', c6, j + 1, by rw [HJV.out], by go_num, by omega, NEW'.out, HB'.out⟩
      case measure => simp [intOf]; omega
    · have e : (l.take j).map putN = l.map putN := by rw [List.take_of_length_le (by omega)]
      have HO' : Hid (OwnB wr w.heap.size ao c (l.map putN)) := by have := HO.out; rw [e] at this; exact this
      clear e HO
      have hfl := flat_len l
      have BH := Lib.hid (bhd_any ao c j (l.map putN) wr HO'.out.rd (by simp; omega) (by simp; omega) (by rw [map_flat]; omega))
      rw [map_flat] at BH
      obtain ⟨f, hf⟩ : ∃ f, f = l.flatMap putN := ⟨_, rfl⟩
      rw [← hf] at BH
      have HF := Lib.hid hf
      clear hf hfl
      go_wp2_with fail
      refine BH.out.mono ?_
      intro e w3 hm
      have HM := Lib.hid (made_up HB.out hm)
      clear hm
      obtain ⟨a3, c3, rfl, o3, b3⟩ := HM.out
      go_wp2_with fail
      go_ret
      rw [← HF.out]
      exact HM.out

theorem putEach_last (l : List Int) (W : World) (bn : Nat) (hbn : bn = W.heap.size) (hl : l.length ≤ 10) (hpos : 0 < l.length) :
    Calls Try.prog 67 #[.slice (some ⟨bn, 0, none⟩) l.length l.length] (W.alloc (.cells (l.map (Value.int .i64)).toArray 3)) (Made (W.alloc (.cells (l.map (Value.int .i64)).toArray 3)) 5 .u8 (l.flatMap putN)) := by
  subst hbn
  exact putEach_any W.heap.size l.length _ l _ (row_rdI W 3 l) rfl hl hpos
end Go.Proofs.Ytcegekkhlfpgfaa
