/-
  Contracts of impl.wordsIn and impl.WordsOf: a range over a text, rune by rune. For every text.
-/
import Derived.Test.YtfpbhedophlnkaaSWords
import Derived.Test.YtfpbhedophlnkaaRuneP
import Derived.Lib.OthersKept
import Derived.LoopTactic
namespace Go.Proofs.Ytfpbhedophlnkaa
open Go.RowKit
set_option linter.unusedSimpArgs false
set_option linter.unusedVariables false

/-- A slice of texts of the call's own is not where an iterator lies. -/
theorem ownS_iter {w : World} {base K p : Nat} {s : ByteArray} {ao : Option Addr} {c : Nat} {l : List ByteArray} (h : OwnS w base ao c l) (hk : w.heap[K]? = some (.stringIter s p)) : ∀ a, ao = some a → a.block ≠ K := by
  intro a ha hK
  rcases h.2 with ⟨hv, _⟩ | ⟨g, cap, cur, hv, _, hg, _⟩
  · simp only [Value.slice.injEq] at hv; rw [hv.1] at ha; cases ha
  · simp only [Value.slice.injEq] at hv
    rw [ha] at hv
    have hb : a.block = g := by have := hv.1; simp only [Option.some.injEq] at this; rw [this]
    rw [← hb, hK, hk] at hg
    cases hg
theorem ownS_iterAt {w : World} {base K p : Nat} {s : ByteArray} {ao : Option Addr} {c : Nat} {l : List ByteArray} (h : OwnS w base ao c l) (hk : w.heap[K]? = some (.stringIter s p)) (p' : Nat) : OwnS (w.iterAt K s p') base ao c l :=
  h.keep fun a ha _ => Lib.iterAt_other w K a.block s p' (ownS_iter h hk a ha)
theorem iter_grown {w w' : World} {base K p : Nat} {s : ByteArray} {ao : Option Addr} {c : Nat} {l : List ByteArray} {o : Obj} (h : OwnS w base ao c l) (hk : w.heap[K]? = some (.stringIter s p)) (hg : (w.alloc o).grownBy w' (ao.map (·.block))) : w'.heap[K]? = some (.stringIter s p) := by
  have hlt : K < w.heap.size := (Array.getElem?_eq_some_iff.1 hk).1
  rw [hg.block K (by simp; omega) (by
    cases ao with
    | none => simp
    | some a => simp; exact fun e => ownS_iter h hk a rfl e.symm)]
  exact ((World.grownBy_alloc w o none).block K hlt (by simp)).trans hk
theorem cell_one_z {w : World} {y : ByteArray} {t : TypeId} {b : Nat} (hb : b = w.heap.size) : ∀ i, i < [y].length → (w.alloc (.cells #[.string y] t)).cell? ⟨b, i, none⟩ = some (.string ([y].getD i ByteArray.empty)) := by
  subst hb; exact cell_one_x w y t
theorem wr_next {s : ByteArray} {pos wd fr : Nat} (h1 : pos + wd ≤ s.size) (hf : fr ≤ pos) (hw : (wrun (s.data.toList.take pos)).2 = (s.data.toList.drop fr).take (pos - fr))
    (h : ∀ i, pos ≤ i → i < pos + wd → ∀ d, s.data.toList[i]? = some d → blankB d = false) :
    (wrun (s.data.toList.take (pos + wd))).1 = (wrun (s.data.toList.take pos)).1 ∧ (wrun (s.data.toList.take (pos + wd))).2 = (s.data.toList.drop fr).take (pos + wd - fr) := by
  rw [wrun_others (j := pos) (k := pos + wd) (by omega) h]
  refine ⟨rfl, ?_⟩
  simp only
  rw [hw, show pos + wd - fr = (pos - fr) + (pos + wd - pos) by omega, List.take_add, List.drop_drop, show fr + (pos - fr) = pos by omega]

def WiRel (w : World) (s : ByteArray) (wr : World) (o f : Value) : Prop :=
  ∃ (pos fr n cc : Nat) (ao : Option Addr) (acc : List ByteArray), o = .slice ao n cc ∧ f = .int .i64 fr ∧ n = acc.length ∧ OwnS wr w.heap.size ao cc acc ∧ Below w.heap.size w wr ∧ acc.length ≤ 2000 ∧
    wr.heap[w.heap.size]? = some (.stringIter s pos) ∧ (fr ≤ pos ∧ pos ≤ s.size) ∧ acc = (wrun (s.data.toList.take pos)).1.map mkBs ∧ (wrun (s.data.toList.take pos)).2 = (s.data.toList.drop fr).take (pos - fr)

set_option maxRecDepth 100000 in
set_option maxHeartbeats 3200000 in
theorem wordsIn_any (s : ByteArray) (w : World) (hs : s.size ≤ 2000) :
    Calls Try.prog 9 #[.string s] w (MadeS w ((wordsL s.data.toList).map mkBs)) := by
  have P0 := Lib.hid (show WiRel w s (w.iter s 0) (.slice none 0 0) (.int .i64 0) from
    ⟨0, 0, 0, 0, none, [], rfl, rfl, rfl, OwnS.none_, (Below.refl _ w).alloc (Nat.le_refl _) _, by simp, World.iter_heap w s 0, ⟨Nat.le_refl _, Nat.zero_le _⟩, by simp [wrun], by simp [wrun]⟩)
  go_enter Try.func9, Try.ntmps9
  go_wp2_with fail
  go_loopw [3, 4] (fun o f wr => WiRel w s wr o f) (fun _ _ wr => s.size - wr.iterPos w.heap.size)
  case atStart => exact P0.out
  case round =>
    clear P0
    obtain ⟨pos, fr, n, cc, ao, acc, rfl, rfl, hn, ho, hb, hal, hk, ⟨hf, hp⟩, ha, hw⟩ := hrel
    have HN := Lib.hid hn; have HO := Lib.hid ho; have HB := Lib.hid hb; have HK := Lib.hid hk; have HA := Lib.hid ha; have HW := Lib.hid hw
    have hzb := hb.size
    have ip : wr.iterPos w.heap.size = pos := by simp [World.iterPos, hk]
    have IP := Lib.hid ip
    clear hn ho hb ha hw ip
    by_cases hlt : pos < s.size
    · have hx : s.data.toList[pos]? = some s[pos] := by rw [Array.getElem?_toList, Array.getElem?_eq_getElem (show pos < s.data.size from hlt)]; rfl
      obtain ⟨d1, d2, d3⟩ := dec_rune s pos s[pos] hx
      have dl := decode_le s pos
      have hnx : ∀ ty, (Instr.next (.pointer (some ⟨w.heap.size, 0, none⟩)) true ty).run Try.prog wr = _ := fun ty => Lib.run_next_any_at wr w.heap.size s pos ty hk hlt
      have OI := Lib.hid (ownS_iterAt HO.out hk (pos + (Utf8.decode s pos).2))
      have KI := Lib.hid (Lib.iterAt_heap wr w.heap.size s pos (pos + (Utf8.decode s pos).2) hk)
      have BI := Lib.hid (Lib.below_iterAt HB.out (Nat.le_refl _) s (pos + (Utf8.decode s pos).2))
      have zI := Lib.iterAt_size wr w.heap.size s (pos + (Utf8.decode s pos).2)
      have ipn : (wr.iterAt w.heap.size s (pos + (Utf8.decode s pos).2)).iterPos w.heap.size = pos + (Utf8.decode s pos).2 := by simp [World.iterPos, KI.out]
      have IPN := Lib.hid ipn
      have WT := Lib.hid (fun c (h : s.data.toList[pos]? = some c) => wrun_take h)
      have WN := Lib.hid (fun h => wr_next (wd := (Utf8.decode s pos).2) d2 hf HW.out h)
      have hal2 : ((wrun (s.data.toList.take (pos + 1))).1.map mkBs).length ≤ 2000 := (wrun_acc hs (pos + 1)).1
      have hal3 : ((wrun (s.data.toList.take (pos + (Utf8.decode s pos).2))).1.map mkBs).length ≤ 2000 := (wrun_acc hs _).1
      clear hk ipn
      generalize wr.iterAt w.heap.size s (pos + (Utf8.decode s pos).2) = wi at hnx OI KI BI zI IPN
      generalize hdec : Utf8.decode s pos = dec at hnx d1 d2 d3 dl KI IPN WN hal3
      obtain ⟨rn, wd⟩ := dec
      simp only at hnx d1 d2 d3 dl KI IPN WN hal3
      have HX := Lib.hid hx
      generalize s[pos] = ch at d3 HX
      clear hx hdec
      by_cases hbk : rn = 32 ∨ rn = 10
      · obtain ⟨hc, rfl, rfl⟩ : ch.toNat < 128 ∧ rn = ch.toNat ∧ wd = 1 := by
          rcases d3 with ⟨h1, h2⟩ | ⟨_, h2, _⟩
          · injection h2 with h2 h3; exact ⟨h1, h2, h3⟩
          · omega
        have hb1 : blankB ch = true := blank_of hbk
        have WS := Lib.hid ((WT.out ch HX.out).trans (wstep_blank hb1))
        have W1 := Lib.hid (congrArg Prod.fst WS.out); have W2 := Lib.hid (congrArg Prod.snd WS.out)
        simp only at W1 W2
        clear d3 WS WT WN hal3
        by_cases hfp : fr < pos
        · have FE := Lib.hid (show (wrun (s.data.toList.take (pos + 1))).1.map mkBs = acc ++ [s.extract fr pos] by
            rw [W1.out]; unfold wfin
            rw [HW.out, if_neg (by intro h; have := congrArg List.length h; simp [size_listW] at this; omega), List.map_append, ← HA.out, List.map_cons, List.map_nil, ext_mkW])
          rw [FE.out] at hal2
          have i1 : (fr : Int) < (pos : Int) := by omega
          have i2 : (fr : Int) ≤ (pos : Int) := by omega
          rcases hbk with hbk | hbk
          all_goals
            have q1 := hbk
            go_wp2_with (at_builtin; go_must (refine wpList_appendSs _ rfl (.tmp 22) (.tmp 27) 22 rfl w.heap.size Try.underlying22 Try.infoStr ao cc n acc rfl HN.out (OI.out.alloc _) _ 1 1 [s.extract fr pos] rfl rfl (cell_one_z zI.symm) (by simp; omega) (by simp; omega) ?_; intro ao' c' w4 o4 g4; have K4 := Lib.hid (iter_grown OI.out KI.out g4); have O4 := Lib.hid o4; have B4 := Lib.hid (below_appS BI.out OI.out g4); clear o4 g4))
            go_roundw
            case rel => exact ⟨pos + 1, pos + 1, _, c', ao', _, rfl, by go_num, by simp, O4.out, B4.out, hal2, K4.out, ⟨Nat.le_refl _, hlt⟩, FE.out.symm, by rw [W2.out]; simp⟩
            case measure =>
              have e4 : w4.iterPos w.heap.size = pos + 1 := by simp [World.iterPos, K4.out]
              rw [e4, IP.out]; omega
        · obtain rfl : fr = pos := by omega
          have FE := Lib.hid (show (wrun (s.data.toList.take (fr + 1))).1 = (wrun (s.data.toList.take fr)).1 by rw [W1.out]; unfold wfin; rw [HW.out, if_pos (by simp)])
          rcases hbk with hbk | hbk
          all_goals
            have q1 := hbk
            go_wp2_with fail
            go_roundw
            case rel => exact ⟨fr + 1, fr + 1, n, cc, ao, acc, rfl, by go_num, HN.out, OI.out, BI.out, hal, KI.out, ⟨Nat.le_refl _, hlt⟩, by rw [FE.out]; exact HA.out, by rw [W2.out]; simp⟩
            case measure => rw [IPN.out, IP.out]; omega
      · have hno : ∀ i, pos ≤ i → i < pos + wd → ∀ d, s.data.toList[i]? = some d → blankB d = false := by
          rcases d3 with ⟨h1, h2⟩ | ⟨h1, _, h2⟩
          · injection h2 with h2 h3
            intro i hi1 hi2 d hd
            obtain rfl : i = pos := by omega
            rw [HX.out] at hd; cases hd
            exact blank_not (by rw [← h2]; exact hbk)
          · intro i hi1 hi2 d hd
            have := h2 i hi1 hi2 d hd
            exact blank_not (by omega)
        obtain ⟨W1, W2⟩ := WN.out hno
        have W1 := Lib.hid W1; have W2 := Lib.hid W2
        have q1 : ((rn : Int) != 32) = true := by simp; omega
        have q2 : ((rn : Int) != 10) = true := by simp; omega
        clear d3 WT WN hno hbk
        go_wp2_with fail
        go_roundw
        case rel => exact ⟨pos + wd, fr, n, cc, ao, acc, rfl, rfl, HN.out, OI.out, BI.out, hal, KI.out, ⟨by omega, d2⟩, by rw [W1.out]; exact HA.out, W2.out⟩
        case measure => rw [IPN.out, IP.out]; omega
    · obtain rfl : pos = s.size := by omega
      have hnx : ∀ ty, (Instr.next (.pointer (some ⟨w.heap.size, 0, none⟩)) true ty).run Try.prog wr = _ := fun ty => Lib.run_next_end_at wr w.heap.size s s.size ty hk hlt
      have TL := Lib.hid (show s.data.toList.take s.size = s.data.toList from List.take_of_length_le (by rw [size_listW]; exact Nat.le_refl _))
      rw [TL.out] at HA HW
      clear hk
      by_cases hfp : fr < s.size
      · have FE := Lib.hid (show (wordsL s.data.toList).map mkBs = acc ++ [s.extract fr s.size] by
          unfold wordsL wfin
          rw [HW.out, if_neg (by intro h; have := congrArg List.length h; simp [size_listW] at this; omega), List.map_append, ← HA.out, List.map_cons, List.map_nil, ext_mkW])
        have i1 : (fr : Int) < (s.size : Int) := by omega
        have i2 : (fr : Int) ≤ (s.size : Int) := by omega
        go_wp2_with (at_builtin; go_must (refine wpList_appendSs _ rfl (.tmp 35) (.tmp 39) 22 rfl w.heap.size Try.underlying22 Try.infoStr ao cc n acc rfl HN.out (HO.out.alloc _) _ 1 1 [s.extract fr s.size] rfl rfl (cell_one_x _ _ _) (by simp; omega) (by simp; omega) ?_; intro ao' c' w4 o4 g4; have O4 := Lib.hid o4; have B4 := Lib.hid (below_appS HB.out HO.out g4); clear o4 g4))
        go_ret
        rw [FE.out]
        exact ⟨ao', c', by simp, O4.out, B4.out⟩
      · obtain rfl : fr = s.size := by omega
        have FE := Lib.hid (show (wordsL s.data.toList).map mkBs = acc by unfold wordsL wfin; rw [HW.out, if_pos (by simp)]; exact HA.out.symm)
        go_wp2_with fail
        go_ret
        rw [FE.out]
        exact ⟨ao, cc, by rw [← HN.out]; rfl, HO.out, HB.out⟩
theorem implWordsOf_any (s : ByteArray) (w : World) (hs : s.size ≤ 9223372036854775807) :
    Calls Try.prog 5 #[.string s] w (MadeS w (wordsO s)) := by
  by_cases h2 : 2000 < s.size
  · have h2' : (2000 : Int) < (s.size : Int) := by omega
    have E : wordsO s = [] := by unfold wordsO; rw [if_pos h2]
    rw [E]
    clear E h2
    go_enter Try.func5, Try.ntmps5
    go_wp2_with fail
    go_ret
    exact ⟨none, 0, rfl, OwnS.none_, Below.refl _ _⟩
  · have h2' : (s.size : Int) ≤ 2000 := by omega
    have E := Lib.hid (show wordsO s = (wordsL s.data.toList).map mkBs by unfold wordsO; rw [if_neg h2])
    have WI := Lib.hid (wordsIn_any s w (by omega))
    rw [E.out]
    generalize (wordsL s.data.toList).map mkBs = xs at WI ⊢
    clear E h2
    go_enter Try.func5, Try.ntmps5
    go_wp2_with fail
    refine WI.out.mono ?_
    rintro e w1 ⟨ao, c, rfl, o1, b1⟩
    go_wp2_with fail
    go_ret
    exact ⟨ao, c, rfl, o1, b1⟩
end Go.Proofs.Ytfpbhedophlnkaa
