/-
  Contract of spec.WordsOf. For every text.
-/
import Derived.Test.YtfpbhedophlnkaaGreatDoorJT3x
import Derived.Test.YtfpbhedophlnkaaGreatDoorJT19x
import Derived.WalkKit
namespace Go.Proofs.YtfpbhedophlnkaaGreatDoor
open Go.RowKit
set_option linter.unusedSimpArgs false
set_option linter.unusedVariables false

theorem ext_mkW (s : ByteArray) (m k : Nat) : s.extract m k = mkBs ((s.data.toList.drop m).take (k - m)) := by
  apply ByteArray.ext
  unfold mkBs
  rw [ByteArray.data_extract]
  apply Array.toList_inj.1
  simp [Array.toList_extract, List.extract_eq_take_drop]
theorem cell_one_x (w : World) (y : ByteArray) (t : TypeId) : ∀ i, i < [y].length → (w.alloc (.cells #[.string y] t)).cell? ⟨w.heap.size, i, none⟩ = some (.string ([y].getD i ByteArray.empty)) := by
  intro i hi
  obtain rfl : i = 0 := by simp at hi; omega
  rw [World.cell?_alloc_new]; rfl
theorem size_listW (s : ByteArray) : s.data.toList.length = s.size := by rw [Array.length_toList]; rfl
/-- The loop stands ahead of byte j: the words that are whole, the one that is begun. -/
def WdRel (w : World) (s : ByteArray) (wr : World) (o v i : Value) : Prop :=
  ∃ (j n cc : Nat) (ao : Option Addr) (acc : List ByteArray) (wd : ByteArray), o = .slice ao n cc ∧ v = .string wd ∧ i = .int .i64 j ∧ n = acc.length ∧ OwnS wr w.heap.size ao cc acc ∧ Below w.heap.size w wr ∧ acc.length ≤ 2000 ∧
    ((j ≤ s.size ∧ acc = (wrun (s.data.toList.take j)).1.map mkBs ∧ wd.data.toList = (wrun (s.data.toList.take j)).2) ∨ (j = s.size + 1 ∧ acc = (wordsL s.data.toList).map mkBs))
theorem wrun_acc {s : ByteArray} (h : s.size ≤ 2000) (j : Nat) : ((wrun (s.data.toList.take j)).1.map mkBs).length ≤ 2000 ∧ (wrun (s.data.toList.take j)).2.length ≤ 2000 := by
  obtain ⟨h1, h2, _⟩ := wrun_len (s.data.toList.take j)
  have h3 : (s.data.toList.take j).length ≤ s.size := by rw [List.length_take, size_listW]; omega
  rw [List.length_map]; omega
theorem wordsL_acc {s : ByteArray} (h : s.size ≤ 2000) : ((wordsL s.data.toList).map mkBs).length ≤ 2000 := by
  have := (wordsL_len s.data.toList).1
  rw [size_listW] at this
  rw [List.length_map]; omega
theorem wd_empty {wd : ByteArray} {l : List UInt8} (h : wd.data.toList = l) : wd = ⟨#[]⟩ ↔ l = [] := by
  constructor
  · intro e; rw [e] at h; exact h.symm
  · intro e; apply ByteArray.ext; rw [e] at h; apply Array.toList_inj.1; exact h
theorem mkBs_of {wd : ByteArray} {l : List UInt8} (h : wd.data.toList = l) : mkBs l = wd := by
  apply ByteArray.ext; rw [← h]; simp [mkBs]

theorem toList_data (s : ByteArray) : s.toList = s.data.toList := by
  have loop : ∀ (k i : Nat) (r : List UInt8), s.size - i = k → ByteArray.toList.loop s i r = r.reverse ++ s.data.toList.drop i := by
    intro k
    induction k with
    | zero =>
      intro i r h
      rw [ByteArray.toList.loop, if_neg (by omega), List.drop_of_length_le (by rw [size_listW]; omega)]; simp
    | succ k ih =>
      intro i r h
      have hi : i < s.size := by omega
      rw [ByteArray.toList.loop, if_pos hi, ih _ _ (by omega)]
      have hl : i < s.data.toList.length := by rw [size_listW]; exact hi
      rw [List.drop_eq_getElem_cons hl, List.reverse_cons, List.append_assoc]
      congr 1
      show [s.data.get!Internal i] ++ _ = _
      rw [Array.get!Internal_eq_getElem!, getElem!_pos s.data i hi]
      simp
  have := loop s.size 0 [] (by omega)
  simpa [ByteArray.toList] using this
theorem wd_ne {wd : ByteArray} (h : wd ≠ ⟨#[]⟩) : (!wd.toList.isEmpty) = true := by
  have h1 : ¬ wd.toList = [] := fun e => h (by
    rw [toList_data] at e
    apply ByteArray.ext; apply Array.toList_inj.1; exact e)
  cases hl : wd.toList with
  | nil => exact absurd hl h1
  | cons y r => rfl

set_option maxRecDepth 100000 in
set_option maxHeartbeats 1600000 in
theorem specWordsOf_any (s : ByteArray) (w : World) (hs : s.size ≤ 9223372036854775807) :
    Calls Tryz.prog 138 #[.string s] w (MadeS w (wordsO s)) := by
  have B0 := Lib.hid ((Below.refl w.heap.size w).alloc (Nat.le_refl _) (.cells #[] 9))
  by_cases h2 : 2000 < s.size
  · have h2' : (2000 : Int) < (s.size : Int) := by omega
    have E : wordsO s = [] := by unfold wordsO; rw [if_pos h2]
    rw [E]
    clear E h2
    go_enter Tryz.func138, Tryz.ntmps138
    go_wp2_with fail
    go_ret
    exact ⟨none, 0, rfl, OwnS.none_, B0.out⟩
  have h2' : (s.size : Int) ≤ 2000 := by omega
  have hs2 : s.size ≤ 2000 := by omega
  have E := Lib.hid (show wordsO s = (wordsL s.data.toList).map mkBs by unfold wordsO; rw [if_neg h2])
  clear h2
  have P0 := Lib.hid (show WdRel w s (w.alloc (.cells #[] 9)) (.slice (some ⟨w.heap.size, 0, none⟩) 0 0) (.string ⟨#[]⟩) (.int .i64 0) from
    ⟨0, 0, 0, _, [], ⟨#[]⟩, rfl, rfl, rfl, rfl, World.ownsRow_lit w #[] 0 (Nat.le_refl _) (Nat.zero_le _) rfl, B0.out, by simp, .inl ⟨Nat.zero_le _, by simp [wrun], by simp [wrun]⟩⟩)
  go_enter Tryz.func138, Tryz.ntmps138
  go_wp2_with fail
  go_loopw [3, 4, 5] (fun o v i wr => WdRel w s wr o v i) (fun _ _ i _ => s.size + 1 - (intOf i).toNat)
  case atStart => exact P0.out
  case round =>
    clear P0 B0
    obtain ⟨j, n, cc, ao, acc, wd, rfl, rfl, rfl, hn, ho, hb, hal, hc⟩ := hrel
    have HN := Lib.hid hn; have HO := Lib.hid ho; have HB := Lib.hid hb
    have hzb := hb.size
    clear hn ho hb
    rcases hc with ⟨hj, ha, hw⟩ | ⟨hj, ha⟩
    · have HA := Lib.hid ha; have HW := Lib.hid hw
      have hwl : wd.size ≤ 2000 := by rw [← size_listW, hw]; exact (wrun_acc hs2 j).2
      have hem := wd_empty hw
      clear ha hw
      by_cases hlt : j < s.size
      · have hlt' : (j : Int) < (s.size : Int) := by omega
        have X := Lib.hid (show s.data.toList[j]? = some s[j] by rw [Array.getElem?_toList, Array.getElem?_eq_getElem (show j < s.data.size from hlt)]; rfl)
        have WT := Lib.hid (wrun_take X.out)
        have hal2 := (wrun_acc hs2 (j + 1)).1
        have EX := Lib.hid (show (s.extract j (j + 1)).data.toList = [s[j]] by
          rw [ext_mkW, mkBs_list, show j + 1 - j = 1 by omega]
          have h1 : (s.data.toList.drop j)[0]? = some s[j] := by rw [List.getElem?_drop]; simpa using X.out
          cases hd : s.data.toList.drop j with
          | nil => rw [hd] at h1; simp at h1
          | cons y r => rw [hd] at h1; simp at h1; simp [h1])
        cases hbk : blankB s[j] with
        | false =>
          have hnb : ¬ (s[j].toNat = 32 ∨ s[j].toNat = 10) := fun h => by
            have : blankB s[j] = true := by
              unfold blankB; simp
              rcases h with h | h
              · left; exact UInt8.toNat_inj.1 h
              · right; exact UInt8.toNat_inj.1 h
            rw [this] at hbk; cases hbk
          have q1 : ((s[j].toNat : Int) != 32) = true := by simp; omega
          have q2 : ((s[j].toNat : Int) != 10) = true := by simp; omega
          rw [wstep_other hbk] at WT
          have W1 := Lib.hid (congrArg Prod.fst WT.out); have W2 := Lib.hid (congrArg Prod.snd WT.out)
          simp only at W1 W2
          obtain ⟨Y, hY⟩ : ∃ Y, Y = s.extract j (j + 1) := ⟨_, rfl⟩
          have hys : Y.size = 1 := by rw [← size_listW, hY, EX.out]; rfl
          rw [← hY] at EX
          have HY := Lib.hid hY.symm
          have e1 : ¬ (9223372036854775807 < wd.size + Y.size) := by omega
          clear hbk hnb hY WT
          go_wp2_with fail
          go_roundw
          case rel => exact ⟨j + 1, n, cc, ao, acc, _, rfl, rfl, by go_num, HN.out, HO.out, HB.out, hal, .inl ⟨hlt, by rw [W1.out]; exact HA.out, by rw [W2.out, ByteArray.data_append, Array.toList_append, HW.out]; first | rw [HY.out, EX.out] | rw [EX.out]⟩⟩
          case measure => simp [intOf]; omega
        | true =>
          rw [wstep_blank hbk] at WT
          have hbl : s[j].toNat = 32 ∨ s[j].toNat = 10 := by
            unfold blankB at hbk; simp at hbk
            rcases hbk with h | h
            · left; rw [h]; rfl
            · right; rw [h]; rfl
          have W1 := Lib.hid (congrArg Prod.fst WT.out); have W2 := Lib.hid (congrArg Prod.snd WT.out)
          simp only at W1 W2
          clear hbk WT EX
          by_cases hwe : wd = ⟨#[]⟩
          · have FE := Lib.hid (show (wrun (s.data.toList.take (j + 1))).1 = (wrun (s.data.toList.take j)).1 by rw [W1.out]; unfold wfin; rw [if_pos (hem.1 hwe)])
            clear hem
            subst hwe
            rcases hbl with hbl | hbl
            all_goals
              have q1 := Lib.hid hbl
              go_wp2_with fail
              go_roundw
              case rel => exact ⟨j + 1, n, cc, ao, acc, ⟨#[]⟩, rfl, rfl, by go_num, HN.out, HO.out, HB.out, hal, .inl ⟨hlt, by rw [FE.out]; exact HA.out, by rw [W2.out]⟩⟩
              case measure => simp [intOf]; omega
          · have FE := Lib.hid (show (wrun (s.data.toList.take (j + 1))).1.map mkBs = acc ++ [wd] by rw [W1.out]; unfold wfin; rw [if_neg (fun h => hwe (hem.2 h)), List.map_append, ← HA.out, List.map_cons, List.map_nil, mkBs_of HW.out])
            rw [FE.out] at hal2
            have q := wd_ne hwe
            clear hem hwe
            rcases hbl with hbl | hbl
            all_goals
              go_wp2_with (at_builtin; go_must (refine wpList_appendSs _ rfl (.tmp 41) (.tmp 43) 70 rfl w.heap.size Tryz.underlying70 Tryz.infoStr ao cc n acc rfl HN.out (HO.out.alloc _) _ 1 1 [wd] rfl rfl (cell_one_x _ _ _) (by simp; omega) (by simp; omega) ?_; intro ao' c' w4 o4 g4; have O4 := Lib.hid o4; have B4 := Lib.hid (below_appS HB.out HO.out g4); clear o4 g4))
              go_roundw
              case rel => exact ⟨j + 1, _, c', ao', _, ⟨#[]⟩, rfl, rfl, by go_num, by simp, O4.out, B4.out, hal2, .inl ⟨hlt, FE.out.symm, by rw [W2.out]⟩⟩
              case measure => simp [intOf]; omega
      · obtain rfl : j = s.size := by omega
        have hal2 := wordsL_acc hs2
        have TL := Lib.hid (show s.data.toList.take s.size = s.data.toList from List.take_of_length_le (by rw [size_listW]; exact Nat.le_refl _))
        rw [TL.out] at HA HW
        by_cases hwe : wd = ⟨#[]⟩
        · have FE := Lib.hid (show (wordsL s.data.toList).map mkBs = acc by unfold wordsL wfin; rw [if_pos (by have := hem.1 hwe; rwa [TL.out] at this)]; exact HA.out.symm)
          clear hem
          subst hwe
          go_wp2_with fail
          go_roundw
          case rel => exact ⟨s.size + 1, n, cc, ao, acc, ⟨#[]⟩, rfl, rfl, by go_num, HN.out, HO.out, HB.out, hal, .inr ⟨rfl, FE.out.symm⟩⟩
          case measure => first | (simp [intOf]; done) | (simp [intOf]; omega)
        · have FE := Lib.hid (show (wordsL s.data.toList).map mkBs = acc ++ [wd] by unfold wordsL wfin; rw [if_neg (fun h => hwe (hem.2 (by rwa [TL.out]))), List.map_append, ← HA.out, List.map_cons, List.map_nil, mkBs_of HW.out])
          rw [FE.out] at hal2
          have q := wd_ne hwe
          clear hem hwe
          go_wp2_with (at_builtin; go_must (refine wpList_appendSs _ rfl (.tmp 41) (.tmp 43) 70 rfl w.heap.size Tryz.underlying70 Tryz.infoStr ao cc n acc rfl HN.out (HO.out.alloc _) _ 1 1 [wd] rfl rfl (cell_one_x _ _ _) (by simp; omega) (by simp; omega) ?_; intro ao' c' w4 o4 g4; have O4 := Lib.hid o4; have B4 := Lib.hid (below_appS HB.out HO.out g4); clear o4 g4))
          go_roundw
          case rel => exact ⟨s.size + 1, _, c', ao', _, ⟨#[]⟩, rfl, rfl, by go_num, by simp, O4.out, B4.out, hal2, .inr ⟨rfl, FE.out.symm⟩⟩
          case measure => first | (simp [intOf]; done) | (simp [intOf]; omega)
    · have HA := Lib.hid ha
      subst hj
      clear ha
      go_wp2_with fail
      go_ret
      rw [E.out, ← HA.out]
      exact ⟨ao, cc, by rw [← HN.out]; rfl, HO.out, HB.out⟩
end Go.Proofs.YtfpbhedophlnkaaGreatDoor
