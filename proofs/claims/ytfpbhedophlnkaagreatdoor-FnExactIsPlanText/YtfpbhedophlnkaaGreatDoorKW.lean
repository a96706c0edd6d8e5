/-
  append of strings to a row of strings of the call's own: one string, or a whole slice of them. No walk. Contract of spec.WordsOf. For every text. A text read rune by rune: bytes below 128 stand for themselves, whatever else stands in a rune is 128 or more. Plain facts; no program, no walk. Contracts of impl.wordsIn and impl.WordsOf: a range over a text, rune by rune. For every text.
-/
import Derived.Test.YtfpbhedophlnkaaGreatDoorStrs
import Derived.Maps.AppendAt
import Derived.OwnWalk
import Derived.Test.YtfpbhedophlnkaaGreatDoorWordsP
import Derived.WalkKit
import Derived.Laws.RangeAny
import Derived.Lib.DecodeN
import Derived.Lib.OthersKept
import Derived.LoopTactic
namespace Go.Proofs.YtfpbhedophlnkaaGreatDoor
open Go.RowKit
set_option linter.unusedSimpArgs false
set_option linter.unusedVariables false

theorem Tryz.infoStr : (Tryz.prog.info? 9).map (fun i => (i.zero, i.size, i.bytes)) = some (some (.string ⟨#[]⟩), 1, 16) := by kernel_rfl

/-- 'append(xs, ys...)' at a slice of strings of the call's own. -/
theorem wpList_appendSs {P : Program} (w : World) {ops : Array Oper} {rest : List Oper} {o : Oper} {a : Act} {Q : Exit → Act → World → Prop} (hgd : o.guard = none) (s x : Operand) (t : TypeId)
    (ho : o.op = .call { callee := .builtin .append, args := #[s, x], argTypes := #[t, t] }) (base : Nat) (ht : P.underlying t = some (.slice 9))
    (hi : (P.info? 9).map (fun i => (i.zero, i.size, i.bytes)) = some (some (.string ⟨#[]⟩), 1, 16))
    (ao : Option Addr) (c n : Nat) (l : List ByteArray) (hs : a.eval s = .slice ao n c) (hn : n = l.length) (hown : OwnS w base ao c l)
    (bl m cx : Nat) (ys : List ByteArray) (hx : a.eval x = .slice (some ⟨bl, 0, none⟩) m cx) (hm : m = ys.length) (hv : ∀ i, i < ys.length → w.cell? ⟨bl, i, none⟩ = some (.string (ys.getD i ByteArray.empty)))
    (hby : l.length + ys.length ≤ 1048576) (hbase : base ≤ w.heap.size)
    (h : ∀ ao' c' w', OwnS w' base ao' c' (l ++ ys) → w.grownBy w' (ao.map (·.block)) → wpList P ops Q rest (a.put o.dst (.slice ao' (l ++ ys).length c')) w') :
    wpList P ops Q (o :: rest) a w := by
  obtain ⟨i, hi0, hz0, hz1, hz2⟩ := info_parts hi
  subst hn hm
  refine wpList_append_own_at w hgd s x t ho base 9 i (.string ⟨#[]⟩) 1 16 ht hi0 hz0 hz1 hz2 rfl (by omega) _ l.length (l.map Value.string) hs hown ⟨bl, 0, none⟩ ys.length cx (ys.map Value.string) hx (by simp) ?_ ?_ (by unfold maxLen; omega) (by omega) hbase ?_
  · intro j u hj
    rw [List.getElem?_map] at hj
    cases hy : ys[j]? with
    | none => rw [hy] at hj; cases hj
    | some y =>
      rw [hy] at hj; simp at hj; subst hj
      have hlt : j < ys.length := by
        rcases Nat.lt_or_ge j ys.length with h1 | h1
        · exact h1
        · rw [List.getElem?_eq_none h1] at hy; cases hy
      have := hv j hlt
      rw [List.getD_eq_getElem?_getD, hy] at this
      by_cases h0 : j = 0
      · subst h0; simpa [Addr.add] using this
      · simpa [Addr.add, h0] using this
  · intro u hu
    obtain ⟨y, _, rfl⟩ := List.mem_map.1 hu
    rfl
  · intro v' w' ho' hg' _ hblk
    have hg2 : w.grownBy w' (ao.map (·.block)) := by
      cases ao with
      | none => exact hg'
      | some x => exact hg'
    have hlen : (l ++ ys).length = l.length + ys.length := by simp
    rw [← List.map_append] at ho'
    rcases ho'.2 with ⟨rfl, hz⟩ | ⟨g, cap, cur, rfl, r⟩
    · have hl0 : l ++ ys = [] := List.eq_nil_of_length_eq_zero (by omega)
      have := h none 0 w' (by rw [hl0]; exact OwnS.none_) hg2
      rw [hl0] at this; exact this
    · have := h _ _ _ (by unfold OwnS; rw [hlen]; exact ho') hg2
      rw [hlen] at this; exact this
theorem below_appS {w wr w1 : World} {ao : Option Addr} {c : Nat} {l : List ByteArray} {o : Obj} (hb : Below w.heap.size w wr) (ho : OwnS wr w.heap.size ao c l) (hg : (wr.alloc o).grownBy w1 (ao.map (·.block))) : Below w.heap.size w w1 := by
  refine (hb.alloc hb.size o).grown hg (by have := hb.size; simp; omega) ?_
  intro g hg'
  rcases ao with _ | a
  · cases hg'
  · simp at hg'; subst hg'; exact (ho.lt a rfl).1
theorem below_appS0 {w wr w1 : World} {ao : Option Addr} {c : Nat} {l : List ByteArray} (hb : Below w.heap.size w wr) (ho : OwnS wr w.heap.size ao c l) (hg : wr.grownBy w1 (ao.map (·.block))) : Below w.heap.size w w1 := by
  refine hb.grown hg hb.size ?_
  intro g hg'
  rcases ao with _ | a
  · cases hg'
  · simp at hg'; subst hg'; exact (ho.lt a rfl).1
theorem OwnS.alloc {w : World} {base : Nat} {ao : Option Addr} {c : Nat} {l : List ByteArray} (h : OwnS w base ao c l) (o : Obj) : OwnS (w.alloc o) base ao c l :=
  h.below ((Below.refl _ _).alloc (Nat.le_refl _) o)
end Go.Proofs.YtfpbhedophlnkaaGreatDoor
namespace Go.Proofs.YtfpbhedophlnkaaGreatDoor
open Go.RowKit
set_option linter.unusedSimpArgs false
set_option linter.unusedVariables false

theorem ext_mkW (s : ByteArray) (m k : Nat) : s.extract m k = mkBs ((s.data.toList.drop m).take (k - m)) := by
  apply ByteArray.ext
  unfold mkBs
  rw [ByteArray.data_extract]
  apply Array.toList_inj.1
  simp [Array.toList_extract, List.extract_eq_take_drop]
theorem cell_one_x (w : World) (y : ByteArray) (t : TypeId) : ∀ i, i < [y].length → (w.alloc (.cells #[.string y] t)).cell? ⟨w.heap.size, i, none⟩ = some (.string ([y].getD i ByteArray.empty)) := by
  intro i hi
  obtain rfl : i = 0 := by simp at hi; omega
  rw [World.cell?_alloc_new]; rfl
theorem size_listW (s : ByteArray) : s.data.toList.length = s.size := by rw [Array.length_toList]; rfl
/-- The loop stands ahead of byte j: the words that are whole, the one that is begun. -/
def WdRel (w : World) (s : ByteArray) (wr : World) (o v i : Value) : Prop :=
  ∃ (j n cc : Nat) (ao : Option Addr) (acc : List ByteArray) (wd : ByteArray), o = .slice ao n cc ∧ v = .string wd ∧ i = .int .i64 j ∧ n = acc.length ∧ OwnS wr w.heap.size ao cc acc ∧ Below w.heap.size w wr ∧ acc.length ≤ 2000 ∧
    ((j ≤ s.size ∧ acc = (wrun (s.data.toList.take j)).1.map mkBs ∧ wd.data.toList = (wrun (s.data.toList.take j)).2) ∨ (j = s.size + 1 ∧ acc = (wordsL s.data.toList).map mkBs))
theorem wrun_acc {s : ByteArray} (h : s.size ≤ 2000) (j : Nat) : ((wrun (s.data.toList.take j)).1.map mkBs).length ≤ 2000 ∧ (wrun (s.data.toList.take j)).2.length ≤ 2000 := by
  obtain ⟨h1, h2, _⟩ := wrun_len (s.data.toList.take j)
  have h3 : (s.data.toList.take j).length ≤ s.size := by rw [List.length_take, size_listW]; omega
  rw [List.length_map]; omega
theorem wordsL_acc {s : ByteArray} (h : s.size ≤ 2000) : ((wordsL s.data.toList).map mkBs).length ≤ 2000 := by
  have := (wordsL_len s.data.toList).1
  rw [size_listW] at this
  rw [List.length_map]; omega
theorem wd_empty {wd : ByteArray} {l : List UInt8} (h : wd.data.toList = l) : wd = ⟨#[]⟩ ↔ l = [] := by
  constructor
  · intro e; rw [e] at h; exact h.symm
  · intro e; apply ByteArray.ext; rw [e] at h; apply Array.toList_inj.1; exact h
theorem mkBs_of {wd : ByteArray} {l : List UInt8} (h : wd.data.toList = l) : mkBs l = wd := by
  apply ByteArray.ext; rw [← h]; simp [mkBs]

theorem toList_data (s : ByteArray) : s.toList = s.data.toList := by
  have loop : ∀ (k i : Nat) (r : List UInt8), s.size - i = k → ByteArray.toList.loop s i r = r.reverse ++ s.data.toList.drop i := by
    intro k
    induction k with
    | zero =>
      intro i r h
      rw [ByteArray.toList.loop, if_neg (by omega), List.drop_of_length_le (by rw [size_listW]; omega)]; simp
    | succ k ih =>
      intro i r h
      have hi : i < s.size := by omega
      rw [ByteArray.toList.loop, if_pos hi, ih _ _ (by omega)]
      have hl : i < s.data.toList.length := by rw [size_listW]; exact hi
      rw [List.drop_eq_getElem_cons hl, List.reverse_cons, List.append_assoc]
      congr 1
      show [s.data.get!Internal i] ++ _ = _
      rw [Array.get!Internal_eq_getElem!, getElem!_pos s.data i hi]
      simp
  have := loop s.size 0 [] (by omega)
  simpa [ByteArray.toList] using this
theorem wd_ne {wd : ByteArray} (h : wd ≠ ⟨#[]⟩) : (!wd.toList.isEmpty) = true := by
  have h1 : ¬ wd.toList = [] := fun e => h (by
    rw [toList_data] at e
    apply ByteArray.ext; apply Array.toList_inj.1; exact e)
  cases hl : wd.toList with
  | nil => exact absurd hl h1
  | cons y r => rfl

set_option maxRecDepth 100000 in
set_option maxHeartbeats 1600000 in
theorem specWordsOf_any (s : ByteArray) (w : World) (hs : s.size ≤ 9223372036854775807) :
    Calls Tryz.prog 138 #[.string s] w (MadeS w (wordsO s)) := by
  have B0 := Lib.hid ((Below.refl w.heap.size w).alloc (Nat.le_refl _) (.cells #[] 9))
  by_cases h2 : 2000 < s.size
  · have h2' : (2000 : Int) < (s.size : Int) := by omega
    have E : wordsO s = [] := by unfold wordsO; rw [if_pos h2]
    rw [E]
    clear E h2
    go_enter Tryz.func138, Tryz.ntmps138
    go_wp2_with fail
    go_ret
    exact ⟨none, 0, rfl, OwnS.none_, B0.out⟩
  have h2' : (s.size : Int) ≤ 2000 := by omega
  have hs2 : s.size ≤ 2000 := by omega
  have E := Lib.hid (show wordsO s = (wordsL s.data.toList).map mkBs by unfold wordsO; rw [if_neg h2])
  clear h2
  have P0 := Lib.hid (show WdRel w s (w.alloc (.cells #[] 9)) (.slice (some ⟨w.heap.size, 0, none⟩) 0 0) (.string ⟨#[]⟩) (.int .i64 0) from
    ⟨0, 0, 0, _, [], ⟨#[]⟩, rfl, rfl, rfl, rfl, World.ownsRow_lit w #[] 0 (Nat.le_refl _) (Nat.zero_le _) rfl, B0.out, by simp, .inl ⟨Nat.zero_le _, by simp [wrun], by simp [wrun]⟩⟩)
  go_enter Tryz.func138, Tryz.ntmps138
  go_wp2_with fail
  go_loopw [3, 4, 5] (fun o v i wr => WdRel w s wr o v i) (fun _ _ i _ => s.size + 1 - (intOf i).toNat)
  case atStart => exact P0.out
  case round =>
    clear P0 B0
    obtain ⟨j, n, cc, ao, acc, wd, rfl, rfl, rfl, hn, ho, hb, hal, hc⟩ := hrel
    have HN := Lib.hid hn; have HO := Lib.hid ho; have HB := Lib.hid hb
    have hzb := hb.size
    clear hn ho hb
    rcases hc with ⟨hj, ha, hw⟩ | ⟨hj, ha⟩
    · have HA := Lib.hid ha; have HW := Lib.hid hw
      have hwl : wd.size ≤ 2000 := by rw [← size_listW, hw]; exact (wrun_acc hs2 j).2
      have hem := wd_empty hw
      clear ha hw
      by_cases hlt : j < s.size
      · have hlt' : (j : Int) < (s.size : Int) := by omega
        have X := Lib.hid (show s.data.toList[j]? = some s[j] by rw [Array.getElem?_toList, Array.getElem?_eq_getElem (show j < s.data.size from hlt)]; rfl)
        have WT := Lib.hid (wrun_take X.out)
        have hal2 := (wrun_acc hs2 (j + 1)).1
        have EX := Lib.hid (show (s.extract j (j + 1)).data.toList = [s[j]] by
          rw [ext_mkW, mkBs_list, show j + 1 - j = 1 by omega]
          have h1 : (s.data.toList.drop j)[0]? = some s[j] := by rw [List.getElem?_drop]; simpa using X.out
          cases hd : s.data.toList.drop j with
          | nil => rw [hd] at h1; simp at h1
          | cons y r => rw [hd] at h1; simp at h1; simp [h1])
        cases hbk : blankB s[j] with
        | false =>
          have hnb : ¬ (s[j].toNat = 32 ∨ s[j].toNat = 10) := fun h => by
            have : blankB s[j] = true := by
              unfold blankB; simp
              rcases h with h | h
              · left; exact UInt8.toNat_inj.1 h
              · right; exact UInt8.toNat_inj.1 h
            rw [this] at hbk; cases hbk
          have q1 : ((s[j].toNat : Int) != 32) = true := by simp; omega
          have q2 : ((s[j].toNat : Int) != 10) = true := by simp; omega
          rw [wstep_other hbk] at WT
          have W1 := Lib.hid (congrArg Prod.fst WT.out); have W2 := Lib.hid (congrArg Prod.snd WT.out)
          simp only at W1 W2
          obtain ⟨Y, hY⟩ : ∃ Y, Y = s.extract j (j + 1) := ⟨_, rfl⟩
          have hys : Y.size = 1 := by rw [← size_listW, hY, EX.out]; rfl
          rw [← hY] at EX
          have HY := Lib.hid hY.symm
          have e1 : ¬ (9223372036854775807 < wd.size + Y.size) := by omega
          clear hbk hnb hY WT
          go_wp2_with fail
          go_roundw
          case rel => exact ⟨j + 1, n, cc, ao, acc, _, rfl, rfl, by go_num, HN.out, HO.out, HB.out, hal, .inl ⟨hlt, by rw [W1.out]; exact HA.out, by rw [W2.out, ByteArray.data_append, Array.toList_append, HW.out]; first | rw [HY.out, EX.out] | rw [EX.out]⟩⟩
          case measure => simp [intOf]; omega
        | true =>
          rw [wstep_blank hbk] at WT
          have hbl : s[j].toNat = 32 ∨ s[j].toNat = 10 := by
            unfold blankB at hbk; simp at hbk
            rcases hbk with h | h
            · left; rw [h]; rfl
            · right; rw [h]; rfl
          have W1 := Lib.hid (congrArg Prod.fst WT.out); have W2 := Lib.hid (congrArg Prod.snd WT.out)
          simp only at W1 W2
          clear hbk WT EX
          by_cases hwe : wd = ⟨#[]⟩
          · have FE := Lib.hid (show (wrun (s.data.toList.take (j + 1))).1 = (wrun (s.data.toList.take j)).1 by rw [W1.out]; unfold wfin; rw [if_pos (hem.1 hwe)])
            clear hem
            subst hwe
            rcases hbl with hbl | hbl
            all_goals
              have q1 := Lib.hid hbl
              go_wp2_with fail
              go_roundw
              case rel => exact ⟨j + 1, n, cc, ao, acc, ⟨#[]⟩, rfl, rfl, by go_num, HN.out, HO.out, HB.out, hal, .inl ⟨hlt, by rw [FE.out]; exact HA.out, by rw [W2.out]⟩⟩
              case measure => simp [intOf]; omega
          · have FE := Lib.hid (show (wrun (s.data.toList.take (j + 1))).1.map mkBs = acc ++ [wd] by rw [W1.out]; unfold wfin; rw [if_neg (fun h => hwe (hem.2 h)), List.map_append, ← HA.out, List.map_cons, List.map_nil, mkBs_of HW.out])
            rw [FE.out] at hal2
            have q := wd_ne hwe
            clear hem hwe
            rcases hbl with hbl | hbl
            all_goals
              go_wp2_with (at_builtin; go_must (refine wpList_appendSs _ rfl (.tmp 41) (.tmp 43) 70 rfl w.heap.size Tryz.underlying70 Tryz.infoStr ao cc n acc rfl HN.out (HO.out.alloc _) _ 1 1 [wd] rfl rfl (cell_one_x _ _ _) (by simp; omega) (by simp; omega) ?_; intro ao' c' w4 o4 g4; have O4 := Lib.hid o4; have B4 := Lib.hid (below_appS HB.out HO.out g4); clear o4 g4))
              go_roundw
              case rel => exact ⟨j + 1, _, c', ao', _, ⟨#[]⟩, rfl, rfl, by go_num, by simp, O4.out, B4.out, hal2, .inl ⟨hlt, FE.out.symm, by rw [W2.out]⟩⟩
              case measure => simp [intOf]; omega
      · obtain rfl : j = s.size := by omega
        have hal2 := wordsL_acc hs2
        have TL := Lib.hid (show s.data.toList.take s.size = s.data.toList from List.take_of_length_le (by rw [size_listW]; exact Nat.le_refl _))
        rw [TL.out] at HA HW
        by_cases hwe : wd = ⟨#[]⟩
        · have FE := Lib.hid (show (wordsL s.data.toList).map mkBs = acc by unfold wordsL wfin; rw [if_pos (by have := hem.1 hwe; rwa [TL.out] at this)]; exact HA.out.symm)
          clear hem
          subst hwe
          go_wp2_with fail
          go_roundw
          case rel => exact ⟨s.size + 1, n, cc, ao, acc, ⟨#[]⟩, rfl, rfl, by go_num, HN.out, HO.out, HB.out, hal, .inr ⟨rfl, FE.out.symm⟩⟩
          case measure => first | (simp [intOf]; done) | (simp [intOf]; omega)
        · have FE := Lib.hid (show (wordsL s.data.toList).map mkBs = acc ++ [wd] by unfold wordsL wfin; rw [if_neg (fun h => hwe (hem.2 (by rwa [TL.out]))), List.map_append, ← HA.out, List.map_cons, List.map_nil, mkBs_of HW.out])
          rw [FE.out] at hal2
          have q := wd_ne hwe
          clear hem hwe
          go_wp2_with (at_builtin; go_must (refine wpList_appendSs _ rfl (.tmp 41) (.tmp 43) 70 rfl w.heap.size Tryz.underlying70 Tryz.infoStr ao cc n acc rfl HN.out (HO.out.alloc _) _ 1 1 [wd] rfl rfl (cell_one_x _ _ _) (by simp; omega) (by simp; omega) ?_; intro ao' c' w4 o4 g4; have O4 := Lib.hid o4; have B4 := Lib.hid (below_appS HB.out HO.out g4); clear o4 g4))
          go_roundw
          case rel => exact ⟨s.size + 1, _, c', ao', _, ⟨#[]⟩, rfl, rfl, by go_num, by simp, O4.out, B4.out, hal2, .inr ⟨rfl, FE.out.symm⟩⟩
          case measure => first | (simp [intOf]; done) | (simp [intOf]; omega)
    · have HA := Lib.hid ha
      subst hj
      clear ha
      go_wp2_with fail
      go_ret
      rw [E.out, ← HA.out]
      exact ⟨ao, cc, by rw [← HN.out]; rfl, HO.out, HB.out⟩
end Go.Proofs.YtfpbhedophlnkaaGreatDoor
namespace Go.Proofs.YtfpbhedophlnkaaGreatDoor
set_option linter.unusedSimpArgs false
set_option linter.unusedVariables false

theorem get_of {s : ByteArray} {i : Nat} {c : UInt8} (h : s.data.toList[i]? = some c) : s.get! i = c := by
  rw [Array.getElem?_toList] at h
  obtain ⟨hi, he⟩ := Array.getElem?_eq_some_iff.1 h
  show s.data.get!Internal i = c
  rw [Array.get!Internal_eq_getElem!, getElem!_pos s.data i hi]; exact he
theorem dec_rune (s : ByteArray) (pos : Nat) (c : UInt8) (h : s.data.toList[pos]? = some c) :
    1 ≤ (Utf8.decode s pos).2 ∧ pos + (Utf8.decode s pos).2 ≤ s.size ∧
    ((c.toNat < 128 ∧ Utf8.decode s pos = (c.toNat, 1)) ∨ (128 ≤ c.toNat ∧ 128 ≤ (Utf8.decode s pos).1 ∧ ∀ i, pos ≤ i → i < pos + (Utf8.decode s pos).2 → ∀ d, s.data.toList[i]? = some d → 128 ≤ d.toNat)) := by
  have hlt : pos < s.size := by
    have := (List.getElem?_eq_some_iff.1 h).1
    rw [Array.length_toList] at this; exact this
  have h0 := get_of h
  rw [Lib.decode_at, h0]
  have hd : ∀ k (d : UInt8), s.data.toList[pos + k]? = some d → (s.get! (pos + k)).toNat = d.toNat := fun k d hk => by rw [get_of hk]
  generalize hb1 : (s.get! (pos + 1)).toNat = b1 at *
  generalize hb2 : (s.get! (pos + 2)).toNat = b2 at *
  generalize hb3 : (s.get! (pos + 3)).toNat = b3 at *
  have d1 : ∀ d : UInt8, s.data.toList[pos + 1]? = some d → b1 = d.toNat := fun d hk => by rw [← hb1]; exact hd 1 d hk
  have d2 : ∀ d : UInt8, s.data.toList[pos + 2]? = some d → b2 = d.toNat := fun d hk => by rw [← hb2]; exact hd 2 d hk
  have d3 : ∀ d : UInt8, s.data.toList[pos + 3]? = some d → b3 = d.toNat := fun d hk => by rw [← hb3]; exact hd 3 d hk
  clear hd hb1 hb2 hb3 h0
  have one : ∀ (x : Nat), 128 ≤ c.toNat → ∀ i, pos ≤ i → i < pos + 1 → ∀ d, s.data.toList[i]? = some d → 128 ≤ d.toNat := fun x hc i h1 h2 d hk => by
    obtain rfl : i = pos := by omega
    rw [h] at hk; cases hk; exact hc
  have upto : ∀ m, 128 ≤ c.toNat → m ≤ 4 → (2 ≤ m → 128 ≤ b1) → (3 ≤ m → 128 ≤ b2) → (4 ≤ m → 128 ≤ b3) → ∀ i, pos ≤ i → i < pos + m → ∀ d, s.data.toList[i]? = some d → 128 ≤ d.toNat := fun m hc hm h1 h2 h3 i hi1 hi2 d hk => by
    have hcs : i = pos ∨ i = pos + 1 ∨ i = pos + 2 ∨ i = pos + 3 := by omega
    rcases hcs with rfl | rfl | rfl | rfl
    · rw [h] at hk; cases hk; exact hc
    · rw [← d1 d hk]; exact h1 (by omega)
    · rw [← d2 d hk]; exact h2 (by omega)
    · rw [← d3 d hk]; exact h3 (by omega)
  unfold Lib.decodeN
  split
  · rename_i hc
    exact ⟨by simp, by simp only; omega, .inl ⟨hc, rfl⟩⟩
  · rename_i hc
    have hc' : 128 ≤ c.toNat := by omega
    repeat' split
    all_goals simp only
    all_goals first
      | exact ⟨by omega, by omega, .inr ⟨hc', by omega, upto 1 hc' (by omega) (by omega) (by omega) (by omega)⟩⟩
      | exact ⟨by omega, by omega, .inr ⟨hc', by omega, upto 2 hc' (by omega) (by omega) (by omega) (by omega)⟩⟩
      | exact ⟨by omega, by omega, .inr ⟨hc', by omega, upto 3 hc' (by omega) (by omega) (by omega) (by omega)⟩⟩
      | exact ⟨by omega, by omega, .inr ⟨hc', by omega, upto 4 hc' (by omega) (by omega) (by omega) (by omega)⟩⟩
theorem blank_lt {c : UInt8} (h : blankB c = true) : c.toNat = 32 ∨ c.toNat = 10 := by
  unfold blankB at h
  simp at h
  rcases h with rfl | rfl
  · left; rfl
  · right; rfl
theorem blank_of {c : UInt8} (h : c.toNat = 32 ∨ c.toNat = 10) : blankB c = true := by
  unfold blankB
  simp
  rcases h with h | h
  · left; exact UInt8.toNat_inj.1 h
  · right; exact UInt8.toNat_inj.1 h
theorem blank_not {c : UInt8} (h : ¬ (c.toNat = 32 ∨ c.toNat = 10)) : blankB c = false := by
  cases hb : blankB c with
  | false => rfl
  | true => exact absurd (blank_lt hb) h
end Go.Proofs.YtfpbhedophlnkaaGreatDoor
namespace Go.Proofs.YtfpbhedophlnkaaGreatDoor
open Go.RowKit
set_option linter.unusedSimpArgs false
set_option linter.unusedVariables false

/-- A slice of texts of the call's own is not where an iterator lies. -/
theorem ownS_iter {w : World} {base K p : Nat} {s : ByteArray} {ao : Option Addr} {c : Nat} {l : List ByteArray} (h : OwnS w base ao c l) (hk : w.heap[K]? = some (.stringIter s p)) : ∀ a, ao = some a → a.block ≠ K := by
  intro a ha hK
  rcases h.2 with ⟨hv, _⟩ | ⟨g, cap, cur, hv, _, hg, _⟩
  · simp only [Value.slice.injEq] at hv; rw [hv.1] at ha; cases ha
  · simp only [Value.slice.injEq] at hv
    rw [ha] at hv
    have hb : a.block = g := by have := hv.1; simp only [Option.some.injEq] at this; rw [this]
    rw [← hb, hK, hk] at hg
    cases hg
theorem ownS_iterAt {w : World} {base K p : Nat} {s : ByteArray} {ao : Option Addr} {c : Nat} {l : List ByteArray} (h : OwnS w base ao c l) (hk : w.heap[K]? = some (.stringIter s p)) (p' : Nat) : OwnS (w.iterAt K s p') base ao c l :=
  h.keep fun a ha _ => Lib.iterAt_other w K a.block s p' (ownS_iter h hk a ha)
theorem iter_grown {w w' : World} {base K p : Nat} {s : ByteArray} {ao : Option Addr} {c : Nat} {l : List ByteArray} {o : Obj} (h : OwnS w base ao c l) (hk : w.heap[K]? = some (.stringIter s p)) (hg : (w.alloc o).grownBy w' (ao.map (·.block))) : w'.heap[K]? = some (.stringIter s p) := by
  have hlt : K < w.heap.size := (Array.getElem?_eq_some_iff.1 hk).1
  rw [hg.block K (by simp; omega) (by
    cases ao with
    | none => simp
    | some a => simp; exact fun e => ownS_iter h hk a rfl e.symm)]
  exact ((World.grownBy_alloc w o none).block K hlt (by simp)).trans hk
theorem cell_one_z {w : World} {y : ByteArray} {t : TypeId} {b : Nat} (hb : b = w.heap.size) : ∀ i, i < [y].length → (w.alloc (.cells #[.string y] t)).cell? ⟨b, i, none⟩ = some (.string ([y].getD i ByteArray.empty)) := by
  subst hb; exact cell_one_x w y t
theorem wr_next {s : ByteArray} {pos wd fr : Nat} (h1 : pos + wd ≤ s.size) (hf : fr ≤ pos) (hw : (wrun (s.data.toList.take pos)).2 = (s.data.toList.drop fr).take (pos - fr))
    (h : ∀ i, pos ≤ i → i < pos + wd → ∀ d, s.data.toList[i]? = some d → blankB d = false) :
    (wrun (s.data.toList.take (pos + wd))).1 = (wrun (s.data.toList.take pos)).1 ∧ (wrun (s.data.toList.take (pos + wd))).2 = (s.data.toList.drop fr).take (pos + wd - fr) := by
  rw [wrun_others (j := pos) (k := pos + wd) (by omega) h]
  refine ⟨rfl, ?_⟩
  simp only
  rw [hw, show pos + wd - fr = (pos - fr) + (pos + wd - pos) by omega, List.take_add, List.drop_drop, show fr + (pos - fr) = pos by omega]

def WiRel (w : World) (s : ByteArray) (wr : World) (o f : Value) : Prop :=
  ∃ (pos fr n cc : Nat) (ao : Option Addr) (acc : List ByteArray), o = .slice ao n cc ∧ f = .int .i64 fr ∧ n = acc.length ∧ OwnS wr w.heap.size ao cc acc ∧ Below w.heap.size w wr ∧ acc.length ≤ 2000 ∧
    wr.heap[w.heap.size]? = some (.stringIter s pos) ∧ (fr ≤ pos ∧ pos ≤ s.size) ∧ acc = (wrun (s.data.toList.take pos)).1.map mkBs ∧ (wrun (s.data.toList.take pos)).2 = (s.data.toList.drop fr).take (pos - fr)

set_option maxRecDepth 100000 in
set_option maxHeartbeats 3200000 in
theorem wordsIn_any (s : ByteArray) (w : World) (hs : s.size ≤ 2000) :
    Calls Tryz.prog 135 #[.string s] w (MadeS w ((wordsL s.data.toList).map mkBs)) := by
  have P0 := Lib.hid (show WiRel w s (w.iter s 0) (.slice none 0 0) (.int .i64 0) from
    ⟨0, 0, 0, 0, none, [], rfl, rfl, rfl, OwnS.none_, (Below.refl _ w).alloc (Nat.le_refl _) _, by simp, World.iter_heap w s 0, ⟨Nat.le_refl _, Nat.zero_le _⟩, by simp [wrun], by simp [wrun]⟩)
  go_enter Tryz.func135, Tryz.ntmps135
  go_wp2_with fail
  go_loopw [3, 4] (fun o f wr => WiRel w s wr o f) (fun _ _ wr => s.size - wr.iterPos w.heap.size)
  case atStart => exact P0.out
  case round =>
    clear P0
    obtain ⟨pos, fr, n, cc, ao, acc, rfl, rfl, hn, ho, hb, hal, hk, ⟨hf, hp⟩, ha, hw⟩ := hrel
    have HN := Lib.hid hn; have HO := Lib.hid ho; have HB := Lib.hid hb; have HK := Lib.hid hk; have HA := Lib.hid ha; have HW := Lib.hid hw
    have hzb := hb.size
    have ip : wr.iterPos w.heap.size = pos := by simp [World.iterPos, hk]
    have IP := Lib.hid ip
    clear hn ho hb ha hw ip
    by_cases hlt : pos < s.size
    · have hx : s.data.toList[pos]? = some s[pos] := by rw [Array.getElem?_toList, Array.getElem?_eq_getElem (show pos < s.data.size from hlt)]; rfl
      obtain ⟨d1, d2, d3⟩ := dec_rune s pos s[pos] hx
      have dl := decode_le s pos
      have hnx : ∀ ty, (Instr.next (.pointer (some ⟨w.heap.size, 0, none⟩)) true ty).run Tryz.prog wr = _ := fun ty => Lib.run_next_any_at wr w.heap.size s pos ty hk hlt
      have OI := Lib.hid (ownS_iterAt HO.out hk (pos + (Utf8.decode s pos).2))
      have KI := Lib.hid (Lib.iterAt_heap wr w.heap.size s pos (pos + (Utf8.decode s pos).2) hk)
      have BI := Lib.hid (Lib.below_iterAt HB.out (Nat.le_refl _) s (pos + (Utf8.decode s pos).2))
      have zI := Lib.iterAt_size wr w.heap.size s (pos + (Utf8.decode s pos).2)
      have ipn : (wr.iterAt w.heap.size s (pos + (Utf8.decode s pos).2)).iterPos w.heap.size = pos + (Utf8.decode s pos).2 := by simp [World.iterPos, KI.out]
      have IPN := Lib.hid ipn
      have WT := Lib.hid (fun c (h : s.data.toList[pos]? = some c) => wrun_take h)
      have WN := Lib.hid (fun h => wr_next (wd := (Utf8.decode s pos).2) d2 hf HW.out h)
      have hal2 : ((wrun (s.data.toList.take (pos + 1))).1.map mkBs).length ≤ 2000 := (wrun_acc hs (pos + 1)).1
      have hal3 : ((wrun (s.data.toList.take (pos + (Utf8.decode s pos).2))).1.map mkBs).length ≤ 2000 := (wrun_acc hs _).1
      clear hk ipn
      generalize wr.iterAt w.heap.size s (pos + (Utf8.decode s pos).2) = wi at hnx OI KI BI zI IPN
      generalize hdec : Utf8.decode s pos = dec at hnx d1 d2 d3 dl KI IPN WN hal3
      obtain ⟨rn, wd⟩ := dec
      simp only at hnx d1 d2 d3 dl KI IPN WN hal3
      have HX := Lib.hid hx
      generalize s[pos] = ch at d3 HX
      clear hx hdec
      by_cases hbk : rn = 32 ∨ rn = 10
      · obtain ⟨hc, rfl, rfl⟩ : ch.toNat < 128 ∧ rn = ch.toNat ∧ wd = 1 := by
          rcases d3 with ⟨h1, h2⟩ | ⟨_, h2, _⟩
          · injection h2 with h2 h3; exact ⟨h1, h2, h3⟩
          · omega
        have hb1 : blankB ch = true := blank_of hbk
        have WS := Lib.hid ((WT.out ch HX.out).trans (wstep_blank hb1))
        have W1 := Lib.hid (congrArg Prod.fst WS.out); have W2 := Lib.hid (congrArg Prod.snd WS.out)
        simp only at W1 W2
        clear d3 WS WT WN hal3
        by_cases hfp : fr < pos
        · have FE := Lib.hid (show (wrun (s.data.toList.take (pos + 1))).1.map mkBs = acc ++ [s.extract fr pos] by
            rw [W1.out]; unfold wfin
            rw [HW.out, if_neg (by intro h; have := congrArg List.length h; simp [size_listW] at this; omega), List.map_append, ← HA.out, List.map_cons, List.map_nil, ext_mkW])
          rw [FE.out] at hal2
          have i1 : (fr : Int) < (pos : Int) := by omega
          have i2 : (fr : Int) ≤ (pos : Int) := by omega
          rcases hbk with hbk | hbk
          all_goals
            have q1 := hbk
            go_wp2_with (at_builtin; go_must (refine wpList_appendSs _ rfl (.tmp 22) (.tmp 27) 70 rfl w.heap.size Tryz.underlying70 Tryz.infoStr ao cc n acc rfl HN.out (OI.out.alloc _) _ 1 1 [s.extract fr pos] rfl rfl (cell_one_z zI.symm) (by simp; omega) (by simp; omega) ?_; intro ao' c' w4 o4 g4; have K4 := Lib.hid (iter_grown OI.out KI.out g4); have O4 := Lib.hid o4; have B4 := Lib.hid (below_appS BI.out OI.out g4); clear o4 g4))
            go_roundw
            case rel => exact ⟨pos + 1, pos + 1, _, c', ao', _, rfl, by go_num, by simp, O4.out, B4.out, hal2, K4.out, ⟨Nat.le_refl _, hlt⟩, FE.out.symm, by rw [W2.out]; simp⟩
            case measure =>
              have e4 : w4.iterPos w.heap.size = pos + 1 := by simp [World.iterPos, K4.out]
              rw [e4, IP.out]; omega
        · obtain rfl : fr = pos := by omega
          have FE := Lib.hid (show (wrun (s.data.toList.take (fr + 1))).1 = (wrun (s.data.toList.take fr)).1 by rw [W1.out]; unfold wfin; rw [HW.out, if_pos (by simp)])
          rcases hbk with hbk | hbk
          all_goals
            have q1 := hbk
            go_wp2_with fail
            go_roundw
            case rel => exact ⟨fr + 1, fr + 1, n, cc, ao, acc, rfl, by go_num, HN.out, OI.out, BI.out, hal, KI.out, ⟨Nat.le_refl _, hlt⟩, by rw [FE.out]; exact HA.out, by rw [W2.out]; simp⟩
            case measure => rw [IPN.out, IP.out]; omega
      · have hno : ∀ i, pos ≤ i → i < pos + wd → ∀ d, s.data.toList[i]? = some d → blankB d = false := by
          rcases d3 with ⟨h1, h2⟩ | ⟨h1, _, h2⟩
          · injection h2 with h2 h3
            intro i hi1 hi2 d hd
            obtain rfl : i = pos := by omega
            rw [HX.out] at hd; cases hd
            exact blank_not (by rw [← h2]; exact hbk)
          · intro i hi1 hi2 d hd
            have := h2 i hi1 hi2 d hd
            exact blank_not (by omega)
        obtain ⟨W1, W2⟩ := WN.out hno
        have W1 := Lib.hid W1; have W2 := Lib.hid W2
        have q1 : ((rn : Int) != 32) = true := by simp; omega
        have q2 : ((rn : Int) != 10) = true := by simp; omega
        clear d3 WT WN hno hbk
        go_wp2_with fail
        go_roundw
        case rel => exact ⟨pos + wd, fr, n, cc, ao, acc, rfl, rfl, HN.out, OI.out, BI.out, hal, KI.out, ⟨by omega, d2⟩, by rw [W1.out]; exact HA.out, W2.out⟩
        case measure => rw [IPN.out, IP.out]; omega
    · obtain rfl : pos = s.size := by omega
      have hnx : ∀ ty, (Instr.next (.pointer (some ⟨w.heap.size, 0, none⟩)) true ty).run Tryz.prog wr = _ := fun ty => Lib.run_next_end_at wr w.heap.size s s.size ty hk hlt
      have TL := Lib.hid (show s.data.toList.take s.size = s.data.toList from List.take_of_length_le (by rw [size_listW]; exact Nat.le_refl _))
      rw [TL.out] at HA HW
      clear hk
      by_cases hfp : fr < s.size
      · have FE := Lib.hid (show (wordsL s.data.toList).map mkBs = acc ++ [s.extract fr s.size] by
          unfold wordsL wfin
          rw [HW.out, if_neg (by intro h; have := congrArg List.length h; simp [size_listW] at this; omega), List.map_append, ← HA.out, List.map_cons, List.map_nil, ext_mkW])
        have i1 : (fr : Int) < (s.size : Int) := by omega
        have i2 : (fr : Int) ≤ (s.size : Int) := by omega
        go_wp2_with (at_builtin; go_must (refine wpList_appendSs _ rfl (.tmp 35) (.tmp 39) 70 rfl w.heap.size Tryz.underlying70 Tryz.infoStr ao cc n acc rfl HN.out (HO.out.alloc _) _ 1 1 [s.extract fr s.size] rfl rfl (cell_one_x _ _ _) (by simp; omega) (by simp; omega) ?_; intro ao' c' w4 o4 g4; have O4 := Lib.hid o4; have B4 := Lib.hid (below_appS HB.out HO.out g4); clear o4 g4))
        go_ret
        rw [FE.out]
        exact ⟨ao', c', by simp, O4.out, B4.out⟩
      · obtain rfl : fr = s.size := by omega
        have FE := Lib.hid (show (wordsL s.data.toList).map mkBs = acc by unfold wordsL wfin; rw [HW.out, if_pos (by simp)]; exact HA.out.symm)
        go_wp2_with fail
        go_ret
        rw [FE.out]
        exact ⟨ao, cc, by rw [← HN.out]; rfl, HO.out, HB.out⟩
theorem implWordsOf_any (s : ByteArray) (w : World) (hs : s.size ≤ 9223372036854775807) :
    Calls Tryz.prog 58 #[.string s] w (MadeS w (wordsO s)) := by
  by_cases h2 : 2000 < s.size
  · have h2' : (2000 : Int) < (s.size : Int) := by omega
    have E : wordsO s = [] := by unfold wordsO; rw [if_pos h2]
    rw [E]
    clear E h2
    go_enter Tryz.func58, Tryz.ntmps58
    go_wp2_with fail
    go_ret
    exact ⟨none, 0, rfl, OwnS.none_, Below.refl _ _⟩
  · have h2' : (s.size : Int) ≤ 2000 := by omega
    have E := Lib.hid (show wordsO s = (wordsL s.data.toList).map mkBs by unfold wordsO; rw [if_neg h2])
    have WI := Lib.hid (wordsIn_any s w (by omega))
    rw [E.out]
    generalize (wordsL s.data.toList).map mkBs = xs at WI ⊢
    clear E h2
    go_enter Tryz.func58, Tryz.ntmps58
    go_wp2_with fail
    refine WI.out.mono ?_
    rintro e w1 ⟨ao, c, rfl, o1, b1⟩
    go_wp2_with fail
    go_ret
    exact ⟨ao, c, rfl, o1, b1⟩
end Go.Proofs.YtfpbhedophlnkaaGreatDoor
