/-
  Contract of spec.ParseRow. For every text.
-/
import Derived.Test.YtfbgflmolkgopaaDoorPRow
import Derived.Test.YtfbgflmolkgopaaDoorKids0
namespace Go.Proofs.YtfbgflmolkgopaaDoor
open Go.RowKit
set_option linter.unusedSimpArgs false
set_option linter.unusedVariables false

theorem own_twoI {w : World} {b1 b2 : Nat} {ao wa : Option Addr} {c wc : Nat} {l : List Int} {m : List ByteArray} (h : Own w b1 3 .i64 ao c l) (k : OwnS w b2 wa wc m) : ∀ x y, wa = some x → ao = some y → x.block ≠ y.block := by
  intro x y hx hy hxy
  rcases h.2 with ⟨hv, _⟩ | ⟨g, cap, cur, hv, _, hg, _⟩
  · simp only [Value.slice.injEq] at hv; rw [hv.1] at hy; cases hy
  · simp only [Value.slice.injEq] at hv
    rcases k.2 with ⟨hv', _⟩ | ⟨g', cap', cur', hv', _, hg', _⟩
    · simp only [Value.slice.injEq] at hv'; rw [hv'.1] at hx; cases hx
    · simp only [Value.slice.injEq] at hv'
      rw [hv'.1] at hx; rw [hv.1] at hy
      cases hx; cases hy
      simp only at hxy
      rw [hxy, hg] at hg'
      simp at hg'
theorem parts44_any (s : ByteArray) (w : World) (hs : s.size ≤ 100000) : Calls Tryd.prog 9 #[.string s, .int .u8 44] w (MadeS w (partsS 44 s)) := parts_any s 44 w hs
def SRRel (w : World) (s : ByteArray) (wa : Option Addr) (wc : Nat) (wr : World) (o i : Value) : Prop :=
  ∃ (j n : Nat) (ao : Option Addr) (c : Nat) (out : List Int), o = .slice ao n c ∧ i = .int .i64 j ∧ n = out.length ∧ out.length = j ∧ j ≤ (prt s).length ∧ Own wr w.heap.size 3 .i64 ao c out ∧ OwnS wr w.heap.size wa wc (partsS 44 s) ∧ Below w.heap.size w wr ∧ (prt s).take j = out.map vL ∧ ∀ z ∈ out, valR z
theorem sr_next {w w1 W : World} {s : ByteArray} {wa : Option Addr} {wc j : Nat} {ao ao' : Option Addr} {c c' : Nat} {out : List Int} {x : List UInt8} {y : Int} (hx : (prt s)[j]? = some x) (hj : out.length = j) (ht : (prt s).take j = out.map vL) (hno : ∀ z ∈ out, valR z)
    (hv : valR y) (hxy : x = vL y) (ho : Own w1 w.heap.size 3 .i64 ao' c' (out ++ [y])) (hs : OwnS W w.heap.size wa wc (partsS 44 s)) (hoW : Own W w.heap.size 3 .i64 ao c out) (hg : W.grownBy w1 (ao.map (·.block))) (hb : Below w.heap.size w w1) (o : Value) (ho' : o = .slice ao' (out.length + 1) c') :
    SRRel w s wa wc w1 o (.int .i64 ((j : Int) + 1)) := by
  refine ⟨j + 1, out.length + 1, ao', c', out ++ [y], ho', by simp, by simp, by simp; omega, (List.getElem?_eq_some_iff.1 hx).1, ho, hs.apart hg (own_twoI hoW hs), hb, ?_, ?_⟩
  · rw [List.take_add_one, hx, ht, hxy]; simp
  · intro z hz
    rcases List.mem_append.1 hz with h | h
    · exact hno z h
    · simp at h; subst h; exact hv
theorem str_is (s : ByteArray) (l : List UInt8) : (s.toList == l) = decide (s.data.toList = l) := by
  rw [ByteArray.toList_eq]
  cases h : decide (s.data.toList = l) with
  | true => have := of_decide_eq_true h; rw [this]; simp
  | false => have := of_decide_eq_false h; simp [this]
theorem read_cases (s : ByteArray) (w : World) (hs : s.size ≤ maxLen) : Calls Tryd.prog 10 #[.string s] w fun e w' => Below w.heap.size w w' ∧
    ((∃ x : Int, e = .returned (.tuple #[.int .i64 x, .bool true]) ∧ s = numT x ∧ -1000000 ≤ x ∧ x ≤ 1000000) ∨ (∃ x : Int, e = .returned (.tuple #[.int .i64 x, .bool false]) ∧ ∀ y : Int, -1000000 ≤ y → y ≤ 1000000 → s ≠ numT y)) :=
  (read_any s w hs).mono fun e w' ⟨x, ok, he, hb, h1, h2⟩ => ⟨hb, by
    cases ok with
    | true => exact .inl ⟨x, he, h1 rfl⟩
    | false => exact .inr ⟨x, he, h2 rfl⟩⟩

set_option maxRecDepth 100000 in
set_option maxHeartbeats 4000000 in
theorem specParseRow_any (s : ByteArray) (w : World) (hs : s.size ≤ maxLen) :
    Calls Tryd.prog 4 #[.string s] w (RowPost s w) := by
  have hs' := hs; unfold maxLen at hs'
  have O0 := Lib.hid (own_empty (w := w) (base := w.heap.size) (e := 3) (k := .i64) (Nat.le_refl _))
  have B0 := Lib.hid ((Below.refl w.heap.size w).alloc (Nat.le_refl _) (.cells #[] 3))
  by_cases hf : s.data.toList = [40, 41]
  · have hq : (s.toList == [40, 41]) = true := by rw [str_is]; simp [hf]
    have E := Lib.hid hf; clear hf
    go_enter Tryd.func4, Tryd.ntmps4
    go_wp2_with fail
    go_ret2
    exact .inl ⟨[], _, _, rfl, ⟨(fun z h => by cases h), by simp⟩, E.out, O0.out, B0.out⟩
  have hq : (s.toList == [40, 41]) = false := by rw [str_is]; simp [hf]
  have NF := Lib.hid hf; clear hf
  by_cases hbig : 600 < s.size
  · have hbig' : (600 : Int) < (s.size : Int) := by omega
    have NO := Lib.hid (row_big hbig)
    go_enter Tryd.func4, Tryd.ntmps4
    go_wp2_with fail
    go_ret2
    exact .inr ⟨rfl, B0.out, NO.out⟩
  have hbig' : (s.size : Int) ≤ 600 := by omega
  have hWl := split_len 44 s.data.toList
  rw [size_list] at hWl
  go_enter Tryd.func4, Tryd.ntmps4
  go_wp2_with fail
  refine (parts44_any s _ (by omega)).mono ?_
  rintro e w1 ⟨wa, wc, rfl, o1, b1⟩
  have P0 := Lib.hid (show SRRel w s wa wc w1 (.slice (some ⟨w.heap.size, 0, none⟩) 0 0) (.int .i64 0) from ⟨0, 0, _, _, [], rfl, rfl, rfl, rfl, Nat.zero_le _, O0.out.below b1, o1.base_le (by simp), below_step B0.out (Nat.le_refl _) b1, rfl, by simp⟩)
  have PL := Lib.hid (show (partsS 44 s).length = (prt s).length by unfold partsS prt; rw [List.length_map])
  clear o1 b1 O0 B0
  generalize hpn : (partsS 44 s).length = pn at PL
  have HPN := Lib.hid hpn; clear hpn
  have hpn1 : pn ≤ 601 := by rw [PL.out]; unfold prt; omega
  go_wp2_with fail
  go_loopw [4, 6] (fun o i wr => SRRel w s wa wc wr o i) (fun _ i _ => pn - (intOf i).toNat)
  case atStart => exact P0.out
  case round =>
    clear P0
    obtain ⟨j, n, ao, c, out, rfl, rfl, hn, hoj, hj, hot, hos, hb, htk, hno⟩ := hrel
    have HN := Lib.hid hn; have HOJ := Lib.hid hoj; have HOT := Lib.hid hot; have HOS := Lib.hid hos; have HB := Lib.hid hb; have HTK := Lib.hid htk; have HNO := Lib.hid hno
    have hz := hb.size
    have hjp0 : j ≤ pn := by have := PL.out; omega
    have hn2 : n ≤ 601 := by omega
    have hol : out.length ≤ 601 := by omega
    clear hn hoj hot hos hb htk hno
    by_cases hlt : j < pn
    · have hlt2 : j < (prt s).length := by have := PL.out; omega
      have hx0 : (prt s)[j]? = some (prt s)[j] := List.getElem?_eq_getElem hlt2
      generalize (prt s)[j] = x at hx0
      have HX := Lib.hid hx0
      have hxl : (mkB x).size ≤ maxLen := by
        have h1 := split_part_len 44 s.data.toList x (List.mem_of_getElem? hx0)
        rw [size_list] at h1
        have h2 : (mkB x).size = x.length := by rw [← size_list]; simp [mkB]
        unfold maxLen; omega
      have hlt' : (j : Int) < (pn : Int) := by omega
      obtain ⟨gw, rfl, hgw⟩ : ∃ gw, wa = some ⟨gw, 0, none⟩ ∧ wr.cell? ⟨gw, j, none⟩ = some (.string (mkB x)) := by
        rcases HOS.out.form with ⟨_, _, hh⟩ | ⟨g, rfl, _⟩
        · have := HPN.out; rw [hh] at this; simp at this; omega
        · refine ⟨g, rfl, ?_⟩
          have := HOS.out.cell j (by rw [HPN.out]; exact hlt)
          rw [this]
          unfold partsS
          rw [List.getD_eq_getElem?_getD, List.getElem?_map]
          unfold prt at hx0
          rw [hx0]; rfl
      clear hx0
      by_cases hm : x = [45]
      · have hm1 : ((mkB x).toList == [45]) = true := by rw [str_is]; simp [mkB, hm]
        have HM := Lib.hid hm; clear hm
        generalize mkB x = T at hgw hxl hm1
        go_wp2_with (at_builtin; refine wpList_appendI _ rfl (.tmp 29) (.tmp 30) 22 rfl w.heap.size 3 Tryd.underlying22 Tryd.infoInt ao c n out rfl HN.out (HOT.out.alloc _) wr.heap.size 1 (-2000000) rfl (cell_one _ _ _) (by omega) (by simp; omega) ?_; intro ao2 c2 w2 o2 g2; have b2 := below_app HB.out HOT.out g2; have R2 := Lib.hid (sr_next HX.out HOJ.out HTK.out HNO.out (.inr rfl) (HM.out.trans part_none) o2 (HOS.out.below ((Below.refl _ _).alloc (Nat.le_refl _) _)) (HOT.out.alloc _) g2 b2 _ rfl); clear o2 g2 b2)
        go_roundw
        case rel => exact R2.out
        case measure => simp [intOf]; omega
      · have hm1 : ((mkB x).toList == [45]) = false := by rw [str_is]; simp [mkB, hm]
        have HM := Lib.hid hm; clear hm
        have RC := Lib.hid (fun W => read_cases (mkB x) W hxl)
        generalize hT : mkB x = T at hgw hxl hm1 RC
        have HT := Lib.hid hT; clear hT
        go_wp2_with fail
        refine (RC.out _).mono ?_
        rintro e w2 ⟨b2, hr⟩
        have B2 := Lib.hid (below_step HB.out (Nat.le_refl _) b2)
        have OT2 := Lib.hid (HOT.out.below b2); have OS2 := Lib.hid (HOS.out.below b2)
        have hz2 := B2.out.size
        clear b2
        rcases hr with ⟨y, rfl, hy, hy1, hy2⟩ | ⟨y, rfl, hy⟩
        · have HY := Lib.hid (part_num (HT.out.trans hy) hy1 hy2)
          have VY := Lib.hid (show valR y from .inl ⟨hy1, hy2⟩)
          clear hy
          go_wp2_with (at_builtin; refine wpList_appendI _ rfl (.tmp 42) (.tmp 44) 22 rfl w.heap.size 3 Tryd.underlying22 Tryd.infoInt ao c n out rfl HN.out (OT2.out.alloc _) w2.heap.size 1 y rfl (cell_one _ _ _) (by omega) (by simp; omega) ?_; intro ao2 c2 w3 o3 g3; have b3 := below_app B2.out OT2.out g3; have R3 := Lib.hid (sr_next HX.out HOJ.out HTK.out HNO.out VY.out HY.out o3 (OS2.out.below ((Below.refl _ _).alloc (Nat.le_refl _) _)) (OT2.out.alloc _) g3 b3 _ rfl); clear o3 g3 b3)
          go_roundw
          case rel => exact R3.out
          case measure => simp [intOf]; omega
        · have NO := Lib.hid (row_no NF.out HX.out (part_no HM.out (by rw [HT.out]; exact hy)))
          clear hy
          go_wp2_with fail
          go_ret2
          exact .inr ⟨rfl, B2.out, NO.out⟩
    · have hjp : j = (prt s).length := by have := PL.out; omega
      have hlt' : ¬ (j : Int) < (pn : Int) := by omega
      by_cases h64 : 64 < j
      · have NO := Lib.hid (row_long NF.out (by omega : 64 < (prt s).length))
        have i1 : (64 : Int) < (n : Int) := by have := HN.out; have := HOJ.out; omega
        go_wp2_with fail
        go_ret2
        exact .inr ⟨rfl, HB.out, NO.out⟩
      · have i1 : (n : Int) ≤ 64 := by have := HN.out; have := HOJ.out; omega
        have E := Lib.hid (show s.data.toList = rowT out from row_yes (by have := HTK.out; rw [hjp, List.take_length] at this; exact this))
        go_wp2_with fail
        go_ret2
        refine .inl ⟨out, ao, c, ret_two HN.out, ⟨HNO.out, by have := HOJ.out; omega⟩, E.out, HOT.out, HB.out⟩
end Go.Proofs.YtfbgflmolkgopaaDoor
