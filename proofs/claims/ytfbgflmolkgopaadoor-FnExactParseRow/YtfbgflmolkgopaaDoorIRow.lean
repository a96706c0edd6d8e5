/-
  Contract of impl.ParseRow. For every text that is not too long.
-/
import Derived.Test.YtfbgflmolkgopaaDoorIRowP
import Derived.Test.YtfbgflmolkgopaaDoorINumR
import Derived.Test.YtfbgflmolkgopaaDoorKids0
import Derived.Test.YtfbgflmolkgopaaDoorSRow
namespace Go.Proofs.YtfbgflmolkgopaaDoor
open Go.RowKit Go.Shelf
set_option linter.unusedSimpArgs false
set_option linter.unusedVariables false

theorem splitC_any (s : ByteArray) (w : World) (hs : s.size ≤ 1048576) (hg : Glob w) :
    Calls Tryd.prog 11 #[.string s, .string ⟨#[44]⟩, .int .i64 65] w fun e w' =>
      e = .returned (.slice (some ⟨w.heap.size, 0, none⟩) (cparts s).length (min 65 (s.size + 1))) ∧ w' = w.alloc (.cells (Lib.cellsOf (cparts s) (min 65 (s.size + 1))) 9) := by
  obtain ⟨m, hm⟩ := hg.mxl
  have h := Any.strings_SplitN { Tryd.lays147 with } Tryd.lays147.i9 s ⟨#[44]⟩ 65 m w (by omega) hm (Nat.le_refl _) (by omega) (by omega)
  exact h
theorem cellsC_word (w : World) (WS : List ByteArray) (N : Nat) (t : TypeId) (j : Nat) (x : ByteArray) (h : WS[j]? = some x) : (w.alloc (.cells (Lib.cellsOf WS N) t)).cell? ⟨w.heap.size, j, none⟩ = some (.string x) := by
  rw [World.cell?_alloc_new]
  unfold Lib.cellsOf
  have hl := (List.getElem?_eq_some_iff.1 h).1
  simp [List.getElem?_append_left, hl, h]
  rw [List.getElem?_eq_getElem hl] at h
  injection h
def ValPost (x : List UInt8) (w : World) (e : Ending) (w' : World) : Prop :=
  Below w.heap.size w w' ∧ ((∃ y : Int, e = .returned (.tuple #[.int .i64 y, .bool true]) ∧ valR y ∧ x = vL y) ∨ (∃ y : Int, e = .returned (.tuple #[.int .i64 y, .bool false]) ∧ ∀ z, valR z → x ≠ vL z))
set_option maxRecDepth 100000 in
theorem valueIn_any (x : List UInt8) (w : World) (hs : (mkB x).size ≤ 1048576) (hg : Glob w) :
    Calls Tryd.prog 12 #[.string (mkB x)] w (ValPost x w) := by
  by_cases hm : x = [45]
  · have hm1 : ((mkB x).toList == [45]) = true := by rw [str_is]; simp [mkB, hm]
    have HM := Lib.hid hm; clear hm
    generalize mkB x = T at hm1
    go_enter Tryd.func12, Tryd.ntmps12
    go_wp2_with fail
    go_ret2
    exact ⟨Below.refl _ _, .inl ⟨_, rfl, .inr rfl, HM.out.trans part_none⟩⟩
  · have hm1 : ((mkB x).toList == [45]) = false := by rw [str_is]; simp [mkB, hm]
    have HM := Lib.hid hm; clear hm
    have NI := Lib.hid (numberIn_all (mkB x) w hs hg)
    have HT := Lib.hid (rfl : mkB x = mkB x)
    generalize hT : mkB x = T at hm1 NI HT
    have HT2 := Lib.hid hT; clear hT
    go_enter Tryd.func12, Tryd.ntmps12
    go_wp2_with fail
    refine NI.out.mono ?_
    rintro e w1 ⟨b1, ⟨y, rfl, hy, h1, h2⟩ | ⟨rfl, hn⟩⟩
    · have B1 := Lib.hid b1; have E := Lib.hid (part_num (HT2.out.trans hy) h1 h2); have V := Lib.hid (show valR y from .inl ⟨h1, h2⟩)
      clear b1 hy
      go_wp2_with fail
      go_ret2
      exact ⟨B1.out, .inl ⟨y, rfl, V.out, E.out⟩⟩
    · have B1 := Lib.hid b1; have E := Lib.hid (part_no HM.out (by rw [HT2.out]; exact hn))
      clear b1 hn
      go_wp2_with fail
      go_ret2
      exact ⟨B1.out, .inr ⟨_, rfl, E.out⟩⟩
def IRRel (w1 : World) (s : ByteArray) (wr : World) (o i : Value) : Prop :=
  ∃ (j n : Nat) (ao : Option Addr) (c : Nat) (out : List Int), o = .slice ao n c ∧ i = .int .i64 j ∧ n = out.length ∧ out.length = j ∧ j ≤ (prt s).length ∧ Own wr w1.heap.size 3 .i64 ao c out ∧ Below w1.heap.size w1 wr ∧ (prt s).take j = out.map vL ∧ ∀ z ∈ out, valR z
theorem ir_next {w1 w2 : World} {s : ByteArray} {j : Nat} {ao' : Option Addr} {c' : Nat} {out : List Int} {x : List UInt8} {y : Int} (hx : (prt s)[j]? = some x) (hj : out.length = j) (ht : (prt s).take j = out.map vL) (hno : ∀ z ∈ out, valR z)
    (hv : valR y) (hxy : x = vL y) (ho : Own w2 w1.heap.size 3 .i64 ao' c' (out ++ [y])) (hb : Below w1.heap.size w1 w2) (o : Value) (ho' : o = .slice ao' (out.length + 1) c') :
    IRRel w1 s w2 o (.int .i64 ((j : Int) + 1)) := by
  refine ⟨j + 1, out.length + 1, ao', c', out ++ [y], ho', by simp, by simp, by simp; omega, (List.getElem?_eq_some_iff.1 hx).1, ho, hb, ?_, ?_⟩
  · rw [List.take_add_one, hx, ht, hxy]; simp
  · intro z hz
    rcases List.mem_append.1 hz with h | h
    · exact hno z h
    · simp at h; subst h; exact hv

set_option maxRecDepth 100000 in
set_option maxHeartbeats 4000000 in
theorem implParseRow_any (s : ByteArray) (w : World) (hs : s.size ≤ 1048576) (hg : Glob w) :
    Calls Tryd.prog 5 #[.string s] w (RowPost s w) := by
  by_cases hf : s.data.toList = [40, 41]
  · have hq : (s.toList == [40, 41]) = true := by rw [str_is]; simp [hf]
    have E := Lib.hid hf; clear hf hg
    go_enter Tryd.func5, Tryd.ntmps5
    go_wp2_with fail
    go_ret2
    exact .inl ⟨[], none, 0, rfl, ⟨(fun z h => by cases h), by simp⟩, E.out, Own.none_, Below.refl _ _⟩
  have hq : (s.toList == [40, 41]) = false := by rw [str_is]; simp [hf]
  have NF := Lib.hid hf; clear hf
  have SPL := Lib.hid (splitC_any s w hs hg)
  have HG := Lib.hid hg; clear hg
  by_cases h64 : 64 < (prt s).length
  · have NO := Lib.hid (row_long NF.out h64)
    have L := Lib.hid (cparts_more h64)
    have B := Lib.hid (fun o => (Below.refl w.heap.size w).alloc (Nat.le_refl _) o)
    rw [L.out] at SPL
    generalize min 65 (s.size + 1) = N at SPL
    clear h64
    go_enter Tryd.func5, Tryd.ntmps5
    go_wp2_with fail
    refine SPL.out.mono ?_
    rintro e w1 ⟨rfl, rfl⟩
    go_wp2_with fail
    go_ret2
    exact .inr ⟨rfl, B.out _, NO.out⟩
  have FEW := Lib.hid (cparts_few (show (prt s).length ≤ 64 by omega))
  have PL := Lib.hid (show (cparts s).length = (prt s).length by rw [FEW.out, List.length_map])
  have hpl : (cparts s).length ≤ 64 := by have := PL.out; omega
  have XW := Lib.hid (show ∀ j x, (prt s)[j]? = some x → (cparts s)[j]? = some (mkB x) by intro j x hx; rw [FEW.out, List.getElem?_map, hx]; rfl)
  clear h64 FEW
  generalize min 65 (s.size + 1) = N at SPL
  generalize cparts s = WS at SPL PL hpl XW
  generalize hpn : WS.length = pn at SPL PL hpl
  clear hpn
  go_enter Tryd.func5, Tryd.ntmps5
  go_wp2_with fail
  refine SPL.out.mono ?_
  rintro e w1 ⟨rfl, hw1⟩
  have B01 := Lib.hid (show Below w.heap.size w w1 by rw [hw1]; exact (Below.refl _ _).alloc (Nat.le_refl _) _)
  have WC := Lib.hid (show ∀ j x, (prt s)[j]? = some x → w1.cell? ⟨w.heap.size, j, none⟩ = some (.string (mkB x)) by intro j x hx; rw [hw1]; exact cellsC_word w WS N _ j _ (XW.out j x hx))
  have hz1 : w.heap.size < w1.heap.size := by rw [hw1]; simp
  have P0 := Lib.hid (show IRRel w1 s w1 (.slice none 0 0) (.int .i64 0) from ⟨0, 0, none, 0, [], rfl, rfl, rfl, rfl, Nat.zero_le _, Own.none_, Below.refl _ _, rfl, by simp⟩)
  clear hw1 SPL XW
  have hpl' : (pn : Int) ≤ 64 := by omega
  go_wp2_with fail
  go_loopw [5, 19] (fun o i wr => IRRel w1 s wr o i) (fun _ i _ => pn - (intOf i).toNat)
  case atStart => exact P0.out
  case round =>
    clear P0
    obtain ⟨j, n, ao, c, out, rfl, rfl, hn, hoj, hj, hot, hb, htk, hno⟩ := hrel
    have HN := Lib.hid hn; have HOJ := Lib.hid hoj; have HOT := Lib.hid hot; have HB := Lib.hid hb; have HTK := Lib.hid htk; have HNO := Lib.hid hno
    have hz := hb.size
    have hjp0 : j ≤ pn := by have := PL.out; omega
    have hn2 : n ≤ 64 := by omega
    have hol : out.length ≤ 64 := by omega
    clear hn hoj hot htk hno
    by_cases hlt : j < pn
    · have hlt2 : j < (prt s).length := by have := PL.out; omega
      have hx0 : (prt s)[j]? = some (prt s)[j] := List.getElem?_eq_getElem hlt2
      generalize (prt s)[j] = x at hx0
      have HX := Lib.hid hx0
      have hxl : (mkB x).size ≤ 1048576 := by
        have h1 := split_part_len 44 s.data.toList x (List.mem_of_getElem? hx0)
        rw [size_list] at h1
        rw [mkC_size]; omega
      have hlt' : (j : Int) < (pn : Int) := by omega
      have hc0 := (hb.cell (p := ⟨w.heap.size, j, none⟩) hz1).trans (WC.out j x hx0)
      have GR := Lib.hid (HG.out.below B01.out |>.below hb)
      have VI := Lib.hid (valueIn_any x wr hxl GR.out)
      generalize mkB x = T at hc0 hxl VI
      clear hx0 hb
      go_wp2_with fail
      refine VI.out.mono ?_
      rintro e w2 ⟨b2, ⟨y, rfl, hv, hxy⟩ | ⟨y, rfl, hno⟩⟩
      · have B2 := Lib.hid (below_step HB.out (Nat.le_refl _) b2); have OT2 := Lib.hid (HOT.out.below b2)
        have V := Lib.hid hv; have XY := Lib.hid hxy
        have hz2 := B2.out.size
        clear b2 hv hxy hc0
        go_wp2_with (at_builtin; refine wpList_appendI _ rfl (.tmp 30) (.tmp 32) 22 rfl w1.heap.size 3 Tryd.underlying22 Tryd.infoInt ao c n out rfl HN.out (OT2.out.alloc _) w2.heap.size 1 y rfl (cell_one _ _ _) (by omega) (by simp; omega) ?_; intro ao2 c2 w3 o3 g3; have b3 := below_app B2.out OT2.out g3; have R3 := Lib.hid (ir_next HX.out HOJ.out HTK.out HNO.out V.out XY.out o3 b3 _ rfl); clear o3 g3 b3)
        go_roundw
        case rel => exact R3.out
        case measure => simp [intOf]; omega
      · have B2 := Lib.hid (below_step B01.out (Nat.le_refl _) (below_step HB.out (Nat.le_refl _) b2))
        have NO := Lib.hid (row_no NF.out HX.out hno)
        clear b2 hno hc0
        go_wp2_with fail
        go_ret2
        exact .inr ⟨rfl, B2.out, NO.out⟩
    · have hjp : j = (prt s).length := by have := PL.out; omega
      have hlt' : ¬ (j : Int) < (pn : Int) := by omega
      have E := Lib.hid (show s.data.toList = rowT out from row_yes (by have := HTK.out; rw [hjp, List.take_length] at this; exact this))
      have BW := Lib.hid (below_step B01.out (Nat.le_refl _) hb)
      clear hb
      go_wp2_with fail
      go_ret2
      refine .inl ⟨out, ao, c, ret_two HN.out, ⟨HNO.out, by have := HOJ.out; omega⟩, E.out, HOT.out.base_le (Nat.le_of_lt hz1), BW.out⟩
end Go.Proofs.YtfbgflmolkgopaaDoor
