/-
  The contracts of the model's DrawPutNums, DrawPutWord and DrawFrame: some list of numbers, some text, some bytes, in memory of their own. For every slice of bytes.
-/
import Derived.Test.YtcegekkhlfpgfaaDoorDraw4
namespace Go.Proofs.YtcegekkhlfpgfaaDoor
open Go.RowKit
set_option linter.unusedSimpArgs false
set_option linter.unusedVariables false

theorem below_cur {w w1 w2 : World} {g : Nat} (h : Below w.heap.size w w1) (hg : w.heap.size ≤ g) (k : w1.grownBy w2 (some g)) : Below w.heap.size w w2 :=
  h.grown k h.size (by intro r hr; injection hr with hr; omega)

def ListP (w : World) (e : Ending) (w' : World) : Prop :=
  ∃ (l : List Int) (ao : Option Addr) (c : Nat), e = .returned (.slice ao l.length c) ∧ l.length ≤ 301 ∧ (∀ z ∈ l, -1000001 ≤ z ∧ z ≤ 1000001) ∧ Own w' w.heap.size 3 .i64 ao c l ∧ Below w.heap.size w w'
set_option maxRecDepth 100000 in
theorem drawPutNums_any (xo : Option Addr) (d : Nat) (code : List Int) (w : World) (hr : Rd w .u8 xo code) (hby : By code) (hl : code.length ≤ 1048577) :
    Calls Tryd.prog 24 #[.slice xo code.length d] w (ListP w) := by
  have C := Lib.hid (l01New_any xo d code w hr hby hl)
  have HL := Lib.hid hl
  clear hr hby hl
  go_enter Tryd.func24, Tryd.ntmps24
  go_wp2_with fail
  refine C.out.mono ?_
  rintro e w1 ⟨g, rfl, hg, hc, hb⟩
  have HG := Lib.hid hg; have HC := Lib.hid hc; have HB := Lib.hid hb; clear hg hc hb
  go_wp2_with fail
  refine (l01DrawNums_any g xo xo d d code w1 HC.out HL.out).mono ?_
  rintro e w2 ⟨l, ao, c, rfl, h1, h2, h3, h4⟩
  have H1 := Lib.hid h1; have H2 := Lib.hid h2; have H3 := Lib.hid h3; have H4 := Lib.hid h4; clear h1 h2 h3 h4
  go_wp2
  go_ret
  exact ⟨l, ao, c, rfl, H1.out, H2.out, H3.out.base_le HB.out.size, below_cur HB.out HG.out H4.out.2⟩

def TextP (w : World) (e : Ending) (w' : World) : Prop := ∃ s : ByteArray, s.size ≤ 100 ∧ e = .returned (.string s) ∧ Below w.heap.size w w'
set_option maxRecDepth 100000 in
theorem drawWordOk_any (xo : Option Addr) (d : Nat) (code : List Int) (w : World) (hr : Rd w .u8 xo code) (hby : By code) (hl : code.length ≤ 1048577) :
    Calls Tryd.prog 70 #[.slice xo code.length d] w (TextP w) := by
  have C := Lib.hid (l01New_any xo d code w hr hby hl)
  have HL := Lib.hid hl
  clear hr hby hl
  go_enter Tryd.func70, Tryd.ntmps70
  go_wp2_with fail
  refine C.out.mono ?_
  rintro e w1 ⟨g, rfl, hg, hc, hb⟩
  have HG := Lib.hid hg; have HC := Lib.hid hc; have HB := Lib.hid hb; clear hg hc hb
  go_wp2_with fail
  refine (l01PickText_any g xo d code w1.heap.size 8 8 _ (HC.out.keepB ((Below.refl _ _).alloc (Nat.le_refl _) _)) HL.out ?_ (by have := HC.out.lt; omega) (by omega) (by omega)).mono ?_
  · intro i hi
    rw [cell_of_row _ _ _ _ _ _ (heap_alloc_new w1 _)]
    match i, hi with
    | 0, _ => exact ⟨_, by decide, rfl⟩
    | 1, _ => exact ⟨_, by decide, rfl⟩
    | 2, _ => exact ⟨_, by decide, rfl⟩
    | 3, _ => exact ⟨_, by decide, rfl⟩
    | 4, _ => exact ⟨_, by decide, rfl⟩
    | 5, _ => exact ⟨_, by decide, rfl⟩
    | 6, _ => exact ⟨_, by decide, rfl⟩
    | 7, _ => exact ⟨_, by decide, rfl⟩
  rintro e w2 ⟨s, h1, rfl, h2, h3⟩
  have H1 := Lib.hid h1; have H3 := Lib.hid (grownBy_trans (grownBy_below (World.grownBy.refl _ _) ((Below.refl _ _).alloc (Nat.le_refl _) _)) h3); clear h1 h2 h3
  go_wp2
  go_ret
  exact ⟨s, H1.out, rfl, below_cur HB.out HG.out H3.out⟩
set_option maxRecDepth 100000 in
theorem drawPutWord_any (xo : Option Addr) (d : Nat) (code : List Int) (w : World) (hr : Rd w .u8 xo code) (hby : By code) (hl : code.length ≤ 1048577) :
    Calls Tryd.prog 30 #[.slice xo code.length d] w (TextP w) := by
  have C := Lib.hid (drawWordOk_any xo d code w hr hby hl)
  clear hr hby hl
  go_enter Tryd.func30, Tryd.ntmps30
  go_wp2_with fail
  refine C.out.mono ?_
  rintro e w1 ⟨s, h1, rfl, h2⟩
  have H1 := Lib.hid h1; have H2 := Lib.hid h2; clear h1 h2
  go_wp2
  go_ret
  exact ⟨s, H1.out, rfl, H2.out⟩

def BytesRel (w wr : World) (g : Nat) (xo : Option Addr) (d : Nat) (code : List Int) (m : Nat) (v i : Value) : Prop :=
  ∃ (k : Nat) (acc : List Int) (ao : Option Addr) (c n : Nat), v = .slice ao n c ∧ i = .int .i64 k ∧ n = acc.length ∧ acc.length = k ∧ k ≤ m ∧ By acc ∧ Own wr w.heap.size 5 .u8 ao c acc ∧ Drew w g xo d code wr
def BytesP (w : World) (g : Nat) (xo : Option Addr) (d : Nat) (code : List Int) (m : Nat) (e : Ending) (w' : World) : Prop :=
  ∃ (l : List Int) (ao : Option Addr) (c : Nat), e = .returned (.slice ao l.length c) ∧ l.length ≤ m ∧ By l ∧ Own w' w.heap.size 5 .u8 ao c l ∧ Drew w g xo d code w'
set_option maxRecDepth 100000 in
set_option maxHeartbeats 1600000 in
theorem l01DrawBytes_any (g : Nat) (xo : Option Addr) (d : Nat) (code : List Int) (n : Int) (w : World) (hc : Cur w g xo d code) (hl : code.length ≤ 1048577) (h0 : 0 ≤ n) (h1 : n ≤ 60) :
    Calls Tryd.prog 74 #[.pointer (some ⟨g, 0, none⟩), .int .i64 n] w (BytesP w g xo d code 60) := by
  obtain ⟨m, rfl⟩ : ∃ m : Nat, n = m := ⟨n.toNat, by omega⟩
  have HL := Lib.hid hl; have HC := Lib.hid hc
  have hst : Own (w.alloc (Obj.cells #[] 5)) w.heap.size 5 .u8 (some ⟨w.heap.size, 0, none⟩) 0 [] := World.ownsRow_lit w #[] 0 (Nat.le_refl _) (Nat.zero_le _) rfl
  have HST := Lib.hid hst
  have hgl := hc.lt
  have D0 : Hid (Drew w g xo d code (w.alloc (Obj.cells #[] 5))) := ⟨hc.keepB ((Below.refl _ _).alloc (Nat.le_refl _) _), grownBy_below (World.grownBy.refl _ _) ((Below.refl _ _).alloc (Nat.le_refl _) _)⟩
  clear hst hc hl
  go_enter Tryd.func74, Tryd.ntmps74
  go_wp2
  go_loopw [5, 6] (fun v i wr => BytesRel w wr g xo d code m v i) (fun _ i _ => m - (intOf i).toNat)
  case atStart => exact ⟨0, [], _, _, _, rfl, rfl, rfl, rfl, Nat.zero_le _, By.nil, HST.out, D0.out⟩
  case round =>
    obtain ⟨k, acc, ao, c, n', rfl, rfl, hn', hak, hkm, hall, ho, hd⟩ := hrel
    have HNN := Lib.hid hn'; have HAK := Lib.hid hak; have HALL := Lib.hid hall; have HO := Lib.hid ho; have HD := Lib.hid hd
    have hacc : acc.length ≤ 60 := by omega
    clear hn' hak hall ho hd
    by_cases hlt : k < m
    · go_wp2_with fail
      refine (l01Below_any g xo d code 256 _ HD.out.1 HL.out (by omega) (by omega)).mono ?_
      rintro e w3 ⟨x, rfl, x0, x1, hc3, hg3⟩
      have D3 : Hid (Drew w g xo d code w3) := drew_trans HD.out.2 hc3 hg3
      have O3 := Lib.hid (Drew.own ⟨hc3, hg3⟩ HO.out hgl)
      clear hc3 hg3
      go_wp2_with fail
      refine (l01Below_any g xo d code 256 _ D3.out.1 HL.out (by omega) (by omega)).mono ?_
      rintro e w4 ⟨y, rfl, y0, y1, hc4, hg4⟩
      have D4 : Hid (Drew w g xo d code w4) := drew_trans D3.out.2 hc4 hg4
      have O4 := Lib.hid (Drew.own ⟨hc4, hg4⟩ O3.out hgl)
      clear hc4 hg4 D3 O3
      have P : Hid (Calls Tryd.prog 95 #[.pointer (some ⟨g, 0, none⟩), .slice (some ⟨w4.heap.size, 0, none⟩) 6 6] (w4.alloc (.cells #[.int .i64 0, .int .i64 1, .int .i64 255, .int .i64 128, .int .i64 x, .int .i64 y] 3)) (PickP (w4.alloc (.cells #[.int .i64 0, .int .i64 1, .int .i64 255, .int .i64 128, .int .i64 x, .int .i64 y] 3)) g xo d code [0, 1, 255, 128, x, y])) :=
        l01PickInt_n g xo d code w4.heap.size 6 6 [0, 1, 255, 128, x, y] _ (D4.out.1.keepB ((Below.refl _ _).alloc (Nat.le_refl _) _)) HL.out (row_cells w4 3 [0, 1, 255, 128, x, y]) (by have := D4.out.1.lt; omega) (by simp) (by simp) rfl
      go_wp2_with fail
      refine P.out.mono ?_
      rintro e w5 ⟨z, hz, rfl, hc5, hg5⟩
      have D5 : Hid (Drew w g xo d code w5) := drew_trans (grownBy_below D4.out.2 ((Below.refl _ _).alloc (Nat.le_refl _) _)) hc5 hg5
      have O5 := Lib.hid (Drew.own ⟨hc5, hg5⟩ (O4.out.alloc _) hgl)
      have zb : 0 ≤ z ∧ z ≤ 255 := by simp at hz; omega
      clear hz hc5 hg5 D4 O4 P
      go_wp2_with (at_builtin; refine wpList_append1 _ rfl (.tmp 13) (.tmp 22) 22 rfl w.heap.size 5 .u8 1 Tryd.underlying22 Tryd.infoU8 ao c n' acc rfl HNN.out (O5.out.alloc _) w5.heap.size 1 z rfl (cell_one _ _ _) (by unfold maxLen; omega) (by omega) (by have := D5.out.2.size; simp; omega) ?_; intro ao' c' w6 ho' hg'; have HO' := Lib.hid ho'; have HG' := Lib.hid hg'; clear ho' hg')
      go_roundw
      case rel => exact ⟨k + 1, acc ++ [z], ao', c', _, rfl, by go_num, by simp, by simp; exact HAK.out, by omega, by_snoc HALL.out zb.1 (by omega), HO'.out, drew_app HC.out D5.out O5.out HG'.out⟩
      case measure => simp [intOf]; omega
    · go_wp2
      go_ret
      exact ⟨acc, ao, c, ret_slice HNN.out, hacc, HALL.out, HO.out, HD.out⟩

set_option maxRecDepth 100000 in
set_option maxHeartbeats 1600000 in
theorem drawFrame_any (xo : Option Addr) (d : Nat) (code : List Int) (w : World) (hr : Rd w .u8 xo code) (hby : By code) (hl : code.length ≤ 1048577) :
    Calls Tryd.prog 35 #[.slice xo code.length d] w (SomeP w 4001) := by
  have C := Lib.hid (l01New_any xo d code w hr hby hl)
  have HL := Lib.hid hl
  clear hr hby hl
  go_enter Tryd.func35, Tryd.ntmps35
  go_wp2_with fail
  refine C.out.mono ?_
  rintro e w1 ⟨g, rfl, hg, hc, hb⟩
  have HG := Lib.hid hg; have HC := Lib.hid hc; have HB := Lib.hid hb; clear hg hc hb
  go_wp2_with fail
  refine (l01Below_any g xo d code 60 _ HC.out HL.out (by omega) (by omega)).mono ?_
  rintro e w2 ⟨n, rfl, n0, n1, hc2, hg2⟩
  have HC2 := Lib.hid hc2; have B2 := Lib.hid (below_cur HB.out HG.out hg2); clear hc2 hg2
  go_wp2_with fail
  refine (l01DrawBytes_any g xo d code n _ HC2.out HL.out (by omega) (by omega)).mono ?_
  rintro e w3 ⟨l, ao, c, rfl, h1, h2, h3, h4⟩
  have H1 := Lib.hid h1; have H2 := Lib.hid h2; have H3 := Lib.hid (h3.base_le B2.out.size); have HC3 := Lib.hid h4.1; have B3 := Lib.hid (below_cur B2.out HG.out h4.2)
  have hgl : Hid (∀ a, ao = some a → a.block ≠ g) := fun a ha => by have := (h3.lt a ha).1; have := HC2.out.lt; omega
  clear h1 h2 h3 h4
  go_wp2_with fail
  refine (l01Once_any g xo d code 40 _ HC3.out HL.out (by omega) (by omega)).mono ?_
  rintro e w4 ⟨bb, rfl, hc4, hg4⟩
  have HC4 := Lib.hid hc4; have B4 := Lib.hid (below_cur B3.out HG.out hg4)
  have H4 := Lib.hid (H3.out.grown hg4 (fun a ha => by have := hgl.out a ha; simp; omega))
  clear hc4 hg4
  cases bb with
  | false =>
    go_wp2
    go_ret
    exact ⟨l, ao, c, rfl, by have := H1.out; omega, H2.out, H4.out, B4.out⟩
  | true =>
    obtain ⟨i0, hi, hz0, hz1, hz2⟩ := info_parts Tryd.infoU8
    have HI := Lib.hid hi; have HZ0 := Lib.hid hz0; have HZ1 := Lib.hid hz1; have HZ2 := Lib.hid hz2; clear hi hz0 hz1 hz2
    go_wp2_with fail
    refine (l01Below_any g xo d code 2 _ HC4.out HL.out (by omega) (by omega)).mono ?_
    rintro e w5 ⟨y', rfl, y0, y1, hc5, hg5⟩
    have B5 := Lib.hid (below_cur B4.out HG.out hg5); clear hc5 hg5
    obtain ⟨y, rfl⟩ : ∃ y : Nat, y' = y := ⟨y'.toNat, by omega⟩
    go_wp2_with (at_make; refine wpList_make_full _ rfl (.tmp 15) (.tmp 15) 22 rfl w.heap.size 5 i0 (.int .u8 0) 1 Tryd.underlying22 HI.out HZ0.out HZ1.out .i64 .i64 _ _ (4000 + y) rfl rfl (by simp) (by simp) (by rw [HZ2.out]; omega) (by unfold maxLen; omega) B5.out.size ?_; intro w6 hown hgrow)
    rw [made_ints] at hown
    have HOW := Lib.hid hown; have HGR := Lib.hid hgrow; clear hown hgrow
    go_ret
    refine ⟨List.replicate (4000 + y) 0, _, _, ret_slice (by simp), by simp; omega, ?_, ?_, B5.out.grown HGR.out B5.out.size (by intro r hr; cases hr)⟩
    · intro z hz
      have := List.eq_of_mem_replicate hz
      omega
    · unfold Own
      simpa using HOW.out
end Go.Proofs.YtcegekkhlfpgfaaDoor
