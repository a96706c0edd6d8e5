/-
  Contracts of spec.l04DrawRows and spec.DrawSortRows: some rows, drawn. For every slice of bytes. Contract of spec.RowText. For every row.
-/
import Derived.Test.YtfpbhedophlnkaaGreatDoorJR27x
import Derived.Test.YtfpbhedophlnkaaGreatDoorElR
import Derived.Test.YtfpbhedophlnkaaGreatDoorJR19x
import Derived.Test.YtfpbhedophlnkaaGreatDoorJR29x
import Derived.Test.YtfpbhedophlnkaaGreatDoorLoose
import Derived.Test.YtfpbhedophlnkaaGreatDoorJR24x
import Derived.Test.YtfpbhedophlnkaaGreatDoorJR18x
namespace Go.Proofs.YtfpbhedophlnkaaGreatDoor
open Go.RowKit
set_option linter.unusedSimpArgs false
set_option linter.unusedVariables false

theorem PartR.keep2 {w w' : World} {base g c m : Nat} {l : List (List Int)} {j : Nat} {xs : List Value} {A : Nat → Option Addr} {C : Nat → Nat} (h : PartR w base g c m l j xs A C) (hk : ∀ i, base ≤ i → i < w.heap.size → w'.heap[i]? = w.heap[i]?) : PartR w' base g c m l j xs A C :=
  ⟨owns_keep h.own (hk _ (owns_block h.own).1 (owns_block h.own).2), h.cells, fun i n hi hn => (h.cols i n hi hn).keep (fun a ha hlt => hk _ ((h.cols i n hi hn).lt a ha).1 hlt), h.row, h.apart⟩
/-- A list that goes on. -/
theorem PartR.more {w : World} {base g c m : Nat} {l : List (List Int)} {j : Nat} {xs : List Value} {A : Nat → Option Addr} {C : Nat → Nat} (h : PartR w base g c m l j xs A C) (hj : l.length = j) (r : List Int) : PartR w base g c m (l ++ [r]) j xs A C := by
  have key : ∀ i, i < j → (l ++ [r])[i]? = l[i]? := fun i hi => List.getElem?_append_left (by omega)
  exact ⟨h.own, fun i n hi hn => h.cells i n hi (by rw [← key i hi]; exact hn), fun i n hi hn => h.cols i n hi (by rw [← key i hi]; exact hn), fun i x hi _ hx => h.row i x hi (by omega) hx, fun i k x y hi hk _ _ hik hx hy => h.apart i k x y hi hk (by omega) (by omega) hik hx hy⟩
/-- A world as it was when it had B blocks, but for what was written since. -/
def trunc (w : World) (B : Nat) : World := { w with heap := w.heap.extract 0 B }
theorem trunc_size (w : World) (B : Nat) (h : B ≤ w.heap.size) : (trunc w B).heap.size = B := by simp [trunc]; omega
theorem trunc_get (w : World) (B k : Nat) (h : k < B) : (trunc w B).heap[k]? = w.heap[k]? := by
  unfold trunc
  simp only [Array.getElem?_extract]
  by_cases hk : k < w.heap.size
  · rw [if_pos (by omega)]; simp
  · rw [if_neg (by omega), Array.getElem?_eq_none (by omega)]
theorem trunc_below (w : World) (B : Nat) (h : B ≤ w.heap.size) : Below B (trunc w B) w := ⟨rfl, rfl, rfl, by rw [trunc_size w B h]; exact h, fun k hk => (trunc_get w B k hk).symm⟩
/-- A row that was made since world u, the cursor alone turning meanwhile, is appended to the rows. -/
theorem push_drawn {u w5 w6 : World} {B0 gc g c j c1 c' : Nat} {l : List (List Int)} {xs : List Value} {A : Nat → Option Addr} {C : Nat → Nat} {r : List Int} {a1 ao' : Option Addr} {t : TypeId} (hg : gc < B0) (hB : B0 ≤ u.heap.size)
    (hp : PartR u B0 g c j l j xs A C) (hl : l.length = j) (hd : u.grownBy w5 (some gc)) (ho : Own w5 u.heap.size 3 .i64 a1 c1 r)
    (h6 : OwnV w6 B0 47 ao' c' (xs ++ [.slice a1 r.length c1])) (g6 : (w5.alloc (.cells #[.slice a1 r.length c1] t)).grownBy w6 (some g)) (k6 : ao' = some ⟨g, 0, none⟩ ∨ ao' = some ⟨(w5.alloc (.cells #[.slice a1 r.length c1] t)).heap.size, 0, none⟩) :
    ∃ g' ys A' C', ao' = some ⟨g', 0, none⟩ ∧ PartR w6 B0 g' c' (j + 1) (l ++ [r]) (j + 1) ys A' C' := by
  have hz := hd.size
  have P := (hp.more hl r).keep2 (w' := trunc w5 u.heap.size) (fun i h1 h2 => by rw [trunc_get _ _ _ h2]; exact hd.block i h2 (by simp; omega))
  have hts := trunc_size w5 u.heap.size hz
  have hn : (l ++ [r])[j]? = some r := by rw [List.getElem?_append_right (by omega), hl]; simp
  have hbl : Below (trunc w5 u.heap.size).heap.size (trunc w5 u.heap.size) (w5.alloc (.cells #[.slice a1 r.length c1] t)) := by
    rw [hts]; exact (trunc_below w5 _ hz).alloc hz _
  obtain ⟨g', e, h⟩ := P.push hn hbl (by rw [hts]; exact ho.alloc _) (by rw [hts]; exact hB) h6 g6 k6
  exact ⟨g', _, _, _, e, h⟩
def RowRel (u wr : World) (gc : Nat) (xo : Option Addr) (d : Nat) (code : List Int) (width : Nat) (v i : Value) : Prop :=
  ∃ (k : Nat) (acc : List Int) (ao : Option Addr) (c n : Nat), k ≤ width ∧ i = .int .i64 k ∧ v = .slice ao n c ∧ n = acc.length ∧ n = k ∧ (∀ z ∈ acc, valR z) ∧ Own wr u.heap.size 3 .i64 ao c acc ∧ Drew u gc xo d code wr
def RowsRel (w wr : World) (gc : Nat) (xo : Option Addr) (d : Nat) (code : List Int) (width m : Nat) (v i : Value) : Prop :=
  ∃ (j g c : Nat) (l : List (List Int)) (xs : List Value) (A : Nat → Option Addr) (C : Nat → Nat), j ≤ m ∧ i = .int .i64 j ∧ v = .slice (some ⟨g, 0, none⟩) j c ∧ l.length = j ∧ (∀ r ∈ l, r.length = width ∧ ∀ z ∈ r, valR z) ∧ c ≤ maxLen ∧ PartR wr w.heap.size g c j l j xs A C ∧ Drew w gc xo d code wr
/-- What drawing some rows gives. -/
def DrRP (w : World) (g : Nat) (xo : Option Addr) (d : Nat) (code : List Int) (width m : Nat) (e : Ending) (w' : World) : Prop :=
  ∃ (l : List (List Int)) (b c : Nat) (xs : List Value) (A : Nat → Option Addr) (C : Nat → Nat), e = .returned (.slice (some ⟨b, 0, none⟩) l.length c) ∧ l.length = m ∧ (∀ r ∈ l, r.length = width ∧ ∀ z ∈ r, valR z) ∧ PartR w' w.heap.size b c l.length l l.length xs A C ∧ Drew w g xo d code w'
set_option maxRecDepth 100000 in
set_option maxHeartbeats 4000000 in
theorem drawRows_any (g : Nat) (xo : Option Addr) (d : Nat) (code : List Int) (width m : Nat) (w : World) (hc : Cur w g xo d code) (hl : code.length ≤ 1048577) (hw : width ≤ 64) (hm : m ≤ 1000) :
    Calls Tryz.prog 101 #[.pointer (some ⟨g, 0, none⟩), .int .i64 width, .int .i64 m] w (DrRP w g xo d code width m) := by
  have hglt := hc.lt
  have HC := Lib.hid hc; have HL := Lib.hid hl
  have P0 : Hid (∃ xs A C, PartR (w.alloc (.cells #[] 47)) w.heap.size w.heap.size 0 0 [] 0 xs A C) := ⟨_, _, _, PartR.start w []⟩
  have D0 : Hid (Drew w g xo d code (w.alloc (Obj.cells #[] 47))) := ⟨hc.keepB ((Below.refl _ _).alloc (Nat.le_refl _) _), grownBy_below (World.grownBy.refl _ _) ((Below.refl _ _).alloc (Nat.le_refl _) _)⟩
  clear hc hl
  go_enter Tryz.func101, Tryz.ntmps101
  go_wp2_with fail
  go_loopw [7, 8] (fun v i wr => RowsRel w wr g xo d code width m v i) (fun _ i _ => m - (intOf i).toNat)
  case atStart =>
    obtain ⟨xs, A, C, hp⟩ := P0.out
    exact ⟨0, _, _, [], xs, A, C, Nat.zero_le _, rfl, rfl, rfl, by simp, Nat.zero_le _, hp, D0.out⟩
  case round =>
    clear P0 D0
    rename World => u
    obtain ⟨j, gr, cc, l, xs, A, C, hj, rfl, rfl, hlj, hlr, hcc, hp, hd⟩ := hrel
    have HLJ := Lib.hid hlj; have HLR := Lib.hid hlr; have HCC := Lib.hid hcc; have HP := Lib.hid hp; have HD := Lib.hid hd
    have XL : Hid (xs.length = j) := by have := hp.own.1; show _ = _; omega
    have hzw := hd.2.size
    clear hlj hlr hcc hp hd
    by_cases hlt : j < m
    · have i1 : (j : Int) < (m : Int) := by omega
      have HST : Hid (Own (u.alloc (Obj.cells #[] 3)) u.heap.size 3 .i64 (some ⟨u.heap.size, 0, none⟩) 0 []) := World.ownsRow_lit u #[] 0 (Nat.le_refl _) (Nat.zero_le _) rfl
      have D1 : Hid (Drew u g xo d code (u.alloc (Obj.cells #[] 3))) := ⟨HD.out.1.keepB ((Below.refl _ _).alloc (Nat.le_refl _) _), grownBy_below (World.grownBy.refl _ _) ((Below.refl _ _).alloc (Nat.le_refl _) _)⟩
      have hgr := HD.out.1.lt
      go_wp2_with fail
      go_loopw [9, 10] (fun v i wx => RowRel u wx g xo d code width v i) (fun _ i _ => width - (intOf i).toNat)
      case atStart => exact ⟨0, [], _, _, _, Nat.zero_le _, rfl, rfl, rfl, rfl, by simp, HST.out, D1.out⟩
      case round =>
        clear HST D1
        obtain ⟨k, acc, ao, c, n, hk, rfl, rfl, hn, hnk, hv, ho, hdx⟩ := hrel
        have HN := Lib.hid hn; have HV := Lib.hid hv; have HO := Lib.hid ho; have HX := Lib.hid hdx
        have HNK := Lib.hid hnk
        clear hn hnk hv ho hdx
        by_cases hkw : k < width
        · have k1 : (k : Int) < (width : Int) := by omega
          go_wp2_with fail
          refine (l01Below_any g xo d code 5 _ HX.out.1 HL.out (by omega) (by omega)).mono ?_
          rintro e w3 ⟨z, rfl, z0, z1, hc3, hg3⟩
          have D3 : Hid (Drew u g xo d code w3) := drew_trans HX.out.2 hc3 hg3
          have O3 := Lib.hid (Drew.own ⟨hc3, hg3⟩ HO.out hgr)
          clear hc3 hg3
          go_wp2_with fail
          refine (l01Once_any g xo d code 8 _ D3.out.1 HL.out (by omega) (by omega)).mono ?_
          rintro e w5 ⟨bo, rfl, hc5, hg5⟩
          have D5 : Hid (Drew u g xo d code w5) := drew_trans D3.out.2 hc5 hg5
          have O5 := Lib.hid (Drew.own ⟨hc5, hg5⟩ O3.out hgr)
          clear hc5 hg5
          have hal : acc.length ≤ 64 := by rw [← HN.out, HNK.out]; omega
          have VZ : Hid (∀ y, y = z ∨ y = -2000000 → ∀ x ∈ acc ++ [y], valR x) := fun y hy x hx => by
            rcases List.mem_append.1 hx with hx | hx
            · exact HV.out x hx
            · simp at hx; subst hx
              rcases hy with rfl | rfl
              · exact .inl ⟨by omega, by omega⟩
              · exact .inr rfl
          cases bo with
          | false =>
            go_wp2_with (at_builtin; go_must (refine wpList_appendI _ rfl (.tmp 28) (.tmp 30) 47 rfl u.heap.size 3 Tryz.underlying47 Tryz.infoInt ao c n acc rfl HN.out (O5.out.alloc _) w5.heap.size 1 z rfl (cell_one _ _ _) (by omega) (by have := D5.out.2.size; simp; omega) ?_; intro ao' c' w6 ho' hg'; have HO' := Lib.hid ho'; have HG' := Lib.hid hg'; clear ho' hg'))
            go_roundw
            case rel => exact ⟨k + 1, acc ++ [z], ao', c', _, by omega, by go_num, rfl, by simp, by have := HN.out; have := HNK.out; omega, VZ.out z (.inl rfl), HO'.out, drew_app HD.out.1 D5.out O5.out HG'.out⟩
            case measure => simp [intOf]; omega
          | true =>
            go_wp2_with (at_builtin; go_must (refine wpList_appendI _ rfl (.tmp 28) (.tmp 30) 47 rfl u.heap.size 3 Tryz.underlying47 Tryz.infoInt ao c n acc rfl HN.out (O5.out.alloc _) w5.heap.size 1 (-2000000) rfl (cell_one _ _ _) (by omega) (by have := D5.out.2.size; simp; omega) ?_; intro ao' c' w6 ho' hg'; have HO' := Lib.hid ho'; have HG' := Lib.hid hg'; clear ho' hg'))
            go_roundw
            case rel => exact ⟨k + 1, acc ++ [-2000000], ao', c', _, by omega, by go_num, rfl, by simp, by have := HN.out; have := HNK.out; omega, VZ.out _ (.inr rfl), HO'.out, drew_app HD.out.1 D5.out O5.out HG'.out⟩
            case measure => simp [intOf]; omega
        · have HKW : Hid (k = width) := by show _ = _; omega
          have hkw' : ¬ ((k : Int) < (width : Int)) := by omega
          obtain rfl : n = acc.length := HN.out
          have DX := Lib.hid (HD.out.next HX.out)
          have hz1 := HX.out.2.size
          have hz2 := DX.out.2.size
          have hgw := (owns_block HP.out.own).1
          have OV : Hid (OwnV wr w.heap.size 47 (some ⟨gr, 0, none⟩) cc xs) := by
            have := (HP.out.keep2 (w' := wr) (fun i h1 h2 => HX.out.2.block i h2 (by simp; omega))).own
            show World.ownsRow _ _ _ _ _ _ _
            rw [XL.out]
            exact this
          have hj1 : j ≤ 1000 := by omega
          go_wp2_with (at_builtin; go_must (refine wpList_appendV _ rfl (.tmp 32) (.tmp 34) 43 rfl w.heap.size 47 (.slice none 0 0) 24 Tryz.underlying43 infoRw rfl (some ⟨gr, 0, none⟩) cc j xs rfl XL.out.symm (OV.out.alloc _) wr.heap.size 1 (.slice ao acc.length c) rfl (cell_one _ _ _) rfl (by have := XL.out; unfold maxLen; omega) (by have := XL.out; omega) (by simp; omega) ?_; intro ao3 c3 w6 o6 g6 k6; obtain ⟨g', ys, A', C', rfl, hp'⟩ := push_drawn hglt hzw HP.out HLJ.out HX.out.2 HO.out o6 g6 k6; have P6 := Lib.hid hp'; have M6 := Lib.hid o6.cap_le; have D6 := Lib.hid (drew_row HC.out DX.out ((Below.refl _ wr).alloc (Nat.le_refl _) _) g6 (fun q hq => by simp at hq; omega)); clear o6 g6 k6 hp'))
          rw [XL.out]
          go_roundw
          case rel => exact ⟨j + 1, g', c3, l ++ [acc], ys, A', C', by omega, by go_num, rfl, by rw [List.length_append, HLJ.out]; rfl, fun r hr => by rcases List.mem_append.1 hr with hr | hr; exact HLR.out r hr; simp at hr; subst hr; exact ⟨by have h1 := HNK.out; have h2 := HKW.out; omega, HV.out⟩, M6.out, P6.out, D6.out⟩
          case measure => simp [intOf]; omega
    · have hjm : j = m := by omega
      go_wp2_with fail
      go_ret
      exact ⟨l, gr, cc, xs, A, C, ret_slice HLJ.out.symm, by rw [HLJ.out]; exact hjm, HLR.out, by rw [HLJ.out]; exact HP.out, HD.out⟩
set_option maxRecDepth 100000 in
theorem l01Size20_any (b : Option Addr) (n c : Nat) (w : World) (hn : n ≤ 1048577) :
    Calls Tryz.prog 99 #[.slice b n c, .int .i64 20] w fun e w' => (∃ x : Int, 2 ≤ x ∧ x ≤ 20 ∧ e = .returned (.int .i64 x)) ∧ w = w' := by
  by_cases h : 20 < 2 + n / 16
  · have h' : (20 : Int) < 2 + (n : Int) / 16 := by omega
    go_enter Tryz.func99, Tryz.ntmps99
    go_wp2
    go_ret
    exact ⟨⟨20, by omega, by omega, rfl⟩, rfl⟩
  · have h' : 2 + (n : Int) / 16 ≤ 20 := by omega
    go_enter Tryz.func99, Tryz.ntmps99
    go_wp2
    go_ret
    exact ⟨⟨_, by omega, by omega, rfl⟩, rfl⟩
/-- What DrawSortRows gives. -/
def DrawnR (w : World) (e : Ending) (w' : World) : Prop :=
  ∃ (l : List (List Int)) (b c : Nat), e = .returned (.slice (some ⟨b, 0, none⟩) l.length c) ∧ l.length ≤ 300 ∧ (∀ r ∈ l, (1 ≤ r.length ∧ r.length ≤ 3) ∧ ∀ z ∈ r, valR z) ∧ RdR w' (some ⟨b, 0, none⟩) l ∧ Below w.heap.size w w'
theorem PartR.rd {w : World} {base g c : Nat} {l : List (List Int)} {xs : List Value} {A : Nat → Option Addr} {C : Nat → Nat} (h : PartR w base g c l.length l l.length xs A C) : RdR w (some ⟨g, 0, none⟩) l :=
  .inr ⟨g, 0, rfl, fun i r hi => ⟨_, _, h.at_ (lt_of_get hi) (lt_of_get hi) hi⟩⟩
set_option maxRecDepth 100000 in
set_option maxHeartbeats 1600000 in
theorem drawSortRows_any (xo : Option Addr) (d : Nat) (code : List Int) (w : World) (hr : Rd w .u8 xo code) (hby : By code) (hl : code.length ≤ 1048577) :
    Calls Tryz.prog 25 #[.slice xo code.length d] w (DrawnR w) := by
  have C := Lib.hid (l01New_any xo d code w hr hby hl)
  have HL := Lib.hid hl
  clear hr hby hl
  go_enter Tryz.func25, Tryz.ntmps25
  go_wp2_with fail
  refine C.out.mono ?_
  rintro e w1 ⟨g, rfl, hg, hc, hb⟩
  have HG := Lib.hid hg; have HC := Lib.hid hc; have HB := Lib.hid hb; clear hg hc hb
  go_wp2_with fail
  refine (l01Size20_any xo code.length d _ HL.out).mono ?_
  rintro e w' ⟨⟨x, hx0, hx1, rfl⟩, rfl⟩
  go_wp2_with fail
  refine (below_d g xo d code x _ HC.out HL.out (by omega) (by omega)).mono ?_
  rintro e w2 ⟨y, hy0, hy1, rfl, d2⟩
  have D2 := Lib.hid d2; clear d2
  go_wp2_with fail
  refine (l01Once_any g xo d code 40 _ D2.out.1 HL.out (by omega) (by omega)).mono ?_
  rintro e w3 ⟨bo, rfl, c3, g3⟩
  have D3 := Lib.hid (drew_once D2.out c3 g3); clear c3 g3
  have END : Hid (∀ (W : World) (wd m : Nat), Drew w1 g xo d code W → wd ≤ 3 → 1 ≤ wd → m ≤ 300 → ∀ e w', DrRP W g xo d code wd m e w' → DrawnR w e w') := fun W wd m hW h3 h1 hm e w' ⟨l, b, c, xs, A, C, he, h4, h5, h6, h7⟩ =>
    ⟨l, b, c, he, by omega, fun r hr => ⟨by have := (h5 r hr).1; omega, (h5 r hr).2⟩, h6.rd, HB.out.grown (grownBy_trans hW.2 h7.2) HB.out.size (by intro r hr; injection hr with hr; have := HG.out; omega)⟩
  cases bo with
  | false =>
    go_wp2_with fail
    refine (below_d g xo d code 3 _ D3.out.1 HL.out (by omega) (by omega)).mono ?_
    rintro e w4 ⟨z, hz0, hz1, rfl, d4⟩
    have D4 := Lib.hid (D3.out.next d4); clear d4
    obtain ⟨wd, hwd⟩ : ∃ wd : Nat, 1 + z = wd := ⟨(1 + z).toNat, by omega⟩
    obtain ⟨m, rfl⟩ : ∃ m : Nat, y = m := ⟨y.toNat, by omega⟩
    go_wp2_with fail
    refine (drawRows_any g xo d code wd m _ D4.out.1 HL.out (by omega) (by omega)).mono ?_
    rintro e w5 hp
    have HP := Lib.hid (END.out _ _ _ D4.out (by omega) (by omega) (by omega) _ _ hp)
    obtain ⟨l, b, c, xs, A, C', rfl, hh⟩ := hp
    clear hh
    go_wp2_with fail
    go_ret
    exact HP.out
  | true =>
    go_wp2_with fail
    refine (below_d g xo d code 2 _ D3.out.1 HL.out (by omega) (by omega)).mono ?_
    rintro e w3' ⟨q, hq0, hq1, rfl, d3'⟩
    have D3' := Lib.hid (D3.out.next d3'); clear d3'
    go_wp2_with fail
    refine (below_d g xo d code 3 _ D3'.out.1 HL.out (by omega) (by omega)).mono ?_
    rintro e w4 ⟨z, hz0, hz1, rfl, d4⟩
    have D4 := Lib.hid (D3'.out.next d4); clear d4
    obtain ⟨wd, hwd⟩ : ∃ wd : Nat, 1 + z = wd := ⟨(1 + z).toNat, by omega⟩
    obtain ⟨m, hm⟩ : ∃ m : Nat, 200 + q = m := ⟨(200 + q).toNat, by omega⟩
    go_wp2_with fail
    refine (drawRows_any g xo d code wd m _ D4.out.1 HL.out (by omega) (by omega)).mono ?_
    rintro e w5 hp
    have HP := Lib.hid (END.out _ _ _ D4.out (by omega) (by omega) (by omega) _ _ hp)
    obtain ⟨l, b, c, xs, A, C', rfl, hh⟩ := hp
    clear hh
    go_wp2_with fail
    go_ret
    exact HP.out
end Go.Proofs.YtfpbhedophlnkaaGreatDoor
namespace Go.Proofs.YtfpbhedophlnkaaGreatDoor
open Go.RowKit
set_option linter.unusedSimpArgs false
set_option linter.unusedVariables false

theorem ret_str {X Y : ByteArray} (h : X = Y) : Ending.returned (.string X) = .returned (.string Y) := by rw [h]
def TxtRelR (w : World) (r : List Int) (wr : World) (s i : Value) : Prop :=
  ∃ (j : Nat) (X : ByteArray), j ≤ r.length ∧ i = .int .i64 j ∧ s = .string X ∧ X.data.toList = jc ((r.take j).map vL) ∧ Below w.heap.size w wr
theorem txtr_next {w w1 : World} {r : List Int} {j : Nat} {x : Int} {X S : ByteArray} (hx : r[j]? = some x) (hX : X.data.toList = jc ((r.take j).map vL)) (hb : Below w.heap.size w w1)
    (hS : S.data.toList = (if j = 0 then vL x else X.data.toList ++ [44] ++ vL x)) : TxtRelR w r w1 (.string S) (.int .i64 ((j : Int) + 1)) := by
  refine ⟨j + 1, S, (List.getElem?_eq_some_iff.1 hx).1, by simp, rfl, ?_, hb⟩
  rw [jc_take hx, ← hX, hS]
theorem vL_none : vL (-2000000) = [45] := by unfold vL vT; rfl
theorem vL_num {x : Int} (h : x ≠ -2000000) : vL x = (numT x).data.toList := by unfold vL vT; rw [if_neg h]

end Go.Proofs.YtfpbhedophlnkaaGreatDoor
