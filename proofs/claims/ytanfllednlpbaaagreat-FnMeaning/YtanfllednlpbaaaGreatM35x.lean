/-
  Contracts of spec.l04DrawRows and spec.DrawSortRows: some rows, drawn. For every slice of bytes. Contracts of markIntSS and heldIntSS: they write marks into rows of the call's own and into nothing else, and find them there. For every such slice of rows. Slices of slices of rows: what such a slice reads as, and what of it the call itself owns. No program, no walk. Contracts of the helpers over slices of lists of rows: szIntSSS, toIntSSS, eqIntSSS. For every such slice. Contract of markIntSSS: it writes marks into lists of rows of the call's own and into nothing else. For every such slice. A store that is drawn: lists of rows, each in a range of blocks of its own. What stays readable where one of them is turned. No program, no walk. Contracts of spec.l05DrawSlotted and spec.DrawEncodePlan, DrawPrintPlan: a drawn plan, some of its numbers slots, that may have been bent. For every slice of bytes. The program's wire behind a pointer: a block with one slice value, and the row that it owns; the contracts of isNum, foldNum and addNum.
-/
import Derived.Test.YtanfllednlpbaaaGreatM34x
import Derived.Test.YtanfllednlpbaaaGreatM17x
import Derived.Test.YtanfllednlpbaaaGreatM23x
import Derived.Test.YtanfllednlpbaaaGreatM16x
import Derived.Test.YtanfllednlpbaaaGreatM22x
import Derived.Test.YtanfllednlpbaaaGreatM15x
import Derived.Deep.RegionWith
import Derived.Test.YtanfllednlpbaaaGreatM3x
import Derived.OneCell
namespace Go.Proofs.YtanfllednlpbaaaGreat
open Go.RowKit
set_option linter.unusedSimpArgs false
set_option linter.unusedVariables false
theorem PartR.keep2 {w w' : World} {base g c m : Nat} {l : List (List Int)} {j : Nat} {xs : List Value} {A : Nat → Option Addr} {C : Nat → Nat} (h : PartR w base g c m l j xs A C) (hk : ∀ i, base ≤ i → i < w.heap.size → w'.heap[i]? = w.heap[i]?) : PartR w' base g c m l j xs A C :=
  ⟨owns_keep h.own (hk _ (owns_block h.own).1 (owns_block h.own).2), h.cells, fun i n hi hn => (h.cols i n hi hn).keep (fun a ha hlt => hk _ ((h.cols i n hi hn).lt a ha).1 hlt), h.row, h.apart⟩
theorem PartR.more {w : World} {base g c m : Nat} {l : List (List Int)} {j : Nat} {xs : List Value} {A : Nat → Option Addr} {C : Nat → Nat} (h : PartR w base g c m l j xs A C) (hj : l.length = j) (r : List Int) : PartR w base g c m (l ++ [r]) j xs A C := by
  have key : ∀ i, i < j → (l ++ [r])[i]? = l[i]? := fun i hi => List.getElem?_append_left (by omega)
  exact ⟨h.own, fun i n hi hn => h.cells i n hi (by rw [← key i hi]; exact hn), fun i n hi hn => h.cols i n hi (by rw [← key i hi]; exact hn), fun i x hi _ hx => h.row i x hi (by omega) hx, fun i k x y hi hk _ _ hik hx hy => h.apart i k x y hi hk (by omega) (by omega) hik hx hy⟩
def trunc (w : World) (B : Nat) : World := { w with heap := w.heap.extract 0 B }
theorem trunc_size (w : World) (B : Nat) (h : B ≤ w.heap.size) : (trunc w B).heap.size = B := by simp [trunc]; omega
theorem trunc_get (w : World) (B k : Nat) (h : k < B) : (trunc w B).heap[k]? = w.heap[k]? := by
  unfold trunc
  simp only [Array.getElem?_extract]
  by_cases hk : k < w.heap.size
  · rw [if_pos (by omega)]; simp
  · rw [if_neg (by omega), Array.getElem?_eq_none (by omega)]
theorem trunc_below (w : World) (B : Nat) (h : B ≤ w.heap.size) : Below B (trunc w B) w := ⟨rfl, rfl, rfl, by rw [trunc_size w B h]; exact h, fun k hk => (trunc_get w B k hk).symm⟩
theorem push_drawn {u w5 w6 : World} {B0 gc g c j c1 c' : Nat} {l : List (List Int)} {xs : List Value} {A : Nat → Option Addr} {C : Nat → Nat} {r : List Int} {a1 ao' : Option Addr} {t : TypeId} (hg : gc < B0) (hB : B0 ≤ u.heap.size)
    (hp : PartR u B0 g c j l j xs A C) (hl : l.length = j) (hd : u.grownBy w5 (some gc)) (ho : Own w5 u.heap.size 3 .i64 a1 c1 r)
    (h6 : OwnV w6 B0 34 ao' c' (xs ++ [.slice a1 r.length c1])) (g6 : (w5.alloc (.cells #[.slice a1 r.length c1] t)).grownBy w6 (some g)) (k6 : ao' = some ⟨g, 0, none⟩ ∨ ao' = some ⟨(w5.alloc (.cells #[.slice a1 r.length c1] t)).heap.size, 0, none⟩) :
    ∃ g' ys A' C', ao' = some ⟨g', 0, none⟩ ∧ PartR w6 B0 g' c' (j + 1) (l ++ [r]) (j + 1) ys A' C' := by
  have hz := hd.size
  have P := (hp.more hl r).keep2 (w' := trunc w5 u.heap.size) (fun i h1 h2 => by rw [trunc_get _ _ _ h2]; exact hd.block i h2 (by simp; omega))
  have hts := trunc_size w5 u.heap.size hz
  have hn : (l ++ [r])[j]? = some r := by rw [List.getElem?_append_right (by omega), hl]; simp
  have hbl : Below (trunc w5 u.heap.size).heap.size (trunc w5 u.heap.size) (w5.alloc (.cells #[.slice a1 r.length c1] t)) := by
    rw [hts]; exact (trunc_below w5 _ hz).alloc hz _
  obtain ⟨g', e, h⟩ := P.push hn hbl (by rw [hts]; exact ho.alloc _) (by rw [hts]; exact hB) h6 g6 k6
  exact ⟨g', _, _, _, e, h⟩
def RowRel (u wr : World) (gc : Nat) (xo : Option Addr) (d : Nat) (code : List Int) (width : Nat) (v i : Value) : Prop :=
  ∃ (k : Nat) (acc : List Int) (ao : Option Addr) (c n : Nat), k ≤ width ∧ i = .int .i64 k ∧ v = .slice ao n c ∧ n = acc.length ∧ n = k ∧ (∀ z ∈ acc, valR z) ∧ Own wr u.heap.size 3 .i64 ao c acc ∧ Drew u gc xo d code wr
def RowsRel (w wr : World) (gc : Nat) (xo : Option Addr) (d : Nat) (code : List Int) (width m : Nat) (v i : Value) : Prop :=
  ∃ (j g c : Nat) (l : List (List Int)) (xs : List Value) (A : Nat → Option Addr) (C : Nat → Nat), j ≤ m ∧ i = .int .i64 j ∧ v = .slice (some ⟨g, 0, none⟩) j c ∧ l.length = j ∧ (∀ r ∈ l, r.length = width ∧ ∀ z ∈ r, valR z) ∧ c ≤ maxLen ∧ PartR wr w.heap.size g c j l j xs A C ∧ Drew w gc xo d code wr
def DrRP (w : World) (g : Nat) (xo : Option Addr) (d : Nat) (code : List Int) (width m : Nat) (e : Ending) (w' : World) : Prop :=
  ∃ (l : List (List Int)) (b c : Nat) (xs : List Value) (A : Nat → Option Addr) (C : Nat → Nat), e = .returned (.slice (some ⟨b, 0, none⟩) l.length c) ∧ l.length = m ∧ (∀ r ∈ l, r.length = width ∧ ∀ z ∈ r, valR z) ∧ PartR w' w.heap.size b c l.length l l.length xs A C ∧ Drew w g xo d code w'
set_option maxRecDepth 100000 in
set_option maxHeartbeats 4000000 in
theorem drawRows_any (g : Nat) (xo : Option Addr) (d : Nat) (code : List Int) (width m : Nat) (w : World) (hc : Cur w g xo d code) (hl : code.length ≤ 1048577) (hw : width ≤ 64) (hm : m ≤ 1000) :
    Calls Tryz.prog 73 #[.pointer (some ⟨g, 0, none⟩), .int .i64 width, .int .i64 m] w (DrRP w g xo d code width m) := by
  have hglt := hc.lt
  have HC := Lib.hid hc; have HL := Lib.hid hl
  have P0 : Hid (∃ xs A C, PartR (w.alloc (.cells #[] 34)) w.heap.size w.heap.size 0 0 [] 0 xs A C) := ⟨_, _, _, PartR.start w []⟩
  have D0 : Hid (Drew w g xo d code (w.alloc (Obj.cells #[] 34))) := ⟨hc.keepB ((Below.refl _ _).alloc (Nat.le_refl _) _), grownBy_below (World.grownBy.refl _ _) ((Below.refl _ _).alloc (Nat.le_refl _) _)⟩
  clear hc hl
  go_enter Tryz.func73, Tryz.ntmps73
  go_wp2_with fail
  go_loopw [7, 8] (fun v i wr => RowsRel w wr g xo d code width m v i) (fun _ i _ => m - (intOf i).toNat)
  case atStart =>
    obtain ⟨xs, A, C, hp⟩ := P0.out
    exact ⟨0, _, _, [], xs, A, C, Nat.zero_le _, rfl, rfl, rfl, by simp, Nat.zero_le _, hp, D0.out⟩
  case round =>
    clear P0 D0
    rename World => u
    obtain ⟨j, gr, cc, l, xs, A, C, hj, rfl, rfl, hlj, hlr, hcc, hp, hd⟩ := hrel
    have HLJ := Lib.hid hlj; have HLR := Lib.hid hlr; have HCC := Lib.hid hcc; have HP := Lib.hid hp; have HD := Lib.hid hd
    have XL : Hid (xs.length = j) := by have := hp.own.1; show _ = _; omega
    have hzw := hd.2.size
    clear hlj hlr hcc hp hd
    by_cases hlt : j < m
    · have i1 : (j : Int) < (m : Int) := by omega
      have HST : Hid (Own (u.alloc (Obj.cells #[] 3)) u.heap.size 3 .i64 (some ⟨u.heap.size, 0, none⟩) 0 []) := World.ownsRow_lit u #[] 0 (Nat.le_refl _) (Nat.zero_le _) rfl
      have D1 : Hid (Drew u g xo d code (u.alloc (Obj.cells #[] 3))) := ⟨HD.out.1.keepB ((Below.refl _ _).alloc (Nat.le_refl _) _), grownBy_below (World.grownBy.refl _ _) ((Below.refl _ _).alloc (Nat.le_refl _) _)⟩
      have hgr := HD.out.1.lt
      go_wp2_with fail
      go_loopw [9, 10] (fun v i wx => RowRel u wx g xo d code width v i) (fun _ i _ => width - (intOf i).toNat)
      case atStart => exact ⟨0, [], _, _, _, Nat.zero_le _, rfl, rfl, rfl, rfl, by simp, HST.out, D1.out⟩
      case round =>
        clear HST D1
        obtain ⟨k, acc, ao, c, n, hk, rfl, rfl, hn, hnk, hv, ho, hdx⟩ := hrel
        have HN := Lib.hid hn; have HV := Lib.hid hv; have HO := Lib.hid ho; have HX := Lib.hid hdx
        have HNK := Lib.hid hnk
        clear hn hnk hv ho hdx
        by_cases hkw : k < width
        · have k1 : (k : Int) < (width : Int) := by omega
          go_wp2_with fail
          refine (l01Below_any g xo d code 5 _ HX.out.1 HL.out (by omega) (by omega)).mono ?_
          rintro e w3 ⟨z, rfl, z0, z1, hc3, hg3⟩
          have D3 : Hid (Drew u g xo d code w3) := drew_trans HX.out.2 hc3 hg3
          have O3 := Lib.hid (Drew.own ⟨hc3, hg3⟩ HO.out hgr)
          clear hc3 hg3
          go_wp2_with fail
          refine (l01Once_any g xo d code 8 _ D3.out.1 HL.out (by omega) (by omega)).mono ?_
          rintro e w5 ⟨bo, rfl, hc5, hg5⟩
          have D5 : Hid (Drew u g xo d code w5) := drew_trans D3.out.2 hc5 hg5
          have O5 := Lib.hid (Drew.own ⟨hc5, hg5⟩ O3.out hgr)
          clear hc5 hg5
          have hal : acc.length ≤ 64 := by rw [← HN.out, HNK.out]; omega
          have VZ : Hid (∀ y, y = z ∨ y = -2000000 → ∀ x ∈ acc ++ [y], valR x) := fun y hy x hx => by
            rcases List.mem_append.1 hx with hx | hx
            · exact HV.out x hx
            · simp at hx; subst hx
              rcases hy with rfl | rfl
              · exact .inl ⟨by omega, by omega⟩
              · exact .inr rfl
          cases bo with
          | false =>
            go_wp2_with (at_builtin; go_must (refine wpList_appendI _ rfl (.tmp 28) (.tmp 30) 34 rfl u.heap.size 3 Tryz.underlying34 Tryz.infoInt ao c n acc rfl HN.out (O5.out.alloc _) w5.heap.size 1 z rfl (cell_one _ _ _) (by omega) (by have := D5.out.2.size; simp; omega) ?_; intro ao' c' w6 ho' hg'; have HO' := Lib.hid ho'; have HG' := Lib.hid hg'; clear ho' hg'))
            go_roundw
            case rel => exact ⟨k + 1, acc ++ [z], ao', c', _, by omega, by go_num, rfl, by simp, by have := HN.out; have := HNK.out; omega, VZ.out z (.inl rfl), HO'.out, drew_app HD.out.1 D5.out O5.out HG'.out⟩
            case measure => simp [intOf]; omega
          | true =>
            go_wp2_with (at_builtin; go_must (refine wpList_appendI _ rfl (.tmp 28) (.tmp 30) 34 rfl u.heap.size 3 Tryz.underlying34 Tryz.infoInt ao c n acc rfl HN.out (O5.out.alloc _) w5.heap.size 1 (-2000000) rfl (cell_one _ _ _) (by omega) (by have := D5.out.2.size; simp; omega) ?_; intro ao' c' w6 ho' hg'; have HO' := Lib.hid ho'; have HG' := Lib.hid hg'; clear ho' hg'))
            go_roundw
            case rel => exact ⟨k + 1, acc ++ [-2000000], ao', c', _, by omega, by go_num, rfl, by simp, by have := HN.out; have := HNK.out; omega, VZ.out _ (.inr rfl), HO'.out, drew_app HD.out.1 D5.out O5.out HG'.out⟩
            case measure => simp [intOf]; omega
        · have HKW : Hid (k = width) := by show _ = _; omega
          have hkw' : ¬ ((k : Int) < (width : Int)) := by omega
          obtain rfl : n = acc.length := HN.out
          have DX := Lib.hid (HD.out.next HX.out)
          have hz1 := HX.out.2.size
          have hz2 := DX.out.2.size
          have hgw := (owns_block HP.out.own).1
          have OV : Hid (OwnV wr w.heap.size 34 (some ⟨gr, 0, none⟩) cc xs) := by
            have := (HP.out.keep2 (w' := wr) (fun i h1 h2 => HX.out.2.block i h2 (by simp; omega))).own
            show World.ownsRow _ _ _ _ _ _ _
            rw [XL.out]
            exact this
          have hj1 : j ≤ 1000 := by omega
          go_wp2_with (at_builtin; go_must (refine wpList_appendV _ rfl (.tmp 32) (.tmp 34) 29 rfl w.heap.size 34 (.slice none 0 0) 24 Tryz.underlying29 infoRw rfl (some ⟨gr, 0, none⟩) cc j xs rfl XL.out.symm (OV.out.alloc _) wr.heap.size 1 (.slice ao acc.length c) rfl (cell_one _ _ _) rfl (by have := XL.out; unfold maxLen; omega) (by have := XL.out; omega) (by simp; omega) ?_; intro ao3 c3 w6 o6 g6 k6; obtain ⟨g', ys, A', C', rfl, hp'⟩ := push_drawn hglt hzw HP.out HLJ.out HX.out.2 HO.out o6 g6 k6; have P6 := Lib.hid hp'; have M6 := Lib.hid o6.cap_le; have D6 := Lib.hid (drew_row HC.out DX.out ((Below.refl _ wr).alloc (Nat.le_refl _) _) g6 (fun q hq => by simp at hq; omega)); clear o6 g6 k6 hp'))
          rw [XL.out]
          go_roundw
          case rel => exact ⟨j + 1, g', c3, l ++ [acc], ys, A', C', by omega, by go_num, rfl, by rw [List.length_append, HLJ.out]; rfl, fun r hr => by rcases List.mem_append.1 hr with hr | hr; exact HLR.out r hr; simp at hr; subst hr; exact ⟨by have h1 := HNK.out; have h2 := HKW.out; omega, HV.out⟩, M6.out, P6.out, D6.out⟩
          case measure => simp [intOf]; omega
    · have hjm : j = m := by omega
      go_wp2_with fail
      go_ret
      exact ⟨l, gr, cc, xs, A, C, ret_slice HLJ.out.symm, by rw [HLJ.out]; exact hjm, HLR.out, by rw [HLJ.out]; exact HP.out, HD.out⟩
theorem PartR.rd {w : World} {base g c : Nat} {l : List (List Int)} {xs : List Value} {A : Nat → Option Addr} {C : Nat → Nat} (h : PartR w base g c l.length l l.length xs A C) : RdR w (some ⟨g, 0, none⟩) l :=
  .inr ⟨g, 0, rfl, fun i r hi => ⟨_, _, h.at_ (lt_of_get hi) (lt_of_get hi) hi⟩⟩
section
variable {w w' : World} {lo hi base c : Nat} {ao : Option Addr} {l : List (List Int)}
end
section
variable {w w' : World} {base g c m : Nat} {l : List (List Int)} {j : Nat} {xs : List Value} {A : Nat → Option Addr} {C : Nat → Nat}
theorem PartR.marked (h : PartR w base g c m l j xs A C) {k : Nat} {n zs : List Int} (hk : k < j) (hn : l[k]? = some n) (hz : zs.length = n.length) (hg : w.grownBy w' ((A k).map (·.block))) (ho : Own w' base 3 .i64 (A k) (C k) zs) :
    PartR w' base g c m (l.set k zs) j xs A C := by
  have hkl := lt_of_get hn
  have hlen : (l.set k zs).length = l.length := by simp
  have hne : ∀ i, i ≠ k → ∀ x, A i = some x → i < j → i < l.length → some x.block ≠ (A k).map (·.block) := by
    intro i hik x hx hi hil
    cases hA : A k with
    | none => simp
    | some y => simp; exact h.apart i k x y hi hk hil hkl hik hx hA
  refine ⟨owns_keep h.own (hg.block g (owns_block h.own).2 ?_), ?_, ?_, ?_, ?_⟩
  · cases hA : A k with
    | none => simp
    | some y => simp; exact Ne.symm (h.row k y hk hkl hA)
  · intro i m' hi hm
    by_cases hik : i = k
    · subst hik
      rw [List.getElem?_set_self hkl] at hm; cases hm
      rw [h.cells i n hi hn, hz]
    · rw [List.getElem?_set_ne (by omega)] at hm
      exact h.cells i m' hi hm
  · intro i m' hi hm
    have hil : i < l.length := by have := lt_of_get hm; omega
    by_cases hik : i = k
    · subst hik
      rw [List.getElem?_set_self hil] at hm; cases hm
      exact ho
    · rw [List.getElem?_set_ne (by omega)] at hm
      exact (h.cols i m' hi hm).grown hg (fun x hx => hne i hik x hx hi hil)
  · intro i x hi hil hx'; exact h.row i x hi (by omega) hx'
  · intro i k' x y h1 h2 h3 h4; exact h.apart i k' x y h1 h2 (by omega) (by omega)
end
def RowsAt (w : World) (b o : Nat) (r : List (List Int)) (a : Option Addr) (c : Nat) : Prop :=
  w.cell? ⟨b, o, none⟩ = some (.slice a r.length c) ∧ RdR w a r ∧ r.length ≤ c ∧ c ≤ maxLen
def RdRR (w : World) (ao : Option Addr) (l : List (List (List Int))) : Prop :=
  l = [] ∨ ∃ b off, ao = some ⟨b, off, none⟩ ∧ ∀ i r, l[i]? = some r → ∃ a c, RowsAt w b (off + i) r a c
section
variable {w w' : World} {b o : Nat} {ao : Option Addr} {c : Nat} {l : List (List (List Int))} {r : List (List Int)} {a : Option Addr}
theorem RowsAt.lt (h : RowsAt w b o r a c) : b < w.heap.size := World.block_lt_of_cell? w ⟨b, o, none⟩ h.1
theorem RowsAt.below (h : RowsAt w b o r a c) (hb : Below w.heap.size w w') : RowsAt w' b o r a c :=
  ⟨(hb.cell (p := ⟨b, o, none⟩) h.lt).trans h.1, h.2.1.below hb, h.2.2⟩
theorem RdRR.below (h : RdRR w ao l) (hb : Below w.heap.size w w') : RdRR w' ao l := by
  rcases h with h | ⟨b, off, rfl, hc⟩
  · exact .inl h
  · refine .inr ⟨b, off, rfl, fun i n hi => ?_⟩
    obtain ⟨a, c, h⟩ := hc i n hi
    exact ⟨a, c, h.below hb⟩
theorem RdRR.at_ (h : RdRR w ao l) {i : Nat} (hi : i < l.length) : ∃ b off r a c, ao = some ⟨b, off, none⟩ ∧ l[i]? = some r ∧ RowsAt w b (off + i) r a c := by
  rcases h with rfl | ⟨b, off, rfl, hc⟩
  · simp at hi
  · obtain ⟨a, c, h⟩ := hc i _ (List.getElem?_eq_getElem hi)
    exact ⟨b, off, _, a, c, rfl, List.getElem?_eq_getElem hi, h⟩
end
section
variable {w w' : World} {base g c m : Nat} {l : List (List (List Int))} {j : Nat} {xs : List Value} {A : Nat → Option Addr} {C R : Nat → Nat}
end
section
variable {w w' : World} {base : Nat} {ao : Option Addr} {c : Nat} {l : List (List (List Int))}
end
theorem Tryz.infoSSl : (Tryz.prog.info? 29).map (fun i => (i.zero, i.size, i.bytes)) = some (some (.slice none 0 0), 1, 24) := by kernel_rfl
section
variable {w w' : World} {base g c m : Nat} {l : List (List (List Int))} {j : Nat} {xs : List Value} {A : Nat → Option Addr} {C R : Nat → Nat}
end
section
variable {w w' : World} {base lo hi c : Nat} {ao : Option Addr} {l : List (List (List Int))}
end
def PartH (w : World) (lo hi b c : Nat) (r : RowsL) : Prop :=
  ∃ xs A C, PartR w lo b c r.length r r.length xs A C ∧ b < hi ∧ ∀ (i : Nat) (x : Addr), i < r.length → A i = some x → x.block < hi
def LooseRR (w : World) (base : Nat) (ao : Option Addr) (l : List RowsL) : Prop :=
  l = [] ∨ ∃ b off, ao = some ⟨b, off, none⟩ ∧ base ≤ b ∧ ∀ i r, l[i]? = some r → ∃ a c, w.cell? ⟨b, off + i, none⟩ = some (.slice a r.length c) ∧ RdX (fun k => k < base) w a r ∧ r.length ≤ c ∧ c ≤ maxLen
theorem LooseRR.rd {w : World} {base : Nat} {ao : Option Addr} {l : List RowsL} (h : LooseRR w base ao l) : RdRR w ao l := by
  rcases h with h | ⟨b, off, rfl, _, hc⟩
  · exact .inl h
  · refine .inr ⟨b, off, rfl, fun i r hr => ?_⟩
    obtain ⟨a, c, h1, h2, h3, h4⟩ := hc i r hr
    exact ⟨a, c, h1, h2.rd, h3, h4⟩
theorem sg_draw {w w' : World} {g base : Nat} (hg : w.grownBy w' (some g)) (hlt : g < base) : SG (fun k => k < base) w w' :=
  ⟨hg.os, hg.tape, hg.output, hg.size, fun k hk hn => hg.block k hk (by simp only [Nat.not_lt] at hn; simp; omega)⟩
theorem LooseRR.draw {w w' : World} {base g : Nat} {ao : Option Addr} {l : List RowsL} (h : LooseRR w base ao l) (hg : w.grownBy w' (some g)) (hlt : g < base) : LooseRR w' base ao l := by
  rcases h with h | ⟨b, off, rfl, hb, hc⟩
  · exact .inl h
  · refine .inr ⟨b, off, rfl, hb, fun i r hr => ?_⟩
    obtain ⟨a, c, h1, h2, h3, h4⟩ := hc i r hr
    have hbl : b < w.heap.size := World.block_lt_of_cell? w _ h1
    exact ⟨a, c, (World.cell?_of_block (a := ⟨b, off + i, none⟩) (hg.block b hbl (by simp; omega))).trans h1, h2.grown (sg_draw hg hlt), h3, h4⟩
theorem PartH.keep {w w' : World} {lo hi b c : Nat} {r : RowsL} (h : PartH w lo hi b c r) (hk : ∀ k, lo ≤ k → k < hi → k < w.heap.size → w'.heap[k]? = w.heap[k]?) : PartH w' lo hi b c r := by
  obtain ⟨xs, A, C, hp, hb, hA⟩ := h
  have hob := owns_block hp.own
  exact ⟨xs, A, C, ⟨owns_keep hp.own (hk b hob.1 hb hob.2), hp.cells, fun i n hi hn => (hp.cols i n hi hn).keep (fun x hx hlt => hk x.block ((hp.cols i n hi hn).lt x hx).1 (hA i x (by have := lt_of_get hn; omega) hx) hlt), hp.row, hp.apart⟩, hb, hA⟩
theorem PartH.rdX {z : Nat → Prop} {w : World} {lo hi b c : Nat} {r : RowsL} (h : PartH w lo hi b c r) (hz : ∀ k, lo ≤ k → k < hi → ¬ z k) : RdX z w (some ⟨b, 0, none⟩) r := by
  obtain ⟨xs, A, C, hp, hb, hA⟩ := h
  refine .inr ⟨b, 0, rfl, hz b (owns_block hp.own).1 hb, fun i n hi => ?_⟩
  have hlt := lt_of_get hi
  obtain ⟨h1, h2, h3, h4⟩ := hp.at_ hlt hlt hi
  refine ⟨A i, C i, h1, h2, h3, h4, fun _ x hx => ?_⟩
  have := (hp.cols i n hlt hi).lt x hx
  exact hz x.block this.1 (hA i x hlt hx)
theorem PartH.cap {w : World} {lo hi b c : Nat} {r : RowsL} (h : PartH w lo hi b c r) : r.length ≤ c ∧ c ≤ maxLen := by
  obtain ⟨xs, A, C, hp, _⟩ := h
  exact owns_cap hp.own
structure PartRO (w : World) (base g c : Nat) (l : List RowsL) (xs : List Value) (B C L H : Nat → Nat) : Prop where
  own : w.ownsRow base 29 1 (.slice (some ⟨g, 0, none⟩) l.length c) l.length xs
  cells : ∀ (i : Nat) (r : RowsL), l[i]? = some r → xs[i]? = some (.slice (some ⟨B i, 0, none⟩) r.length (C i))
  rows : ∀ (i : Nat) (r : RowsL), l[i]? = some r → PartH w (L i) (H i) (B i) (C i) r
  lo : ∀ i, i < l.length → base ≤ L i
  off : ∀ i, i < l.length → g < L i ∨ H i ≤ g
  ord : ∀ i k, i < k → k < l.length → H i ≤ L k
  last : ∀ i, i < l.length → H i ≤ w.heap.size
section
variable {w w' : World} {base g c : Nat} {l : List RowsL} {xs : List Value} {B C L H : Nat → Nat}
theorem PartRO.start (w : World) : PartRO (w.alloc (.cells #[] 29)) w.heap.size w.heap.size 0 [] [] (fun _ => 0) (fun _ => 0) (fun _ => 0) (fun _ => 0) :=
  ⟨World.ownsRow_lit w #[] 0 (Nat.le_refl _) (Nat.zero_le _) rfl, fun i r h => by simp at h, fun i r h => by simp at h, fun i h => by simp at h, fun i h => by simp at h, fun i k _ h => by simp at h, fun i h => by simp at h⟩
theorem PartRO.draw {gc : Nat} (h : PartRO w base g c l xs B C L H) (hg : w.grownBy w' (some gc)) (hlt : gc < base) : PartRO w' base g c l xs B C L H := by
  have hob := owns_block h.own
  refine ⟨owns_keep h.own (hg.block g hob.2 (by simp; omega)), h.cells, fun i r hr => ?_, h.lo, h.off, h.ord, fun i hi => Nat.le_trans (h.last i hi) hg.size⟩
  have := h.lo i (lt_of_get hr)
  exact (h.rows i r hr).keep fun k h1 _ h3 => hg.block k h3 (by simp; omega)
theorem PartRO.at_ (h : PartRO w base g c l xs B C L H) {t : Nat} {r : RowsL} (ht : l[t]? = some r) : w.cell? ⟨g, t, none⟩ = some (.slice (some ⟨B t, 0, none⟩) r.length (C t)) := by
  have hlt := lt_of_get ht
  rw [World.ownsRow.cellAt h.own t (by omega)]
  exact h.cells t r ht
theorem PartRO.push {w5 w6 : World} {gc b1 c1 c' : Nat} {r : RowsL} {ao' : Option Addr} {o : Obj} (h : PartRO w base g c l xs B C L H) (hgc : gc < base) (hd : w.grownBy w5 (some gc)) (hp : PartH w5 w.heap.size w5.heap.size b1 c1 r)
    (h6 : OwnV w6 base 29 ao' c' (xs ++ [.slice (some ⟨b1, 0, none⟩) r.length c1])) (g6 : (w5.alloc o).grownBy w6 (some g)) (k6 : ao' = some ⟨g, 0, none⟩ ∨ ao' = some ⟨(w5.alloc o).heap.size, 0, none⟩) :
    ∃ g', ao' = some ⟨g', 0, none⟩ ∧ PartRO w6 base g' c' (l ++ [r]) (xs ++ [.slice (some ⟨b1, 0, none⟩) r.length c1]) (fun i => if i = l.length then b1 else B i) (fun i => if i = l.length then c1 else C i) (fun i => if i = l.length then w.heap.size else L i) (fun i => if i = l.length then w5.heap.size else H i) := by
  have hob := owns_block h.own
  have hz := hd.size
  have hz6 := g6.size
  have hza : (w5.alloc o).heap.size = w5.heap.size + 1 := by simp
  have hxl : xs.length = l.length := by have := h.own.1; omega
  have hblk : ∀ k, k < w5.heap.size → k ≠ g → w6.heap[k]? = w5.heap[k]? := fun k hk hne => (g6.block k (by omega) (by simp; exact hne)).trans (heap_alloc_old w5 o hk)
  obtain ⟨g', rfl, hg'⟩ : ∃ g', ao' = some ⟨g', 0, none⟩ ∧ (g' = g ∨ g' = w5.heap.size + 1) := by
    rcases k6 with rfl | rfl
    · exact ⟨g, rfl, .inl rfl⟩
    · exact ⟨_, rfl, .inr hza⟩
  refine ⟨g', rfl, ?_, ?_, ?_, ?_, ?_, ?_, ?_⟩
  · have := h6
    unfold OwnV at this
    rw [show (xs ++ [Value.slice (some ⟨b1, 0, none⟩) r.length c1]).length = (l ++ [r]).length by simp [hxl]] at this
    exact this
  · intro i q hq
    by_cases hi : i = l.length
    · subst hi
      rw [List.getElem?_append_right (Nat.le_refl _), Nat.sub_self] at hq
      simp at hq; subst hq
      simp only [if_true]
      rw [List.getElem?_append_right (by omega), hxl, Nat.sub_self]; rfl
    · have hlt : i < l.length := by have := lt_of_get hq; simp at this; omega
      rw [List.getElem?_append_left hlt] at hq
      simp only [if_neg hi]
      rw [List.getElem?_append_left (by omega)]
      exact h.cells i q hq
  · intro i q hq
    by_cases hi : i = l.length
    · subst hi
      rw [List.getElem?_append_right (Nat.le_refl _), Nat.sub_self] at hq
      simp at hq; subst hq
      simp only [if_true]
      exact hp.keep fun k h1 h2 _ => hblk k h2 (by omega)
    · have hlt : i < l.length := by have := lt_of_get hq; simp at this; omega
      rw [List.getElem?_append_left hlt] at hq
      simp only [if_neg hi]
      have h1 := h.lo i hlt
      have h2 := h.off i hlt
      have h3 := h.last i hlt
      exact (h.rows i q hq).keep fun k h4 h5 h6 => (hblk k (by omega) (by omega)).trans (hd.block k h6 (by simp; omega))
  · intro i hi
    by_cases he : i = l.length
    · simp only [if_pos he]; omega
    · simp only [if_neg he]; exact h.lo i (by simp at hi; omega)
  · intro i hi
    by_cases he : i = l.length
    · simp only [if_pos he]; omega
    · simp only [if_neg he]
      have hlt : i < l.length := by simp at hi; omega
      have := h.off i hlt
      have := h.last i hlt
      omega
  · intro i k hik hk
    have hkl : k ≤ l.length := by simp at hk; omega
    rw [if_neg (by omega)]
    by_cases he : k = l.length
    · rw [if_pos he]; exact h.last i (by omega)
    · rw [if_neg he]; exact h.ord i k hik (by omega)
  · intro i hi
    by_cases he : i = l.length
    · simp only [if_pos he]; omega
    · simp only [if_neg he]
      have := h.last i (by simp at hi; omega)
      omega
theorem PartRO.loose (h : PartRO w base g c l xs B C L H) : LooseRR w base (some ⟨g, 0, none⟩) l := by
  refine .inr ⟨g, 0, rfl, (owns_block h.own).1, fun i r hr => ?_⟩
  have hp := h.rows i r hr
  have h1 := h.lo i (lt_of_get hr)
  exact ⟨_, _, by rw [Nat.zero_add]; exact h.at_ hr, hp.rdX (fun k h2 _ => by omega), hp.cap⟩
theorem PartRO.others (h : PartRO w base g c l xs B C L H) {t i : Nat} {r : RowsL} (htl : t < l.length) (hr : l[i]? = some r) (hne : i ≠ t) (hf : Frame (L t) (H t) w w') : PartH w' (L i) (H i) (B i) (C i) r := by
  have hil := lt_of_get hr
  refine (h.rows i r hr).keep fun k h1 h2 h3 => hf.block k h3 ?_
  rcases Nat.lt_or_gt_of_ne hne with h4 | h4
  · have := h.ord i t h4 htl; omega
  · have := h.ord t i h4 hil; omega
theorem PartRO.turn (h : PartRO w base g c l xs B C L H) {t : Nat} {r r' : RowsL} (ht : l[t]? = some r) (hf : Frame (L t) (H t) w w') (hx : RdX (fun k => k < base) w' (some ⟨B t, 0, none⟩) r') (hl : r'.length = r.length) : LooseRR w' base (some ⟨g, 0, none⟩) (l.set t r') := by
  have hob := owns_block h.own
  have htl := lt_of_get ht
  have hgb : w'.heap[g]? = w.heap[g]? := hf.block g hob.2 (h.off t htl)
  refine .inr ⟨g, 0, rfl, hob.1, fun i q hq => ?_⟩
  rw [Nat.zero_add, World.cell?_of_block (a := ⟨g, i, none⟩) hgb]
  by_cases hi : i = t
  · subst hi
    rw [List.getElem?_set_self htl] at hq; cases hq
    have hc := (h.rows i r ht).cap
    exact ⟨_, _, by rw [hl]; exact h.at_ ht, hx, by omega, hc.2⟩
  · rw [List.getElem?_set_ne (by omega)] at hq
    have hp := h.others htl hq hi hf
    have h1 := h.lo i (lt_of_get hq)
    exact ⟨_, _, h.at_ hq, hp.rdX (fun k h2 _ => by omega), hp.cap⟩
theorem PartRO.set (h : PartRO w base g c l xs B C L H) {t : Nat} {r r' : RowsL} (ht : l[t]? = some r) (hf : Frame (L t) (H t) w w') {a' : Option Addr} {c' : Nat} (hx : RdX (fun k => k < base ∨ k = g) w' a' r') (h1 : r'.length ≤ c') (h2 : c' ≤ maxLen) : LooseRR (w'.setCell ⟨g, t, none⟩ (.slice a' r'.length c')) base (some ⟨g, 0, none⟩) (l.set t r') := by
  have hob := owns_block h.own
  have htl := lt_of_get ht
  have hgb : w'.heap[g]? = w.heap[g]? := hf.block g hob.2 (h.off t htl)
  have ho := (World.ownsRow.stored (owns_keep h.own hgb) t (.slice a' r'.length c')).1
  have hxl : xs.length = l.length := by have := h.own.1; omega
  have hsg : SG (fun k => k < base ∨ k = g) w' (w'.setCell ⟨g, t, none⟩ (.slice a' r'.length c')) := ⟨rfl, rfl, rfl, by simp [World.setCell], fun k _ hn => Below.heap_setCell w' _ _ k (fun e => hn (.inr e))⟩
  refine .inr ⟨g, 0, rfl, hob.1, fun i q hq => ?_⟩
  have hil : i < l.length := by have := lt_of_get hq; simp at this; exact this
  rw [Nat.zero_add, World.ownsRow.cellAt ho i (by omega)]
  by_cases hi : i = t
  · subst hi
    rw [List.getElem?_set_self htl] at hq; cases hq
    exact ⟨_, _, List.getElem?_set_self (by omega), (hx.grown hsg).mono (fun k hk => .inl hk), h1, h2⟩
  · rw [List.getElem?_set_ne (by omega)] at hq
    have hp := h.others htl hq hi hf
    have h3 := h.lo i hil
    have h4 := h.off i hil
    refine ⟨_, _, by rw [List.getElem?_set_ne (by omega)]; exact h.cells i q hq, ?_, hp.cap⟩
    exact ((hp.rdX (z := fun k => k < base ∨ k = g) (fun k h5 h6 => by omega)).grown hsg).mono (fun k hk => .inl hk)
end
theorem rdx_app {z : Nat → Prop} {W w' : World} {lo : Nat} {row : Option Nat} {ao' : Option Addr} {c' : Nat} {xs us : List Value} {l ms : RowsL} (hown : OwnV w' lo 34 ao' c' (xs ++ us)) (hxl : xs.length = l.length) (hul : us.length = ms.length) (hg : W.grownBy w' row) (ho : ∀ x, ao' = some x → ¬ z x.block)
    (hx : ∀ (i : Nat) (r : List Int), l[i]? = some r → ∃ a c, xs[i]? = some (.slice a r.length c) ∧ Own W 0 3 .i64 a c r ∧ ∀ x, a = some x → ¬ z x.block ∧ some x.block ≠ row)
    (hu : ∀ (i : Nat) (r : List Int), ms[i]? = some r → ∃ a c, us[i]? = some (.slice a r.length c) ∧ Own W 0 3 .i64 a c r ∧ ∀ x, a = some x → ¬ z x.block ∧ some x.block ≠ row) : RdX z w' ao' (l ++ ms) := by
  rcases hown.form with ⟨_, _, e⟩ | ⟨q, rfl, _⟩
  · left
    have h1 : (xs ++ us).length = 0 := by rw [e]; rfl
    rw [List.length_append] at h1
    have h2 : l = [] := List.eq_nil_of_length_eq_zero (by omega)
    have h3 : ms = [] := List.eq_nil_of_length_eq_zero (by omega)
    rw [h2, h3]; rfl
  · refine .inr ⟨q, 0, rfl, ho _ rfl, fun i r hr => ?_⟩
    have key : ∃ a c, (xs ++ us)[i]? = some (.slice a r.length c) ∧ Own W 0 3 .i64 a c r ∧ ∀ x, a = some x → ¬ z x.block ∧ some x.block ≠ row := by
      rcases Nat.lt_or_ge i l.length with h | h
      · rw [List.getElem?_append_left h] at hr
        obtain ⟨a, c, h1, h2⟩ := hx i r hr
        exact ⟨a, c, by rw [List.getElem?_append_left (by omega)]; exact h1, h2⟩
      · rw [List.getElem?_append_right h] at hr
        obtain ⟨a, c, h1, h2⟩ := hu _ r hr
        exact ⟨a, c, by rw [List.getElem?_append_right (by omega), hxl]; exact h1, h2⟩
    obtain ⟨a, c, h1, h2, h3⟩ := key
    have hil : i < (xs ++ us).length := by
      rcases Nat.lt_or_ge i (xs ++ us).length with h | h
      · exact h
      · rw [List.getElem?_eq_none h] at h1; cases h1
    refine ⟨a, c, ?_, (h2.grown hg (fun x hx => (h3 x hx).2)).rd, h2.cap_ge, h2.cap_le, fun _ x hx => (h3 x hx).1⟩
    rw [Nat.zero_add, hown.cell i hil, h1]
section
variable {w wr w1 w' : World} {B h : Nat} {T E : TypeId} {l : List Int} {ao ao' : Option Addr} {c c' : Nat} {o : Obj} {z : Int}
end
end Go.Proofs.YtanfllednlpbaaaGreat
