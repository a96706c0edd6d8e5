/-
  Contracts of spec.l06DrawText and spec.DrawParsePlan: some text. For every slice of bytes. Tables as data and in memory: what a slice of tables reads as, what of it the call itself owns, and append of one table. No walk.
-/
import Derived.Test.YtfpbhedophlnkaaGreatDoorJT45x
import Derived.Test.YtfpbhedophlnkaaGreatDoorJT32x
import Derived.Test.YtfpbhedophlnkaaGreatDoorSWords
import Derived.Test.YtfpbhedophlnkaaGreatDoorJT46x
import Derived.Test.YtfpbhedophlnkaaGreatDoorJT49x
import Derived.Laws.OwnMore
import Derived.Deep.DeepCutAuto
import Derived.Deep.CutRange
import Derived.Deep.CutBlock
import Derived.Test.YtfpbhedophlnkaaGreatDoorJT5x
import Derived.Maps.AppendAt
import Derived.OwnWalk
namespace Go.Proofs.YtfpbhedophlnkaaGreatDoor
open Go.RowKit
set_option linter.unusedSimpArgs false
set_option linter.unusedVariables false

/-- A text that is picked out of a row just made. -/
theorem pickT_new (g : Nat) (xo : Option Addr) (d : Nat) (code : List Int) (w : World) (hc : Cur w g xo d code) (hl : code.length ≤ 1048577) (l : List ByteArray) (n : Nat) (hn : l.length = n) (h0 : 1 ≤ n) (h1 : n ≤ 256) (hs : ∀ s ∈ l, s.size ≤ 100) (cs : Array Value) (hcs : cs = (l.map Value.string).toArray) :
    Calls Tryz.prog 147 #[.pointer (some ⟨g, 0, none⟩), .slice (some ⟨w.heap.size, 0, none⟩) n n] (w.alloc (.cells cs 9)) fun e w' => ∃ s : ByteArray, s.size ≤ 100 ∧ e = .returned (.string s) ∧ Drew w g xo d code w' := by
  subst hcs
  refine (l01PickText_any g xo d code w.heap.size n n _ (hc.keepB ((Below.refl _ _).alloc (Nat.le_refl _) _)) hl ?_ (by have := hc.lt; omega) h0 h1).mono ?_
  · intro i hi
    have hx : l[i]? = some (l[i]'(by omega)) := List.getElem?_eq_getElem (by omega)
    refine ⟨l[i]'(by omega), hs _ (List.getElem_mem _), ?_⟩
    rw [cell_of_row _ _ _ _ _ _ (heap_alloc_new w _)]
    simp [hx]
  · rintro e w' ⟨s, h1, rfl, hc2, hg2⟩
    exact ⟨s, h1, rfl, hc2, grownBy_trans (below_grown ((Below.refl w.heap.size w).alloc (Nat.le_refl _) _)) hg2⟩
/-- Some words that lie apart from the cursor. -/
def WsAt (w wr : World) (v : Value) (ws : List ByteArray) : Prop := ∃ ao n c, v = .slice ao n c ∧ n = ws.length ∧ RdS wr ao ws ∧ (∀ a, ao = some a → w.heap.size ≤ a.block)
theorem RdS.grownG {w wr w' : World} {g : Nat} {ao : Option Addr} {ws : List ByteArray} (h : RdS wr ao ws) (ha : ∀ a, ao = some a → w.heap.size ≤ a.block) (hg : g < w.heap.size) (hd : wr.grownBy w' (some g)) : RdS w' ao ws :=
  h.keep fun a p h1 h2 h3 => by
    have := ha a h1
    show w'.cell? p = wr.cell? p
    unfold World.cell?
    rw [hd.block p.block h3 (by simp; omega)]
theorem wsAt_own {w wr : World} {ao : Option Addr} {c : Nat} {ws : List ByteArray} {base n : Nat} (h : OwnS wr base ao c ws) (hb : w.heap.size ≤ base) (hn : n = ws.length) : WsAt w wr (.slice ao n c) ws :=
  ⟨ao, n, c, rfl, hn, h.rd, fun a ha => Nat.le_trans hb (h.lt a ha).1⟩
theorem words_few (s : ByteArray) : (wordsO s).length ≤ 2000 ∧ ∀ x ∈ wordsO s, x.size ≤ 2000 := by
  unfold wordsO
  split
  · simp
  · rename_i hs
    have h1 := wordsL_len s.data.toList
    have hsz : s.data.toList.length = s.size := by rw [Array.length_toList]; rfl
    refine ⟨by rw [List.length_map]; omega, fun x hx => ?_⟩
    obtain ⟨y, hy, rfl⟩ := List.mem_map.1 hx
    rw [mkBs_size]
    have := (h1.2 y hy).1
    omega
theorem set_sizes {ws : List ByteArray} {i : Nat} {x : ByteArray} (h : ∀ y ∈ ws, y.size ≤ 2000) (hx : x.size ≤ 2101) : ∀ y ∈ ws.set i x, y.size ≤ 2101 := by
  intro y hy
  rcases List.mem_or_eq_of_mem_set hy with hy | rfl
  · have := h y hy; omega
  · exact hx
/-- A word is put in the place of another. -/
theorem OwnS.put {wr : World} {base g c : Nat} {ws : List ByteArray} (h : OwnS wr base (some ⟨g, 0, none⟩) c ws) (i : Nat) (x : ByteArray) : OwnS (wr.setCell ⟨g, i, none⟩ (.string x)) base (some ⟨g, 0, none⟩) c (ws.set i x) := by
  unfold OwnS at h ⊢
  have := (World.ownsRow.stored h i (.string x)).1
  rw [List.length_set, List.map_set]
  exact this
theorem cell_one_t (w : World) (y : ByteArray) (t : TypeId) : ∀ i, i < [y].length → (w.alloc (.cells #[.string y] t)).cell? ⟨w.heap.size, i, none⟩ = some (.string ([y].getD i ByteArray.empty)) := by
  intro i hi
  obtain rfl : i = 0 := by simp at hi; omega
  rw [World.cell?_alloc_new]; rfl
theorem capS_of {w : World} {base : Nat} {ao : Option Addr} {c : Nat} {l : List ByteArray} (h : OwnS w base ao c l) : l.length ≤ c := by
  rcases h.2 with ⟨hv, hn⟩ | ⟨g, cap, cur, hv, _, _, h1, _⟩
  · omega
  · simp only [Value.slice.injEq] at hv; omega
theorem rdS_take {w : World} {ao : Option Addr} {l : List ByteArray} (h : RdS w ao l) (k : Nat) : RdS w ao (l.take k) := by
  rcases h with rfl | ⟨b, off, rfl, hc⟩
  · left; simp
  · refine .inr ⟨b, off, rfl, fun i hi => ?_⟩
    rw [List.length_take] at hi
    rw [hc i (by omega), List.getD_eq_getElem?_getD, List.getD_eq_getElem?_getD, List.getElem?_take_of_lt (by omega)]
theorem rdS_cell {w : World} {ao : Option Addr} {l : List ByteArray} (h : RdS w ao l) {j : Nat} {y : ByteArray} (hy : l[j]? = some y) : ∃ b off, ao = some ⟨b, off, none⟩ ∧ ∀ W, RdS W ao l → W.cell? ⟨b, off + j, none⟩ = some (.string y) := by
  have hj := (List.getElem?_eq_some_iff.1 hy).1
  rcases h with rfl | ⟨b, off, rfl, _⟩
  · simp at hj
  · refine ⟨b, off, rfl, fun W hW => ?_⟩
    rcases hW with rfl | ⟨b', off', e, hc⟩
    · simp at hj
    · injection e with e
      simp only [Addr.mk.injEq, and_true] at e
      rw [e.1, e.2, hc j hj, List.getD_eq_getElem?_getD, hy]; rfl
/-- What drawing a text gives. -/
def DtxP (w : World) (g : Nat) (xo : Option Addr) (d : Nat) (code : List Int) (e : Ending) (w' : World) : Prop := ∃ s : ByteArray, s.size ≤ 8000000 ∧ e = .returned (.string s) ∧ Drew w g xo d code w'
/-- The words as they stand before they are put together. -/
def WdsRel (w : World) (g : Nat) (xo : Option Addr) (d : Nat) (code : List Int) (v : Value) (wx : World) : Prop :=
  ∃ ws : List ByteArray, WsAt w wx v ws ∧ ws.length ≤ 2001 ∧ (∀ x ∈ ws, x.size ≤ 2101) ∧ Drew w g xo d code wx
def JoinRel (w : World) (g : Nat) (xo : Option Addr) (d : Nat) (code : List Int) (ao : Option Addr) (ws : List ByteArray) (s i : Value) (wr : World) : Prop :=
  ∃ (j : Nat) (X : ByteArray), j ≤ ws.length ∧ i = .int .i64 j ∧ s = .string X ∧ X.size ≤ 2300 * j ∧ RdS wr ao ws ∧ Drew w g xo d code wr
set_option maxRecDepth 100000 in
set_option maxHeartbeats 4000000 in
theorem drawText_any (g : Nat) (xo : Option Addr) (d : Nat) (code : List Int) (b : Option Addr) (c : Nat) (w : World) (hc : Cur w g xo d code) (hl : code.length ≤ 1048577) :
    Calls Tryz.prog 137 #[.pointer (some ⟨g, 0, none⟩), .slice b code.length c] w (DtxP w g xo d code) := by
  have hglt := hc.lt
  have HC := Lib.hid hc; have HL := Lib.hid hl; clear hc hl
  go_enter Tryz.func137, Tryz.ntmps137
  go_wp2_with fail
  refine (drawSlotted_any g xo d code b c _ HC.out HL.out).mono ?_
  rintro e w1 ⟨l, bb, cc, rfl, h82, h4, ln, d1⟩
  have LN := Lib.hid ln; have D1 := Lib.hid d1; clear ln d1 h4
  go_wp2_with fail
  refine (specPrintPlan_any _ cc l _ LN.out.rd (by omega)).mono ?_
  rintro e w2 ⟨rfl, b2⟩
  have D2 := Lib.hid (D1.out.below b2); clear b2
  have hps : (planO l).size ≤ 9223372036854775807 := planO_size l
  have WO := Lib.hid (fun W => specWordsOf_any (planO l) W hps)
  have hfew := words_few (planO l)
  generalize wordsO (planO l) = ws at WO hfew
  obtain ⟨hw1, hw2⟩ := hfew
  have HW2 := Lib.hid hw2; clear hw2 LN D1
  go_wp2_with fail
  refine (WO.out _).mono ?_
  rintro e w3 ⟨ao, cw, rfl, o3, b3⟩
  have hz2 := D2.out.2.size
  have O3 := Lib.hid (o3.base_le hz2); have D3 := Lib.hid (D2.out.below b3)
  clear o3 b3 D2 hps WO
  generalize hn : ws.length = n at *
  have HN := Lib.hid hn; clear hn
  go_upto_region 2 with fail
  go_cut [20] (fun v20 wx => ∃ B : Bool, v20 = .bool B ∧ (B = true → 0 < n) ∧ OwnS wx w.heap.size ao cw ws ∧ Drew w g xo d code wx)
  case first =>
    go_wp2_with fail
    refine (l01Once_any g xo d code 3 _ D3.out.1 HL.out (by omega) (by omega)).mono ?_
    rintro e w4 ⟨bo, rfl, c4, g4⟩
    have D4 := Lib.hid (drew_once D3.out c4 g4)
    have O4 := Lib.hid (O3.out.grown g4 (fun a ha => by have := (O3.out.lt a ha).1; simp; omega))
    clear c4 g4
    cases bo with
    | false =>
      go_wp2_with fail
      go_meet
      exact ⟨false, rfl, by simp, O4.out, D4.out⟩
    | true =>
      by_cases h0 : n = 0
      · subst h0
        go_wp2_with fail
        go_meet
        exact ⟨false, rfl, by simp, O4.out, D4.out⟩
      · have h0' : (0 : Int) < (n : Int) := by omega
        have h0'' : decide ((0 : Int) < (n : Int)) = true := by simpa using h0'
        go_wp2_with fail
        go_meet
        exact ⟨true, congrArg Value.bool (decide_eq_true (by omega)), fun _ => by omega, O4.out, D4.out⟩
  case rest =>
  obtain ⟨bo, rfl, hbo, o4, d4⟩ := hcut
  have O4 := Lib.hid o4; have D4 := Lib.hid d4
  clear o4 d4 D3 O3
  go_upto_if 20 with fail
  go_cut [5] (fun v5 wx => WdsRel w g xo d code v5 wx)
  case first =>
    cases bo with
    | false =>
      go_wp2_with fail
      go_meet
      exact ⟨ws, wsAt_own O4.out (Nat.le_refl _) HN.out.symm, by rw [HN.out]; omega, fun x hx => by have := HW2.out x hx; omega, D4.out⟩
    | true =>
      have h0 := hbo rfl
      obtain ⟨gw, rfl⟩ : ∃ gw, ao = some ⟨gw, 0, none⟩ := by
        rcases O4.out.form with ⟨_, _, e⟩ | ⟨gw, rfl, _⟩
        · have := HN.out; rw [e] at this; simp at this; omega
        · exact ⟨gw, rfl⟩
      go_wp2_with fail
      refine (l01BelowB_any g xo d code n _ D4.out.1 HL.out (by omega) (by omega)).mono ?_
      rintro e w5 ⟨iz, rfl, hi0, hi1, c5, g5⟩
      have D5 := Lib.hid (drew_once D4.out c5 g5)
      have O5 := Lib.hid (O4.out.grown g5 (fun a ha => by have := (O4.out.lt a ha).1; simp; omega))
      clear c5 g5
      obtain ⟨i, rfl⟩ : ∃ i : Nat, iz = i := ⟨iz.toNat, by omega⟩
      have hin : i < n := by omega
      go_wp2_with fail
      refine (l01Below_any g xo d code 4 _ D5.out.1 HL.out (by omega) (by omega)).mono ?_
      rintro e w6 ⟨k, rfl, hk0, hk1, c6, g6⟩
      have D6 := Lib.hid (drew_once D5.out c6 g6)
      have O6 := Lib.hid (O5.out.grown g6 (fun a ha => by have := (O5.out.lt a ha).1; simp; omega))
      clear c6 g6
      have hwi : ws[i]? = some (ws[i]'(by have := HN.out; omega)) := List.getElem?_eq_getElem _
      have hk : k = 0 ∨ k = 1 ∨ k = 2 ∨ k = 3 := by omega
      rcases hk with rfl | rfl | rfl | rfl
      · have PK := Lib.hid (pickT_new g xo d code w6 D6.out.1 HL.out [⟨#[115, 99, 97, 110]⟩, ⟨#[98, 111, 116, 104]⟩, ⟨#[102, 105, 108, 116, 101, 114]⟩, ⟨#[48]⟩, ⟨#[45, 49]⟩, ⟨#[36, 48]⟩, ⟨#[36, 45, 49]⟩, ⟨#[61]⟩, ⟨#[110, 111, 110, 101]⟩, ⟨#[116, 57]⟩, ⟨#[57, 84]⟩, ⟨#[54, 52]⟩, ⟨#[48, 49]⟩, ⟨#[49, 48, 48, 48, 48, 48, 49]⟩, ⟨#[107, 101, 101, 112]⟩] 15 rfl (by omega) (by omega) (by decide) _ rfl)
        go_wp2_with fail
        refine PK.out.mono ?_
        rintro e w7 ⟨s0, hs0, rfl, d7⟩
        have D7 := Lib.hid (D6.out.next d7)
        have O7 := Lib.hid (O6.out.grown d7.2 (fun a ha => by have := (O6.out.lt a ha).1; simp; omega))
        clear d7 PK
        have ce := O7.out.cell i (by rw [HN.out]; exact hin)
        have fr := World.ownsRow.frozenAt O7.out i
        have hgw := (O7.out.lt _ rfl).1
        have DQ := Lib.hid (drew_set (o := i) (v := .string s0) HC.out D7.out hgw)
        have OQ := Lib.hid (O7.out.put i s0)
        go_wp2_with fail
        go_meet
        exact ⟨ws.set i s0, wsAt_own OQ.out (Nat.le_refl _) (by rw [List.length_set]; exact HN.out.symm), by rw [List.length_set, HN.out]; omega, set_sizes HW2.out (by omega), DQ.out⟩
      · have hcap := capS_of O6.out
        have hic : (i : Int) ≤ (cw : Int) := by rw [HN.out] at hcap; omega
        have RT := Lib.hid (rdS_take O6.out.rd i)
        have hgw := (O6.out.lt _ rfl).1
        go_wp2_with fail
        go_meet
        exact ⟨ws.take i, ⟨_, _, _, rfl, by rw [List.length_take, HN.out]; omega, RT.out, fun a ha => by injection ha with ha; subst ha; exact hgw⟩, by rw [List.length_take, HN.out]; omega, fun x hx => by have := HW2.out x (List.mem_of_mem_take hx); omega, D6.out⟩
      · have ce := O6.out.cell i (by rw [HN.out]; exact hin)
        rw [List.getD_eq_getElem?_getD, hwi, Option.getD_some] at ce
        have hxs := HW2.out _ (List.mem_of_getElem? hwi)
        generalize (ws[i]'(by have := HN.out; omega)) = x at ce hxs hwi
        have hz6 := D6.out.2.size
        have hgw := (O6.out.lt _ rfl).1
        go_wp2_with (at_builtin; go_must (refine wpList_appendSs _ rfl (.tmp 42) (.tmp 47) 70 rfl w.heap.size Tryz.underlying70 Tryz.infoStr (some ⟨gw, 0, none⟩) cw n ws rfl HN.out.symm (O6.out.alloc _) w6.heap.size 1 1 [x] rfl rfl (cell_one_t _ _ _) (by have := HN.out; simp; omega) (by simp; omega) ?_; intro ao3 c3 w7 o7 g7; have D7 := Lib.hid (drew_row HC.out D6.out ((Below.refl _ w6).alloc (Nat.le_refl _) _) g7 (fun q hq => by simp at hq; omega)); have O7 := Lib.hid o7; clear o7 g7))
        go_meet
        exact ⟨ws ++ [x], wsAt_own O7.out (Nat.le_refl _) (by rw [List.length_append, HN.out]; rfl), by rw [List.length_append, HN.out]; simp; omega, fun y hy => by rcases List.mem_append.1 hy with hy | hy; have := HW2.out y hy; omega; simp at hy; subst hy; omega, D7.out⟩
      · have ce := O6.out.cell i (by rw [HN.out]; exact hin)
        rw [List.getD_eq_getElem?_getD, hwi, Option.getD_some] at ce
        have hxs := HW2.out _ (List.mem_of_getElem? hwi)
        generalize (ws[i]'(by have := HN.out; omega)) = x at ce hxs hwi
        have fr := World.ownsRow.frozenAt O6.out i
        have hgw := (O6.out.lt _ rfl).1
        have e1 : ¬ (9223372036854775807 < x.size + 1) := by omega
        have DQ := Lib.hid (fun s0 => drew_set (o := i) (v := .string s0) HC.out D6.out hgw)
        have OQ := Lib.hid (fun s0 => O6.out.put i s0)
        go_wp2_with fail
        go_meet
        exact ⟨ws.set i _, wsAt_own (OQ.out _) (Nat.le_refl _) (by rw [List.length_set]; exact HN.out.symm), by rw [List.length_set, HN.out]; omega, set_sizes HW2.out (by rw [ByteArray.size_append]; have : (⟨#[120]⟩ : ByteArray).size = 1 := rfl; omega), DQ.out _⟩
  case rest =>
    obtain ⟨wq, ⟨aq, nq, cq, rfl, hnq, rq, hap⟩, hq1, hq2, dq⟩ := hcut
    have HNQ := Lib.hid hnq; have RQ := Lib.hid rq; have HAP := Lib.hid hap; have HQ2 := Lib.hid hq2; have DQ := Lib.hid dq
    clear hnq rq hap hq2 dq HN HW2 O4 D4
    go_wp2_with fail
    go_loopw [7, 8] (fun s i wr => JoinRel w g xo d code aq wq s i wr) (fun _ i _ => wq.length - (intOf i).toNat)
    case atStart => exact ⟨0, _, Nat.zero_le _, rfl, rfl, by decide, RQ.out, DQ.out⟩
    case round =>
      obtain ⟨j, X, hj, rfl, rfl, hx, rr, dr⟩ := hrel
      have RR := Lib.hid rr; have DR := Lib.hid dr
      clear rr dr
      by_cases hlt : j < wq.length
      · have hj1 : (j : Int) < (nq : Int) := by have := HNQ.out; omega
        have hwj : wq[j]? = some (wq[j]'hlt) := List.getElem?_eq_getElem hlt
        have hys := HQ2.out _ (List.mem_of_getElem? hwj)
        have KC : Hid (∃ bq off, aq = some ⟨bq, off, none⟩ ∧ ∀ W, RdS W aq wq → W.cell? ⟨bq, off + j, none⟩ = some (.string (wq[j]'hlt))) := rdS_cell RR.out hwj
        generalize (wq[j]'hlt) = y at hwj hys KC
        obtain ⟨bq, off, rfl, hcell⟩ := KC.out
        by_cases h0 : j = 0
        · subst h0
          have ce := hcell wr RR.out
          rw [Nat.add_zero] at ce
          have e1 : ¬ (9223372036854775807 < X.size + y.size) := by omega
          go_wp2_with fail
          go_roundw
          case rel => exact ⟨1, _, by omega, by go_num, rfl, by rw [ByteArray.size_append]; omega, RR.out, DR.out⟩
          case measure => simp [intOf]; omega
        · have j0 : (0 : Int) < (j : Int) := by omega
          have PK := Lib.hid (pickT_new g xo d code wr DR.out.1 HL.out [⟨#[32]⟩, ⟨#[32]⟩, ⟨#[32]⟩, ⟨#[10]⟩, ⟨#[32, 32]⟩] 5 rfl (by omega) (by omega) (by decide) _ rfl)
          go_wp2_with fail
          refine PK.out.mono ?_
          rintro e w7 ⟨s0, hs0, rfl, d7⟩
          have D7 := Lib.hid (DR.out.next d7)
          have R7 := Lib.hid (RdS.grownG RR.out HAP.out hglt d7.2)
          clear d7 PK
          have ce := hcell w7 R7.out
          have e1 : ¬ (9223372036854775807 < X.size + s0.size) := by omega
          have e2 : ¬ (9223372036854775807 < X.size + s0.size + y.size) := by omega
          go_wp2_with fail
          go_roundw
          case rel => exact ⟨j + 1, _, by omega, by go_num, rfl, by rw [ByteArray.size_append, ByteArray.size_append]; omega, R7.out, D7.out⟩
          case measure => simp [intOf]; omega
      · have hj1 : ¬ ((j : Int) < (nq : Int)) := by have := HNQ.out; omega
        go_wp2_with fail
        go_ret
        exact ⟨X, by omega, rfl, DR.out⟩
/-- What drawing a text out of bytes gives. -/
def TxtP (w : World) (e : Ending) (w' : World) : Prop := ∃ s : ByteArray, s.size ≤ 8000000 ∧ e = .returned (.string s) ∧ Below w.heap.size w w'
def BlRel (w wr : World) (g : Nat) (xo : Option Addr) (d : Nat) (code : List Int) (v : Value) : Prop :=
  ∃ (acc : List Int) (ao : Option Addr) (c n : Nat), v = .slice ao n c ∧ n = acc.length ∧ n ≤ 2001 ∧ Own wr w.heap.size 5 .u8 ao c acc ∧ Drew w g xo d code wr
def lenV : Value → Nat
  | .slice _ n _ => n
  | _ => 0
set_option maxRecDepth 100000 in
set_option maxHeartbeats 2000000 in
theorem drawParsePlan_any (xo : Option Addr) (d : Nat) (code : List Int) (w : World) (hr : Rd w .u8 xo code) (hby : By code) (hl : code.length ≤ 1048577) :
    Calls Tryz.prog 55 #[.slice xo code.length d] w (TxtP w) := by
  have C := Lib.hid (l01New_any xo d code w hr hby hl)
  have HL := Lib.hid hl
  clear hr hby hl
  go_enter Tryz.func55, Tryz.ntmps55
  go_wp2_with fail
  refine C.out.mono ?_
  rintro e w1 ⟨g, rfl, hg, hc, hb⟩
  have HG := Lib.hid hg; have HC := Lib.hid hc; have HB := Lib.hid hb; clear hg hc hb
  go_wp2_with fail
  refine (drawText_any g xo d code xo d w1 HC.out HL.out).mono ?_
  rintro e w2 ⟨s, hs, rfl, d2⟩
  have D2 := Lib.hid d2; clear d2
  go_wp2_with fail
  refine (l01Once_any g xo d code 60 _ D2.out.1 HL.out (by omega) (by omega)).mono ?_
  rintro e w3 ⟨bo, rfl, c3, g3⟩
  have C3 := Lib.hid c3
  have B3 := Lib.hid (HB.out.grown (grownBy_trans D2.out.2 g3) HB.out.size (by intro r hr; injection hr with hr; have := HG.out; omega))
  clear c3 g3
  cases bo with
  | false =>
    go_wp2_with fail
    go_ret
    exact ⟨s, hs, rfl, B3.out⟩
  | true =>
    have HST : Hid (Own (w3.alloc (Obj.cells #[] 5)) w3.heap.size 5 .u8 (some ⟨w3.heap.size, 0, none⟩) 0 []) := World.ownsRow_lit w3 #[] 0 (Nat.le_refl _) (Nat.zero_le _) rfl
    have hgl := C3.out.lt
    have hgw := HG.out
    have D0 : Hid (Drew w3 g xo d code (w3.alloc (Obj.cells #[] 5))) := ⟨C3.out.keepB ((Below.refl _ _).alloc (Nat.le_refl _) _), grownBy_below (World.grownBy.refl _ _) ((Below.refl _ _).alloc (Nat.le_refl _) _)⟩
    go_wp2_with fail
    go_loopw [5] (fun v wr => BlRel w3 wr g xo d code v) (fun v _ => 2002 - lenV v)
    case atStart => exact ⟨[], _, _, _, rfl, rfl, Nat.zero_le _, HST.out, D0.out⟩
    case round =>
      obtain ⟨acc, ao, c, n, rfl, hn, hn2, ho, hd⟩ := hrel
      have HN := Lib.hid hn; have HO := Lib.hid ho; have HD := Lib.hid hd
      clear hn ho hd
      go_wp2_with fail
      refine (l01Below_any g xo d code 2 _ HD.out.1 HL.out (by omega) (by omega)).mono ?_
      rintro e w4 ⟨x, rfl, x0, x1, hc4, hg4⟩
      have D4 : Hid (Drew w3 g xo d code w4) := drew_trans HD.out.2 hc4 hg4
      have O4 := Lib.hid (Drew.own ⟨hc4, hg4⟩ HO.out hgl)
      clear hc4 hg4
      by_cases hlt : (n : Int) < 2000 + x
      · have hacc : acc.length ≤ 2001 := by rw [← HN.out]; omega
        go_wp2_with (at_builtin; refine wpList_append1 _ rfl (.tmp 20) (.tmp 21) 22 rfl w3.heap.size 5 .u8 1 Tryz.underlying22 Tryz.infoU8 ao c n acc rfl HN.out (O4.out.alloc _) w4.heap.size 1 32 rfl (cell_one _ _ _) (by unfold maxLen; omega) (by omega) (by have := D4.out.2.size; simp; omega) ?_; intro ao' c' w6 ho' hg'; have HO' := Lib.hid ho'; have HG' := Lib.hid hg'; clear ho' hg')
        go_roundw
        case rel => exact ⟨acc ++ [32], ao', c', _, rfl, by simp, by have := HN.out; omega, HO'.out, drew_app C3.out D4.out O4.out HG'.out⟩
        case measure => have := HN.out; simp [lenV]; omega
      · have R4 := Lib.hid O4.out.rd
        have hcs := conv_str w4 22 Tryz.underlying22 ao n c acc R4.out HN.out.symm
        go_wp2_with fail
        go_ret
        refine ⟨strOfNums acc, by rw [strOf_size, ← HN.out]; omega, rfl, ?_⟩
        exact B3.out.grown D4.out.2 B3.out.size (by intro r hr; injection hr with hr; omega)
end Go.Proofs.YtfpbhedophlnkaaGreatDoor
namespace Go.Proofs.YtfpbhedophlnkaaGreatDoor
open Go.RowKit
set_option linter.unusedSimpArgs false
set_option linter.unusedVariables false

/-- A table, as data. -/
structure Tb where
  name : ByteArray
  width : Int

/-- The cells of a list of tables. -/
def tbC : List Tb → List Value
  | [] => []
  | t :: l => .string t.name :: .int .i64 t.width :: tbC l
theorem tbC_len : ∀ l : List Tb, (tbC l).length = l.length * 2
  | [] => rfl
  | t :: l => by simp only [tbC, List.length_cons, tbC_len l]; omega
theorem tbC_app : ∀ l m : List Tb, tbC (l ++ m) = tbC l ++ tbC m
  | [], _ => rfl
  | t :: l, m => by simp [tbC, tbC_app l m]
theorem tbC_one : ∀ (l : List Tb), ∀ u ∈ tbC l, u.oneCell' = true
  | [], u, h => by cases h
  | t :: l, u, h => by
    simp only [tbC, List.mem_cons] at h
    rcases h with rfl | rfl | h
    · rfl
    · rfl
    · exact tbC_one l u h
theorem tbC_get0 : ∀ (l : List Tb) (i : Nat) (t : Tb), l[i]? = some t → (tbC l)[i * 2]? = some (.string t.name)
  | [], i, t, h => by simp at h
  | s :: l, 0, t, h => by simp at h; subst h; rfl
  | s :: l, i + 1, t, h => by
    simp only [List.getElem?_cons_succ] at h
    rw [show (i + 1) * 2 = i * 2 + 1 + 1 by omega]
    simp only [tbC, List.getElem?_cons_succ]
    exact tbC_get0 l i t h
theorem tbC_get1 : ∀ (l : List Tb) (i : Nat) (t : Tb), l[i]? = some t → (tbC l)[i * 2 + 1]? = some (.int .i64 t.width)
  | [], i, t, h => by simp at h
  | s :: l, 0, t, h => by simp at h; subst h; rfl
  | s :: l, i + 1, t, h => by
    simp only [List.getElem?_cons_succ] at h
    rw [show (i + 1) * 2 + 1 = i * 2 + 1 + 1 + 1 by omega]
    simp only [tbC, List.getElem?_cons_succ]
    exact tbC_get1 l i t h

/-- The two cells at place o of block b read as the table t. -/
structure TbAt (w : World) (b o : Nat) (t : Tb) : Prop where
  c0 : w.cell? ⟨b, o, none⟩ = some (.string t.name)
  c1 : w.cell? ⟨b, o + 1, none⟩ = some (.int .i64 t.width)
  nm : t.name.size ≤ maxLen

/-- The slice that begins at 'ao' reads as the tables l. -/
def RdT (w : World) (ao : Option Addr) (l : List Tb) : Prop :=
  l = [] ∨ ∃ b off, ao = some ⟨b, off, none⟩ ∧ ∀ i t, l[i]? = some t → TbAt w b (off + i * 2) t

/-- A slice of tables of the call's own. -/
def OwnT (w : World) (base : Nat) (ao : Option Addr) (c : Nat) (l : List Tb) : Prop :=
  w.ownsRow base 99 2 (.slice ao l.length c) l.length (tbC l) ∧ ∀ t ∈ l, t.name.size ≤ maxLen

/-- The call returned a slice of tables of its own, and nothing that was there has turned. -/
def MadeT (w : World) (l : List Tb) (en : Ending) (w' : World) : Prop :=
  ∃ ao c, en = .returned (.slice ao l.length c) ∧ OwnT w' w.heap.size ao c l ∧ Below w.heap.size w w'

section
variable {w w' : World} {base b o : Nat} {t : Tb} {ao : Option Addr} {c : Nat} {l : List Tb}

theorem TbAt.lt (h : TbAt w b o t) : b < w.heap.size := World.block_lt_of_cell? w ⟨b, o, none⟩ h.c0
theorem TbAt.below (h : TbAt w b o t) (hb : Below w.heap.size w w') : TbAt w' b o t :=
  ⟨(hb.cell (p := ⟨b, o, none⟩) h.lt).trans h.c0, (hb.cell (p := ⟨b, o + 1, none⟩) h.lt).trans h.c1, h.nm⟩
theorem RdT.nil : RdT w ao [] := .inl rfl
theorem RdT.below (h : RdT w ao l) (hb : Below w.heap.size w w') : RdT w' ao l := by
  rcases h with h | ⟨b, off, rfl, hc⟩
  · exact .inl h
  · exact .inr ⟨b, off, rfl, fun i n hi => (hc i n hi).below hb⟩
theorem RdT.at_ (h : RdT w ao l) {i : Nat} (hi : i < l.length) : ∃ b off t, ao = some ⟨b, off, none⟩ ∧ l[i]? = some t ∧ TbAt w b (off + i * 2) t := by
  rcases h with rfl | ⟨b, off, rfl, hc⟩
  · simp at hi
  · exact ⟨b, off, _, rfl, List.getElem?_eq_getElem hi, hc i _ (List.getElem?_eq_getElem hi)⟩
theorem RdT.name (h : RdT w ao l) {t : Tb} (ht : t ∈ l) : t.name.size ≤ maxLen := by
  obtain ⟨i, hi, rfl⟩ := List.mem_iff_getElem.1 ht
  obtain ⟨b, off, t', rfl, hx, hat⟩ := h.at_ hi
  rw [List.getElem?_eq_getElem hi] at hx; cases hx
  exact hat.nm

theorem OwnT.form (h : OwnT w base ao c l) : (ao = none ∧ c = 0 ∧ l = []) ∨ ∃ g, ao = some ⟨g, 0, none⟩ ∧ base ≤ g ∧ g < w.heap.size := by
  rcases h.1.2 with ⟨hv, hn⟩ | ⟨g, cap, cur, hv, hb, hg, _⟩
  · simp only [Value.slice.injEq] at hv
    exact .inl ⟨hv.1, hv.2.2, List.eq_nil_of_length_eq_zero hn⟩
  · simp only [Value.slice.injEq] at hv
    refine .inr ⟨g, hv.1, hb, ?_⟩
    rcases Nat.lt_or_ge g w.heap.size with hlt | hge
    · exact hlt
    · rw [Array.getElem?_eq_none hge] at hg; cases hg
theorem OwnT.lt (h : OwnT w base ao c l) : ∀ a, ao = some a → base ≤ a.block ∧ a.block < w.heap.size := by
  rcases h.form with ⟨rfl, _⟩ | ⟨g, rfl, h1, h2⟩
  · intro a ha; cases ha
  · intro a ha; cases ha; exact ⟨h1, h2⟩
theorem OwnT.len_le (h : OwnT w base ao c l) : l.length ≤ maxLen := by
  rcases h.1.2 with ⟨_, hn⟩ | ⟨g, cap, cur, _, _, _, h1, h2, _⟩
  · rw [hn]; exact Nat.zero_le _
  · exact Nat.le_trans h1 h2
theorem OwnT.rd (h : OwnT w base ao c l) : RdT w ao l := by
  rcases h.form with ⟨_, _, rfl⟩ | ⟨g, rfl, _⟩
  · exact .inl rfl
  · refine .inr ⟨g, 0, rfl, fun i t hi => ?_⟩
    have hlt : i < l.length := by
      rcases Nat.lt_or_ge i l.length with h1 | h1
      · exact h1
      · rw [List.getElem?_eq_none h1] at hi; cases hi
    rw [Nat.zero_add]
    exact ⟨(World.ownsRow.cellAt h.1 (i * 2) (by omega)).trans (tbC_get0 l i t hi), (World.ownsRow.cellAt h.1 (i * 2 + 1) (by omega)).trans (tbC_get1 l i t hi), h.2 t (List.mem_of_getElem? hi)⟩
theorem OwnT.keep (h : OwnT w base ao c l) (hk : ∀ a : Addr, ao = some a → a.block < w.heap.size → w'.heap[a.block]? = w.heap[a.block]?) : OwnT w' base ao c l := by
  have hl := h.lt
  refine ⟨⟨h.1.1, ?_⟩, h.2⟩
  rcases h.1.2 with h2 | ⟨g, cap, cur, hv, hb, hg, r⟩
  · exact .inl h2
  · refine .inr ⟨g, cap, cur, hv, hb, ?_, r⟩
    simp only [Value.slice.injEq] at hv
    rw [hk _ hv.1 (hl _ hv.1).2]; exact hg
theorem OwnT.below (h : OwnT w base ao c l) (hb : Below w.heap.size w w') : OwnT w' base ao c l := h.keep fun _ _ hlt => hb.block _ hlt
theorem OwnT.grown {row : Option Nat} (h : OwnT w base ao c l) (hg : w.grownBy w' row) (hne : ∀ a, ao = some a → some a.block ≠ row) : OwnT w' base ao c l :=
  h.keep fun a ha hlt => hg.block _ hlt (hne a ha)
theorem OwnT.base_le {base' : Nat} (h : OwnT w base ao c l) (hb : base' ≤ base) : OwnT w base' ao c l := by
  refine ⟨⟨h.1.1, ?_⟩, h.2⟩
  rcases h.1.2 with h2 | ⟨g, cap, cur, hv, hg, r⟩
  · exact .inl h2
  · exact .inr ⟨g, cap, cur, hv, Nat.le_trans hb hg, r⟩
theorem OwnT.none_ : OwnT w base none 0 [] := ⟨World.ownsRow_nil _ _ _ _, fun t h => by cases h⟩
theorem OwnT.alloc (h : OwnT w base ao c l) (o : Obj) : OwnT (w.alloc o) base ao c l := h.below ((Below.refl _ _).alloc (Nat.le_refl _) o)
theorem OwnT.apart {ao' : Option Addr} (h : OwnT w base ao c l) (hg : w.grownBy w' (ao'.map (·.block))) (hne : ∀ a b, ao = some a → ao' = some b → a.block ≠ b.block) : OwnT w' base ao c l :=
  h.grown hg (by
    intro a ha
    cases ao' with
    | none => simp
    | some b => simp; exact hne a b ha rfl)
end

/-- 'append(xs, t)': t lies in a block of its own. -/
theorem wpList_appendT {P : Program} (w : World) {ops : Array Oper} {rest : List Oper} {o : Oper} {a : Act} {Q : Exit → Act → World → Prop} (hgd : o.guard = none) (s x : Operand) (ty : TypeId)
    (ho : o.op = .call { callee := .builtin .append, args := #[s, x], argTypes := #[ty, ty] }) (base : Nat) (ht : P.underlying ty = some (.slice 99))
    (hi : (P.info? 99).map (fun i => (i.zero, i.size, i.bytes)) = some (some (.agg #[.string ⟨#[]⟩, .int .i64 0]), 2, 24))
    (ao : Option Addr) (c n : Nat) (l : List Tb) (hs : a.eval s = .slice ao n c) (hn : n = l.length) (hown : OwnT w base ao c l)
    (bl cx : Nat) (t : Tb) (hx : a.eval x = .slice (some ⟨bl, 0, none⟩) 1 cx) (hv : TbAt w bl 0 t)
    (hby : l.length + 1 ≤ 4194304) (hbase : base ≤ w.heap.size)
    (h : ∀ ao' c' w', OwnT w' base ao' c' (l ++ [t]) → w.grownBy w' (ao.map (·.block)) → wpList P ops Q rest (a.put o.dst (.slice ao' (l.length + 1) c')) w') :
    wpList P ops Q (o :: rest) a w := by
  obtain ⟨i, hi0, hz0, hz1, hz2⟩ := info_parts hi
  subst hn
  refine wpList_append_own_at w hgd s x ty ho base 99 i _ 2 24 ht hi0 hz0 hz1 hz2 rfl (by omega) _ l.length (tbC l) hs hown.1 ⟨bl, 0, none⟩ 1 cx (tbC [t]) hx rfl ?_ (tbC_one [t]) (by unfold maxLen; omega) (by omega) hbase ?_
  · intro j u hj
    match j, hj with
    | 0, hj => simp [tbC] at hj; subst hj; simpa [Addr.add] using hv.c0
    | 1, hj => simp [tbC] at hj; subst hj; simpa [Addr.add] using hv.c1
    | j + 2, hj => simp [tbC] at hj
  · intro v' w' ho' hg' _ _
    have hg2 : w.grownBy w' (ao.map (·.block)) := by
      cases ao with
      | none => exact hg'
      | some x => exact hg'
    rw [← tbC_app] at ho'
    have hnm : ∀ s ∈ l ++ [t], s.name.size ≤ maxLen := by
      intro s hs
      rcases List.mem_append.1 hs with h1 | h1
      · exact hown.2 s h1
      · simp at h1; subst h1; exact hv.nm
    have hlen : (l ++ [t]).length = l.length + 1 := by simp
    rcases ho'.2 with ⟨rfl, hz⟩ | ⟨g, cap, cur, rfl, r⟩
    · omega
    · exact h _ _ _ ⟨by rw [hlen]; exact ho', hnm⟩ hg2
theorem below_appT {w wr w1 : World} {ao : Option Addr} {c : Nat} {l : List Tb} (hb : Below w.heap.size w wr) (ho : OwnT wr w.heap.size ao c l) (hg : wr.grownBy w1 (ao.map (·.block))) : Below w.heap.size w w1 := by
  refine hb.grown hg hb.size ?_
  intro g hg'
  rcases ao with _ | a
  · cases hg'
  · simp at hg'; subst hg'; exact (ho.lt a rfl).1
theorem ownT_empty {w : World} {base : Nat} (h : base ≤ w.heap.size) : OwnT (w.alloc (.cells #[] 99)) base (some ⟨w.heap.size, 0, none⟩) 0 [] :=
  ⟨⟨rfl, .inr ⟨w.heap.size, 0, #[], rfl, h, heap_alloc_new w _, Nat.le_refl _, Nat.zero_le _, rfl, rfl⟩⟩, fun t h => by cases h⟩
end Go.Proofs.YtfpbhedophlnkaaGreatDoor
