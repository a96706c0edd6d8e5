/-
  Contracts of spec.EncodePlan and spec.PlanSum. For every slice of nodes. Contracts of spec.l01Bend and spec.DrawDecodePlan: some bytes, drawn. For every slice of bytes.
-/
import Derived.Test.YtfpbhedophlnkaaGreatDoorSPutNd
import Derived.Test.YtfpbhedophlnkaaGreatDoorJ14x
import Derived.Test.YtfpbhedophlnkaaGreatDoorJ21x
import Derived.Test.YtfpbhedophlnkaaGreatDoorJ36x
import Derived.Test.YtfpbhedophlnkaaGreatDoorJ37x
import Derived.Laws.OwnMore
namespace Go.Proofs.YtfpbhedophlnkaaGreatDoor
open Go.RowKit
set_option linter.unusedSimpArgs false
set_option linter.unusedVariables false

def EpRel (w wr : World) (p : List Nd) (v i : Value) : Prop :=
  ∃ (ao : Option Addr) (c n j : Nat), v = .slice ao n c ∧ i = .int .i64 j ∧ n = (preP p j).length ∧ j ≤ p.length ∧ Own wr w.heap.size 5 .u8 ao c (preP p j) ∧ Below w.heap.size w wr

set_option maxRecDepth 100000 in
set_option maxHeartbeats 1600000 in
theorem specEncodePlan_any (ao : Option Addr) (c : Nat) (p : List Nd) (w : World) (h : RdN w ao p) (hp : p.length ≤ 1048576) :
    Calls Tryz.prog 37 #[.slice ao p.length c] w (Made2 w 5 .u8 (encP p) (planB p)) := by
  have H := Lib.hid h; clear h
  have PO := Lib.hid (fun w h => specPlanOk_any ao c p w h hp)
  cases hg : planB p with
  | false =>
    rw [encP_no hg]
    rw [hg] at PO
    clear hg
    go_enter Tryz.func37, Tryz.ntmps37
    go_wp2_with fail
    refine (PO.out _ H.out).mono ?_
    rintro e w1 ⟨rfl, b1⟩
    go_wp2_with fail
    go_ret2
    exact ⟨none, 0, rfl, Own.none_, b1⟩
  | true =>
    rw [hg] at PO
    have hl40 := planB_l40 hg
    have E := Lib.hid (encP_yes hg)
    clear hg
    obtain ⟨q0, hq0⟩ : ∃ q, q = putN (p.length : Int) := ⟨_, rfl⟩
    have P0 : Hid (∀ w : World, Calls Tryz.prog 113 #[.int .i64 p.length] w (Made w 5 .u8 q0)) := by rw [hq0]; exact fun w => specPutNum_any _ w
    have HQ0 := Lib.hid hq0; clear hq0
    go_enter Tryz.func37, Tryz.ntmps37
    go_wp2_with fail
    refine (PO.out _ H.out).mono ?_
    rintro e w1 ⟨rfl, b1⟩
    have B1 := Lib.hid b1; clear b1
    go_wp2_with fail
    refine (P0.out _).mono ?_
    rintro e w2 ⟨a2, c2, rfl, o2, b2⟩
    have B2 := Lib.hid (below_step B1.out (Nat.le_refl _) b2); have O2 := Lib.hid (o2.base_le B1.out.size)
    clear o2 b2
    go_wp2_with fail
    go_loopw [4, 5] (fun v i wr => EpRel w wr p v i) (fun _ i _ => p.length - (intOf i).toNat)
    case atStart => exact ⟨a2, c2, _, 0, rfl, rfl, by rw [preP_zero, ← HQ0.out], Nat.zero_le _, by rw [preP_zero, ← HQ0.out]; exact O2.out, B2.out⟩
    case round =>
      obtain ⟨a3, c3, n3, j, rfl, rfl, hn3, hj, ho, hb⟩ := hrel
      have hpl := preP_len j hl40
      have hpby := preP_by p j
      obtain ⟨acc, hacc⟩ : ∃ acc, acc = preP p j := ⟨_, rfl⟩
      rw [← hacc] at hn3 ho hpl hpby
      subst hn3
      have HACC := Lib.hid hacc; have HO := Lib.hid ho; have HB := Lib.hid hb; have HBY := Lib.hid hpby; clear hacc ho hb hpby
      by_cases hlt : j < p.length
      · obtain ⟨b, off, n, a, c', rfl, hn, hat⟩ := (H.out.below HB.out).at_ hlt
        have HN := Lib.hid hn; clear hn
        obtain ⟨c0, c1, c2', c3', c4, c5, c6, rd, cap, mx, nm⟩ := hat
        have RD := Lib.hid rd
        have cl := Nat.le_trans cap mx
        clear rd cap mx
        have hql := putNd_len n
        have PN := Lib.hid (fun w h => specPutNode_any n a c' w h cl nm)
        obtain ⟨q, hq⟩ : ∃ q, q = putNd n := ⟨_, rfl⟩
        rw [← hq] at PN hql
        have HQ := Lib.hid hq; clear hq
        go_wp2_with fail
        refine (PN.out _ RD.out).mono ?_
        rintro e w4 ⟨a4, c4', rfl, o4, b4⟩
        have O4 := Lib.hid o4; have B4 := Lib.hid (below_step HB.out (Nat.le_refl _) b4); have A4 := Lib.hid (HO.out.below b4)
        clear o4 b4 c0 c1 c2' c3' c4 c5 c6
        go_wp2_with fail
        refine (l01Join_any _ _ _ _ _ _ _ A4.out.rd O4.out.rd (by omega)).mono ?_
        rintro e w5 ⟨a5, c5, rfl, o5, b5⟩
        have O5 := Lib.hid (o5.base_le B4.out.size); have B5 := Lib.hid (below_step B4.out (Nat.le_refl _) b5)
        clear o5 b5
        go_wp2_with fail
        go_roundw
        case rel =>
          have e1 : acc ++ q = preP p (j + 1) := by rw [preP_succ HN.out, HACC.out, HQ.out]
          refine ⟨a5, c5, _, j + 1, rfl, by go_num, by rw [← e1]; simp, by omega, ?_, B5.out⟩
          rw [← e1]
          exact O5.out
        case measure => simp [intOf]; omega
      · have e : encP p = frameL acc := by rw [E.out, HACC.out, show j = p.length by omega]
        have FR := Lib.hid (specFrame_any a3 c3 acc wr HO.out.rd HBY.out (by unfold maxLen; omega))
        rw [show decide (acc.length ≤ 4000) = true by simp; omega, ← e] at FR
        clear e
        go_wp2_with fail
        refine FR.out.mono ?_
        rintro e w4 ⟨a4, c4, rfl, o4, b4⟩
        have O4 := Lib.hid (o4.base_le HB.out.size); have B4 := Lib.hid (below_step HB.out (Nat.le_refl _) b4)
        clear o4 b4
        go_wp2_with fail
        go_ret2
        exact ⟨a4, c4, rfl, O4.out, B4.out⟩

set_option maxRecDepth 100000 in
set_option maxHeartbeats 800000 in
theorem specPlanSum_any (ao : Option Addr) (c : Nat) (p : List Nd) (w : World) (h : RdN w ao p) (hp : p.length ≤ 1048576) :
    Calls Tryz.prog 41 #[.slice ao p.length c] w fun e w' => e = .returned (.int .i64 (sumP p)) ∧ Below w.heap.size w w' := by
  have EP := Lib.hid (specEncodePlan_any ao c p w h hp)
  have hl := encP_len p
  have HBY := Lib.hid (encP_by p)
  cases hg : planB p with
  | false =>
    rw [sumP_no hg]
    rw [hg] at EP
    clear hg h
    go_enter Tryz.func41, Tryz.ntmps41
    go_wp2_with fail
    refine EP.out.mono ?_
    rintro e w1 ⟨a1, c1, rfl, o1, b1⟩
    clear o1
    go_wp2_with fail
    go_ret
    exact ⟨rfl, b1⟩
  | true =>
    rw [sumP_yes hg]
    rw [hg] at EP
    clear hg h
    obtain ⟨f, hf⟩ : ∃ f, f = encP p := ⟨_, rfl⟩
    rw [← hf] at EP hl HBY ⊢
    clear hf
    go_enter Tryz.func41, Tryz.ntmps41
    go_wp2_with fail
    refine EP.out.mono ?_
    rintro e w1 ⟨a1, c1, rfl, o1, b1⟩
    have R1 := Lib.hid o1.rd; have B1 := Lib.hid b1
    clear o1 b1
    go_wp2_with fail
    refine (specCheckOf_any a1 c1 f w1 R1.out HBY.out (by unfold maxLen; omega)).mono ?_
    rintro e w' ⟨rfl, rfl⟩
    go_wp2_with fail
    go_ret
    exact ⟨rfl, B1.out⟩
end Go.Proofs.YtfpbhedophlnkaaGreatDoor
namespace Go.Proofs.YtfpbhedophlnkaaGreatDoor
open Go.RowKit
set_option linter.unusedSimpArgs false
set_option linter.unusedVariables false

theorem Own.take_ {w : World} {base : Nat} {e : TypeId} {k : IntKind} {ao : Option Addr} {c : Nat} {l : List Int} (h : Own w base e k ao c l) (n : Nat) (hn : n ≤ l.length) : Own w base e k ao c (l.take n) := by
  have hl : (l.take n).length = n := by rw [List.length_take]; omega
  refine ⟨by simp, ?_⟩
  rw [hl]
  rcases h.2 with ⟨hv, h0⟩ | ⟨g, cap, cur, hv, hb, hg, h1, h2, h3, h4⟩
  · simp only [Value.slice.injEq] at hv
    refine .inl ⟨?_, by omega⟩
    simp only [Value.slice.injEq]
    exact ⟨hv.1, by omega, hv.2.2⟩
  · simp only [Value.slice.injEq] at hv
    refine .inr ⟨g, cap, cur, ?_, hb, hg, by omega, h2, h3, ?_⟩
    · simp only [Value.slice.injEq]
      exact ⟨hv.1, trivial, hv.2.2⟩
    · rw [List.map_take, ← h4, List.take_take]
      congr 1; omega
theorem Own.put {w : World} {base g : Nat} {e : TypeId} {k : IntKind} {c : Nat} {l : List Int} (h : Own w base e k (some ⟨g, 0, none⟩) c l) (i : Nat) (x : Int) : Own (w.setCell ⟨g, i, none⟩ (.int k x)) base e k (some ⟨g, 0, none⟩) c (l.set i x) := by
  unfold Own at h ⊢
  have := (World.ownsRow.stored h i (.int k x)).1
  rw [List.length_set, List.map_set]
  exact this
theorem by_set {l : List Int} {i : Nat} {x : Int} (h : By l) (h0 : 0 ≤ x) (h1 : x < 256) : By (l.set i x) := by
  intro z hz
  rcases List.mem_or_eq_of_mem_set hz with hz | rfl
  · exact h z hz
  · exact ⟨h0, h1⟩
def BentP (w : World) (g : Nat) (xo : Option Addr) (d : Nat) (code : List Int) (m : Nat) (e : Ending) (w' : World) : Prop :=
  ∃ (l : List Int) (ao : Option Addr) (c : Nat), e = .returned (.slice ao l.length c) ∧ l.length ≤ m ∧ By l ∧ Own w' w.heap.size 5 .u8 ao c l ∧ Drew w g xo d code w'
set_option maxRecDepth 100000 in
set_option maxHeartbeats 2000000 in
theorem l01Bend_any (g : Nat) (xo : Option Addr) (d : Nat) (code : List Int) (w wr : World) (ao : Option Addr) (c n m : Nat) (l : List Int) (hc : Cur w g xo d code) (hl : code.length ≤ 1048577) (hd : Drew w g xo d code wr) (ho : Own wr w.heap.size 5 .u8 ao c l) (hby : By l) (hn : n = l.length) (hnm : n ≤ m) (hm : m ≤ 100000) :
    Calls Tryz.prog 124 #[.pointer (some ⟨g, 0, none⟩), .slice ao n c] wr (BentP w g xo d code (m + 1)) := by
  have hglt := hc.lt
  have HC := Lib.hid hc; have HL := Lib.hid hl; have HD := Lib.hid hd; have HO := Lib.hid ho; have HB := Lib.hid hby; have HN := Lib.hid hn
  clear hc hl hd ho hby hn
  go_enter Tryz.func124, Tryz.ntmps124
  go_wp2_with fail
  refine (l01Once_any g xo d code 3 _ HD.out.1 HL.out (by omega) (by omega)).mono ?_
  rintro e w1 ⟨bo, rfl, c1, g1⟩
  have D1 := Lib.hid (drew_once HD.out c1 g1); have O1 := Lib.hid (Drew.own ⟨c1, g1⟩ HO.out hglt)
  clear c1 g1 HD HO
  cases bo with
  | false =>
    go_wp2_with fail
    go_ret
    exact ⟨l, ao, c, ret_slice HN.out, by rw [← HN.out]; omega, HB.out, O1.out, D1.out⟩
  | true =>
    by_cases h0 : n = 0
    · subst h0
      go_wp2_with fail
      go_ret
      exact ⟨l, ao, c, ret_slice HN.out, by rw [← HN.out]; omega, HB.out, O1.out, D1.out⟩
    · have h0' : (0 : Int) < (n : Int) := by omega
      have h0'' : decide ((0 : Int) < (n : Int)) = true := by simpa using h0'
      have hcg := O1.out.cap_ge
      rw [← HN.out] at hcg
      obtain ⟨gw, rfl⟩ : ∃ gw, ao = some ⟨gw, 0, none⟩ := by
        rcases O1.out.form with ⟨_, _, e⟩ | ⟨gw, rfl, _⟩
        · have := HN.out; rw [e] at this; simp at this; omega
        · exact ⟨gw, rfl⟩
      go_wp2_with fail
      refine (l01Below_any g xo d code 3 _ D1.out.1 HL.out (by omega) (by omega)).mono ?_
      rintro e w2 ⟨k, rfl, hk0, hk1, c2, g2⟩
      have D2 := Lib.hid (drew_once D1.out c2 g2); have O2 := Lib.hid (Drew.own ⟨c2, g2⟩ O1.out hglt)
      clear c2 g2 D1 O1
      have hgw := (O2.out.lt _ rfl).1
      have hk : k = 0 ∨ k = 1 ∨ k = 2 := by omega
      rcases hk with rfl | rfl | rfl
      · go_wp2_with fail
        refine (l01BelowB_any g xo d code n _ D2.out.1 HL.out (by omega) (by omega)).mono ?_
        rintro e w3 ⟨iz, rfl, hi0, hi1, c3, g3⟩
        have D3 := Lib.hid (drew_once D2.out c3 g3); have O3 := Lib.hid (Drew.own ⟨c3, g3⟩ O2.out hglt)
        clear c3 g3
        obtain ⟨i, rfl⟩ : ∃ i : Nat, iz = i := ⟨iz.toNat, by omega⟩
        have hic : (i : Int) ≤ (c : Int) := by omega
        go_wp2_with fail
        go_ret
        exact ⟨l.take i, _, c, ret_slice (by rw [List.length_take, ← HN.out]; omega), by rw [List.length_take, ← HN.out]; omega, fun z hz => HB.out z (List.mem_of_mem_take hz), O3.out.take_ i (by rw [← HN.out]; omega), D3.out⟩
      · go_wp2_with fail
        refine (l01BelowB_any g xo d code n _ D2.out.1 HL.out (by omega) (by omega)).mono ?_
        rintro e w3 ⟨iz, rfl, hi0, hi1, c3, g3⟩
        have D3 := Lib.hid (drew_once D2.out c3 g3); have O3 := Lib.hid (Drew.own ⟨c3, g3⟩ O2.out hglt)
        clear c3 g3
        obtain ⟨i, rfl⟩ : ∃ i : Nat, iz = i := ⟨iz.toNat, by omega⟩
        go_wp2_with fail
        refine (l01Below_any g xo d code 256 _ D3.out.1 HL.out (by omega) (by omega)).mono ?_
        rintro e w4 ⟨x, rfl, hx0, hx1, c4, g4⟩
        have D4 := Lib.hid (drew_once D3.out c4 g4); have O4 := Lib.hid (Drew.own ⟨c4, g4⟩ O3.out hglt)
        clear c4 g4
        have ce := O4.out.cell i (by rw [← HN.out]; omega)
        have fr := World.ownsRow.frozenAt O4.out i
        have DQ := Lib.hid (drew_set (o := i) (v := .int .u8 x) HC.out D4.out hgw)
        have OQ := Lib.hid (O4.out.put i x)
        go_wp2_with fail
        go_ret
        exact ⟨l.set i x, _, c, ret_slice (by rw [List.length_set]; exact HN.out), by rw [List.length_set, ← HN.out]; omega, by_set HB.out hx0 (by omega), OQ.out, DQ.out⟩
      · go_wp2_with fail
        refine (l01Below_any g xo d code 256 _ D2.out.1 HL.out (by omega) (by omega)).mono ?_
        rintro e w4 ⟨x, rfl, hx0, hx1, c4, g4⟩
        have D4 := Lib.hid (drew_once D2.out c4 g4); have O4 := Lib.hid (Drew.own ⟨c4, g4⟩ O2.out hglt)
        clear c4 g4
        have hln : l.length ≤ 100000 := by rw [← HN.out]; omega
        go_wp2_with (at_builtin; refine wpList_append1 _ rfl (.tmp 35) (.tmp 39) 22 rfl w.heap.size 5 .u8 1 Tryz.underlying22 Tryz.infoU8 (some ⟨gw, 0, none⟩) c n l rfl HN.out (O4.out.alloc _) w4.heap.size 1 x rfl (cell_one _ _ _) (by unfold maxLen; omega) (by omega) (by have := D4.out.2.size; simp; omega) ?_; intro ao' c' w6 ho' hg'; have HO' := Lib.hid ho'; have HG' := Lib.hid hg'; clear ho' hg')
        go_ret
        exact ⟨l ++ [x], ao', c', ret_slice (by rw [List.length_append, ← HN.out]; rfl), by rw [List.length_append, ← HN.out]; simp; omega, by_snoc HB.out hx0 (by omega), HO'.out, drew_app HC.out D4.out O4.out HG'.out⟩
def BodyRel (w1 : World) (g : Nat) (xo : Option Addr) (d : Nat) (code : List Int) (b cc : Nat) (l : List Nd) (v i : Value) (wr : World) : Prop :=
  ∃ (j : Nat) (acc : List Int) (ao : Option Addr) (c n : Nat), j ≤ l.length ∧ v = .slice ao n c ∧ i = .int .i64 j ∧ n = acc.length ∧ n ≤ 3 + 24 * j ∧ By acc ∧ Own wr w1.heap.size 5 .u8 ao c acc ∧ LooseN wr w1.heap.size b cc l ∧ Drew w1 g xo d code wr
set_option maxRecDepth 100000 in
set_option maxHeartbeats 4000000 in
theorem drawDecodePlan_any (xo : Option Addr) (d : Nat) (code : List Int) (w : World) (hr : Rd w .u8 xo code) (hby : By code) (hl : code.length ≤ 1048577) :
    Calls Tryz.prog 45 #[.slice xo code.length d] w (SomeP w 6000) := by
  have C := Lib.hid (l01New_any xo d code w hr hby hl)
  have HL := Lib.hid hl
  clear hr hby hl
  go_enter Tryz.func45, Tryz.ntmps45
  go_wp2_with fail
  refine C.out.mono ?_
  rintro e w1 ⟨g, rfl, hg, hc, hb⟩
  have HG := Lib.hid hg; have HC := Lib.hid hc; have HB := Lib.hid hb; clear hg hc hb
  go_wp2_with fail
  refine (drawSlotted_any g xo d code xo d w1 HC.out HL.out).mono ?_
  rintro e w2 ⟨l, b, cc, rfl, h82, h4, ln, d2⟩
  have H4 := Lib.hid h4; have L2 := Lib.hid ln; have D2 := Lib.hid d2; clear h4 ln d2
  have hz2 := D2.out.2.size
  have hl6 : l.length ≤ 1048576 := by omega
  go_wp2_with fail
  refine (specEncodePlan_any _ cc l _ L2.out.rd hl6).mono ?_
  rintro e w3 ⟨a3, c3, rfl, o3, b3⟩
  have O3 := Lib.hid (o3.base_le hz2); have L3 := Lib.hid (L2.out.below b3); have D3 := Lib.hid (D2.out.below b3)
  have hel := encP_len l
  have hey := encP_by l
  generalize encP l = bs at O3 hel hey
  have HEY := Lib.hid hey
  clear o3 b3 hey L2 D2
  have EN : Hid (∀ wr e w', BentP w1 g xo d code 4101 e w' → Drew w1 g xo d code wr → SomeP w 6000 e w') := fun wr e w' ⟨l', ao', c', he, h1, h2, h3, h4'⟩ _ =>
    ⟨l', ao', c', he, by omega, h2, h3.base_le HB.out.size, HB.out.grown h4'.2 HB.out.size (by intro r hr; injection hr with hr; have := HG.out; omega)⟩
  have TL : Hid (∀ wr ao c n l', Drew w1 g xo d code wr → Own wr w1.heap.size 5 .u8 ao c l' → By l' → n = l'.length → n ≤ 4100 → Calls Tryz.prog 124 #[.pointer (some ⟨g, 0, none⟩), .slice ao n c] wr (BentP w1 g xo d code 4101)) :=
    fun wr ao c n l' h1 h2 h3 h4' h5 => l01Bend_any g xo d code w1 wr ao c n 4100 l' HC.out HL.out h1 h2 h3 h4' h5 (by omega)
  generalize hbl : bs.length = nb at *
  have HBL := Lib.hid hbl; clear hbl
  cases hb : planB l with
  | false =>
    have D3x := D3; have L3x := L3
    go_wp2_with fail
    refine (specPutNum_any (l.length : Int) _).mono ?_
    rintro e w4 ⟨a4, c4, rfl, o4, b4⟩
    have hz3 := D3x.out.2.size
    have O4 := Lib.hid (o4.base_le hz3); have L4 := Lib.hid (L3x.out.below b4); have D4 := Lib.hid (D3x.out.below b4)
    have hpn := putN_len (l.length : Int)
    have HPY := Lib.hid (putN_by (l.length : Int))
    generalize putN (l.length : Int) = pn at O4 hpn HPY
    generalize hpl : pn.length = np at *
    have HPL := Lib.hid hpl
    clear o4 b4 hpl
    go_wp2_with fail
    go_loopw [7, 8] (fun v i wr => BodyRel w1 g xo d code b cc l v i wr) (fun _ i _ => l.length - (intOf i).toNat)
    case atStart => exact ⟨0, pn, _, _, _, Nat.zero_le _, rfl, rfl, HPL.out.symm, by omega, HPY.out, O4.out, L4.out, D4.out⟩
    case round =>
      obtain ⟨j, acc, ao, c, n, hj, rfl, rfl, hn, hn2, hy, ho, hlr, hd⟩ := hrel
      have HN := Lib.hid hn; have HY := Lib.hid hy; have HO := Lib.hid ho; have LR := Lib.hid hlr; have HD := Lib.hid hd
      clear hn hy ho hlr hd
      have hzr := HD.out.2.size
      by_cases hlt : j < l.length
      · have hjn : l[j]? = some (l[j]'hlt) := List.getElem?_eq_getElem hlt
        obtain ⟨a, d', hat, _⟩ := LR.out.nd j _ hjn
        obtain ⟨q0, q1, q2, q3, q4, q5, q6, qr, qc, qm, qn⟩ := hat
        rw [Nat.zero_add] at q0 q1 q2 q3 q4 q5 q6
        have hpd := putNd_len (l[j]'hlt)
        have HPY2 := Lib.hid (putNd_by (l[j]'hlt))
        have PN := Lib.hid (fun W h => specPutNode_any (l[j]'hlt) a d' W h (Nat.le_trans qc qm) qn)
        generalize (l[j]'hlt) = nd at *
        have QR := Lib.hid qr
        clear qr qc qm qn hjn
        go_wp2_with fail
        refine (PN.out _ QR.out).mono ?_
        rintro e w5 ⟨a5, c5, rfl, o5, b5⟩
        have O5 := Lib.hid o5.rd; have L5 := Lib.hid (LR.out.below b5); have D5 := Lib.hid (HD.out.below b5); have OA := Lib.hid (HO.out.below b5)
        generalize putNd nd = pd at O5 hpd HPY2
        generalize hdl : pd.length = nq at *
        have HDL := Lib.hid hdl
        clear o5 b5 hdl PN q0 q1 q2 q3 q4 q5 q6
        have JN := Lib.hid (l01Join_any ao a5 c c5 acc pd w5 OA.out.rd O5.out (by rw [← HN.out, HDL.out]; omega))
        rw [← HN.out, HDL.out] at JN
        go_wp2_with fail
        refine JN.out.mono ?_
        rintro e w6 ⟨a6, c6, rfl, o6, b6⟩
        have O6 := Lib.hid (o6.base_le D5.out.2.size); have L6 := Lib.hid (L5.out.below b6); have D6 := Lib.hid (D5.out.below b6)
        clear o6 b6
        go_wp2_with fail
        go_roundw
        case rel => exact ⟨j + 1, acc ++ pd, a6, c6, _, by omega, rfl, by go_num, by rw [List.length_append], by have h1 := HN.out; have h2 := HDL.out; first | omega | (rw [List.length_append]; omega), HY.out.app HPY2.out, O6.out, L6.out, D6.out⟩
        case measure => simp [intOf]; omega
      · have hjl : j = l.length := by omega
        have hn3 : n ≤ 2000 := by omega
        go_wp2_with fail
        refine (l01Bend_any g xo d code w1 _ ao c n 2000 acc HC.out HL.out HD.out HO.out HY.out HN.out hn3 (by omega)).mono ?_
        rintro e w5 ⟨l5, a5, c5, rfl, h51, h52, h53, h54⟩
        have O5 := Lib.hid h53; have D5 := Lib.hid h54; have Y5 := Lib.hid h52
        clear h52 h53 h54
        have hmx : l5.length ≤ maxLen := by unfold maxLen; omega
        go_wp2_with fail
        refine (specFrame_any a5 c5 l5 _ O5.out.rd Y5.out hmx).mono ?_
        rintro e w6 ⟨a6, c6, rfl, o6, b6⟩
        have O6 := Lib.hid (o6.base_le D5.out.2.size); have D6 := Lib.hid (D5.out.below b6)
        have hfl := frameL_len l5
        have HFY := Lib.hid (frameL_by Y5.out)
        generalize frameL l5 = fr at O6 hfl HFY
        generalize hfl2 : fr.length = nf at *
        have HFL := Lib.hid hfl2.symm
        clear o6 b6 hfl2
        go_wp2_with fail
        refine (TL.out _ _ _ _ _ D6.out O6.out HFY.out HFL.out (by omega)).mono ?_
        rintro e w9 hp
        have HP := Lib.hid (EN.out _ _ _ hp D6.out)
        obtain ⟨l9, a9, c9, rfl, hh⟩ := hp
        clear hh
        go_wp2_with fail
        go_ret
        exact HP.out
  | true =>
    go_wp2_with fail
    refine (l01Once_any g xo d code 4 _ D3.out.1 HL.out (by omega) (by omega)).mono ?_
    rintro e w3' ⟨bo, rfl, c3', g3'⟩
    have D3x := Lib.hid (drew_once D3.out c3' g3'); have O3x := Lib.hid (Drew.own ⟨c3', g3'⟩ O3.out HC.out.lt); have L3x := Lib.hid (L3.out.draw g3' HC.out.lt)
    clear c3' g3'
    cases bo with
    | false =>
      have HB2 := Lib.hid HBL.out.symm
      go_wp2_with fail
      refine (TL.out _ _ _ _ _ D3x.out O3x.out HEY.out HB2.out (by omega)).mono ?_
      rintro e w9 hp
      have HP := Lib.hid (EN.out _ _ _ hp D3x.out)
      obtain ⟨l9, a9, c9, rfl, hh⟩ := hp
      clear hh
      go_wp2_with fail
      go_ret
      exact HP.out
    | true =>
      go_wp2_with fail
      refine (specPutNum_any (l.length : Int) _).mono ?_
      rintro e w4 ⟨a4, c4, rfl, o4, b4⟩
      have hz3 := D3x.out.2.size
      have O4 := Lib.hid (o4.base_le hz3); have L4 := Lib.hid (L3x.out.below b4); have D4 := Lib.hid (D3x.out.below b4)
      have hpn := putN_len (l.length : Int)
      have HPY := Lib.hid (putN_by (l.length : Int))
      generalize putN (l.length : Int) = pn at O4 hpn HPY
      generalize hpl : pn.length = np at *
      have HPL := Lib.hid hpl
      clear o4 b4 hpl
      go_wp2_with fail
      go_loopw [7, 8] (fun v i wr => BodyRel w1 g xo d code b cc l v i wr) (fun _ i _ => l.length - (intOf i).toNat)
      case atStart => exact ⟨0, pn, _, _, _, Nat.zero_le _, rfl, rfl, HPL.out.symm, by omega, HPY.out, O4.out, L4.out, D4.out⟩
      case round =>
        obtain ⟨j, acc, ao, c, n, hj, rfl, rfl, hn, hn2, hy, ho, hlr, hd⟩ := hrel
        have HN := Lib.hid hn; have HY := Lib.hid hy; have HO := Lib.hid ho; have LR := Lib.hid hlr; have HD := Lib.hid hd
        clear hn hy ho hlr hd
        have hzr := HD.out.2.size
        by_cases hlt : j < l.length
        · have hjn : l[j]? = some (l[j]'hlt) := List.getElem?_eq_getElem hlt
          obtain ⟨a, d', hat, _⟩ := LR.out.nd j _ hjn
          obtain ⟨q0, q1, q2, q3, q4, q5, q6, qr, qc, qm, qn⟩ := hat
          rw [Nat.zero_add] at q0 q1 q2 q3 q4 q5 q6
          have hpd := putNd_len (l[j]'hlt)
          have HPY2 := Lib.hid (putNd_by (l[j]'hlt))
          have PN := Lib.hid (fun W h => specPutNode_any (l[j]'hlt) a d' W h (Nat.le_trans qc qm) qn)
          generalize (l[j]'hlt) = nd at *
          have QR := Lib.hid qr
          clear qr qc qm qn hjn
          go_wp2_with fail
          refine (PN.out _ QR.out).mono ?_
          rintro e w5 ⟨a5, c5, rfl, o5, b5⟩
          have O5 := Lib.hid o5.rd; have L5 := Lib.hid (LR.out.below b5); have D5 := Lib.hid (HD.out.below b5); have OA := Lib.hid (HO.out.below b5)
          generalize putNd nd = pd at O5 hpd HPY2
          generalize hdl : pd.length = nq at *
          have HDL := Lib.hid hdl
          clear o5 b5 hdl PN q0 q1 q2 q3 q4 q5 q6
          have JN := Lib.hid (l01Join_any ao a5 c c5 acc pd w5 OA.out.rd O5.out (by rw [← HN.out, HDL.out]; omega))
          rw [← HN.out, HDL.out] at JN
          go_wp2_with fail
          refine JN.out.mono ?_
          rintro e w6 ⟨a6, c6, rfl, o6, b6⟩
          have O6 := Lib.hid (o6.base_le D5.out.2.size); have L6 := Lib.hid (L5.out.below b6); have D6 := Lib.hid (D5.out.below b6)
          clear o6 b6
          go_wp2_with fail
          go_roundw
          case rel => exact ⟨j + 1, acc ++ pd, a6, c6, _, by omega, rfl, by go_num, by rw [List.length_append], by have h1 := HN.out; have h2 := HDL.out; first | omega | (rw [List.length_append]; omega), HY.out.app HPY2.out, O6.out, L6.out, D6.out⟩
          case measure => simp [intOf]; omega
        · have hjl : j = l.length := by omega
          have hn3 : n ≤ 2000 := by omega
          go_wp2_with fail
          refine (l01Bend_any g xo d code w1 _ ao c n 2000 acc HC.out HL.out HD.out HO.out HY.out HN.out hn3 (by omega)).mono ?_
          rintro e w5 ⟨l5, a5, c5, rfl, h51, h52, h53, h54⟩
          have O5 := Lib.hid h53; have D5 := Lib.hid h54; have Y5 := Lib.hid h52
          clear h52 h53 h54
          have hmx : l5.length ≤ maxLen := by unfold maxLen; omega
          go_wp2_with fail
          refine (specFrame_any a5 c5 l5 _ O5.out.rd Y5.out hmx).mono ?_
          rintro e w6 ⟨a6, c6, rfl, o6, b6⟩
          have O6 := Lib.hid (o6.base_le D5.out.2.size); have D6 := Lib.hid (D5.out.below b6)
          have hfl := frameL_len l5
          have HFY := Lib.hid (frameL_by Y5.out)
          generalize frameL l5 = fr at O6 hfl HFY
          generalize hfl2 : fr.length = nf at *
          have HFL := Lib.hid hfl2.symm
          clear o6 b6 hfl2
          go_wp2_with fail
          refine (TL.out _ _ _ _ _ D6.out O6.out HFY.out HFL.out (by omega)).mono ?_
          rintro e w9 hp
          have HP := Lib.hid (EN.out _ _ _ hp D6.out)
          obtain ⟨l9, a9, c9, rfl, hh⟩ := hp
          clear hh
          go_wp2_with fail
          go_ret
          exact HP.out
end Go.Proofs.YtfpbhedophlnkaaGreatDoor
