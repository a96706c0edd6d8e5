/-
  Contract of takeCounted at nodes. For every slice of bytes and every place.
-/
import Derived.Test.YtfpbhedophlnkaaGreatDoorRNod
import Derived.Test.YtfpbhedophlnkaaGreatDoorRCntN
import Derived.Test.YtfpbhedophlnkaaGreatDoorGrNd
import Derived.ScopeJumps
namespace Go.Proofs.YtfpbhedophlnkaaGreatDoor
open Go.RowKit
set_option linter.unusedSimpArgs false
set_option linter.unusedVariables false

def CntPN (res : Option (List Nd × Int)) (R : Nat) (b : Option Addr) (d : Nat) (l : List Int) (w : World) (e : Ending) (w' : World) : Prop :=
  w.grownBy w' (some R) ∧ match res with
    | none => e = .returned (.tuple #[.slice none 0 0, .bool false]) ∧ ∃ s', Rdr w' R b d l s'
    | some x => ∃ ao c, e = .returned (.tuple #[.slice ao x.1.length c, .bool true]) ∧ OwnN w' w.heap.size ao c x.1 ∧ Rdr w' R b d l (some x.2)
theorem cntPN_no {res : Option (List Nd × Int)} {R : Nat} {b : Option Addr} {d : Nat} {l : List Int} {w w' : World} {s' : Option Int} (h : res = none) (hg : w.grownBy w' (some R)) (hr : Rdr w' R b d l s') : CntPN res R b d l w (.returned (.tuple #[.slice none 0 0, .bool false])) w' := by
  rw [h]; exact ⟨hg, rfl, s', hr⟩
def RcRelN (w wr : World) (R : Nat) (b : Option Addr) (d : Nat) (l : List Int) (p : Int) (m : Nat) (v i : Value) : Prop :=
  ∃ (k : Nat) (acc : List Nd) (q : Int) (ao : Option Addr) (c n : Nat), v = .slice ao n c ∧ i = .int .i64 k ∧ n = acc.length ∧ k ≤ m ∧ nodsK l p k = some (acc, q) ∧ GrowN wr w.heap.size wr.heap.size (.slice ao acc.length c) acc ∧ Rdr wr R b d l (some q) ∧ w.grownBy wr (some R)
/-- What holds where the run leaves by the label. -/
def RcJN (w : World) (R : Nat) (b : Option Addr) (d : Nat) (l : List Int) (res : Option (List Nd × Int)) (a' : Act) (w' : World) : Prop :=
  ∃ v0 v1 v2 v3 v4 v5 v6 v7 v8 v9 v10 v11 v12 v13 v14 v15 v16 v17 v18 v19 v20 v21 v22 v23 v24 v25 v26 v27 v28 v29 v30 v31 v32 v33 v34 v35 v36 v37 v38 v39 v40 : Value, a' = { tmps := #[v0, v1, v2, v3, v4, v5, v6, v7, v8, v9, v10, v11, v12, v13, v14, v15, v16, v17, v18, v19, v20, v21, v22, v23, v24, v25, v26, v27, v28, v29, v30, v31, v32, v33, v34, v35, v36, v37, v38, v39, v40], defers := [] } ∧ res = none ∧ w.grownBy w' (some R) ∧ ∃ s', Rdr w' R b d l s'

set_option maxRecDepth 100000 in
set_option maxHeartbeats 3200000 in
theorem takeNods_any (R : Nat) (b : Option Addr) (d : Nat) (l : List Int) (s : Option Int) (w : World) (h : Rdr w R b d l s) :
    Calls Tryz.prog 120 #[.pointer (some ⟨R, 0, none⟩), .int .i64 40, .func (.func 121) #[.pointer (some ⟨R, 0, none⟩)] #[]] w (CntPN (countNd l s 40) R b d l w) := by
  have hR := h.lt
  have HBT := Lib.hid h.bytes
  have T1 := Lib.hid (rNum_any R b d l s w h)
  have T2 := Lib.hid (fun W q (h : Rdr W R b d l (some q)) => rNode_any R b d l (some q) W h)
  obtain ⟨res, hres⟩ : ∃ r, r = countNd l s 40 := ⟨_, rfl⟩
  rw [← hres]
  unfold countNd at hres
  obtain ⟨⟨x, s1⟩, hx⟩ : ∃ r, r = numR l s := ⟨_, rfl⟩
  rw [← hx] at T1 hres
  simp only at hres
  have RES := Lib.hid hres
  clear hres hx h
  go_enter Tryz.func120, Tryz.ntmps120
  go_wp2_with fail
  refine wp_scope_jumps 0 (RcJN w R b d l res) (fun _ _ => 0) rfl ?_ ?_
  · go_wp2_with fail
    refine T1.out.mono ?_
    rintro e w1 ⟨rfl, h1, g1⟩
    simp only at h1 ⊢
    have H1 := Lib.hid h1; have G1 := Lib.hid g1
    obtain ⟨p1, er, hh, hp1, he1, _⟩ := id h1
    have c2 : w1.cell? ⟨R, 2, none⟩ = some er := cell_of_row w1 R 2 _ _ _ hh
    have HE := Lib.hid he1
    clear hh he1 h1 g1 T1
    rcases HE.out with ⟨hs, rfl⟩ | ⟨hs, k1, k2, rfl⟩
    · by_cases hc : 0 ≤ x ∧ x ≤ 40
      · obtain ⟨m, rfl⟩ : ∃ m : Nat, x = m := ⟨x.toNat, by omega⟩
        have hm8 : m ≤ 40 := by omega
        have E : Hid (res = nodsK l p1 m) := by show _ = _; rw [RES.out, hs]; simp only; rw [if_pos (by omega), Int.toNat_natCast]
        have hb1 : decide ((m : Int) < 0) = false := by simp
        have hb2 : decide ((40 : Int) < m) = false := by simp; omega
        have H1' : Hid (Rdr w1 R b d l (some p1)) := by have := H1.out; rw [hs] at this; exact this
        clear hc
        go_wp2_with fail
        go_loopw [8, 27] (fun v i wr => RcRelN w wr R b d l p1 m v i) (fun _ i _ => m - (intOf i).toNat)
        case atStart => exact ⟨0, [], p1, none, 0, 0, rfl, rfl, rfl, Nat.zero_le _, rfl, GrowN.nil, H1'.out, G1.out⟩
        case round =>
          obtain ⟨k, acc, q, ao, c, n, rfl, rfl, hn, hk, ht, ho, hr, hg⟩ := hrel
          have HT := Lib.hid ht; have HO := Lib.hid ho; have HG := Lib.hid hg; have HN := Lib.hid hn; have HRR := Lib.hid hr
          have hal := nodsK_len ht
          have TT := Lib.hid (T2.out wr q hr)
          have hsz := hg.size
          have HZ := Lib.hid hsz
          clear hn ht ho hr hg
          by_cases hlt : k < m
          · have hnm' : (nodeR l (some q)).1.name.size ≤ 12 := fieldR_name l _ _
            obtain ⟨⟨t, s2⟩, hx2⟩ : ∃ r, r = nodeR l (some q) := ⟨_, rfl⟩
            rw [← hx2] at TT hnm'
            have HX := Lib.hid hx2.symm
            clear hx2
            simp only at hnm'
            cases s2 with
            | some q' =>
              have TK : Hid (nodsK l p1 (k + 1) = some (acc ++ [t], q')) := nodsK_yes HT.out HX.out
              go_wp2_with fail
              refine TT.out.mono ?_
              rintro e w2 ⟨a2, c2, rfl, ho2, h2, g2⟩
              simp only at h2 ⊢
              have hs2 := g2.size
              have OW2 := Lib.hid (HO.out.grown g2 (fun r hr => by cases hr; exact hR))
              have G2 := Lib.hid (grownBy_trans HG.out g2)
              have H2 := Lib.hid h2
              have OL := Lib.hid (fun x hx => (HO.out.lt x hx).1)
              have BA := Lib.hid ((Below.refl w.heap.size w2).alloc (by omega) (.cells #[.int .i64 t.kind, .string t.name, .int .i64 t.col, .int .i64 t.op, .int .i64 t.num, .bool t.slot, .slice a2 t.cols.length c2] 92))
              have CA := Lib.hid (ho2.alloc (.cells #[.int .i64 t.kind, .string t.name, .int .i64 t.col, .int .i64 t.op, .int .i64 t.num, .bool t.slot, .slice a2 t.cols.length c2] 92))
              clear h2 g2 ho2
              go_wp2_with (at_builtin; go_must (refine wpList_appendG _ rfl (.tmp 29) (.tmp 32) 25 rfl w.heap.size wr.heap.size Tryz.underlying25 Tryz.infoNodeG rfl ao c n acc rfl HN.out (OW2.out.below ((Below.refl _ w2).alloc (Nat.le_refl _) _)) (by simp; omega) HZ.out w2.heap.size 1 t a2 c2 rfl ndRow_new CA.out (by unfold maxLen; omega) (by omega) ?_; intro ao' c' w4 o4 g4; have O4 := Lib.hid o4; have B24 := Lib.hid (below_grow BA.out (by omega) g4 (fun x hx => OL.out x hx)); clear o4 g4; have R4 := Lib.hid (H2.out.belowB (B := w.heap.size) hR HBT.out B24.out); have G4 := Lib.hid (grownBy_belowB G2.out B24.out); obtain ⟨p4, er4, hh4, hp4, he4, _⟩ := id R4.out; have d2 : w4.cell? ⟨R, 2, none⟩ = some er4 := cell_of_row w4 R 2 _ _ _ hh4; have hq4 : q' = p4 ∧ er4 = .nilIface := erv_some he4; obtain ⟨rfl, rfl⟩ := hq4; clear hh4 he4))
              clear HX HT
              go_roundw
              case rel => exact ⟨k + 1, acc ++ [t], q', ao', c', _, rfl, by go_num, by simp; omega, by omega, TK.out, by simpa using O4.out, R4.out, G4.out⟩
              case measure => simp [intOf]; omega
            | none =>
              have E2 : Hid (res = none) := by show _ = _; rw [E.out]; exact nodsK_stays (nodsK_no HT.out HX.out) m (by omega)
              go_wp2_with fail
              refine TT.out.mono ?_
              rintro e w2 ⟨a2, c2, rfl, ho2, h2, g2⟩
              simp only at h2 ⊢
              have hs2 := g2.size
              have OW2 := Lib.hid (HO.out.grown g2 (fun r hr => by cases hr; exact hR))
              have G2 := Lib.hid (grownBy_trans HG.out g2)
              have H2 := Lib.hid h2
              have OL := Lib.hid (fun x hx => (HO.out.lt x hx).1)
              have BA := Lib.hid ((Below.refl w.heap.size w2).alloc (by omega) (.cells #[.int .i64 t.kind, .string t.name, .int .i64 t.col, .int .i64 t.op, .int .i64 t.num, .bool t.slot, .slice a2 t.cols.length c2] 92))
              have CA := Lib.hid (ho2.alloc (.cells #[.int .i64 t.kind, .string t.name, .int .i64 t.col, .int .i64 t.op, .int .i64 t.num, .bool t.slot, .slice a2 t.cols.length c2] 92))
              clear h2 g2 ho2
              go_wp2_with (at_builtin; go_must (refine wpList_appendG _ rfl (.tmp 29) (.tmp 32) 25 rfl w.heap.size wr.heap.size Tryz.underlying25 Tryz.infoNodeG rfl ao c n acc rfl HN.out (OW2.out.below ((Below.refl _ w2).alloc (Nat.le_refl _) _)) (by simp; omega) HZ.out w2.heap.size 1 t a2 c2 rfl ndRow_new CA.out (by unfold maxLen; omega) (by omega) ?_; intro ao' c' w4 o4 g4; have O4 := Lib.hid o4; have B24 := Lib.hid (below_grow BA.out (by omega) g4 (fun x hx => OL.out x hx)); clear o4 g4; have R4 := Lib.hid (H2.out.belowB (B := w.heap.size) hR HBT.out B24.out); have G4 := Lib.hid (grownBy_belowB G2.out B24.out); obtain ⟨p4, er4, hh4, hp4, he4, _⟩ := id R4.out; have d2 : w4.cell? ⟨R, 2, none⟩ = some er4 := cell_of_row w4 R 2 _ _ _ hh4; obtain ⟨j1, j2, rfl⟩ := erv_none he4; clear hh4 he4))
              go_step3
              exact ⟨rfl, _, _, _, _, _, _, _, _, _, _, _, _, _, _, _, _, _, _, _, _, _, _, _, _, _, _, _, _, _, _, _, _, _, _, _, _, _, _, _, _, _, rfl, E2.out, G4.out, _, R4.out⟩
          · obtain rfl : k = m := by omega
            have E2 : Hid (res = some (acc, q)) := by show _ = _; rw [E.out, HT.out]
            go_wp2_with fail
            simp only [Exit.jump]
            go_ret2
            rw [E2.out]
            exact ⟨HG.out, ao, c, by rw [HN.out]; rfl, HO.out.ownN, HRR.out⟩
      · have E : Hid (res = none) := by show _ = _; rw [RES.out, hs]; simp only; rw [if_neg hc]
        by_cases h0 : x < 0
        · have hb1 : decide (x < 0) = true := by simpa using h0
          go_wp2_with fail
          go_step3
          exact ⟨rfl, _, _, _, _, _, _, _, _, _, _, _, _, _, _, _, _, _, _, _, _, _, _, _, _, _, _, _, _, _, _, _, _, _, _, _, _, _, _, _, _, _, rfl, E.out, G1.out, _, H1.out⟩
        · have hb1 : decide (x < 0) = false := by simpa using h0
          have hb2 : decide (40 < x) = true := by simp; omega
          go_wp2_with fail
          go_step3
          exact ⟨rfl, _, _, _, _, _, _, _, _, _, _, _, _, _, _, _, _, _, _, _, _, _, _, _, _, _, _, _, _, _, _, _, _, _, _, _, _, _, _, _, _, _, rfl, E.out, G1.out, _, H1.out⟩
    · have E : Hid (res = none) := by show _ = _; rw [RES.out, hs]
      go_wp2_with fail
      go_step3
      exact ⟨rfl, _, _, _, _, _, _, _, _, _, _, _, _, _, _, _, _, _, _, _, _, _, _, _, _, _, _, _, _, _, _, _, _, _, _, _, _, _, _, _, _, _, rfl, E.out, G1.out, _, H1.out⟩
  · rintro a' w' ⟨v0, v1, v2, v3, v4, v5, v6, v7, v8, v9, v10, v11, v12, v13, v14, v15, v16, v17, v18, v19, v20, v21, v22, v23, v24, v25, v26, v27, v28, v29, v30, v31, v32, v33, v34, v35, v36, v37, v38, v39, v40, rfl, hn, hg, s', hr⟩
    go_wp2_with fail
    simp only [Exit.jump]
    go_ret2
    exact cntPN_no hn hg hr
end Go.Proofs.YtfpbhedophlnkaaGreatDoor
