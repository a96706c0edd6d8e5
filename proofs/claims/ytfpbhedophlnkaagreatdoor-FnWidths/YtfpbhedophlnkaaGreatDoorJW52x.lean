/-
  The program's reader where other blocks turn: what stays. No walk. Contract of the program's reader's end. For every slice of bytes and every place. Contracts of the program's reader of a table, and of its end. For every slice of bytes and every place. Contract of takeCounted at tables. For every slice of bytes and every place. The contract of the program's frame: the part of the bytes that the frame holds; else its error. For every slice of bytes.
-/
import Derived.Test.YtfpbhedophlnkaaGreatDoorJW51x
import Derived.Deep.QuietTactic
import Derived.BigQuiet
import Derived.Test.YtfpbhedophlnkaaGreatDoorJW33x
import Derived.Test.YtfpbhedophlnkaaGreatDoorJW7x
import Derived.ScopeJumps
import Derived.Test.YtfpbhedophlnkaaGreatDoorJW31x
import Derived.Test.YtfpbhedophlnkaaGreatDoorJW4x
import Derived.ChangeKeysEq
namespace Go.Proofs.YtfpbhedophlnkaaGreatDoor
open Go.RowKit
set_option linter.unusedSimpArgs false
set_option linter.unusedVariables false

theorem gcell {W w1 : World} {R : Nat} (hg : W.grownBy w1 (some R)) {X : Nat} (hX : X < W.heap.size) (hne : X ≠ R) :
    (∀ o, w1.cell? ⟨X, o, none⟩ = W.cell? ⟨X, o, none⟩) ∧ (∀ o, w1.frozen? ⟨X, o, none⟩ = W.frozen? ⟨X, o, none⟩) :=
  have hb := hg.block X hX (by simp; exact hne)
  ⟨fun o => World.cell?_of_block (a := ⟨X, o, none⟩) hb, fun o => World.frozen?_of_block (a := ⟨X, o, none⟩) hb⟩
theorem grownBy_belowB {a b c : World} {row : Option Nat} (h : a.grownBy b row) (k : Below a.heap.size b c) : a.grownBy c row :=
  ⟨k.os.trans h.os, k.tape.trans h.tape, k.output.trans h.output, Nat.le_trans h.size k.size, fun i hi hne => (k.block i hi).trans (h.block i hi hne)⟩
theorem below_grownBy {a b c : World} {row : Option Nat} (h : Below a.heap.size a b) (k : b.grownBy c row) : a.grownBy c row :=
  ⟨k.os.trans h.os, k.tape.trans h.tape, k.output.trans h.output, Nat.le_trans h.size k.size, fun i hi hne => (k.block i (Nat.lt_of_lt_of_le hi h.size) hne).trans (h.block i hi)⟩
theorem Rdr.lt {w : World} {R d : Nat} {b : Option Addr} {l : List Int} {s : Option Int} (h : Rdr w R b d l s) : R < w.heap.size := by
  obtain ⟨p, er, hh, _⟩ := h; exact lt_of_block hh
theorem Rdr.bytes {w : World} {R d : Nat} {b : Option Addr} {l : List Int} {s : Option Int} (h : Rdr w R b d l s) : ∀ a, b = some a → l ≠ [] → a.block < w.heap.size := by
  obtain ⟨p, er, hh, hp, he, hr, hby, hd, hne⟩ := h
  intro a ha hl
  rcases hr with rfl | ⟨b1, off, rfl, hc⟩
  · exact absurd rfl hl
  · cases ha
    have hpos : 0 < l.length := Nat.pos_of_ne_zero (fun e => hl (List.eq_nil_of_length_eq_zero e))
    exact World.block_lt_of_cell? w ⟨b1, off + 0, none⟩ (hc 0 hpos)
theorem Rdr.belowB {w1 w' : World} {B R d : Nat} {b : Option Addr} {l : List Int} {s : Option Int} (h : Rdr w1 R b d l s) (hR : R < B) (hbB : ∀ a, b = some a → l ≠ [] → a.block < B) (hb : Below B w1 w') : Rdr w' R b d l s := by
  obtain ⟨p, er, hh, hp, he, hr, hby, hd, hne⟩ := h
  refine ⟨p, er, (hb.block R hR).trans hh, hp, he, ?_, hby, hd, hne⟩
  rcases hr with rfl | ⟨b1, off, rfl, hc⟩
  · exact .inl rfl
  · by_cases hl : l = []
    · exact .inl hl
    · exact .inr ⟨b1, off, rfl, fun i hi => (hb.cell (p := ⟨b1, off + i, none⟩) (hbB ⟨b1, off, none⟩ rfl hl)).trans (hc i hi)⟩
theorem erv_some {er : Value} {p q : Int} (h : ErV er p (some q)) : q = p ∧ er = .nilIface := by
  rcases h with ⟨h1, h2⟩ | ⟨h1, _⟩
  · injection h1 with h1; exact ⟨h1, h2⟩
  · cases h1
theorem erv_none {er : Value} {p : Int} (h : ErV er p none) : ∃ k1 k2 : Int, er = .iface 200 (.agg #[.int .i64 k1, .int .i64 k2]) := by
  rcases h with ⟨h1, _⟩ | ⟨_, h⟩
  · cases h1
  · exact h
theorem rdr_box {w : World} {b : Option Addr} {d : Nat} {l : List Int} (h : Rd w .u8 b l) (hby : By l) (hd : l.length ≤ d ∧ d ≤ maxLen) (hlt : ∀ a, b = some a → a.block < w.heap.size) : Rdr (w.alloc (.cells #[.slice b l.length d, .int .i64 0, .nilIface] 116)) w.heap.size b d l (some 0) :=
  ⟨0, .nilIface, heap_alloc_new w _, by decide, .inl ⟨rfl, rfl⟩, h.below ((Below.refl _ w).alloc (Nat.le_refl _) _), hby, hd, fun a ha _ => by have := hlt a ha; omega⟩

end Go.Proofs.YtfpbhedophlnkaaGreatDoor
namespace Go.Proofs.YtfpbhedophlnkaaGreatDoor
open Go.RowKit
set_option linter.unusedSimpArgs false
set_option linter.unusedVariables false

set_option maxRecDepth 100000 in
theorem rEnd_any (R : Nat) (b : Option Addr) (d : Nat) (l : List Int) (p : Int) (w : World) (h : Rdr w R b d l (some p)) :
    Calls Tryz.prog 95 #[.pointer (some ⟨R, 0, none⟩)] w fun e w' => e = .returned (.bool (p == l.length)) ∧ Below w.heap.size w w' := by
  obtain ⟨q, er, hh, hp, he, _⟩ := h
  obtain rfl : q = p := by
    rcases he with ⟨hs, _⟩ | ⟨hs, _⟩
    · injection hs with hs; exact hs.symm
    · cases hs
  have c0 : w.cell? ⟨R, 0, none⟩ = some (.slice b l.length d) := cell_of_row w R 0 _ _ _ hh
  have c1 : w.cell? ⟨R, 1, none⟩ = some (.int .i64 q) := cell_of_row w R 1 _ _ _ hh
  clear hh he hp
  go_enter Tryz.func95, Tryz.ntmps95
  go_wp2_with fail
  go_quiet (fail)
  go_wp2_with fail
  go_ret
  exact ⟨rfl, below_drewN (Below.refl _ _) _⟩
end Go.Proofs.YtfpbhedophlnkaaGreatDoor
namespace Go.Proofs.YtfpbhedophlnkaaGreatDoor
open Go.RowKit
set_option linter.unusedSimpArgs false
set_option linter.unusedVariables false

set_option maxRecDepth 100000 in
set_option maxHeartbeats 1600000 in
theorem rTable_any (R : Nat) (b : Option Addr) (d : Nat) (l : List Int) (s : Option Int) (w : World) (h : Rdr w R b d l s) :
    Calls Tryz.prog 94 #[.pointer (some ⟨R, 0, none⟩)] w (TookR (.agg #[.string (tableR l s).1.name, .int .i64 (tableR l s).1.width]) R b d l (tableR l s).2 w) := by
  have T1 := Lib.hid (fun W (h : Rdr W R b d l s) => rWord_any R b d l s W h)
  have TR : tableR l s = (⟨(wordR l s).1, (numR l (wordR l s).2).1⟩, (numR l (wordR l s).2).2) := rfl
  obtain ⟨⟨x1, s1⟩, hx1⟩ : ∃ r, r = wordR l s := ⟨_, rfl⟩
  rw [← hx1] at T1 TR
  simp only at TR
  have T2 := Lib.hid (fun W (h : Rdr W R b d l s1) => rNum_any R b d l s1 W h)
  obtain ⟨⟨x2, s2⟩, hx2⟩ : ∃ r, r = numR l s1 := ⟨_, rfl⟩
  rw [← hx2] at T2 TR
  simp only at TR
  rw [TR]
  clear hx1 hx2 TR
  have hR := h.lt
  have HBT := Lib.hid h.bytes
  have H := Lib.hid (h.below ((Below.refl _ w).alloc (Nat.le_refl _) (.cells #[.string ⟨#[]⟩, .int .i64 0] 99)))
  clear h
  go_enter Tryz.func94, Tryz.ntmps94
  go_wp2_with fail
  refine (T1.out _ H.out).mono ?_
  rintro e w1 ⟨rfl, h1, g1⟩
  have H1 := Lib.hid h1
  go_wp2_with fail
  refine (T2.out _ H1.out).mono ?_
  rintro e w2 ⟨rfl, h2, g2⟩
  have H2 := Lib.hid h2; have G2 := Lib.hid (grownBy_trans g1 g2)
  obtain ⟨hc0, hf0⟩ := gcell G2.out (X := w.heap.size) (by simp) (by omega)
  have GW := Lib.hid (below_grownBy ((Below.refl _ w).alloc (Nat.le_refl _) _) G2.out)
  clear h1 g1 h2 g2 H1 T1 T2
  go_wp2_with fail
  refine bodyPost_ret (v := .agg #[.string x1, .int .i64 x2]) (by simp [results, Tryz.results94, go_sem, hc0]) rfl ⟨rfl, H2.out.belowB hR HBT.out ?_, grownBy_belowB GW.out ?_⟩
  all_goals
    repeat (refine Below.setCell ?_ (by simp; try omega) _)
    exact Below.refl _ _

end Go.Proofs.YtfpbhedophlnkaaGreatDoor
namespace Go.Proofs.YtfpbhedophlnkaaGreatDoor
open Go.RowKit
set_option linter.unusedSimpArgs false
set_option linter.unusedVariables false

def CntP (res : Option (List Tb × Int)) (R : Nat) (b : Option Addr) (d : Nat) (l : List Int) (w : World) (e : Ending) (w' : World) : Prop :=
  w.grownBy w' (some R) ∧ match res with
    | none => e = .returned (.tuple #[.slice none 0 0, .bool false]) ∧ ∃ s', Rdr w' R b d l s'
    | some x => ∃ ao c, e = .returned (.tuple #[.slice ao x.1.length c, .bool true]) ∧ OwnT w' w.heap.size ao c x.1 ∧ Rdr w' R b d l (some x.2)
theorem cntP_no {res : Option (List Tb × Int)} {R : Nat} {b : Option Addr} {d : Nat} {l : List Int} {w w' : World} {s' : Option Int} (h : res = none) (hg : w.grownBy w' (some R)) (hr : Rdr w' R b d l s') : CntP res R b d l w (.returned (.tuple #[.slice none 0 0, .bool false])) w' := by
  rw [h]; exact ⟨hg, rfl, s', hr⟩
def RcRel (w wr : World) (R : Nat) (b : Option Addr) (d : Nat) (l : List Int) (p : Int) (m : Nat) (v i : Value) : Prop :=
  ∃ (k : Nat) (acc : List Tb) (q : Int) (ao : Option Addr) (c n : Nat), v = .slice ao n c ∧ i = .int .i64 k ∧ n = acc.length ∧ k ≤ m ∧ tabsK l p k = some (acc, q) ∧ OwnT wr w.heap.size ao c acc ∧ Rdr wr R b d l (some q) ∧ w.grownBy wr (some R)
/-- What holds where the run leaves by the label. -/
def RcJ (w : World) (R : Nat) (b : Option Addr) (d : Nat) (l : List Int) (res : Option (List Tb × Int)) (a' : Act) (w' : World) : Prop :=
  ∃ v0 v1 v2 v3 v4 v5 v6 v7 v8 v9 v10 v11 v12 v13 v14 v15 v16 v17 v18 v19 v20 v21 v22 v23 v24 v25 v26 v27 v28 v29 v30 v31 v32 v33 v34 v35 v36 v37 v38 v39 v40 : Value, a' = { tmps := #[v0, v1, v2, v3, v4, v5, v6, v7, v8, v9, v10, v11, v12, v13, v14, v15, v16, v17, v18, v19, v20, v21, v22, v23, v24, v25, v26, v27, v28, v29, v30, v31, v32, v33, v34, v35, v36, v37, v38, v39, v40], defers := [] } ∧ res = none ∧ w.grownBy w' (some R) ∧ ∃ s', Rdr w' R b d l s'

set_option maxRecDepth 100000 in
set_option maxHeartbeats 3200000 in
theorem takeTabs_any (R : Nat) (b : Option Addr) (d : Nat) (l : List Int) (s : Option Int) (w : World) (h : Rdr w R b d l s) :
    Calls Tryz.prog 93 #[.pointer (some ⟨R, 0, none⟩), .int .i64 8, .func (.func 94) #[.pointer (some ⟨R, 0, none⟩)] #[]] w (CntP (countT l s 8) R b d l w) := by
  have hR := h.lt
  have HBT := Lib.hid h.bytes
  have T1 := Lib.hid (rNum_any R b d l s w h)
  have T2 := Lib.hid (fun W q (h : Rdr W R b d l (some q)) => rTable_any R b d l (some q) W h)
  obtain ⟨res, hres⟩ : ∃ r, r = countT l s 8 := ⟨_, rfl⟩
  rw [← hres]
  unfold countT at hres
  obtain ⟨⟨x, s1⟩, hx⟩ : ∃ r, r = numR l s := ⟨_, rfl⟩
  rw [← hx] at T1 hres
  simp only at hres
  have RES := Lib.hid hres
  clear hres hx h
  go_enter Tryz.func93, Tryz.ntmps93
  go_wp2_with fail
  refine wp_scope_jumps 0 (RcJ w R b d l res) (fun _ _ => 0) rfl ?_ ?_
  · go_wp2_with fail
    refine T1.out.mono ?_
    rintro e w1 ⟨rfl, h1, g1⟩
    simp only at h1 ⊢
    have H1 := Lib.hid h1; have G1 := Lib.hid g1
    obtain ⟨p1, er, hh, hp1, he1, _⟩ := id h1
    have c2 : w1.cell? ⟨R, 2, none⟩ = some er := cell_of_row w1 R 2 _ _ _ hh
    have HE := Lib.hid he1
    clear hh he1 h1 g1 T1
    rcases HE.out with ⟨hs, rfl⟩ | ⟨hs, k1, k2, rfl⟩
    · by_cases hc : 0 ≤ x ∧ x ≤ 8
      · obtain ⟨m, rfl⟩ : ∃ m : Nat, x = m := ⟨x.toNat, by omega⟩
        have hm8 : m ≤ 8 := by omega
        have E : Hid (res = tabsK l p1 m) := by show _ = _; rw [RES.out, hs]; simp only; rw [if_pos (by omega), Int.toNat_natCast]
        have hb1 : decide ((m : Int) < 0) = false := by simp
        have hb2 : decide ((8 : Int) < m) = false := by simp; omega
        have H1' : Hid (Rdr w1 R b d l (some p1)) := by have := H1.out; rw [hs] at this; exact this
        clear hc
        go_wp2_with fail
        go_loopw [8, 27] (fun v i wr => RcRel w wr R b d l p1 m v i) (fun _ i _ => m - (intOf i).toNat)
        case atStart => exact ⟨0, [], p1, none, 0, 0, rfl, rfl, rfl, Nat.zero_le _, rfl, OwnT.none_, H1'.out, G1.out⟩
        case round =>
          obtain ⟨k, acc, q, ao, c, n, rfl, rfl, hn, hk, ht, ho, hr, hg⟩ := hrel
          have HT := Lib.hid ht; have HO := Lib.hid ho; have HG := Lib.hid hg; have HN := Lib.hid hn; have HRR := Lib.hid hr
          have hal := tabsK_len ht
          have TT := Lib.hid (T2.out wr q hr)
          have hsz := hg.size
          clear hn ht ho hr hg
          by_cases hlt : k < m
          · have hnm := wordR_12T l (some q)
            have hnm' : (tableR l (some q)).1.name.size ≤ 12 := hnm
            obtain ⟨⟨t, s2⟩, hx2⟩ : ∃ r, r = tableR l (some q) := ⟨_, rfl⟩
            rw [← hx2] at TT hnm'
            have HX := Lib.hid hx2.symm
            clear hnm hx2
            simp only at hnm'
            cases s2 with
            | some q' =>
              have TK : Hid (tabsK l p1 (k + 1) = some (acc ++ [t], q')) := tabsK_yes HT.out HX.out
              go_wp2_with fail
              refine TT.out.mono ?_
              rintro e w2 ⟨rfl, h2, g2⟩
              simp only at h2 ⊢
              have hs2 := g2.size
              have OW2 := Lib.hid (HO.out.grown g2 (fun a ha => by have := (HO.out.lt a ha).1; simp; omega))
              have G2 := Lib.hid (grownBy_trans HG.out g2)
              have H2 := Lib.hid h2
              have OL := Lib.hid (fun x hx => (HO.out.lt x hx).1)
              have BA := Lib.hid ((Below.refl w.heap.size w2).alloc (by omega) (.cells #[.string t.name, .int .i64 t.width] 99))
              have TA := Lib.hid (show TbAt (w2.alloc (.cells #[.string t.name, .int .i64 t.width] 99)) w2.heap.size 0 t from ⟨(cell_of_row _ _ _ _ _ _ (heap_alloc_new w2 _)).trans rfl, (cell_of_row _ _ _ _ _ _ (heap_alloc_new w2 _)).trans rfl, by unfold maxLen; omega⟩)
              clear h2 g2
              go_wp2_with (at_builtin; go_must (refine wpList_appendT _ rfl (.tmp 29) (.tmp 32) 24 rfl w.heap.size Tryz.underlying24 Tryz.infoTable ao c n acc rfl HN.out (OW2.out.alloc _) w2.heap.size 1 t rfl TA.out (by omega) (by simp; omega) ?_; intro ao' c' w4 o4 g4; have O4 := Lib.hid o4; have B24 := Lib.hid (below_grow BA.out (by omega) g4 (fun x hx => OL.out x hx)); clear o4 g4; have R4 := Lib.hid (H2.out.belowB (B := w.heap.size) hR HBT.out B24.out); have G4 := Lib.hid (grownBy_belowB G2.out B24.out); obtain ⟨p4, er4, hh4, hp4, he4, _⟩ := id R4.out; have d2 : w4.cell? ⟨R, 2, none⟩ = some er4 := cell_of_row w4 R 2 _ _ _ hh4; have hq4 : q' = p4 ∧ er4 = .nilIface := erv_some he4; obtain ⟨rfl, rfl⟩ := hq4; clear hh4 he4))
              clear HX HT
              go_roundw
              case rel => exact ⟨k + 1, acc ++ [t], q', ao', c', _, rfl, by go_num, by simp; omega, by omega, TK.out, O4.out, R4.out, G4.out⟩
              case measure => simp [intOf]; omega
            | none =>
              have E2 : Hid (res = none) := by show _ = _; rw [E.out]; exact tabsK_stays (tabsK_no HT.out HX.out) m (by omega)
              go_wp2_with fail
              refine TT.out.mono ?_
              rintro e w2 ⟨rfl, h2, g2⟩
              simp only at h2 ⊢
              have hs2 := g2.size
              have OW2 := Lib.hid (HO.out.grown g2 (fun a ha => by have := (HO.out.lt a ha).1; simp; omega))
              have G2 := Lib.hid (grownBy_trans HG.out g2)
              have H2 := Lib.hid h2
              have OL := Lib.hid (fun x hx => (HO.out.lt x hx).1)
              have BA := Lib.hid ((Below.refl w.heap.size w2).alloc (by omega) (.cells #[.string t.name, .int .i64 t.width] 99))
              have TA := Lib.hid (show TbAt (w2.alloc (.cells #[.string t.name, .int .i64 t.width] 99)) w2.heap.size 0 t from ⟨(cell_of_row _ _ _ _ _ _ (heap_alloc_new w2 _)).trans rfl, (cell_of_row _ _ _ _ _ _ (heap_alloc_new w2 _)).trans rfl, by unfold maxLen; omega⟩)
              clear h2 g2
              go_wp2_with (at_builtin; go_must (refine wpList_appendT _ rfl (.tmp 29) (.tmp 32) 24 rfl w.heap.size Tryz.underlying24 Tryz.infoTable ao c n acc rfl HN.out (OW2.out.alloc _) w2.heap.size 1 t rfl TA.out (by omega) (by simp; omega) ?_; intro ao' c' w4 o4 g4; have O4 := Lib.hid o4; have B24 := Lib.hid (below_grow BA.out (by omega) g4 (fun x hx => OL.out x hx)); clear o4 g4; have R4 := Lib.hid (H2.out.belowB (B := w.heap.size) hR HBT.out B24.out); have G4 := Lib.hid (grownBy_belowB G2.out B24.out); obtain ⟨p4, er4, hh4, hp4, he4, _⟩ := id R4.out; have d2 : w4.cell? ⟨R, 2, none⟩ = some er4 := cell_of_row w4 R 2 _ _ _ hh4; obtain ⟨j1, j2, rfl⟩ := erv_none he4; clear hh4 he4))
              go_step3
              exact ⟨rfl, _, _, _, _, _, _, _, _, _, _, _, _, _, _, _, _, _, _, _, _, _, _, _, _, _, _, _, _, _, _, _, _, _, _, _, _, _, _, _, _, _, rfl, E2.out, G4.out, _, R4.out⟩
          · obtain rfl : k = m := by omega
            have E2 : Hid (res = some (acc, q)) := by show _ = _; rw [E.out, HT.out]
            go_wp2_with fail
            simp only [Exit.jump]
            go_ret2
            rw [E2.out]
            exact ⟨HG.out, ao, c, by rw [HN.out]; rfl, HO.out, HRR.out⟩
      · have E : Hid (res = none) := by show _ = _; rw [RES.out, hs]; simp only; rw [if_neg hc]
        by_cases h0 : x < 0
        · have hb1 : decide (x < 0) = true := by simpa using h0
          go_wp2_with fail
          go_step3
          exact ⟨rfl, _, _, _, _, _, _, _, _, _, _, _, _, _, _, _, _, _, _, _, _, _, _, _, _, _, _, _, _, _, _, _, _, _, _, _, _, _, _, _, _, _, rfl, E.out, G1.out, _, H1.out⟩
        · have hb1 : decide (x < 0) = false := by simpa using h0
          have hb2 : decide (8 < x) = true := by simp; omega
          go_wp2_with fail
          go_step3
          exact ⟨rfl, _, _, _, _, _, _, _, _, _, _, _, _, _, _, _, _, _, _, _, _, _, _, _, _, _, _, _, _, _, _, _, _, _, _, _, _, _, _, _, _, _, rfl, E.out, G1.out, _, H1.out⟩
    · have E : Hid (res = none) := by show _ = _; rw [RES.out, hs]
      go_wp2_with fail
      go_step3
      exact ⟨rfl, _, _, _, _, _, _, _, _, _, _, _, _, _, _, _, _, _, _, _, _, _, _, _, _, _, _, _, _, _, _, _, _, _, _, _, _, _, _, _, _, _, rfl, E.out, G1.out, _, H1.out⟩
  · rintro a' w' ⟨v0, v1, v2, v3, v4, v5, v6, v7, v8, v9, v10, v11, v12, v13, v14, v15, v16, v17, v18, v19, v20, v21, v22, v23, v24, v25, v26, v27, v28, v29, v30, v31, v32, v33, v34, v35, v36, v37, v38, v39, v40, rfl, hn, hg, s', hr⟩
    go_wp2_with fail
    simp only [Exit.jump]
    go_ret2
    exact cntP_no hn hg hr
end Go.Proofs.YtfpbhedophlnkaaGreatDoor
namespace Go.Proofs.YtfpbhedophlnkaaGreatDoor
open Go.RowKit
set_option linter.unusedSimpArgs false
set_option linter.unusedVariables false

def FramePost (r : Option (List Int)) (w : World) (e : Ending) (w' : World) : Prop :=
  ((r = none ∧ ∃ k1 k2 : Int, e = .returned (.tuple #[.slice none 0 0, .iface 200 (.agg #[.int .i64 k1, .int .i64 k2])])) ∨
   (∃ ao n m, r = some m ∧ e = .returned (.tuple #[.slice ao n n, .nilIface]) ∧ Rd w' .u8 ao m ∧ m.length = n ∧ (ao = none → n = 0))) ∧ Below w.heap.size w w'
theorem framePost_noB {r : Option (List Int)} {w w' : World} {k1 k2 : Int} (h : r = none) (hb : Below w.heap.size w w') : FramePost r w (.returned (.tuple #[.slice none 0 0, .iface 200 (.agg #[.int .i64 k1, .int .i64 k2])])) w' := ⟨.inl ⟨h, _, _, rfl⟩, hb⟩
theorem framePost_no {r : Option (List Int)} {w : World} {k1 k2 : Int} (h : r = none) : FramePost r w (.returned (.tuple #[.slice none 0 0, .iface 200 (.agg #[.int .i64 k1, .int .i64 k2])])) w := framePost_noB h (Below.refl _ _)
theorem framePost_yes {r : Option (List Int)} {w w' : World} {ao : Option Addr} {n : Nat} {m : List Int} (h : r = some m) (hr : Rd w .u8 ao m) (hn : m.length = n) (hz : ao = none → n = 0) (hb : Below w.heap.size w w') : FramePost r w (.returned (.tuple #[.slice ao n n, .nilIface])) w' := ⟨.inr ⟨_, _, _, h, rfl, hr.below hb, hn, hz⟩, hb⟩
theorem eqSeal (a b c d : Int) (W : World) : (Op.equalIn 10000 248 (.agg #[.int .i64 a, .int .i64 b]) (.agg #[.int .i64 c, .int .i64 d])).run Tryz.prog W = .ok (a == c && b == d) W := by
  obtain ⟨i, hi, _⟩ := info_parts Tryz.infoI64
  have p : ∀ x y : Int, (part 3 #[.int .i64 x, .int .i64 y] 0).run Tryz.prog W = .ok (.int .i64 x) W := fun x y => by kernel_rfl
  have q : ∀ x y : Int, (part 3 #[.int .i64 x, .int .i64 y] 1).run Tryz.prog W = .ok (.int .i64 y) W := fun x y => by kernel_rfl
  have hc : Tryz.prog.cellsOf 3 = 1 := by kernel_rfl
  have e := fun x y : Int => run_equalIn_int (P := Tryz.prog) W 9998 3 .i64 .i64 x y Tryz.underlying3
  rw [show (10000 : Nat) = (9998 + 1) + 1 from rfl, run_equalIn_array W (9998 + 1) _ _ Tryz.underlying248 hi, hc]
  simp only [show List.range 2 = [0, 1] from rfl, Op.eqItems, Sem.run_bind, Nat.zero_mul, Nat.one_mul, p, q, Result.andThen_ok, e]
  have e9 : ∀ x y : Int, (Op.equalIn 9999 3 (.int .i64 x) (.int .i64 y)).run Tryz.prog W = .ok (x == y) W := e
  cases a == c <;> cases hbd : (b == d) <;> simp [q, e9, Result.andThen, hbd]
theorem two_alloc (w : World) (x y : Obj) : Below w.heap.size w ((w.alloc x).alloc y) := ((Below.refl _ w).alloc (Nat.le_refl _) x).alloc (by simp) y
theorem ps_iff {x y : Int} (h0 : 0 ≤ x ∧ x < 256) (h1 : 0 ≤ y ∧ y < 256) : (strOfNums [x, y]).toList = [80, 83] ↔ x = 80 ∧ y = 83 := by
  have key : ∀ (z : Int) (k : Nat), 0 ≤ z → z < 256 → k < 256 → (UInt8.ofNat z.toNat = UInt8.ofNat k ↔ z = k) := by
    intro z k hz0 hz1 hk
    constructor
    · intro h
      have := congrArg UInt8.toNat h
      simp [UInt8.toNat_ofNat'] at this
      omega
    · intro h; subst h; simp
  rw [ByteArray.toList_eq, strOfNums_data]
  have e0 := key x 80 h0.1 h0.2 (by omega)
  have e1 := key y 83 h1.1 h1.2 (by omega)
  show [UInt8.ofNat x.toNat, UInt8.ofNat y.toNat] = [UInt8.ofNat 80, UInt8.ofNat 83] ↔ _
  simp only [List.cons.injEq, and_true]
  rw [e0, e1]; rfl

set_option maxRecDepth 100000 in
set_option maxHeartbeats 1600000 in
theorem frame_any (b : Option Addr) (d : Nat) (l : List Int) (w : World) (h : Rd w .u8 b l) (hby : By l) (hl : l.length ≤ maxLen) (hd : l.length ≤ d) (hd2 : d ≤ maxLen) :
    Calls Tryz.prog 176 #[.slice b l.length d] w (FramePost (unfL l) w) := by
  have HL := Lib.hid hl; have HD := Lib.hid hd; have HD2 := Lib.hid hd2; have H := Lib.hid h; have HBY := Lib.hid hby
  unfold maxLen at hl
  obtain ⟨r, hr⟩ : ∃ r, r = unfL l := ⟨_, rfl⟩
  rw [← hr]
  unfold unfL at hr
  have HR0 := Lib.hid hr
  clear hr hd hd2 h hby
  by_cases h2 : l.length < 2
  · have HE : Hid (r = none) := by
      show r = none
      rw [HR0.out, if_neg (by rw [List.getElem?_eq_none (show l.length ≤ 1 by omega)]; simp)]
    go_enter Tryz.func176, Tryz.ntmps176
    go_wp2_with fail
    refine (cut_no _ _ _ _ _ _ HL.out (by omega) (by omega) (by omega)).mono ?_
    rintro e w' ⟨rfl, rfl⟩
    go_wp2
    go_ret2
    exact framePost_no HE.out
  have hx0 := List.getElem?_eq_getElem (show 0 < l.length by omega)
  have hx1 := List.getElem?_eq_getElem (show 1 < l.length by omega)
  have v0 := HBY.out _ (List.getElem_mem (show 0 < l.length by omega))
  have v1 := HBY.out _ (List.getElem_mem (show 1 < l.length by omega))
  generalize l[0] = x0 at hx0 v0
  generalize l[1] = x1 at hx1 v1
  have hm2 : (l.drop 0).take 2 = [x0, x1] := by
    apply List.ext_getElem?
    intro i
    match i with
    | 0 => simpa using hx0
    | 1 => simpa using hx1
    | i + 2 => simp; omega
  have K := Lib.hid (cut_yes' b d l 0 2 0 2 rfl rfl w HL.out HD.out HD2.out H.out (by omega))
  rw [hm2] at K
  have CV : Hid (∀ ao, Rd w .u8 ao [x0, x1] → (convert 112 9 (.slice ao 2 2)).run Tryz.prog w = .ok (.string (strOfNums [x0, x1])) w) := fun ao h1 => conv_str w 112 Tryz.underlying112 ao 2 2 _ h1 rfl
  have hps := ps_iff v0 v1
  generalize strOfNums [x0, x1] = st at CV hps
  by_cases hP : x0 = 80 ∧ x1 = 83
  · have hs1 : (st.toList == [80, 83]) = true := by rw [hps.2 hP]; rfl
    have hr := HR0.out
    rw [if_pos (by rw [hx0, hx1, hP.1, hP.2]; exact ⟨rfl, rfl⟩)] at hr
    unfold unfT at hr
    have C := Lib.hid (numAt_any b d l 2 w H.out HBY.out HL.out HD.out HD2.out (by omega) (by omega))
    have CA : Hid (∀ p : Int, p ≤ 9223372036854775807 → 0 ≤ p → Calls Tryz.prog 234 #[.slice b l.length d, .int .i64 p] w (NumPost (takeN l p) p w)) := fun p hp h0 => numAt_any b d l p w H.out HBY.out HL.out HD.out HD2.out hp (by omega)
    have bd := takeN_bd HBY.out 2
    obtain ⟨⟨n, nx⟩, hnx⟩ : ∃ x, x = takeN l 2 := ⟨_, rfl⟩
    rw [← hnx] at C bd hr
    simp only at hr bd
    have HR := Lib.hid hr; have BD := Lib.hid bd
    clear hr hnx hps hP hm2 hx0 hx1 bd HR0 v0 v1
    go_enter Tryz.func176, Tryz.ntmps176
    go_wp2_with fail
    refine K.out.mono ?_
    rintro e w' ⟨ao, rfl, hrd, hlen, _, rfl⟩
    have hcv := CV.out ao hrd
    clear hrd hlen
    go_wp2_with fail
    refine C.out.mono ?_
    rintro e w' ⟨hh | hh, rfl⟩
    · obtain ⟨h1, rfl⟩ := hh
      simp only at h1
      have HE : Hid (r = none) := by
        show r = _
        rw [HR.out, if_pos (.inl (by omega))]
      clear h1
      go_wp2
      go_ret2
      exact framePost_no HE.out
    · obtain ⟨h1, rfl⟩ := hh
      simp only at h1 ⊢
      have hb := BD.out
      have hx0 : 0 ≤ nx := by omega
      have hx1 : nx ≤ l.length := by omega
      have hn0 : -1000000 ≤ n := hb.1
      have hn1 : n ≤ 1000000 := hb.2.1
      clear h1 hb
      by_cases hc : 0 ≤ n ∧ n ≤ l.length - nx
      · obtain ⟨p, rfl⟩ : ∃ p : Nat, nx = p := ⟨nx.toNat, by omega⟩
        obtain ⟨q, rfl⟩ : ∃ q : Nat, n = q := ⟨n.toNat, by omega⟩
        have hpq : (p : Int) + q ≤ l.length := by omega
        have K2 := Lib.hid (cut_yes' b d l p q p q rfl rfl w HL.out HD.out HD2.out H.out (by omega))
        by_cases h4 : q ≤ 4000
        · have hb4 : decide ((4000 : Int) < q) = false := by simp; omega
          have e : r = if (takeN l ((p : Int) + q)).2 = l.length ∧ (takeN l ((p : Int) + q)).1 = chk ((l.drop p).take q) then some ((l.drop p).take q) else none := by rw [HR.out, if_neg (by omega)]; rfl
          have CP := Lib.hid (CA.out ((p : Int) + q) (by omega) (by omega))
          have CK : Hid (∀ ao, Rd w .u8 ao ((l.drop p).take q) → ((l.drop p).take q).length = q → Calls Tryz.prog 118 #[.slice ao q q] w fun e w' => e = .returned (.int .i64 (chk ((l.drop p).take q))) ∧ w = w') := fun ao h1 h2 => implCheckOf_n ao q q _ w h1 (HBY.out.take_drop p q) (by unfold maxLen; omega) h2
          have cb := chk_bd ((l.drop p).take q)
          generalize (l.drop p).take q = m at K2 e CK cb
          generalize hck : chk m = ck at e CK cb
          have bq := takeN_bd HBY.out ((p : Int) + q)
          obtain ⟨⟨sm, en⟩, hse⟩ : ∃ x, x = takeN l ((p : Int) + q) := ⟨_, rfl⟩
          rw [← hse] at CP e bq
          simp only at e bq
          have HE := Lib.hid e; have BQ := Lib.hid bq
          clear e hse bq hck hc
          go_wp2_with fail
          refine K2.out.mono ?_
          rintro e w' ⟨a2, rfl, hrd, hlen, hz, rfl⟩
          have CK2 := Lib.hid (CK.out a2 hrd hlen)
          have RD := Lib.hid hrd; have LEN := Lib.hid hlen; have HZ := Lib.hid hz
          clear hrd hlen hz
          go_wp2_with fail
          refine CP.out.mono ?_
          rintro e w' ⟨hh | hh, rfl⟩
          · obtain ⟨h1, rfl⟩ := hh
            simp only at h1
            have HE1 : Hid (r = none) := by
              show r = _
              rw [HE.out, if_neg (by omega)]
            clear h1
            go_wp2
            go_ret2
            exact framePost_no HE1.out
          · obtain ⟨h1, rfl⟩ := hh
            simp only at h1 ⊢
            clear h1
            by_cases hs : sm = ck
            · by_cases hen : en = l.length
              · have HE1 : Hid (r = some m) := by
                  show r = _
                  rw [HE.out, if_pos ⟨hen, hs⟩]
                have hsb : (sm == ck) = true := by simp [hs]
                have hnb : (en == (l.length : Int)) = true := by simp [hen]
                have hq := fun W : World => eqSeal sm en ck (l.length : Int) W
                clear hs hen
                go_wp2_with fail
                refine CK2.out.mono ?_
                rintro e w' ⟨rfl, rfl⟩
                go_wp2
                go_ret2
                exact framePost_yes HE1.out RD.out LEN.out HZ.out (two_alloc _ _ _)
              · have HE1 : Hid (r = none) := by
                  show r = _
                  rw [HE.out, if_neg (fun hh => hen hh.1)]
                have hsb : (sm == ck) = true := by simp [hs]
                have hnb : (en == (l.length : Int)) = false := by simp [hen]
                have hq := fun W : World => eqSeal sm en ck (l.length : Int) W
                clear hs hen
                go_wp2_with fail
                refine CK2.out.mono ?_
                rintro e w' ⟨rfl, rfl⟩
                go_wp2
                go_ret2
                exact framePost_noB HE1.out (two_alloc _ _ _)
            · have HE1 : Hid (r = none) := by
                show r = _
                rw [HE.out, if_neg (fun hh => hs hh.2)]
              have hsb : (sm == ck) = false := by simp [hs]
              have hq := fun W : World => eqSeal sm en ck (l.length : Int) W
              clear hs
              go_wp2_with fail
              refine CK2.out.mono ?_
              rintro e w' ⟨rfl, rfl⟩
              go_wp2
              go_ret2
              exact framePost_noB HE1.out (two_alloc _ _ _)
        · have hb4 : decide ((4000 : Int) < q) = true := by simp; omega
          have HE : Hid (r = none) := by
            show r = _
            rw [HR.out, if_pos (by omega)]
          clear hc
          go_wp2_with fail
          refine K2.out.mono ?_
          rintro e w' ⟨a2, rfl, _, _, _, rfl⟩
          go_wp2
          go_ret2
          exact framePost_no HE.out
      · have HE : Hid (r = none) := by
          show r = _
          rw [HR.out, if_pos (by omega)]
        go_wp2_with fail
        refine (cut_no _ _ _ _ _ _ HL.out (by omega) (by omega) (by omega)).mono ?_
        rintro e w' ⟨rfl, rfl⟩
        go_wp2
        go_ret2
        exact framePost_no HE.out
  · have HE : Hid (r = none) := by
      show r = none
      rw [HR0.out, if_neg (by rw [hx0, hx1]; simpa using hP)]
    have hs1 : (st.toList == [80, 83]) = false := by
      cases hc : (st.toList == [80, 83]) with
      | false => rfl
      | true => exact absurd (hps.1 (by simpa using hc)) hP
    clear hps hP hm2 hx0 hx1
    go_enter Tryz.func176, Tryz.ntmps176
    go_wp2_with fail
    refine K.out.mono ?_
    rintro e w' ⟨ao, rfl, hrd, hlen, _, rfl⟩
    have hcv := CV.out ao hrd
    clear hrd hlen
    go_wp2
    go_ret2
    exact framePost_no HE.out
end Go.Proofs.YtfpbhedophlnkaaGreatDoor
