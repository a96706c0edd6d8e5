/-
  Contract of spec.l04Join. For every join and every two slices of rows.
-/
import Derived.Test.YtanfllednlpbaaaGreatM34x
import Derived.BigQuiet
namespace Go.Proofs.YtanfllednlpbaaaGreat
open Go.RowKit
set_option linter.unusedSimpArgs false
set_option linter.unusedVariables false

theorem join_splitR {n : Nd} {l m : RowsL} {i : Nat} {a : List Int} (h : l[i]? = some a) : joinL n l m = joinL n (l.take i) m ++ joinRow n a m ++ joinL n (l.drop (i + 1)) m := by
  have hlt := (List.getElem?_eq_some_iff.1 h).1
  have e : l = l.take i ++ a :: l.drop (i + 1) := by
    have := List.drop_eq_getElem_cons hlt
    rw [(List.getElem?_eq_some_iff.1 h).2] at this
    rw [← this, List.take_append_drop]
  conv => lhs; rw [e]
  unfold joinL; simp
theorem joinRow_split {n : Nd} {a b : List Int} {m : RowsL} {k : Nat} (h : m[k]? = some b) (hb : meetB n a b = true) : joinRow n a m = joinRow n a (m.take k) ++ (a ++ b) :: joinRow n a (m.drop (k + 1)) := by
  have hlt := (List.getElem?_eq_some_iff.1 h).1
  have e : m = m.take k ++ b :: m.drop (k + 1) := by
    have := List.drop_eq_getElem_cons hlt
    rw [(List.getElem?_eq_some_iff.1 h).2] at this
    rw [← this, List.take_append_drop]
  conv => lhs; rw [e]
  unfold joinRow; simp [List.filter_append, List.filter_cons, hb]
/-- How many rows have come before the i-th of l meets the k-th of m. -/
def jAt (n : Nd) (l m : RowsL) (i k : Nat) : Nat := (joinL n (l.take i) m).length + (joinRow n (l.getD i []) (m.take k)).length
theorem jAt_zero (n : Nd) (l m : RowsL) : jAt n l m 0 0 = 0 := by simp [jAt, joinL, joinRow]
theorem jAt_get {n : Nd} {l m : RowsL} {i k : Nat} {a b : List Int} (ha : l[i]? = some a) (hk : m[k]? = some b) (hb : meetB n a b = true) : (joinL n l m)[jAt n l m i k]? = some (a ++ b) := by
  have hd : l.getD i [] = a := by rw [List.getD_eq_getElem?_getD, ha]; rfl
  rw [join_splitR ha, joinRow_split hk hb]
  unfold jAt
  rw [hd]
  simp [List.getElem?_append]
theorem jAt_yes {n : Nd} {l m : RowsL} {i k : Nat} {a b : List Int} (ha : l[i]? = some a) (hk : m[k]? = some b) (hb : meetB n a b = true) : jAt n l m i (k + 1) = jAt n l m i k + 1 := by
  have hd : l.getD i [] = a := by rw [List.getD_eq_getElem?_getD, ha]; rfl
  unfold jAt
  rw [hd, joinRow_snoc_y hk hb]
  simp; omega
theorem jAt_no {n : Nd} {l m : RowsL} {i k : Nat} {a b : List Int} (ha : l[i]? = some a) (hk : m[k]? = some b) (hb : meetB n a b = false) : jAt n l m i (k + 1) = jAt n l m i k := by
  have hd : l.getD i [] = a := by rw [List.getD_eq_getElem?_getD, ha]; rfl
  unfold jAt
  rw [hd, joinRow_snoc_n hk hb]
theorem jAt_row {n : Nd} {l m : RowsL} {i : Nat} {a : List Int} (ha : l[i]? = some a) : jAt n l m i m.length = jAt n l m (i + 1) 0 := by
  have hd : l.getD i [] = a := by rw [List.getD_eq_getElem?_getD, ha]; rfl
  unfold jAt
  rw [hd, List.take_length, join_snoc ha]
  simp [joinRow]
theorem jAt_end (n : Nd) (l m : RowsL) : jAt n l m l.length 0 = (joinL n l m).length := by
  unfold jAt; simp [joinRow]
theorem jAt_le {n : Nd} {l m : RowsL} {i k : Nat} {a : List Int} (ha : l[i]? = some a) (hk : k ≤ m.length) : jAt n l m i k ≤ (joinL n l m).length := by
  have hd : l.getD i [] = a := by rw [List.getD_eq_getElem?_getD, ha]; rfl
  unfold jAt
  rw [hd, join_splitR ha]
  have : (joinRow n a (m.take k)).length ≤ (joinRow n a m).length := by
    have e : joinRow n a m = joinRow n a (m.take k) ++ joinRow n a (m.drop k) := by
      unfold joinRow; rw [← List.map_append, ← List.filter_append, List.take_append_drop]
    rw [e]; simp
  simp; omega
set_option maxRecDepth 100000 in
set_option maxHeartbeats 12800000 in
theorem specJoin_any (z : Nat → Prop) (n : Nd) (na : Option Addr) (nc : Nat) (a : Option Addr) (c : Nat) (l : RowsL) (d : Option Addr) (dc : Nat) (m : RowsL) (w : World) (h : RdR w a l) (hm : RdR w d m) (hzw : ∀ k, z k → k < w.heap.size) (hl : l.length ≤ 1048576) (hml : m.length ≤ 1048576) (hL : (joinL n l m).length ≤ 1048576) (hcn : 0 ≤ n.col) (hnn : 0 ≤ n.num) (hfl : ∀ r ∈ l, n.col < (r.length : Int) ∧ r.length ≤ 4096) (hfm : ∀ r ∈ m, n.num < (r.length : Int) ∧ r.length ≤ 4096) :
    Calls Tryz.prog 82 #[.agg #[.int .i64 n.kind, .string n.name, .int .i64 n.col, .int .i64 n.op, .int .i64 n.num, .bool n.slot, .slice na n.cols.length nc], .slice a l.length c, .slice d m.length dc] w (GivesR z w (joinL n l m)) := by
  obtain ⟨k1, hk1⟩ : ∃ k : Nat, n.col = (k : Int) := ⟨_, (Int.toNat_of_nonneg hcn).symm⟩
  obtain ⟨k2, hk2⟩ : ∃ k : Nat, n.num = (k : Int) := ⟨_, (Int.toNat_of_nonneg hnn).symm⟩
  have H := Lib.hid h
  have HM := Lib.hid hm
  have HFL := Lib.hid hfl
  have HFM := Lib.hid hfm
  have HLL := Lib.hid hL
  have K1 := Lib.hid hk1
  have K2 := Lib.hid hk2
  have JZ := Lib.hid (jAt_zero n l m)
  have JE := Lib.hid (jAt_end n l m)
  have JR := Lib.hid (fun (i : Nat) (a : List Int) (h : l[i]? = some a) => jAt_row (n := n) (m := m) h)
  have JG := Lib.hid (fun (i k : Nat) (a b : List Int) (ha : l[i]? = some a) (hb : m[k]? = some b) (h : meetB n a b = true) => jAt_get ha hb h)
  have JY := Lib.hid (fun (i k : Nat) (a b : List Int) (ha : l[i]? = some a) (hb : m[k]? = some b) (h : meetB n a b = true) => jAt_yes ha hb h)
  have JN := Lib.hid (fun (i k : Nat) (a b : List Int) (ha : l[i]? = some a) (hb : m[k]? = some b) (h : meetB n a b = false) => jAt_no ha hb h)
  have JL := Lib.hid (fun (i k : Nat) (a : List Int) (ha : l[i]? = some a) (hk : k ≤ m.length) => jAt_le (n := n) ha hk)
  have MT := Lib.hid (fun (a b : List Int) => show meetB n a b = (!decide (cellV a k1 = -2000000) && decide (cellV a k1 = cellV b k2)) by unfold meetB; rw [hk1, hk2])
  generalize hJ : joinL n l m = L at HLL JE JG JL ⊢
  generalize hF : jAt n l m = F at JZ JE JR JG JY JN JL
  clear h hm hfl hfm hL hk1 hk2 hcn hnn hJ hF
  go_enter Tryz.func82, Tryz.ntmps82
  go_wp2_with fail
  obtain ⟨u, hu⟩ : ∃ u, w.alloc (.cells #[.int .i64 n.kind, .string n.name, .int .i64 n.col, .int .i64 n.op, .int .i64 n.num, .bool n.slot, .slice na n.cols.length nc] 39) = u := ⟨_, rfl⟩
  have bu : Below w.heap.size w u := by rw [← hu]; exact (Below.refl _ w).alloc (Nat.le_refl _) _
  have su : u.heap.size = w.heap.size + 1 := by rw [← hu]; simp
  have q2 : u.cell? ⟨w.heap.size, 2, none⟩ = some (.int .i64 n.col) := by rw [← hu]; simp
  have q4 : u.cell? ⟨w.heap.size, 4, none⟩ = some (.int .i64 n.num) := by rw [← hu]; simp
  rw [K1.out] at q2
  rw [K2.out] at q4
  have Q2 := Lib.hid q2
  have Q4 := Lib.hid q4
  have P0 : Hid (∃ xs A C, PartR (u.alloc (.cells #[] 34)) u.heap.size (w.heap.size + 1) 0 0 L 0 xs A C) := ⟨_, _, _, by rw [← su]; exact PartR.start u L⟩
  have B0 := Lib.hid ((Below.refl u.heap.size u).alloc (Nat.le_refl _) (.cells #[] 34))
  have BU := Lib.hid bu
  have HS := Lib.hid (show w.heap.size < u.heap.size by omega)
  try rw [hu]
  clear hu bu su q2 q4
  go_loopw [7, 8, 9, 10, 11, 12] (fun s i _ _ _ _ wr => ∃ (j o g cc : Nat), j ≤ l.length ∧ i = .int .i64 j ∧ o = F j 0 ∧ s = .slice (some ⟨g, 0, none⟩) o cc ∧ cc ≤ maxLen ∧ (∃ xs A C, PartR wr u.heap.size g cc o L o xs A C) ∧ Below u.heap.size u wr) (fun _ i _ _ _ _ _ => l.length - (intOf i).toNat)
  case atStart => exact ⟨0, 0, _, _, Nat.zero_le _, rfl, JZ.out.symm, rfl, Nat.zero_le _, P0.out, B0.out⟩
  case round =>
    clear P0 B0
    obtain ⟨j, o, g, cc, hj, rfl, ho, rfl, hcc, hp, hb⟩ := hrel
    have HO := Lib.hid ho
    have HP := Lib.hid hp
    have HB := Lib.hid hb
    have HCC := Lib.hid hcc
    clear ho hp hcc
    by_cases hlt : j < l.length
    · have hlz : (j : Int) < (l.length : Int) := by omega
      clear hb
      go_wp2_with fail
      go_loopw [7, 9, 10, 11, 12] (fun s i _ _ _ wm => ∃ (k o g cc : Nat), k ≤ m.length ∧ i = .int .i64 k ∧ o = F j k ∧ s = .slice (some ⟨g, 0, none⟩) o cc ∧ cc ≤ maxLen ∧ (∃ xs A C, PartR wm u.heap.size g cc o L o xs A C) ∧ Below u.heap.size u wm) (fun _ i _ _ _ _ => m.length - (intOf i).toNat)
      case atStart => exact ⟨0, _, _, _, Nat.zero_le _, rfl, HO.out, rfl, HCC.out, HP.out, HB.out⟩
      case round =>
        clear HO HP HB HCC
        obtain ⟨k, o, g, cc, hk, rfl, ho, rfl, hcc, ⟨xs, A, C, hp⟩, hb⟩ := hrel
        have HO := Lib.hid ho
        have HP := Lib.hid hp
        have HB := Lib.hid hb
        have HCC := Lib.hid hcc
        have BW := Lib.hid (BU.out.trans (hb.mono BU.out.size))
        clear ho hcc
        obtain ⟨bl, ofl, ra, xla, xlc, rfl, hna, ⟨c0, rda, _, _⟩⟩ := (H.out.below BW.out).at_ hlt
        have HNA := Lib.hid hna
        by_cases hkt : k < m.length
        · have hkz : (k : Int) < (m.length : Int) := by omega
          obtain ⟨br, ofr, rb, xra, xrc, rfl, hnb, ⟨c1, rdb, _, _⟩⟩ := (HM.out.below BW.out).at_ hkt
          have HNB := Lib.hid hnb
          obtain ⟨fa1, fa2⟩ := HFL.out ra (List.mem_of_getElem? hna)
          obtain ⟨fb1, fb2⟩ := HFM.out rb (List.mem_of_getElem? hnb)
          rw [K1.out] at fa1
          rw [K2.out] at fb1
          rcases rda with h0 | ⟨bx, ox, rfl, hxa⟩
          · rw [h0] at fa1; simp at fa1; omega
          rcases rdb with h0 | ⟨by', oy, rfl, hxb⟩
          · rw [h0] at fb1; simp at fb1; omega
          have z1 := hxa k1 (by omega)
          have z2 := hxb k2 (by omega)
          have p2 := (hb.cell (p := ⟨w.heap.size, 2, none⟩) HS.out).trans Q2.out
          have p4 := (hb.cell (p := ⟨w.heap.size, 4, none⟩) HS.out).trans Q4.out
          have OL : Hid (o ≤ 1048576) := by rw [HO.out]; exact Nat.le_trans (JL.out j k ra hna hk) HLL.out
          have XL : Hid (xs.length = o) := by have := hp.own.1; show _ = _; omega
          have CVA : cellV ra k1 = ra.getD k1 0 := by unfold cellV; rw [Int.toNat_natCast, List.getD_eq_getElem?_getD]
          have CVB : cellV rb k2 = rb.getD k2 0 := by unfold cellV; rw [Int.toNat_natCast, List.getD_eq_getElem?_getD]
          generalize hva : ra.getD k1 0 = va at z1 CVA
          generalize hvb : rb.getD k2 0 = vb at z2 CVB
          have ME := Lib.hid (MT.out ra rb)
          rw [CVA, CVB] at ME
          have RA := Lib.hid (show Rd wr .i64 (some ⟨bx, ox, none⟩) ra from .inr ⟨bx, ox, rfl, hxa⟩)
          have RB := Lib.hid (show Rd wr .i64 (some ⟨by', oy, none⟩) rb from .inr ⟨by', oy, rfl, hxb⟩)
          generalize hla : ra.length = la at c0 fa1 fa2
          generalize hlb : rb.length = lb at c1 fb1 fb2
          have LA := Lib.hid hla
          have LB := Lib.hid hlb
          have hsz := hb.size
          have FX := Lib.hid (show ∀ W, Below wr.heap.size wr W → W.cell? ⟨bl, ofl + j, none⟩ = some (.slice (some ⟨bx, ox, none⟩) la xlc) ∧ W.cell? ⟨br, ofr + k, none⟩ = some (.slice (some ⟨by', oy, none⟩) lb xrc) ∧ W.cell? ⟨by', oy + k2, none⟩ = some (.int .i64 vb) ∧ W.cell? ⟨w.heap.size, 4, none⟩ = some (.int .i64 k2) from fun W b =>
            ⟨(b.cell (p := ⟨bl, ofl + j, none⟩) (World.block_lt_of_cell? wr _ c0)).trans c0, (b.cell (p := ⟨br, ofr + k, none⟩) (World.block_lt_of_cell? wr _ c1)).trans c1, (b.cell (p := ⟨by', oy + k2, none⟩) (World.block_lt_of_cell? wr _ z2)).trans z2, (b.cell (p := ⟨w.heap.size, 4, none⟩) (World.block_lt_of_cell? wr _ p4)).trans p4⟩)
          have PD := Lib.hid (show ∀ W, Below wr.heap.size wr W → PartR W u.heap.size g cc o L o xs A C ∧ Below u.heap.size u W from fun W b => ⟨hp.below b, hb.trans (b.mono hb.size)⟩)
          clear hxa hxb hna hnb CVA CVB hva hvb hla hlb hp hb HP HB
          by_cases hN : va = -2000000
          · subst hN
            have NX := Lib.hid (JN.out j k ra rb HNA.out HNB.out (by rw [ME.out]; simp))
            clear ME
            go_wp2_with fail
            go_quiet (fail)
            have B5 := Lib.hid (below_drewN (Below.refl wr.heap.size wr) nq)
            clear c0 c1 z1 z2 p2 p4
            generalize wr.drewN nq = w5 at B5 ⊢
            go_wp2_with fail
            go_quiet (fail)
            have B6 := Lib.hid (B5.out.trans ((below_drewN (Below.refl w5.heap.size w5) nq).mono B5.out.size))
            generalize w5.drewN nq = w6 at B6 ⊢
            go_wp2_with fail
            go_roundw
            case rel => exact ⟨k + 1, o, g, cc, by omega, by go_num, by rw [NX.out]; exact HO.out, rfl, HCC.out, ⟨_, _, _, (PD.out _ B6.out).1⟩, (PD.out _ B6.out).2⟩
            case measure => simp [intOf]; omega
          · have hN' : decide (va = -2000000) = false := by simp [hN]
            by_cases hE : va = vb
            · subst hE
              have NX := Lib.hid (JY.out j k ra rb HNA.out HNB.out (by rw [ME.out]; simp [hN]))
              have NG := Lib.hid (JG.out j k ra rb HNA.out HNB.out (by rw [ME.out]; simp [hN]))
              have CL := Lib.hid (show ∀ W, Below wr.heap.size wr W → Calls Tryz.prog 85 #[.slice (some ⟨bx, ox, none⟩) la xlc] W fun e w' => ∃ ao c, e = .returned (.slice ao la c) ∧ Own w' W.heap.size 3 .i64 ao c ra ∧ Below W.heap.size W w' from fun W b => by
                have := l01CopyL_any (some ⟨bx, ox, none⟩) xlc ra W (RA.out.below b) (by rw [LA.out]; omega)
                rw [LA.out] at this
                refine this.mono ?_
                rintro e w' ⟨ao, c, rfl, h1, h2⟩
                exact ⟨ao, c, by rw [LA.out], h1, h2⟩)
              clear ME
              go_wp2_with fail
              go_quiet (fail)
              have B5 := Lib.hid (below_drewN (Below.refl wr.heap.size wr) nq)
              obtain ⟨c0', c1', z2', p4'⟩ := FX.out _ B5.out
              clear c0 c1 z1 z2 p2 p4
              generalize wr.drewN nq = w5 at B5 c0' c1' z2' p4' ⊢
              have hNN : decide (va ≠ va) = false := by simp
              go_wp2_with fail
              go_quiet (fail)
              have B6 := Lib.hid (B5.out.trans ((below_drewN (Below.refl w5.heap.size w5) nq).mono B5.out.size))
              obtain ⟨c0, c1, _, _⟩ := FX.out _ B6.out
              clear c0' c1' z2' p4'
              generalize w5.drewN nq = w6 at B6 c0 c1 ⊢
              go_wp2_with fail
              refine (CL.out w6 B6.out).mono ?_
              rintro e w7 ⟨ra7, rc7, rfl, h1, h2⟩
              have O0 := Lib.hid h1
              have B7 := Lib.hid h2
              have C16 := Lib.hid c1
              have c17 := (h2.cell (p := ⟨br, ofr + k, none⟩) (World.block_lt_of_cell? w6 _ c1)).trans c1
              have RB6 := Lib.hid (RB.out.below B6.out)
              have US := Lib.hid (show u.heap.size ≤ w6.heap.size from Nat.le_trans hsz B6.out.size)
              have P6 := Lib.hid (PD.out _ B6.out).1
              have D6 := Lib.hid (PD.out _ B6.out).2
              clear c0 c1 h1 h2
              have TA : Hid (∀ q, q ≤ lb → (ra ++ rb.take q).length = la + q) := by
                show ∀ q, q ≤ lb → _
                intro q hq
                rw [List.length_append, LA.out, List.length_take, LB.out]; omega
              have T0 : Hid (Own w7 w6.heap.size 3 .i64 ra7 rc7 (ra ++ rb.take 0)) := by
                show Own _ _ _ _ _ _ _
                rw [List.take_zero, List.append_nil]; exact O0.out
              go_wp2_with fail
              go_loopw [11, 12] (fun s i w2 => ∃ (q r1 : Nat) (rr : Option Addr) (rc : Nat), q ≤ lb ∧ i = .int .i64 q ∧ r1 = la + q ∧ s = .slice rr r1 rc ∧ Own w2 w6.heap.size 3 .i64 rr rc (ra ++ rb.take q) ∧ Below w6.heap.size w6 w2) (fun _ i _ => lb - (intOf i).toNat)
              case atStart => exact ⟨0, la, _, _, Nat.zero_le _, rfl, rfl, rfl, T0.out, B7.out⟩
              case round =>
                clear O0 B7 T0 PD FX RA RB CL c17
                obtain ⟨q, r1, rr, rc, hq, rfl, hr1, rfl, ho2, hb2⟩ := hrel
                have HO2 := Lib.hid ho2
                have HB2 := Lib.hid hb2
                have HR1 := Lib.hid (hr1.trans (TA.out q hq).symm)
                have z1 := (hb2.cell (p := ⟨br, ofr + k, none⟩) (World.block_lt_of_cell? w6 _ C16.out)).trans C16.out
                clear ho2
                by_cases hqt : q < lb
                · have hqz : (q : Int) < (lb : Int) := by omega
                  obtain ⟨z, hcz, ht⟩ : ∃ z, _ ∧ _ := by
                    rcases RB6.out.below hb2 with h0 | ⟨b3, o3, e3, hxc⟩
                    · have := LB.out; rw [h0] at this; simp at this; omega
                    · cases e3
                      obtain ⟨z, _, _, hcz, ht⟩ := Rd.at_ hxc (show q < rb.length by rw [LB.out]; exact hqt)
                      exact ⟨z, hcz, ht⟩
                  have HT := Lib.hid ht
                  have HR2 := Lib.hid (show r1 ≤ 8192 by omega)
                  have HR3 := Lib.hid (show (ra ++ rb.take q).length + 1 = la + (q + 1) by rw [TA.out q hq]; omega)
                  clear hr1 hb2 ht
                  go_wp2_with (at_builtin; refine wpList_appendI _ rfl (.tmp 62) (.tmp 70) 34 rfl w6.heap.size 3 Tryz.underlying34 Tryz.infoInt rr rc r1 (ra ++ rb.take q) rfl HR1.out (HO2.out.alloc _) _ 1 z rfl (cell_one _ _ _) (by have := HR1.out; have := HR2.out; omega) (by have := HB2.out.size; simp; omega) ?_; intro ao2 c2 w8 o2 g2; have b2 := below_app HB2.out HO2.out g2; have O2 := Lib.hid o2; have B2 := Lib.hid b2; clear o2 g2 b2)
                  go_roundw
                  case rel => exact ⟨q + 1, _, ao2, c2, by omega, by go_num, HR3.out, by simp, by rw [HT.out, ← List.append_assoc]; exact O2.out, B2.out⟩
                  case measure => simp [intOf]; omega
                · obtain rfl : q = lb := by omega
                  have KT : rb.take q = rb := List.take_of_length_le (by rw [LB.out]; exact Nat.le_refl _)
                  have HO3 : Hid (Own wr w6.heap.size 3 .i64 rr rc (ra ++ rb)) := by have := HO2.out; rw [KT] at this; exact this
                  have HR2 : Hid ((ra ++ rb).length = r1) := by have := HR1.out; rw [KT] at this; exact this.symm
                  have OV : Hid (OwnV wr u.heap.size 34 (some ⟨g, 0, none⟩) cc xs) := by
                    have := (P6.out.below hb2).own
                    show World.ownsRow _ _ _ _ _ _ _
                    rw [XL.out]
                    exact this
                  have KA : Hid (L[o]? = some (ra ++ rb)) := by rw [HO.out]; exact NG
                  clear hr1 hb2 KT HO2 HR1
                  go_wp2_with (at_builtin; refine wpList_appendV _ rfl (.tmp 72) (.tmp 74) 29 rfl u.heap.size 34 (.slice none 0 0) 24 Tryz.underlying29 infoRw rfl (some ⟨g, 0, none⟩) cc o xs rfl XL.out.symm (OV.out.alloc _) wr.heap.size 1 (.slice rr r1 rc) rfl (cell_one _ _ _) rfl (by have := XL.out; have := OL.out; unfold maxLen; omega) (by have := XL.out; have := OL.out; omega) (by have := US.out; have := HB2.out.size; simp; omega) ?_; intro ao3 c3 w8 o3 g3 k3; obtain ⟨g', rfl, hp'⟩ := keep_push P6.out KA.out (HB2.out.trans ((Below.refl _ wr).alloc HB2.out.size _)) (HO3.out.alloc _) HR2.out US.out o3 g3 k3; have P3 := Lib.hid hp'; have M3 := Lib.hid o3.cap_le; have B3 := Lib.hid (below_appV (o := .cells #[.slice rr r1 rc] 34) (below_step D6.out (Nat.le_refl _) HB2.out) (Nat.le_trans US.out HB2.out.size) OV.out g3); clear o3 g3 k3 hp')
                  rw [XL.out]
                  go_roundw
                  case rel => exact ⟨k + 1, o + 1, g', c3, by omega, by go_num, by rw [NX.out, HO.out], rfl, M3.out, ⟨_, _, _, P3.out⟩, B3.out⟩
                  case measure => simp [intOf]; omega
            · have NX := Lib.hid (JN.out j k ra rb HNA.out HNB.out (by rw [ME.out]; simp [hE]))
              have hE' : decide (va = vb) = false := by simp [hE]
              clear ME
              go_wp2_with fail
              go_quiet (fail)
              have B5 := Lib.hid (below_drewN (Below.refl wr.heap.size wr) nq)
              obtain ⟨c0', c1', z2', p4'⟩ := FX.out _ B5.out
              clear c0 c1 z1 z2 p2 p4
              generalize wr.drewN nq = w5 at B5 c0' c1' z2' p4' ⊢
              go_wp2_with fail
              go_quiet (fail)
              have B6 := Lib.hid (B5.out.trans ((below_drewN (Below.refl w5.heap.size w5) nq).mono B5.out.size))
              clear c0' c1' z2' p4'
              generalize w5.drewN nq = w6 at B6 ⊢
              have hE2 : (va != vb) = true := by simp [hE]
              have hN2 : (va == -2000000) = false := by simp [hN]
              rw [hE2, hN2]
              clear hE2 hN2
              go_wp2_with fail
              go_roundw
              case rel => exact ⟨k + 1, o, g, cc, by omega, by go_num, by rw [NX.out]; exact HO.out, rfl, HCC.out, ⟨_, _, _, (PD.out _ B6.out).1⟩, (PD.out _ B6.out).2⟩
              case measure => simp [intOf]; omega
        · obtain rfl : k = m.length := by omega
          clear hp hb
          have NX := Lib.hid (JR.out j ra HNA.out)
          go_wp2_with fail
          go_roundw
          case rel => exact ⟨j + 1, o, g, cc, by omega, by go_num, by rw [← NX.out]; exact HO.out, rfl, HCC.out, ⟨_, _, _, HP.out⟩, HB.out⟩
          case measure => simp [intOf]; omega
    · obtain rfl : j = l.length := by omega
      clear hb
      go_wp2_with fail
      go_ret
      have e : o = L.length := by rw [HO.out]; exact JE.out
      obtain ⟨xs, A, C, hp⟩ := HP.out
      subst e
      refine ⟨some ⟨g, 0, none⟩, cc, rfl, hp.rdZ (fun k hk => Nat.lt_trans (hzw k hk) HS.out), BU.out.trans (HB.out.mono BU.out.size), ?_⟩
      rcases hp.own.2 with ⟨e, _⟩ | ⟨q, cap, cur, e, _, _, h1, _⟩
      · cases e
      · simp only [Value.slice.injEq] at e; rw [e.2.2]; exact h1
end Go.Proofs.YtanfllednlpbaaaGreat

