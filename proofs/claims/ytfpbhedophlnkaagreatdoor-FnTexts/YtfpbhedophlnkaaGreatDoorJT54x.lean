/-
  Contract of impl.PlanLines. For every slice of nodes. Contract of spec.PlanLines. For every slice of nodes. Contract of eqNodeS. For every two slices of nodes.
-/
import Derived.Test.YtfpbhedophlnkaaGreatDoorJT36x
import Derived.Test.YtfpbhedophlnkaaGreatDoorJT46x
import Derived.Test.YtfpbhedophlnkaaGreatDoorGrowQ
import Derived.Test.YtfpbhedophlnkaaGreatDoorShelf8
import Derived.Deep.RegionWith
import Derived.Deep.DeepCutAuto
import Derived.Test.YtfpbhedophlnkaaGreatDoorJT32x
import Derived.Test.YtfpbhedophlnkaaGreatDoorJT31x
import Derived.Test.YtfpbhedophlnkaaGreatDoorJT26x
namespace Go.Proofs.YtfpbhedophlnkaaGreatDoor
open Go.RowKit Go.Shelf
set_option linter.unusedSimpArgs false
set_option linter.unusedVariables false

theorem extra105 : Builder.Extra Tryz.prog Tryz.lays105_ren where
  sizeBuilder := by kernel_rfl
  liesBuilder := by kernel_rfl
  t5 := Tryz.underlying5
  a5 := Tryz.isAgg5
  z5 := Tryz.sizeOf5
  v5 := Tryz.zeroValue5
  infoByte := by kernel_rfl
  cellsByte := by kernel_rfl
  sizeByte := by kernel_rfl
  neB5 := by decide
theorem padL_rep : ∀ d : Nat, Lib.repeatL [32, 32] d = padL d
  | 0 => rfl
  | d + 1 => by
    have key : ∀ k : Nat, [32, 32] ++ padL k = padL k ++ [32, 32] := fun k => by
      induction k with
      | zero => rfl
      | succ k ih =>
        show [32, 32] ++ (padL k ++ [32, 32]) = (padL k ++ [32, 32]) ++ [32, 32]
        rw [← List.append_assoc, ih]
    show [32, 32] ++ Lib.repeatL [32, 32] d = padL d ++ [32, 32]
    rw [padL_rep d, key]
def padO (d : Nat) : ByteArray := ⟨(padL d).toArray⟩
theorem padO_size (d : Nat) : (padO d).size = 2 * d := by
  have h : (padO d).size = (padL d).length := by show (padL d).toArray.size = _; simp
  rw [h, padL_len]
theorem repeat_any (d : Nat) (w : World) (hd : d ≤ 1000) :
    Calls Tryz.prog 206 #[.string ⟨#[32, 32]⟩, .int .i64 d] w fun e w' => e = .returned (.string (padO d)) ∧ Below w.heap.size w w' := by
  have h := Any.strings_Repeat Tryz.lays105 extra105 ⟨#[32, 32]⟩ d w (by omega) (by show 2 * d ≤ _; omega)
  have e : Lib.repeatL (ByteArray.mk #[32, 32]).data.toList d = padL d := padL_rep d
  rw [e] at h
  exact h
theorem bx2 {x : ByteArray} {l : List UInt8} (h : x.data.toList = l) : x = ⟨l.toArray⟩ := by
  obtain ⟨⟨m⟩⟩ := x
  simp only at h; subst h; rfl
theorem lin_size (d : Nat) (T : Tr) : (⟨(linT d T).toArray⟩ : ByteArray).size = (linT d T).length := by show (linT d T).toArray.size = _; simp
/-- A node's line out of its three parts. -/
theorem line_parts (d : Nat) {n : Nd} (h : nodeB n = true) : (padO d ++ ndO n ++ ⟨#[10]⟩).data.toList = lineT d n := by
  rw [ByteArray.data_append, ByteArray.data_append, Array.toList_append, Array.toList_append, ndO_list h]; rfl

set_option maxRecDepth 100000 in
set_option maxHeartbeats 4000000 in
theorem lines_any (w0 : World) : ∀ (T : Tr) (w : World) (lo hi b d : Nat), TrQ w0 w lo hi T b → hi ≤ w.heap.size → Below w0.heap.size w0 w → GTab w → T.nodes → d + T.depth ≤ 1000 → (linT d T).length ≤ 1000000 →
    Calls Tryz.prog 130 #[.pointer (some ⟨b, 0, none⟩), .int .i64 d] w fun e w' => e = .returned (.string ⟨(linT d T).toArray⟩) ∧ Below w.heap.size w w' := by
  intro T
  induction T with
  | t0 n pl en =>
    intro w lo hi b d h hh hb0 hg hn hd hlen
    obtain ⟨_, hb2, a, c, c0, c1, c2, c3, q⟩ := h
    have hnb : nodeB n = true := hn.1
    obtain ⟨t, v, hkv⟩ := kindV_iface hnb a c
    rw [hkv] at c0
    have RQ := Lib.hid (q.1.below hb0)
    have KT := Lib.hid (show ∀ W, Rd W .i64 a n.cols → GTab W → Calls Tryz.prog 202 #[.iface t v] W fun e w' => e = .returned (.string (ndO n)) ∧ Below W.heap.size W w' from fun W h1 h2 => hkv ▸ kindText_any n hnb a c W h1 h2)
    have RP := Lib.hid (fun W => repeat_any d W (by simp [Tr.depth] at hd; omega))
    have E : Hid ((⟨(linT d (.t0 n pl en)).toArray⟩ : ByteArray) = padO d ++ ndO n ++ ⟨#[10]⟩) := (bx2 (line_parts d hnb)).symm
    have hbw : b < w.heap.size := by omega
    have hps := padO_size d
    have hns := ndO_size n
    have hd0 : d ≤ 1000 := by omega
    have G := Lib.hid hg
    clear hkv hn hnb q hb0 hg hlen hd
    generalize (⟨(linT d (.t0 n pl en)).toArray⟩ : ByteArray) = res at E ⊢
    generalize padO d = P at RP hps E
    generalize ndO n = R at KT hns E
    have e1 : ¬ (9223372036854775807 < P.size + R.size) := by omega
    have e2 : ¬ (9223372036854775807 < P.size + R.size + 1) := by omega
    go_enter Tryz.func130, Tryz.ntmps130
    have D0 := Lib.hid (Below.refl w.heap.size w).drew
    have KP : Hid (∀ w4, Below w.heap.size w w4 → w4.cell? ⟨b, 0, none⟩ = some (.iface t v)) := fun w4 b4 => (b4.cell (p := ⟨b, 0, none⟩) hbw).trans c0
    go_upto_region 3 with fail
    go_cut [5] (fun v5 wx => v5 = .string (P ++ R ++ ⟨#[10]⟩) ∧ Below w.heap.size w wx)
    case first =>
      have t0 := KP.out _ D0.out
      go_region_with (first
        | (go_at_call 206; have := D3; refine (RP.out _).mono ?_; rintro e w4 ⟨rfl, b4⟩; have D4 := Lib.hid (below_step D3.out (Nat.le_refl _) b4); have t4 := KP.out _ D4.out; clear b4)
        | (go_at_call 206; refine (RP.out _).mono ?_; rintro e w3 ⟨rfl, b3⟩; have D3 := Lib.hid (below_step D0.out (Nat.le_refl _) b3); have t3 := KP.out _ D3.out; clear b3)
        | (go_at_call 202; have := D3; refine (KT.out _ (RQ.out.below D3.out) (gtab_below G.out D3.out)).mono ?_; rintro e w4 ⟨rfl, b4⟩; have D4 := Lib.hid (below_step D3.out (Nat.le_refl _) b4); have t4 := KP.out _ D4.out; clear b4)
        | (go_at_call 202; refine (KT.out _ (RQ.out.below D0.out) (gtab_below G.out D0.out)).mono ?_; rintro e w3 ⟨rfl, b3⟩; have D3 := Lib.hid (below_step D0.out (Nat.le_refl _) b3); have t3 := KP.out _ D3.out; clear b3))
      all_goals
        go_wp2_with fail
        go_meet
        exact ⟨rfl, D4.out⟩
    case rest =>
    obtain ⟨rfl, b2⟩ := hcut
    have B2 := Lib.hid b2
    have hc2 := fun o => b2.cell (p := ⟨b, o, none⟩) hbw
    clear b2
    go_wp2_with fail
    refine wp_loop_rounds 1 ?_; rw [rounds_succ]
    go_wp2_with fail
    go_ret
    exact ⟨ret_strW E.out.symm, B2.out⟩
  | t1 n pl en c ih =>
    intro w lo hi b d h hh hb0 hg hn hd hlen
    obtain ⟨g, cap, bc, ⟨_, hb2, a, cc, c0, c1, c2, c3, q⟩, hgl, g0, tc⟩ := h
    have hnb : nodeB n = true := hn.1.1
    obtain ⟨t, v, hkv⟩ := kindV_iface hnb a cc
    rw [hkv] at c0
    have RQ := Lib.hid (q.1.below hb0)
    have KT := Lib.hid (show ∀ W, Rd W .i64 a n.cols → GTab W → Calls Tryz.prog 202 #[.iface t v] W fun e w' => e = .returned (.string (ndO n)) ∧ Below W.heap.size W w' from fun W h1 h2 => hkv ▸ kindText_any n hnb a cc W h1 h2)
    have RP := Lib.hid (fun W => repeat_any d W (by simp [Tr.depth] at hd; omega))
    have e0 : linT d (.t1 n pl en c) = lineT d n ++ linT (d + 1) c := rfl
    have hl1 : (linT (d + 1) c).length ≤ 1000000 := by rw [e0, List.length_append] at hlen; omega
    have E : Hid ((⟨(linT d (.t1 n pl en c)).toArray⟩ : ByteArray) = padO d ++ ndO n ++ ⟨#[10]⟩ ++ ⟨(linT (d + 1) c).toArray⟩) := (bx2 (by rw [ByteArray.data_append, Array.toList_append, line_parts d hnb, e0])).symm
    have hcs := lin_size (d + 1) c
    have IH := Lib.hid (show ∀ W, TrQ w0 W lo hi c bc → hi ≤ W.heap.size → Below w0.heap.size w0 W → GTab W → Calls Tryz.prog 130 #[.pointer (some ⟨bc, 0, none⟩), .int .i64 ((d : Int) + 1)] W fun e w' => e = .returned (.string ⟨(linT (d + 1) c).toArray⟩) ∧ Below W.heap.size W w' from fun W h1 h2 h3 h4 => ih W lo hi bc (d + 1) h1 h2 h3 h4 hn.2 (by simp only [Tr.depth] at hd; omega) hl1)
    have hbw : b < w.heap.size := by omega
    have hgw : g < w.heap.size := by omega
    have hps := padO_size d
    have hns := ndO_size n
    have hd0 : d ≤ 1000 := by omega
    rw [← hcs] at hl1
    have TC := Lib.hid tc; have B00 := Lib.hid hb0
    have G := Lib.hid hg
    clear ih tc hkv hn hnb q hb0 hg hlen hd e0 hcs
    generalize (⟨(linT d (.t1 n pl en c)).toArray⟩ : ByteArray) = res at E ⊢
    generalize (⟨(linT (d + 1) c).toArray⟩ : ByteArray) = S at IH E hl1
    generalize padO d = P at RP hps E
    generalize ndO n = R at KT hns E
    have e1 : ¬ (9223372036854775807 < P.size + R.size) := by omega
    have e2 : ¬ (9223372036854775807 < P.size + R.size + 1) := by omega
    have e3 : ¬ (9223372036854775807 < P.size + R.size + 1 + S.size) := by omega
    go_enter Tryz.func130, Tryz.ntmps130
    have D0 := Lib.hid (Below.refl w.heap.size w).drew
    have KP : Hid (∀ w4, Below w.heap.size w w4 → w4.cell? ⟨b, 0, none⟩ = some (.iface t v)) := fun w4 b4 => (b4.cell (p := ⟨b, 0, none⟩) hbw).trans c0
    go_upto_region 3 with fail
    go_cut [5] (fun v5 wx => v5 = .string (P ++ R ++ ⟨#[10]⟩) ∧ Below w.heap.size w wx)
    case first =>
      have t0 := KP.out _ D0.out
      go_region_with (first
        | (go_at_call 206; have := D3; refine (RP.out _).mono ?_; rintro e w4 ⟨rfl, b4⟩; have D4 := Lib.hid (below_step D3.out (Nat.le_refl _) b4); have t4 := KP.out _ D4.out; clear b4)
        | (go_at_call 206; refine (RP.out _).mono ?_; rintro e w3 ⟨rfl, b3⟩; have D3 := Lib.hid (below_step D0.out (Nat.le_refl _) b3); have t3 := KP.out _ D3.out; clear b3)
        | (go_at_call 202; have := D3; refine (KT.out _ (RQ.out.below D3.out) (gtab_below G.out D3.out)).mono ?_; rintro e w4 ⟨rfl, b4⟩; have D4 := Lib.hid (below_step D3.out (Nat.le_refl _) b4); have t4 := KP.out _ D4.out; clear b4)
        | (go_at_call 202; refine (KT.out _ (RQ.out.below D0.out) (gtab_below G.out D0.out)).mono ?_; rintro e w3 ⟨rfl, b3⟩; have D3 := Lib.hid (below_step D0.out (Nat.le_refl _) b3); have t3 := KP.out _ D3.out; clear b3))
      all_goals
        go_wp2_with fail
        go_meet
        exact ⟨rfl, D4.out⟩
    case rest =>
    obtain ⟨rfl, b2⟩ := hcut
    have B2 := Lib.hid b2
    have hc2 := fun o => b2.cell (p := ⟨b, o, none⟩) hbw
    have hd2 := fun o => b2.cell (p := ⟨g, o, none⟩) hgw
    clear b2
    go_wp2_with fail
    refine wp_loop_rounds 2 ?_; rw [rounds_succ]
    go_wp2_with fail
    refine (IH.out wc (TrQ.below TC.out hh B2.out) (Nat.le_trans hh B2.out.size) (below_step B00.out (Nat.le_refl _) B2.out) (gtab_below G.out B2.out)).mono ?_
    rintro e w3 ⟨rfl, b3⟩
    have B3 := Lib.hid (below_step B2.out (Nat.le_refl _) b3)
    have hc3 := fun o => B3.out.cell (p := ⟨b, o, none⟩) hbw
    clear b3
    go_wp2_with fail
    rw [rounds_succ]
    go_wp2_with fail
    go_ret
    exact ⟨ret_strW E.out.symm, B3.out⟩
  | t2 n pl en c d2 ihc ihd =>
    intro w lo hi b d h hh hb0 hg hn hd hlen
    obtain ⟨g, cap, bc, bd, ⟨_, hb2, a, cc, c0, c1, c2, c3, q⟩, hgl, g0, g1, tc, td⟩ := h
    have hnb : nodeB n = true := hn.1.1
    obtain ⟨t, v, hkv⟩ := kindV_iface hnb a cc
    rw [hkv] at c0
    have RQ := Lib.hid (q.1.below hb0)
    have KT := Lib.hid (show ∀ W, Rd W .i64 a n.cols → GTab W → Calls Tryz.prog 202 #[.iface t v] W fun e w' => e = .returned (.string (ndO n)) ∧ Below W.heap.size W w' from fun W h1 h2 => hkv ▸ kindText_any n hnb a cc W h1 h2)
    have RP := Lib.hid (fun W => repeat_any d W (by simp [Tr.depth] at hd; omega))
    have e0 : linT d (.t2 n pl en c d2) = lineT d n ++ linT (d + 1) c ++ linT (d + 1) d2 := rfl
    have hl1 : (linT (d + 1) c).length ≤ 1000000 := by rw [e0, List.length_append, List.length_append] at hlen; omega
    have hl2 : (linT (d + 1) d2).length ≤ 1000000 := by rw [e0, List.length_append, List.length_append] at hlen; omega
    have E : Hid ((⟨(linT d (.t2 n pl en c d2)).toArray⟩ : ByteArray) = padO d ++ ndO n ++ ⟨#[10]⟩ ++ ⟨(linT (d + 1) c).toArray⟩ ++ ⟨(linT (d + 1) d2).toArray⟩) := (bx2 (by rw [ByteArray.data_append, Array.toList_append, ByteArray.data_append, Array.toList_append, line_parts d hnb, e0])).symm
    have hcs := lin_size (d + 1) c
    have hds := lin_size (d + 1) d2
    have IH := Lib.hid (show ∀ W, TrQ w0 W lo hi c bc → hi ≤ W.heap.size → Below w0.heap.size w0 W → GTab W → Calls Tryz.prog 130 #[.pointer (some ⟨bc, 0, none⟩), .int .i64 ((d : Int) + 1)] W fun e w' => e = .returned (.string ⟨(linT (d + 1) c).toArray⟩) ∧ Below W.heap.size W w' from fun W h1 h2 h3 h4 => ihc W lo hi bc (d + 1) h1 h2 h3 h4 hn.2.1 (by simp only [Tr.depth] at hd; omega) hl1)
    have IJ := Lib.hid (show ∀ W, TrQ w0 W lo hi d2 bd → hi ≤ W.heap.size → Below w0.heap.size w0 W → GTab W → Calls Tryz.prog 130 #[.pointer (some ⟨bd, 0, none⟩), .int .i64 ((d : Int) + 1)] W fun e w' => e = .returned (.string ⟨(linT (d + 1) d2).toArray⟩) ∧ Below W.heap.size W w' from fun W h1 h2 h3 h4 => ihd W lo hi bd (d + 1) h1 h2 h3 h4 hn.2.2 (by simp only [Tr.depth] at hd; omega) hl2)
    have hbw : b < w.heap.size := by omega
    have hgw : g < w.heap.size := by omega
    have hps := padO_size d
    have hns := ndO_size n
    have hd0 : d ≤ 1000 := by omega
    rw [← hcs] at hl1
    rw [← hds] at hl2
    have TC := Lib.hid tc; have TD := Lib.hid td; have B00 := Lib.hid hb0
    have G := Lib.hid hg
    clear ihc ihd tc td hkv hn hnb q hb0 hg hlen hd e0 hcs hds
    generalize (⟨(linT d (.t2 n pl en c d2)).toArray⟩ : ByteArray) = res at E ⊢
    generalize (⟨(linT (d + 1) c).toArray⟩ : ByteArray) = S at IH E hl1
    generalize (⟨(linT (d + 1) d2).toArray⟩ : ByteArray) = U at IJ E hl2
    generalize padO d = P at RP hps E
    generalize ndO n = R at KT hns E
    have e1 : ¬ (9223372036854775807 < P.size + R.size) := by omega
    have e2 : ¬ (9223372036854775807 < P.size + R.size + 1) := by omega
    have e3 : ¬ (9223372036854775807 < P.size + R.size + 1 + S.size) := by omega
    have e4 : ¬ (9223372036854775807 < P.size + R.size + 1 + S.size + U.size) := by omega
    go_enter Tryz.func130, Tryz.ntmps130
    have D0 := Lib.hid (Below.refl w.heap.size w).drew
    have KP : Hid (∀ w4, Below w.heap.size w w4 → w4.cell? ⟨b, 0, none⟩ = some (.iface t v)) := fun w4 b4 => (b4.cell (p := ⟨b, 0, none⟩) hbw).trans c0
    go_upto_region 3 with fail
    go_cut [5] (fun v5 wx => v5 = .string (P ++ R ++ ⟨#[10]⟩) ∧ Below w.heap.size w wx)
    case first =>
      have t0 := KP.out _ D0.out
      go_region_with (first
        | (go_at_call 206; have := D3; refine (RP.out _).mono ?_; rintro e w4 ⟨rfl, b4⟩; have D4 := Lib.hid (below_step D3.out (Nat.le_refl _) b4); have t4 := KP.out _ D4.out; clear b4)
        | (go_at_call 206; refine (RP.out _).mono ?_; rintro e w3 ⟨rfl, b3⟩; have D3 := Lib.hid (below_step D0.out (Nat.le_refl _) b3); have t3 := KP.out _ D3.out; clear b3)
        | (go_at_call 202; have := D3; refine (KT.out _ (RQ.out.below D3.out) (gtab_below G.out D3.out)).mono ?_; rintro e w4 ⟨rfl, b4⟩; have D4 := Lib.hid (below_step D3.out (Nat.le_refl _) b4); have t4 := KP.out _ D4.out; clear b4)
        | (go_at_call 202; refine (KT.out _ (RQ.out.below D0.out) (gtab_below G.out D0.out)).mono ?_; rintro e w3 ⟨rfl, b3⟩; have D3 := Lib.hid (below_step D0.out (Nat.le_refl _) b3); have t3 := KP.out _ D3.out; clear b3))
      all_goals
        go_wp2_with fail
        go_meet
        exact ⟨rfl, D4.out⟩
    case rest =>
    obtain ⟨rfl, b2⟩ := hcut
    have B2 := Lib.hid b2
    have hc2 := fun o => b2.cell (p := ⟨b, o, none⟩) hbw
    have hd2 := fun o => b2.cell (p := ⟨g, o, none⟩) hgw
    clear b2
    go_wp2_with fail
    refine wp_loop_rounds 3 ?_; rw [rounds_succ]
    go_wp2_with fail
    refine (IH.out wc (TrQ.below TC.out hh B2.out) (Nat.le_trans hh B2.out.size) (below_step B00.out (Nat.le_refl _) B2.out) (gtab_below G.out B2.out)).mono ?_
    rintro e w3 ⟨rfl, b3⟩
    have B3 := Lib.hid (below_step B2.out (Nat.le_refl _) b3)
    have hc3 := fun o => B3.out.cell (p := ⟨b, o, none⟩) hbw
    have hd3 := fun o => B3.out.cell (p := ⟨g, o, none⟩) hgw
    clear b3
    go_wp2_with fail
    rw [rounds_succ]
    go_wp2_with fail
    refine (IJ.out w3 (TrQ.below TD.out hh B3.out) (Nat.le_trans hh B3.out.size) (below_step B00.out (Nat.le_refl _) B3.out) (gtab_below G.out B3.out)).mono ?_
    rintro e w4 ⟨rfl, b4⟩
    have B4 := Lib.hid (below_step B3.out (Nat.le_refl _) b4)
    have hc4 := fun o => B4.out.cell (p := ⟨b, o, none⟩) hbw
    clear b4
    go_wp2_with fail
    rw [rounds_succ]
    go_wp2_with fail
    go_ret
    exact ⟨ret_strW E.out.symm, B4.out⟩
theorem linesNil_any (d : Int) (w : World) : Calls Tryz.prog 130 #[.pointer none, .int .i64 d] w fun e w' => e = .returned (.string ⟨#[]⟩) ∧ w = w' := by
  go_enter Tryz.func130, Tryz.ntmps130
  go_wp2_with fail
  go_ret
  exact ⟨rfl, rfl⟩
set_option maxRecDepth 100000 in
theorem implPlanLines_any (ao : Option Addr) (c : Nat) (p : List Nd) (hp : Small p) (w : World) (h : RdN w ao p) (hg : GTab w) :
    Calls Tryz.prog 50 #[.slice ao p.length c] w fun e w' => e = .returned (.string (linO p)) ∧ Below w.heap.size w w' := by
  have TQ := Lib.hid (treeOfQ_any ao c p hp w h)
  have G := Lib.hid hg
  clear h hg
  cases ht : treeN p with
  | none =>
    have E := Lib.hid (linO_no (show planB p = false by simp [planB, ht]))
    rw [ht] at TQ
    clear ht
    rw [E.out]
    go_enter Tryz.func50, Tryz.ntmps50
    go_wp2_with fail
    refine TQ.out.mono ?_
    rintro e w1 ⟨rfl, b1⟩
    have B1 := Lib.hid b1; clear b1
    go_wp2_with fail
    refine (linesNil_any 0 _).mono ?_
    rintro e w' ⟨rfl, rfl⟩
    go_wp2_with fail
    go_ret
    exact ⟨rfl, B1.out⟩
  | some T =>
    have E : Hid (linO p = ⟨(linT 0 T).toArray⟩) := by show _ = _; rw [linO_yes (show planB p = true by simp [planB, ht]), lin_tree ht]
    have hdp := (treeN_some ht).2.2.2
    have hgn := growT_nodes p _ _ _ (treeN_some ht).2.1
    have LN := Lib.hid (fun w1 b (h1 : TrQ w w1 w.heap.size w1.heap.size T b) (h2 : Below w.heap.size w w1) (h3 : GTab w1) => lines_any w T w1 w.heap.size w1.heap.size b 0 h1 (Nat.le_refl _) h2 h3 hgn (by omega) (by have := linT_len ht; omega))
    rw [ht] at TQ
    clear ht hgn hdp
    rw [E.out]
    generalize (⟨(linT 0 T).toArray⟩ : ByteArray) = S at LN E ⊢
    go_enter Tryz.func50, Tryz.ntmps50
    go_wp2_with fail
    refine TQ.out.mono ?_
    rintro e w1 ⟨b, rfl, tr, b1⟩
    have B1 := Lib.hid b1; have TR := Lib.hid tr; clear b1 tr
    go_wp2_with fail
    refine (LN.out w1 b TR.out B1.out (gtab_below G.out B1.out)).mono ?_
    rintro e w2 ⟨rfl, b2⟩
    have B2 := Lib.hid (below_step B1.out (Nat.le_refl _) b2); clear b2
    go_wp2_with fail
    go_ret
    exact ⟨rfl, B2.out⟩
end Go.Proofs.YtfpbhedophlnkaaGreatDoor
namespace Go.Proofs.YtfpbhedophlnkaaGreatDoor
open Go.RowKit
set_option linter.unusedSimpArgs false
set_option linter.unusedVariables false

theorem en10_none {p : List Nd} {i : Nat} (h : endN p 10 i = none) : en10 p i = 0 := by unfold en10; rw [h]
theorem en10_some {p : List Nd} {i e d : Nat} (h : endN p 10 i = some (e, d)) : en10 p i = e := by unfold en10; rw [h]
theorem cntE_yes {p : List Nd} {k i : Nat} (h : k < en10 p i) : cntE p k 0 (i + 1) = cntE p k 0 i + 1 := by
  show cntE p k 0 i + (if k < en10 p (0 + i) then 1 else 0) = _
  rw [Nat.zero_add, if_pos h]
theorem cntE_no {p : List Nd} {k i : Nat} (h : ¬ k < en10 p i) : cntE p k 0 (i + 1) = cntE p k 0 i := by
  show cntE p k 0 i + (if k < en10 p (0 + i) then 1 else 0) = _
  rw [Nat.zero_add, if_neg h]; rfl
set_option maxRecDepth 100000 in
set_option maxHeartbeats 1600000 in
theorem above_any (ao : Option Addr) (c : Nat) (p : List Nd) (hp : p.length ≤ 1048576) (k : Nat) (hk : k ≤ 40) (w : World) (h : RdN w ao p) :
    Calls Tryz.prog 131 #[.slice ao p.length c, .int .i64 k] w fun e w' => e = .returned (.int .i64 (aboveN p k)) ∧ w = w' := by
  have H := Lib.hid h
  have SE := Lib.hid (fun (i : Nat) (hi : i ≤ 40) => specEnd_any ao c p hp 10 i 10 w h (by omega) (by omega) (by omega) (by omega) (by omega))
  clear h
  go_enter Tryz.func131, Tryz.ntmps131
  go_wp2_with fail
  go_loopw [5, 6] (fun n i wr => ∃ j : Nat, j ≤ k ∧ i = .int .i64 j ∧ n = .int .i64 (cntE p k 0 j) ∧ w = wr) (fun _ i _ => k - (intOf i).toNat)
  case atStart => exact ⟨0, Nat.zero_le _, rfl, rfl, rfl⟩
  case round =>
    obtain ⟨j, hj, rfl, rfl, rfl⟩ := hrel
    by_cases hlt : j < k
    · have i1 : (j : Int) < (k : Int) := by omega
      have SJ := Lib.hid (SE.out j (by omega))
      have hcle := cntE_le p k 0 j
      rw [Int.toNat_natCast] at SJ
      cases hx : endN p 10 j with
      | none =>
        have CN := Lib.hid (cntE_no (k := k) (show ¬ k < en10 p j by rw [en10_none hx]; omega))
        rw [hx] at SJ
        clear hx
        go_wp2_with fail
        refine SJ.out.mono ?_
        rintro e w' ⟨rfl, rfl⟩
        simp only [endV]
        go_wp2_with fail
        go_roundw
        case rel => exact ⟨j + 1, by omega, by go_num, by rw [CN.out], trivial⟩
        case measure => simp [intOf]; omega
      | some x =>
        obtain ⟨e1, d1⟩ := x
        have EE := Lib.hid (en10_some hx)
        rw [hx] at SJ
        clear hx
        by_cases hgt : k < e1
        · have CN := Lib.hid (cntE_yes (k := k) (show k < en10 p j by rw [EE.out]; exact hgt))
          have g1 : (k : Int) < (e1 : Int) := by omega
          go_wp2_with fail
          refine SJ.out.mono ?_
          rintro e w' ⟨rfl, rfl⟩
          simp only [endV]
          go_wp2_with fail
          go_roundw
          case rel => exact ⟨j + 1, by omega, by go_num, by rw [CN.out]; go_num, trivial⟩
          case measure => simp [intOf]; omega
        · have CN := Lib.hid (cntE_no (k := k) (show ¬ k < en10 p j by rw [EE.out]; exact hgt))
          have g1 : (e1 : Int) ≤ (k : Int) := by omega
          go_wp2_with fail
          refine SJ.out.mono ?_
          rintro e w' ⟨rfl, rfl⟩
          simp only [endV]
          go_wp2_with fail
          go_roundw
          case rel => exact ⟨j + 1, by omega, by go_num, by rw [CN.out], trivial⟩
          case measure => simp [intOf]; omega
    · obtain rfl : j = k := by omega
      go_wp2_with fail
      go_ret
      exact ⟨rfl, rfl⟩
theorem size_of_list {X : ByteArray} {l : List UInt8} (h : X.data.toList = l) : X.size = l.length := by
  rw [← h, Array.length_toList]; rfl
set_option maxRecDepth 100000 in
set_option maxHeartbeats 3200000 in
theorem specPlanLines_any (ao : Option Addr) (c : Nat) (p : List Nd) (w : World) (h : RdN w ao p) (hp : p.length ≤ 1048576) :
    Calls Tryz.prog 51 #[.slice ao p.length c] w fun e w' => e = .returned (.string (linO p)) ∧ Below w.heap.size w w' := by
  have H := Lib.hid h; clear h
  have PO := Lib.hid (fun w h => specPlanOk_any ao c p w h hp)
  cases hg : planB p with
  | false =>
    rw [linO_no hg]
    rw [hg] at PO
    clear hg
    go_enter Tryz.func51, Tryz.ntmps51
    go_wp2_with fail
    refine (PO.out _ H.out).mono ?_
    rintro e w1 ⟨rfl, b1⟩
    go_wp2_with fail
    go_ret
    exact ⟨rfl, b1⟩
  | true =>
    rw [hg] at PO
    have hl40 := planB_40 hg
    have HG := Lib.hid (planB_nodes hg)
    have E := Lib.hid (linO_yes hg)
    have AB := Lib.hid (fun (k : Nat) (hk : k ≤ 40) w h => above_any ao c p hp k hk w h)
    clear hg
    go_enter Tryz.func51, Tryz.ntmps51
    go_wp2_with fail
    refine (PO.out _ H.out).mono ?_
    rintro e w1 ⟨rfl, b1⟩
    have B1 := Lib.hid b1; clear b1
    go_wp2_with fail
    go_loopw [3, 4] (fun s i wr => ∃ (j : Nat) (X : ByteArray), j ≤ p.length ∧ i = .int .i64 j ∧ s = .string X ∧ X.data.toList = linsT p j ∧ Below w.heap.size w wr) (fun _ i _ => p.length - (intOf i).toNat)
    case atStart => exact ⟨0, _, Nat.zero_le _, rfl, rfl, rfl, B1.out⟩
    case round =>
      obtain ⟨j, X, hj, rfl, rfl, hX, hb⟩ := hrel
      have hxs : X.size ≤ 10280 := by
        rw [size_of_list hX]
        have := linsT_len HG.out hl40 j (by omega)
        omega
      have HX := Lib.hid hX; have HB := Lib.hid hb; clear hX hb
      by_cases hlt : j < p.length
      · obtain ⟨b, off, n, a, c', rfl, hn, hat⟩ := (H.out.below HB.out).at_ hlt
        have hnb := HG.out n (List.mem_of_getElem? hn)
        have LT := Lib.hid (show linsT p (j + 1) = linsT p j ++ (padL (aboveN p j) ++ ndT n ++ [10]) by rw [linsT_succ, lineAt_some hn]; rfl)
        have HO := Lib.hid (ndO_list hnb)
        have hns := ndO_size n
        have hab := aboveN_le p j
        obtain ⟨c0, c1, c2', c3', c4, c5, c6, rd, cap, mx, nm⟩ := hat
        have RD := Lib.hid rd
        have cl := Nat.le_trans cap mx
        have ABJ := Lib.hid (AB.out j (by omega) wr (H.out.below HB.out))
        clear rd cap mx hnb hn
        have PN := Lib.hid (fun w h => specNodeText_any n a c' w h cl nm)
        generalize ndO n = R at PN HO hns
        generalize aboveN p j = dd at ABJ LT hab
        have i1 : (j : Int) < (p.length : Int) := by omega
        go_wp2_with fail
        refine ABJ.out.mono ?_
        rintro e w' ⟨rfl, rfl⟩
        go_wp2_with fail
        go_loopw [3, 5] (fun s i wx => ∃ (t : Nat) (Y : ByteArray), t ≤ dd ∧ i = .int .i64 t ∧ s = .string Y ∧ Y.data.toList = linsT p j ++ padL (dd - t) ∧ wr = wx) (fun _ i _ => (intOf i).toNat)
        case atStart => exact ⟨dd, X, Nat.le_refl _, rfl, rfl, by rw [Nat.sub_self, HX.out]; simp [padL], rfl⟩
        case round =>
          obtain ⟨t, Y, ht, rfl, rfl, hY, rfl⟩ := hrel
          have hys : Y.size ≤ 10380 := by
            rw [size_of_list hY, List.length_append, padL_len, ← HX.out, ← size_of_list rfl]
            omega
          have HY := Lib.hid hY; clear hY
          by_cases h0 : t = 0
          · subst h0
            have e1 : ¬ (9223372036854775807 < Y.size + R.size) := by omega
            have e2 : ¬ (9223372036854775807 < Y.size + R.size + 1) := by omega
            go_wp2_with fail
            refine (PN.out _ RD.out).mono ?_
            rintro e w4 ⟨rfl, b4⟩
            have B4 := Lib.hid (below_step HB.out (Nat.le_refl _) b4)
            clear b4 c0 c1 c2' c3' c4 c5 c6
            go_wp2_with fail
            go_roundw
            case rel => exact ⟨j + 1, _, by omega, by go_num, rfl, by rw [LT.out]; simp only [ByteArray.data_append, Array.toList_append, HY.out, HO.out, Nat.sub_zero, List.append_assoc], B4.out⟩
            case measure => simp [intOf]; omega
          · have t1 : (0 : Int) < (t : Int) := by omega
            have e1 : ¬ (9223372036854775807 < Y.size + 2) := by omega
            go_wp2_with fail
            go_roundw
            case rel => exact ⟨t - 1, _, by omega, by go_num, rfl, by rw [ByteArray.data_append, Array.toList_append, HY.out, show dd - (t - 1) = (dd - t) + 1 by omega]; simp [padL], trivial⟩
            case measure => simp [intOf]; omega
      · obtain rfl : j = p.length := by omega
        have XE : Hid (X = linO p) := by
          show _ = _
          rw [E.out]; refine bx ?_
          exact HX.out
        clear HX
        go_wp2_with fail
        go_ret
        exact ⟨ret_strN XE.out, HB.out⟩
end Go.Proofs.YtfpbhedophlnkaaGreatDoor
namespace Go.Proofs.YtfpbhedophlnkaaGreatDoor
open Go.RowKit
set_option linter.unusedSimpArgs false
set_option linter.unusedVariables false

/-- Whether two lists of nodes are the same. -/
def eqNs : List Nd → List Nd → Bool
  | [], [] => true
  | n :: l, m :: k => eqN n m && eqNs l k
  | _, _ => false
theorem eqNs_refl : ∀ l : List Nd, eqNs l l = true
  | [] => rfl
  | n :: l => by simp [eqNs, eqN_refl, eqNs_refl l]
theorem eqNs_len : ∀ l m : List Nd, l.length ≠ m.length → eqNs l m = false
  | [], [], h => absurd rfl h
  | [], _ :: _, _ => rfl
  | _ :: _, [], _ => rfl
  | n :: l, m :: k, h => by simp only [eqNs]; rw [eqNs_len l k (by simpa using h)]; simp
theorem eqNs_no : ∀ (l m : List Nd) (j : Nat) (x y : Nd), l[j]? = some x → m[j]? = some y → eqN x y = false → eqNs l m = false
  | [], _, j, x, y, h, _, _ => by simp at h
  | _ :: _, [], j, x, y, _, h, _ => by simp at h
  | n :: l, m :: k, 0, x, y, hx, hy, h => by simp at hx hy; subst hx hy; simp [eqNs, h]
  | n :: l, m :: k, j + 1, x, y, hx, hy, h => by simp at hx hy; simp [eqNs, eqNs_no l k j x y hx hy h]
theorem eqNs_yes : ∀ (l m : List Nd), l.length = m.length → (∀ (j : Nat) (x y : Nd), l[j]? = some x → m[j]? = some y → eqN x y = true) → eqNs l m = true
  | [], [], _, _ => rfl
  | [], _ :: _, h, _ => by simp at h
  | _ :: _, [], h, _ => by simp at h
  | n :: l, m :: k, h, hh => by
    simp only [eqNs]
    rw [hh 0 n m rfl rfl, eqNs_yes l k (by simpa using h) fun j x y hx hy => hh (j + 1) x y hx hy]; rfl

set_option maxRecDepth 100000 in
set_option maxHeartbeats 1600000 in
theorem eqNodeS_any (a b : Option Addr) (c d : Nat) (l m : List Nd) (w : World) (h : RdN w a l) (k : RdN w b m) (hn : l.length ≤ maxLen) (hm : m.length ≤ maxLen) :
    Calls Tryz.prog 60 #[.slice a l.length c, .slice b m.length d] w fun e w' => e = .returned (.bool (eqNs l m)) ∧ Below w.heap.size w w' := by
  unfold maxLen at hn hm
  have H := Lib.hid h; clear h
  have K := Lib.hid k; clear k
  by_cases hlen : l.length = m.length
  · have hne : ((l.length : Int) != (m.length : Int)) = false := by simp [hlen]
    have HL := Lib.hid hlen; clear hlen
    go_enter Tryz.func60, Tryz.ntmps60
    go_wp2_with fail
    go_loopw [5] (fun i wr => ∃ j : Nat, j ≤ l.length ∧ i = .int .i64 j ∧ (∀ i x y, i < j → l[i]? = some x → m[i]? = some y → eqN x y = true) ∧ Below w.heap.size w wr) (fun i _ => l.length - (intOf i).toNat)
    case atStart => exact ⟨0, Nat.zero_le _, rfl, fun i x y hi => absurd hi (Nat.not_lt_zero _), Below.refl _ _⟩
    case round =>
      obtain ⟨j, hj, rfl, ht, hb⟩ := hrel
      have HT := Lib.hid ht; clear ht
      by_cases hlt : j < l.length
      · have hlt2 : j < m.length := by have := HL.out; omega
        obtain ⟨b1, o1, x, ax, cx, rfl, hx, hat⟩ := (H.out.below hb).at_ hlt
        obtain ⟨b2, o2, y, ay, cy, rfl, hy, hay⟩ := (K.out.below hb).at_ hlt2
        have X := Lib.hid hx; have Y := Lib.hid hy; have HB := Lib.hid hb
        clear hx hy hb
        obtain ⟨c0, c1, c2, c3, c4, c5, c6, rd, cap, mx, nm⟩ := hat
        obtain ⟨d0, d1, d2, d3, d4, d5, d6, rd', cap', mx', nm'⟩ := hay
        have RD := Lib.hid rd; have RD' := Lib.hid rd'
        have E := Lib.hid (fun W => eqNode_any x y ax ay cx cy W)
        have l1 := Nat.le_trans cap mx; have l2 := Nat.le_trans cap' mx'
        clear rd rd' cap mx cap' mx' nm nm'
        have i1 : (j : Int) < (l.length : Int) := by omega
        have i2 : (j : Int) < (m.length : Int) := by omega
        cases hxy : eqN x y with
        | true =>
          have Q := Lib.hid hxy; clear hxy
          go_wp2_with fail
          go_region_with (go_at_call 141; refine (E.out _ ?_ ?_ l1 l2).mono ?_; exact RD.out; exact RD'.out; rintro e w1 ⟨rfl, b1⟩; rw [Q.out]; have T1 := Lib.hid (below_step HB.out.drew (Nat.le_refl _) b1); clear b1)
          all_goals
            go_wp2_with fail
            go_roundw
            case rel => exact ⟨j + 1, by omega, by go_num, fun i x' y' hi hx' hy' => by
              by_cases hij : i = j
              · subst hij; rw [X.out] at hx'; rw [Y.out] at hy'; cases hx'; cases hy'; exact Q.out
              · exact HT.out i x' y' (by omega) hx' hy', T1.out⟩
            case measure => simp [intOf]; omega
        | false =>
          have Q := Lib.hid hxy; clear hxy
          have F := Lib.hid (eqNs_no l m j x y X.out Y.out Q.out)
          go_wp2_with fail
          go_region_with (go_at_call 141; refine (E.out _ ?_ ?_ l1 l2).mono ?_; exact RD.out; exact RD'.out; rintro e w1 ⟨rfl, b1⟩; rw [Q.out]; have T1 := Lib.hid (below_step HB.out.drew (Nat.le_refl _) b1); clear b1)
          all_goals
            go_wp2_with fail
            go_ret
            exact ⟨ret_bool F.out.symm, T1.out⟩
      · have HB := Lib.hid hb; clear hb
        go_wp2_with fail
        go_ret
        refine ⟨ret_bool (eqNs_yes l m HL.out fun i x y hx hy => HT.out i x y ?_ hx hy).symm, HB.out⟩
        have : i < l.length := by
          rcases Nat.lt_or_ge i l.length with h1 | h1
          · exact h1
          · rw [List.getElem?_eq_none h1] at hx; cases hx
        omega
  · have hne : ((l.length : Int) != (m.length : Int)) = true := by simp; omega
    have HF := Lib.hid (eqNs_len l m hlen)
    go_enter Tryz.func60, Tryz.ntmps60
    go_wp2_with fail
    go_ret
    exact ⟨ret_bool HF.out.symm, Below.refl _ _⟩
end Go.Proofs.YtfpbhedophlnkaaGreatDoor
