/-
  Contract of impl.PlanLines. For every slice of nodes.
-/
import Derived.Test.YtfpbhedophlnkaaDoorINdT
import Derived.Test.YtfpbhedophlnkaaDoorKP
import Derived.Test.YtfpbhedophlnkaaDoorKG
import Derived.Test.YtfpbhedophlnkaaDoorShelf8
import Derived.Deep.RegionWith
import Derived.Deep.DeepCutAuto
namespace Go.Proofs.YtfpbhedophlnkaaDoor
open Go.RowKit Go.Shelf
set_option linter.unusedSimpArgs false
set_option linter.unusedVariables false

theorem extra105 : Builder.Extra Tryd.prog Tryd.lays105_ren where
  sizeBuilder := by kernel_rfl
  liesBuilder := by kernel_rfl
  t5 := Tryd.underlying5
  a5 := Tryd.isAgg5
  z5 := Tryd.sizeOf5
  v5 := Tryd.zeroValue5
  infoByte := by kernel_rfl
  cellsByte := by kernel_rfl
  sizeByte := by kernel_rfl
  neB5 := by decide
theorem padL_rep : ∀ d : Nat, Lib.repeatL [32, 32] d = padL d
  | 0 => rfl
  | d + 1 => by
    have key : ∀ k : Nat, [32, 32] ++ padL k = padL k ++ [32, 32] := fun k => by
      induction k with
      | zero => rfl
      | succ k ih =>
        show [32, 32] ++ (padL k ++ [32, 32]) = (padL k ++ [32, 32]) ++ [32, 32]
        rw [← List.append_assoc, ih]
    show [32, 32] ++ Lib.repeatL [32, 32] d = padL d ++ [32, 32]
    rw [padL_rep d, key]
def padO (d : Nat) : ByteArray := ⟨(padL d).toArray⟩
theorem padO_size (d : Nat) : (padO d).size = 2 * d := by
  have h : (padO d).size = (padL d).length := by show (padL d).toArray.size = _; simp
  rw [h, padL_len]
theorem repeat_any (d : Nat) (w : World) (hd : d ≤ 1000) :
    Calls Tryd.prog 47 #[.string ⟨#[32, 32]⟩, .int .i64 d] w fun e w' => e = .returned (.string (padO d)) ∧ Below w.heap.size w w' := by
  have h := Any.strings_Repeat Tryd.lays105 extra105 ⟨#[32, 32]⟩ d w (by omega) (by show 2 * d ≤ _; omega)
  have e : Lib.repeatL (ByteArray.mk #[32, 32]).data.toList d = padL d := padL_rep d
  rw [e] at h
  exact h
theorem bx2 {x : ByteArray} {l : List UInt8} (h : x.data.toList = l) : x = ⟨l.toArray⟩ := by
  obtain ⟨⟨m⟩⟩ := x
  simp only at h; subst h; rfl
theorem lin_size (d : Nat) (T : Tr) : (⟨(linT d T).toArray⟩ : ByteArray).size = (linT d T).length := by show (linT d T).toArray.size = _; simp
/-- A node's line out of its three parts. -/
theorem line_parts (d : Nat) {n : Nd} (h : nodeB n = true) : (padO d ++ ndO n ++ ⟨#[10]⟩).data.toList = lineT d n := by
  rw [ByteArray.data_append, ByteArray.data_append, Array.toList_append, Array.toList_append, ndO_list h]; rfl

set_option maxRecDepth 100000 in
set_option maxHeartbeats 4000000 in
theorem lines_any (w0 : World) : ∀ (T : Tr) (w : World) (lo hi b d : Nat), TrQ w0 w lo hi T b → hi ≤ w.heap.size → Below w0.heap.size w0 w → GTab w → T.nodes → d + T.depth ≤ 1000 → (linT d T).length ≤ 1000000 →
    Calls Tryd.prog 34 #[.pointer (some ⟨b, 0, none⟩), .int .i64 d] w fun e w' => e = .returned (.string ⟨(linT d T).toArray⟩) ∧ Below w.heap.size w w' := by
  intro T
  induction T with
  | t0 n pl en =>
    intro w lo hi b d h hh hb0 hg hn hd hlen
    obtain ⟨_, hb2, a, c, c0, c1, c2, c3, q⟩ := h
    have hnb : nodeB n = true := hn.1
    obtain ⟨t, v, hkv⟩ := kindV_iface hnb a c
    rw [hkv] at c0
    have RQ := Lib.hid (q.1.below hb0)
    have KT := Lib.hid (show ∀ W, Rd W .i64 a n.cols → GTab W → Calls Tryd.prog 26 #[.iface t v] W fun e w' => e = .returned (.string (ndO n)) ∧ Below W.heap.size W w' from fun W h1 h2 => hkv ▸ kindText_any n hnb a c W h1 h2)
    have RP := Lib.hid (fun W => repeat_any d W (by simp [Tr.depth] at hd; omega))
    have E : Hid ((⟨(linT d (.t0 n pl en)).toArray⟩ : ByteArray) = padO d ++ ndO n ++ ⟨#[10]⟩) := (bx2 (line_parts d hnb)).symm
    have hbw : b < w.heap.size := by omega
    have hps := padO_size d
    have hns := ndO_size n
    have hd0 : d ≤ 1000 := by omega
    have G := Lib.hid hg
    clear hkv hn hnb q hb0 hg hlen hd
    generalize (⟨(linT d (.t0 n pl en)).toArray⟩ : ByteArray) = res at E ⊢
    generalize padO d = P at RP hps E
    generalize ndO n = R at KT hns E
    have e1 : ¬ (9223372036854775807 < P.size + R.size) := by omega
    have e2 : ¬ (9223372036854775807 < P.size + R.size + 1) := by omega
    go_enter Tryd.func34, Tryd.ntmps34
    have D0 := Lib.hid (Below.refl w.heap.size w).drew
    have KP : Hid (∀ w4, Below w.heap.size w w4 → w4.cell? ⟨b, 0, none⟩ = some (.iface t v)) := fun w4 b4 => (b4.cell (p := ⟨b, 0, none⟩) hbw).trans c0
    go_upto_region 3 with fail
    go_cut [5] (fun v5 wx => v5 = .string (P ++ R ++ ⟨#[10]⟩) ∧ Below w.heap.size w wx)
    case first =>
      have t0 := KP.out _ D0.out
      go_region_with (first
        | (go_at_call 47; have := D3; refine (RP.out _).mono ?_; rintro e w4 ⟨rfl, b4⟩; have D4 := Lib.hid (below_step D3.out (Nat.le_refl _) b4); have t4 := KP.out _ D4.out; clear b4)
        | (go_at_call 47; refine (RP.out _).mono ?_; rintro e w3 ⟨rfl, b3⟩; have D3 := Lib.hid (below_step D0.out (Nat.le_refl _) b3); have t3 := KP.out _ D3.out; clear b3)
        | (go_at_call 26; have := D3; refine (KT.out _ (RQ.out.below D3.out) (gtab_below G.out D3.out)).mono ?_; rintro e w4 ⟨rfl, b4⟩; have D4 := Lib.hid (below_step D3.out (Nat.le_refl _) b4); have t4 := KP.out _ D4.out; clear b4)
        | (go_at_call 26; refine (KT.out _ (RQ.out.below D0.out) (gtab_below G.out D0.out)).mono ?_; rintro e w3 ⟨rfl, b3⟩; have D3 := Lib.hid (below_step D0.out (Nat.le_refl _) b3); have t3 := KP.out _ D3.out; clear b3))
      all_goals
        go_wp2_with fail
        go_meet
        exact ⟨rfl, D4.out⟩
    case rest =>
    obtain ⟨rfl, b2⟩ := hcut
    have B2 := Lib.hid b2
    have hc2 := fun o => b2.cell (p := ⟨b, o, none⟩) hbw
    clear b2
    go_wp2_with fail
    refine wp_loop_rounds 1 ?_; rw [rounds_succ]
    go_wp2_with fail
    go_ret
    exact ⟨ret_strW E.out.symm, B2.out⟩
  | t1 n pl en c ih =>
    intro w lo hi b d h hh hb0 hg hn hd hlen
    obtain ⟨g, cap, bc, ⟨_, hb2, a, cc, c0, c1, c2, c3, q⟩, hgl, g0, tc⟩ := h
    have hnb : nodeB n = true := hn.1.1
    obtain ⟨t, v, hkv⟩ := kindV_iface hnb a cc
    rw [hkv] at c0
    have RQ := Lib.hid (q.1.below hb0)
    have KT := Lib.hid (show ∀ W, Rd W .i64 a n.cols → GTab W → Calls Tryd.prog 26 #[.iface t v] W fun e w' => e = .returned (.string (ndO n)) ∧ Below W.heap.size W w' from fun W h1 h2 => hkv ▸ kindText_any n hnb a cc W h1 h2)
    have RP := Lib.hid (fun W => repeat_any d W (by simp [Tr.depth] at hd; omega))
    have e0 : linT d (.t1 n pl en c) = lineT d n ++ linT (d + 1) c := rfl
    have hl1 : (linT (d + 1) c).length ≤ 1000000 := by rw [e0, List.length_append] at hlen; omega
    have E : Hid ((⟨(linT d (.t1 n pl en c)).toArray⟩ : ByteArray) = padO d ++ ndO n ++ ⟨#[10]⟩ ++ ⟨(linT (d + 1) c).toArray⟩) := (bx2 (by rw [ByteArray.data_append, Array.toList_append, line_parts d hnb, e0])).symm
    have hcs := lin_size (d + 1) c
    have IH := Lib.hid (show ∀ W, TrQ w0 W lo hi c bc → hi ≤ W.heap.size → Below w0.heap.size w0 W → GTab W → Calls Tryd.prog 34 #[.pointer (some ⟨bc, 0, none⟩), .int .i64 ((d : Int) + 1)] W fun e w' => e = .returned (.string ⟨(linT (d + 1) c).toArray⟩) ∧ Below W.heap.size W w' from fun W h1 h2 h3 h4 => ih W lo hi bc (d + 1) h1 h2 h3 h4 hn.2 (by simp only [Tr.depth] at hd; omega) hl1)
    have hbw : b < w.heap.size := by omega
    have hgw : g < w.heap.size := by omega
    have hps := padO_size d
    have hns := ndO_size n
    have hd0 : d ≤ 1000 := by omega
    rw [← hcs] at hl1
    have TC := Lib.hid tc; have B00 := Lib.hid hb0
    have G := Lib.hid hg
    clear ih tc hkv hn hnb q hb0 hg hlen hd e0 hcs
    generalize (⟨(linT d (.t1 n pl en c)).toArray⟩ : ByteArray) = res at E ⊢
    generalize (⟨(linT (d + 1) c).toArray⟩ : ByteArray) = S at IH E hl1
    generalize padO d = P at RP hps E
    generalize ndO n = R at KT hns E
    have e1 : ¬ (9223372036854775807 < P.size + R.size) := by omega
    have e2 : ¬ (9223372036854775807 < P.size + R.size + 1) := by omega
    have e3 : ¬ (9223372036854775807 < P.size + R.size + 1 + S.size) := by omega
    go_enter Tryd.func34, Tryd.ntmps34
    have D0 := Lib.hid (Below.refl w.heap.size w).drew
    have KP : Hid (∀ w4, Below w.heap.size w w4 → w4.cell? ⟨b, 0, none⟩ = some (.iface t v)) := fun w4 b4 => (b4.cell (p := ⟨b, 0, none⟩) hbw).trans c0
    go_upto_region 3 with fail
    go_cut [5] (fun v5 wx => v5 = .string (P ++ R ++ ⟨#[10]⟩) ∧ Below w.heap.size w wx)
    case first =>
      have t0 := KP.out _ D0.out
      go_region_with (first
        | (go_at_call 47; have := D3; refine (RP.out _).mono ?_; rintro e w4 ⟨rfl, b4⟩; have D4 := Lib.hid (below_step D3.out (Nat.le_refl _) b4); have t4 := KP.out _ D4.out; clear b4)
        | (go_at_call 47; refine (RP.out _).mono ?_; rintro e w3 ⟨rfl, b3⟩; have D3 := Lib.hid (below_step D0.out (Nat.le_refl _) b3); have t3 := KP.out _ D3.out; clear b3)
        | (go_at_call 26; have := D3; refine (KT.out _ (RQ.out.below D3.out) (gtab_below G.out D3.out)).mono ?_; rintro e w4 ⟨rfl, b4⟩; have D4 := Lib.hid (below_step D3.out (Nat.le_refl _) b4); have t4 := KP.out _ D4.out; clear b4)
        | (go_at_call 26; refine (KT.out _ (RQ.out.below D0.out) (gtab_below G.out D0.out)).mono ?_; rintro e w3 ⟨rfl, b3⟩; have D3 := Lib.hid (below_step D0.out (Nat.le_refl _) b3); have t3 := KP.out _ D3.out; clear b3))
      all_goals
        go_wp2_with fail
        go_meet
        exact ⟨rfl, D4.out⟩
    case rest =>
    obtain ⟨rfl, b2⟩ := hcut
    have B2 := Lib.hid b2
    have hc2 := fun o => b2.cell (p := ⟨b, o, none⟩) hbw
    have hd2 := fun o => b2.cell (p := ⟨g, o, none⟩) hgw
    clear b2
    go_wp2_with fail
    refine wp_loop_rounds 2 ?_; rw [rounds_succ]
    go_wp2_with fail
    refine (IH.out wc (TrQ.below TC.out hh B2.out) (Nat.le_trans hh B2.out.size) (below_step B00.out (Nat.le_refl _) B2.out) (gtab_below G.out B2.out)).mono ?_
    rintro e w3 ⟨rfl, b3⟩
    have B3 := Lib.hid (below_step B2.out (Nat.le_refl _) b3)
    have hc3 := fun o => B3.out.cell (p := ⟨b, o, none⟩) hbw
    clear b3
    go_wp2_with fail
    rw [rounds_succ]
    go_wp2_with fail
    go_ret
    exact ⟨ret_strW E.out.symm, B3.out⟩
  | t2 n pl en c d2 ihc ihd =>
    intro w lo hi b d h hh hb0 hg hn hd hlen
    obtain ⟨g, cap, bc, bd, ⟨_, hb2, a, cc, c0, c1, c2, c3, q⟩, hgl, g0, g1, tc, td⟩ := h
    have hnb : nodeB n = true := hn.1.1
    obtain ⟨t, v, hkv⟩ := kindV_iface hnb a cc
    rw [hkv] at c0
    have RQ := Lib.hid (q.1.below hb0)
    have KT := Lib.hid (show ∀ W, Rd W .i64 a n.cols → GTab W → Calls Tryd.prog 26 #[.iface t v] W fun e w' => e = .returned (.string (ndO n)) ∧ Below W.heap.size W w' from fun W h1 h2 => hkv ▸ kindText_any n hnb a cc W h1 h2)
    have RP := Lib.hid (fun W => repeat_any d W (by simp [Tr.depth] at hd; omega))
    have e0 : linT d (.t2 n pl en c d2) = lineT d n ++ linT (d + 1) c ++ linT (d + 1) d2 := rfl
    have hl1 : (linT (d + 1) c).length ≤ 1000000 := by rw [e0, List.length_append, List.length_append] at hlen; omega
    have hl2 : (linT (d + 1) d2).length ≤ 1000000 := by rw [e0, List.length_append, List.length_append] at hlen; omega
    have E : Hid ((⟨(linT d (.t2 n pl en c d2)).toArray⟩ : ByteArray) = padO d ++ ndO n ++ ⟨#[10]⟩ ++ ⟨(linT (d + 1) c).toArray⟩ ++ ⟨(linT (d + 1) d2).toArray⟩) := (bx2 (by rw [ByteArray.data_append, Array.toList_append, ByteArray.data_append, Array.toList_append, line_parts d hnb, e0])).symm
    have hcs := lin_size (d + 1) c
    have hds := lin_size (d + 1) d2
    have IH := Lib.hid (show ∀ W, TrQ w0 W lo hi c bc → hi ≤ W.heap.size → Below w0.heap.size w0 W → GTab W → Calls Tryd.prog 34 #[.pointer (some ⟨bc, 0, none⟩), .int .i64 ((d : Int) + 1)] W fun e w' => e = .returned (.string ⟨(linT (d + 1) c).toArray⟩) ∧ Below W.heap.size W w' from fun W h1 h2 h3 h4 => ihc W lo hi bc (d + 1) h1 h2 h3 h4 hn.2.1 (by simp only [Tr.depth] at hd; omega) hl1)
    have IJ := Lib.hid (show ∀ W, TrQ w0 W lo hi d2 bd → hi ≤ W.heap.size → Below w0.heap.size w0 W → GTab W → Calls Tryd.prog 34 #[.pointer (some ⟨bd, 0, none⟩), .int .i64 ((d : Int) + 1)] W fun e w' => e = .returned (.string ⟨(linT (d + 1) d2).toArray⟩) ∧ Below W.heap.size W w' from fun W h1 h2 h3 h4 => ihd W lo hi bd (d + 1) h1 h2 h3 h4 hn.2.2 (by simp only [Tr.depth] at hd; omega) hl2)
    have hbw : b < w.heap.size := by omega
    have hgw : g < w.heap.size := by omega
    have hps := padO_size d
    have hns := ndO_size n
    have hd0 : d ≤ 1000 := by omega
    rw [← hcs] at hl1
    rw [← hds] at hl2
    have TC := Lib.hid tc; have TD := Lib.hid td; have B00 := Lib.hid hb0
    have G := Lib.hid hg
    clear ihc ihd tc td hkv hn hnb q hb0 hg hlen hd e0 hcs hds
    generalize (⟨(linT d (.t2 n pl en c d2)).toArray⟩ : ByteArray) = res at E ⊢
    generalize (⟨(linT (d + 1) c).toArray⟩ : ByteArray) = S at IH E hl1
    generalize (⟨(linT (d + 1) d2).toArray⟩ : ByteArray) = U at IJ E hl2
    generalize padO d = P at RP hps E
    generalize ndO n = R at KT hns E
    have e1 : ¬ (9223372036854775807 < P.size + R.size) := by omega
    have e2 : ¬ (9223372036854775807 < P.size + R.size + 1) := by omega
    have e3 : ¬ (9223372036854775807 < P.size + R.size + 1 + S.size) := by omega
    have e4 : ¬ (9223372036854775807 < P.size + R.size + 1 + S.size + U.size) := by omega
    go_enter Tryd.func34, Tryd.ntmps34
    have D0 := Lib.hid (Below.refl w.heap.size w).drew
    have KP : Hid (∀ w4, Below w.heap.size w w4 → w4.cell? ⟨b, 0, none⟩ = some (.iface t v)) := fun w4 b4 => (b4.cell (p := ⟨b, 0, none⟩) hbw).trans c0
    go_upto_region 3 with fail
    go_cut [5] (fun v5 wx => v5 = .string (P ++ R ++ ⟨#[10]⟩) ∧ Below w.heap.size w wx)
    case first =>
      have t0 := KP.out _ D0.out
      go_region_with (first
        | (go_at_call 47; have := D3; refine (RP.out _).mono ?_; rintro e w4 ⟨rfl, b4⟩; have D4 := Lib.hid (below_step D3.out (Nat.le_refl _) b4); have t4 := KP.out _ D4.out; clear b4)
        | (go_at_call 47; refine (RP.out _).mono ?_; rintro e w3 ⟨rfl, b3⟩; have D3 := Lib.hid (below_step D0.out (Nat.le_refl _) b3); have t3 := KP.out _ D3.out; clear b3)
        | (go_at_call 26; have := D3; refine (KT.out _ (RQ.out.below D3.out) (gtab_below G.out D3.out)).mono ?_; rintro e w4 ⟨rfl, b4⟩; have D4 := Lib.hid (below_step D3.out (Nat.le_refl _) b4); have t4 := KP.out _ D4.out; clear b4)
        | (go_at_call 26; refine (KT.out _ (RQ.out.below D0.out) (gtab_below G.out D0.out)).mono ?_; rintro e w3 ⟨rfl, b3⟩; have D3 := Lib.hid (below_step D0.out (Nat.le_refl _) b3); have t3 := KP.out _ D3.out; clear b3))
      all_goals
        go_wp2_with fail
        go_meet
        exact ⟨rfl, D4.out⟩
    case rest =>
    obtain ⟨rfl, b2⟩ := hcut
    have B2 := Lib.hid b2
    have hc2 := fun o => b2.cell (p := ⟨b, o, none⟩) hbw
    have hd2 := fun o => b2.cell (p := ⟨g, o, none⟩) hgw
    clear b2
    go_wp2_with fail
    refine wp_loop_rounds 3 ?_; rw [rounds_succ]
    go_wp2_with fail
    refine (IH.out wc (TrQ.below TC.out hh B2.out) (Nat.le_trans hh B2.out.size) (below_step B00.out (Nat.le_refl _) B2.out) (gtab_below G.out B2.out)).mono ?_
    rintro e w3 ⟨rfl, b3⟩
    have B3 := Lib.hid (below_step B2.out (Nat.le_refl _) b3)
    have hc3 := fun o => B3.out.cell (p := ⟨b, o, none⟩) hbw
    have hd3 := fun o => B3.out.cell (p := ⟨g, o, none⟩) hgw
    clear b3
    go_wp2_with fail
    rw [rounds_succ]
    go_wp2_with fail
    refine (IJ.out w3 (TrQ.below TD.out hh B3.out) (Nat.le_trans hh B3.out.size) (below_step B00.out (Nat.le_refl _) B3.out) (gtab_below G.out B3.out)).mono ?_
    rintro e w4 ⟨rfl, b4⟩
    have B4 := Lib.hid (below_step B3.out (Nat.le_refl _) b4)
    have hc4 := fun o => B4.out.cell (p := ⟨b, o, none⟩) hbw
    clear b4
    go_wp2_with fail
    rw [rounds_succ]
    go_wp2_with fail
    go_ret
    exact ⟨ret_strW E.out.symm, B4.out⟩
theorem linesNil_any (d : Int) (w : World) : Calls Tryd.prog 34 #[.pointer none, .int .i64 d] w fun e w' => e = .returned (.string ⟨#[]⟩) ∧ w = w' := by
  go_enter Tryd.func34, Tryd.ntmps34
  go_wp2_with fail
  go_ret
  exact ⟨rfl, rfl⟩
set_option maxRecDepth 100000 in
theorem implPlanLines_any (ao : Option Addr) (c : Nat) (p : List Nd) (hp : Small p) (w : World) (h : RdN w ao p) (hg : GTab w) :
    Calls Tryd.prog 17 #[.slice ao p.length c] w fun e w' => e = .returned (.string (linO p)) ∧ Below w.heap.size w w' := by
  have TQ := Lib.hid (treeOfQ_any ao c p hp w h)
  have G := Lib.hid hg
  clear h hg
  cases ht : treeN p with
  | none =>
    have E := Lib.hid (linO_no (show planB p = false by simp [planB, ht]))
    rw [ht] at TQ
    clear ht
    rw [E.out]
    go_enter Tryd.func17, Tryd.ntmps17
    go_wp2_with fail
    refine TQ.out.mono ?_
    rintro e w1 ⟨rfl, b1⟩
    have B1 := Lib.hid b1; clear b1
    go_wp2_with fail
    refine (linesNil_any 0 _).mono ?_
    rintro e w' ⟨rfl, rfl⟩
    go_wp2_with fail
    go_ret
    exact ⟨rfl, B1.out⟩
  | some T =>
    have E : Hid (linO p = ⟨(linT 0 T).toArray⟩) := by show _ = _; rw [linO_yes (show planB p = true by simp [planB, ht]), lin_tree ht]
    have hdp := (treeN_some ht).2.2.2
    have hgn := growT_nodes p _ _ _ (treeN_some ht).2.1
    have LN := Lib.hid (fun w1 b (h1 : TrQ w w1 w.heap.size w1.heap.size T b) (h2 : Below w.heap.size w w1) (h3 : GTab w1) => lines_any w T w1 w.heap.size w1.heap.size b 0 h1 (Nat.le_refl _) h2 h3 hgn (by omega) (by have := linT_len ht; omega))
    rw [ht] at TQ
    clear ht hgn hdp
    rw [E.out]
    generalize (⟨(linT 0 T).toArray⟩ : ByteArray) = S at LN E ⊢
    go_enter Tryd.func17, Tryd.ntmps17
    go_wp2_with fail
    refine TQ.out.mono ?_
    rintro e w1 ⟨b, rfl, tr, b1⟩
    have B1 := Lib.hid b1; have TR := Lib.hid tr; clear b1 tr
    go_wp2_with fail
    refine (LN.out w1 b TR.out B1.out (gtab_below G.out B1.out)).mono ?_
    rintro e w2 ⟨rfl, b2⟩
    have B2 := Lib.hid (below_step B1.out (Nat.le_refl _) b2); clear b2
    go_wp2_with fail
    go_ret
    exact ⟨rfl, B2.out⟩
end Go.Proofs.YtfpbhedophlnkaaDoor
