/-
  Contract of spec.l03Width at a scan.
-/
import Derived.Test.YtdkiaahcmoafdaaFind
import Derived.Test.YtdkiaahcmoafdaaKids
import Derived.Test.YtdkiaahcmoafdaaGrowQ
import Derived.Test.YtdkiaahcmoafdaaIWidT
namespace Go.Proofs.Ytdkiaahcmoafdaa
open Go.RowKit
set_option linter.unusedSimpArgs false
set_option linter.unusedVariables false

set_option maxRecDepth 100000 in
set_option maxHeartbeats 4000000 in
theorem wid_t0 (sa : Option Addr) (cs : Nat) (s : List Tb) (ao : Option Addr) (c : Nat) (p : List Nd) (T0 : Tr) (hs : schemaB s = true) (hsl : s.length ≤ 1048576) (hp : p.length ≤ 1048576) (ht : treeN p = some T0) (n : Nd) (pl en : Nat) : ∀ (k : Nat) (w : World), RdT w sa s → RdN w ao p → growT p p.length k = some (Tr.t0 n pl en) → (Tr.t0 n pl en).depth ≤ 10 →
    Calls Try.prog 83 #[.slice sa s.length cs, .slice ao p.length c, .int .i64 k] w fun e w' => e = .returned (.int .i64 (widT (fnOf s) (Tr.t0 n pl en))) ∧ Below w.heap.size w w' := by
  have hf := fnOk_schema hs
  have TS := Lib.hid (told_self s (schemaB_iff.1 hs).2.2)
  intro k w hrs hrp hg hd
  have HG := Lib.hid hg
  obtain ⟨n', hn, hnb, hS⟩ := grow_inv hg
  rcases hS with ⟨hS, ha⟩ | ⟨c', hS, _⟩ | ⟨c', d', hS, _⟩
  case inr.inl => cases hS
  case inr.inr => cases hS
  cases hS
  have hkl : pl < p.length := (List.getElem?_eq_some_iff.1 hn).1
  obtain ⟨b, off, n2, a, c2, rfl, hn2, hat⟩ := hrp.at_ hkl
  obtain rfl : n = n2 := by rw [hn] at hn2; injection hn2
  obtain ⟨c0, c1, c2', c3, c4, c5, c6, rd, cap, mx, nm⟩ := hat
  have RDC := Lib.hid rd
  have hcl : n.cols.length ≤ maxLen := Nat.le_trans cap mx
  clear rd hn2 cap mx
  obtain ⟨W1, hW1⟩ : ∃ W1, W1 = w.alloc (.cells (#[.int .i64 n.kind, .string n.name, .int .i64 n.col, .int .i64 n.op, .int .i64 n.num, .bool n.slot, .slice a n.cols.length c2]) 37) := ⟨_, rfl⟩
  have Z1 := Lib.hid (show W1.heap.size = w.heap.size + 1 by rw [hW1]; simp)
  have A1 := Lib.hid (show Below w.heap.size w W1 by rw [hW1]; exact (Below.refl _ _).alloc (Nat.le_refl _) _)
  have f0 : W1.cell? ⟨w.heap.size, 0, none⟩ = some (.int .i64 n.kind) := by rw [hW1, World.cell?_alloc_new]; rfl
  have f1 : W1.cell? ⟨w.heap.size, 1, none⟩ = some (.string n.name) := by rw [hW1, World.cell?_alloc_new]; rfl
  have f2 : W1.cell? ⟨w.heap.size, 2, none⟩ = some (.int .i64 n.col) := by rw [hW1, World.cell?_alloc_new]; rfl
  have f4 : W1.cell? ⟨w.heap.size, 4, none⟩ = some (.int .i64 n.num) := by rw [hW1, World.cell?_alloc_new]; rfl
  have f6 : W1.cell? ⟨w.heap.size, 6, none⟩ = some (.slice a n.cols.length c2) := by rw [hW1, World.cell?_alloc_new]; rfl
  have OE := Lib.hid (show Own (W1.alloc (.cells #[] 3)) (w.heap.size + 1) 3 .i64 (some ⟨w.heap.size + 1, 0, none⟩) 0 [] by
    have := own_empty (w := W1) (base := W1.heap.size) (e := 3) (k := .i64) (Nat.le_refl _)
    rw [Z1.out] at this; exact this)
  have NE := Lib.hid ((Below.refl W1.heap.size W1).alloc (Nat.le_refl _) (.cells #[] 3))
  have HRS := Lib.hid (hrs.below A1.out); have HRP := Lib.hid (hrp.below A1.out)
  have FIN := Lib.hid (fun w' (hc : Below W1.heap.size W1 w') => (A1.out.trans (hc.mono (by rw [Z1.out]; exact Nat.le_succ _)) : Below w.heap.size w w'))
  have RD1 := Lib.hid (RDC.out.below A1.out)
  have hbw : b < w.heap.size := World.block_lt_of_cell? w ⟨b, off + pl * 7, none⟩ c0
  have HK := Lib.hid (show n.kind = 0 from (growT_nodes p _ _ _ HG.out).2)
  have KO := Lib.hid (show KidsOk p ((pl : Int)).toNat [] by rw [Int.toNat_natCast]; exact ⟨n, hn, .inl ⟨ha, rfl⟩⟩)
  go_enter Try.func83, Try.ntmps83
  go_wp2_with fail
  rw [← hW1]
  refine (specKids_any (some ⟨b, off, none⟩) c p pl [] _ (HRP.out.below NE.out) hp (by omega) (by omega) KO.out).mono ?_
  rintro e w3 ⟨a3, c3', rfl, o3, b3⟩
  have N3 := Lib.hid (below_step NE.out (Nat.le_refl _) b3)
  have OW3 := Lib.hid (OE.out.below b3)
  have e3 := fun o => N3.out.cell (p := ⟨w.heap.size, o, none⟩) (by rw [Z1.out]; exact Nat.lt_succ_self _)
  clear o3 b3
  have g0 := (e3 0).trans f0; have g1 := (e3 1).trans f1
  rw [HK.out] at g0
  clear c0 c1 c2' c3 c4 c5 c6 hW1 f0 f1 f2 f4 f6 e3
  go_wp2_with fail
  refine wp_loop_rounds 1 ?_; rw [rounds_succ]
  go_wp2_with fail
  refine (l03Find_any sa cs s n.name _ (HRS.out.below N3.out) hsl).mono ?_
  rintro e w' ⟨rfl, r, rfl, hr⟩
  rcases hr with ⟨rfl, hno⟩ | ⟨i, t, rfl, hi, hx⟩
  · have E := Lib.hid (show widT (fnOf s) (.t0 n pl (pl + 1)) = -1 by
      unfold widT
      cases hv : fnOf s n.name.data.toList with
      | none => rfl
      | some v =>
        obtain ⟨t, ht, h1, _⟩ := (TS.out.2 _ _).1 hv
        exact absurd h1 (hno t ht))
    clear hno
    go_wp2_with fail
    go_ret
    rw [E.out]
    exact ⟨rfl, FIN.out _ N3.out⟩
  · have E := Lib.hid (show widT (fnOf s) (.t0 n pl (pl + 1)) = t.width by
      unfold widT
      rw [(TS.out.2 n.name.data.toList t.width).2 ⟨t, List.mem_of_getElem? hi, by unfold Tb.key; rw [hx], rfl⟩]; rfl)
    have hil : i < s.length := (List.getElem?_eq_some_iff.1 hi).1
    obtain ⟨bs, os, t', rfl, hi', hat⟩ := (HRS.out.below N3.out).at_ hil
    obtain rfl : t = t' := by rw [hi] at hi'; injection hi'
    obtain ⟨u0, u1, _⟩ := hat
    clear hi hi' hx
    go_wp2_with fail
    go_ret
    rw [E.out]
    exact ⟨rfl, FIN.out _ N3.out⟩
end Go.Proofs.Ytdkiaahcmoafdaa
