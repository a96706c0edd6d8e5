/-
  Contract of rowsOf over two children. Contract of rowsOf at every tree. Contract of slices.ContainsFunc at impl.hasSlot. For every slice of nodes. Plain facts on stores: when lists of rows are a store of a schema. No program, no walk.
-/
import Derived.Test.YtanfllednlpbaaaGreatM42x
import Derived.Test.YtanfllednlpbaaaGreatM41x
import Derived.Test.YtanfllednlpbaaaGreatM24x
import Derived.Test.YtanfllednlpbaaaGreatM9x
import Derived.Test.YtanfllednlpbaaaGreatM35x
namespace Go.Proofs.YtanfllednlpbaaaGreat
open Go.RowKit
set_option linter.unusedSimpArgs false
set_option linter.unusedVariables false
theorem KidAt.mono {z y : Nat → Prop} {w : World} {v : Value} {l : RowsL} (h : KidAt z w v l) (hy : ∀ k, y k → z k) : KidAt y w v l := by
  obtain ⟨Bs, a, c, rfl, h0, h1, h2⟩ := h
  exact ⟨Bs, a, c, rfl, fun h => h0 (hy _ h), h1, h2.mono hy⟩
theorem ownBlock_new {g n c B : Nat} {x : Option Nat} (h : (Value.slice (some ⟨g, 0, none⟩) n c).ownBlock = x ∨ (Value.slice (some ⟨g, 0, none⟩) n c).ownBlock = some B) (hx : x = none) : g = B := by
  subst hx
  rcases h with h | h
  · simp [Value.ownBlock] at h
  · simpa [Value.ownBlock] using h
set_option maxRecDepth 100000 in
set_option maxHeartbeats 12800000 in
theorem rowsOf2_any (w00 : World) (fw : Fn) (f : FnV) (g : Sto) (bm nm sb : Nat) (n : Nd) (pl en : Nat) (c d : Tr) (w : World) (lo hi b N : Nat) (zs : List Int) (IH : IHt w00 bm nm sb f g N lo hi c) (IHd : IHt w00 bm nm sb f g N lo hi d) (h : TrQ w00 w lo hi (.t2 n pl en c d) b) (hh : hi ≤ w.heap.size) (hb0 : Below w00.heap.size w00 w) (hm : OwnMV w bm nm f) (hbm : bm ≠ sb) (hz : SzL w sb zs) (Z : Nat → Prop) (hZs : Z sb) (hZw : ∀ k, Z k → k < w.heap.size) (hZ0 : ∀ k, Z k → w00.heap.size ≤ k) (hlo : sb < lo ∨ hi ≤ sb) (hnb : nodeB n = true) (ha : arity n.kind = 2) (wd we : Int) (hwd : ∀ l, evT g c = some l → AllW wd l ∧ l.length ≤ 200) (hwe : ∀ l, evT g d = some l → AllW we l ∧ l.length ≤ 200) (h64 : wd ≤ 64) (h64' : we ≤ 64) (ho : over2 n wd we ≠ -1) (hu : pl < N) (hNl : zs.length = N) (hN : N ≤ 1048576) :
    Calls Tryz.prog 90 #[.agg #[.map (some bm), .slice (some ⟨sb, 0, none⟩) N N], .pointer (some ⟨b, 0, none⟩)] w (RowsPost Z sb w (evT g (.t2 n pl en c d)) zs (putZ g (.t2 n pl en c d) zs)) := by
  obtain ⟨gr, cap, bc, bd, ⟨hb1, hb2, a, cc, c0, c1, c2, c3, q⟩, hg, g0, g1, tc, td⟩ := h
  have hbw : b < w.heap.size := by omega
  have hgw : gr < w.heap.size := by omega
  have hzw := hz.lt
  have hbz : b ≠ sb := by omega
  have hgz : gr ≠ sb := by omega
  have hwz : w.heap.size ≠ sb := by omega
  obtain ⟨i0, hi0, hz0, hz1, hz2⟩ := info_parts infoFn
  obtain ⟨t, v, hkv⟩ := kindV_iface hnb a cc
  rw [hkv] at c0
  have GA := Lib.hid (fun g' lb L W hz eg h => gather_any Z g' lb L W hz eg h)
  have VAL := Lib.hid (fun a m cap W => callsIn_wide.1 (valuesR_in Fence.wide 1 trivial rfl a m cap W))
  have HN := Lib.hid hNl
  have OV := Lib.hid (show ∀ (W : World) (gb cb : Nat) (kv kv' : Value) (l m : RowsL), (∀ k, Z k → k < W.heap.size) → W.cell? ⟨gb, 0, none⟩ = some kv → W.cell? ⟨gb, 1, none⟩ = some kv' → KidAt Z W kv l → KidAt Z W kv' m → l.length ≤ 200 → m.length ≤ 200 → AllW wd l → AllW we m → Calls Tryz.prog 122 #[.agg #[.map (some bm), .slice (some ⟨sb, 0, none⟩) N N], .iface t v, .slice (some ⟨gb, 0, none⟩) 2 cb] W (OverPost Z W (on2 n l m)) from
    fun W gb cb kv kv' l m h1 h2 h2' h3 h3' h4 h4' h5 h5' => hkv ▸ overTwo_any Z n hnb ha a cc (some bm) (some ⟨sb, 0, none⟩) N N gb cb kv kv' l m W h1 h2 h2' h3 h3' (by omega) (by omega) wd we h5 h5' h64 h64' ho)
  have b0' : Below w.heap.size w (w.alloc (.cells #[.map (some bm), .slice (some ⟨sb, 0, none⟩) N N] 116)) := (Below.refl _ w).alloc (Nat.le_refl _) _
  have IH1 := Lib.hid (IH Z (w.alloc (.cells #[.map (some bm), .slice (some ⟨sb, 0, none⟩) N N] 116)) bc zs hZs (fun k hk => Nat.lt_of_lt_of_le (hZw k hk) b0'.size) hZ0 (tc.sg (z := fun k => k = sb) (SG.of b0') hh (by rintro k rfl; exact hlo)) (Nat.le_trans hh b0'.size) (hb0.trans (b0'.mono hb0.size)) (hm.below b0') (hz.below b0') hNl)
  have IH2 := Lib.hid IHd
  have TD := Lib.hid td
  have OM := Lib.hid hm
  have HW := Lib.hid hwd
  have HE := Lib.hid hwe
  have HB00 := Lib.hid hb0
  clear IH IHd tc td hm hz hkv hnb ha q hb0 ho hwd hwe hNl b0' h64 h64'
  go_enter Tryz.func90, Tryz.ntmps90
  go_wp2_with fail
  refine wp_loop_rounds 3 ?_; rw [rounds_succ]
  go_wp2_with fail
  obtain ⟨v0, hv0⟩ : ∃ v0, (w.alloc (.cells #[.map (some bm), .slice (some ⟨sb, 0, none⟩) N N] 116)) = v0 := ⟨_, rfl⟩
  have b0 : Below w.heap.size w v0 := by rw [← hv0]; exact (Below.refl _ w).alloc (Nat.le_refl _) _
  have m0 : v0.cell? ⟨w.heap.size, 0, none⟩ = some (.map (some bm)) := by rw [← hv0]; simp [go_sem]
  have m1 : v0.cell? ⟨w.heap.size, 1, none⟩ = some (.slice (some ⟨sb, 0, none⟩) N N) := by rw [← hv0]; simp [go_sem]
  have s0 : v0.heap.size = w.heap.size + 1 := by rw [← hv0]; simp
  rw [hv0] at IH1 ⊢
  have d0 := (b0.cell (p := ⟨b, 0, none⟩) hbw).trans c0
  have d1 := (b0.cell (p := ⟨b, 1, none⟩) hbw).trans c1
  have d2 := (b0.cell (p := ⟨gr, 1, none⟩) hgw).trans g1
  have V0 := Lib.hid (SG.of (z := fun k => k = sb) b0)
  have S0' := Lib.hid s0
  clear hv0 b0 c0 c1 c2 c3 g0 g1 s0
  refine IH1.out.mono ?_
  rintro e w1 ⟨cv, ok, rfl, sg1, res⟩
  have V1 := Lib.hid (V0.out.trans sg1)
  have n0 := sg1.cell (p := ⟨w.heap.size, 0, none⟩) hwz m0
  have n1 := sg1.cell (p := ⟨w.heap.size, 1, none⟩) hwz m1
  have e0 := sg1.cell (p := ⟨b, 0, none⟩) hbz d0
  have e1 := sg1.cell (p := ⟨b, 1, none⟩) hbz d1
  have e2 := sg1.cell (p := ⟨gr, 1, none⟩) hgz d2
  have HS1 := Lib.hid sg1.size
  clear sg1 m0 m1 d0 d1 d2 IH1
  rcases res with ⟨l, hl, rfl, ⟨ca, cc', rfl, hrd⟩, hsz⟩ | ⟨hl, rfl, rfl, zs'', hzl, hsz⟩
  · obtain ⟨haw, hl2⟩ := HW.out l hl
    have HL := Lib.hid hl
    have RD := Lib.hid hrd
    have SZ1 := Lib.hid hsz
    have AW := Lib.hid haw
    clear hl hrd hsz haw
    go_wp2_with (first
      | (go_at_call 57; refine (VAL.out _ _ _ _).mono ?_; rintro e w2 ⟨rfl, hw2⟩; have b2 := (show Below w1.heap.size w1 w2 by rw [hw2]; exact (Below.refl _ _).alloc (Nat.le_refl _) _); have f0 := (show w2.cell? ⟨w1.heap.size, 0, none⟩ = some (.slice ca l.length cc') by rw [hw2]; simp); have B2 := Lib.hid b2; have F0 := Lib.hid f0; clear hw2 b2 f0)
      | (at_builtin; go_must (refine wpList_append_own_at _ rfl (.tmp 30) (.tmp 33) 145 rfl w.heap.size 82 i0 .nilFunc 1 8 Tryz.underlying145 hi0 hz0 hz1 hz2 rfl (by decide) _ 0 [] rfl (World.ownsRow_nil _ _ _ _) ⟨w2.heap.size, 0, none⟩ 1 1 [.func (.func 106) #[] #[.pointer (some ⟨w1.heap.size, 0, none⟩)]] rfl rfl (cell_one_new _ _ _) (by simp [Value.oneCell']) (by unfold maxLen; omega) (by omega) (by have := V1.out.size; have := B2.out.size; simp; omega) ?_; intro x4 p0 hown' hgrow _ hnew; obtain ⟨g', cap', rfl⟩ := ownsRow_succ hown'; have B4 := Lib.hid (((Below.refl w2.heap.size w2).alloc (Nat.le_refl _) _).grown hgrow (by simp) (by intro q hq; cases hq)); have K0 := Lib.hid (World.ownsRow.cellAt hown' 0 (by omega)); have OW := Lib.hid hown'; have GB := Lib.hid (show w2.heap.size < g' by have := ownBlock_new hnew rfl; simp at this; omega); clear hown' hgrow hnew)))
    have U1 := Lib.hid (B2.out.trans (B4.out.mono B2.out.size))
    have WP := Lib.hid (V1.out.trans (SG.of U1.out))
    have lt1 := V1.out.size
    have hw1 : w.heap.size < w1.heap.size := by have := HS1.out; have := S0'.out; omega
    have hg'z : g' ≠ sb := by have := GB.out; have := B2.out.size; omega
    have o0 := (U1.out.cell (p := ⟨w.heap.size, 0, none⟩) hw1).trans n0
    have o1 := (U1.out.cell (p := ⟨w.heap.size, 1, none⟩) hw1).trans n1
    have o2 := (U1.out.cell (p := ⟨b, 0, none⟩) (by show b < _; omega)).trans e0
    have o3 := (U1.out.cell (p := ⟨b, 1, none⟩) (by show b < _; omega)).trans e1
    have o4 := (U1.out.cell (p := ⟨gr, 1, none⟩) (by show gr < _; omega)).trans e2
    have hg'p : g' < p0.heap.size := World.block_lt_of_cell? p0 _ K0.out
    have IH3 := Lib.hid (IH2.out (fun k => Z k ∨ k = g') p0 bd (putZ g c zs) (.inl hZs) (by
        rintro k (hk | rfl)
        · exact Nat.lt_of_lt_of_le (hZw k hk) WP.out.size
        · exact hg'p) (by
        rintro k (hk | rfl)
        · exact hZ0 k hk
        · have := GB.out; have := B2.out.size; have := HB00.out.size; omega)
      (TD.out.sg WP.out hh (by rintro k rfl; exact hlo)) (Nat.le_trans hh WP.out.size) (WP.out.below HB00.out (by rintro k rfl; exact hZ0 _ hZs)) (WP.out.own OM.out hbm) (SZ1.out.below U1.out) (by rw [putZ_len, HN.out]))
    clear n0 n1 e0 e1 e2 IH2
    rw [rounds_succ]
    go_wp2_with fail
    refine IH3.out.mono ?_
    rintro e w5 ⟨cv2, ok2, rfl, sg2, res2⟩
    have V5 := Lib.hid (WP.out.trans sg2)
    have r0 := sg2.cell (p := ⟨w.heap.size, 0, none⟩) hwz o0
    have r1 := sg2.cell (p := ⟨w.heap.size, 1, none⟩) hwz o1
    have r2 := sg2.cell (p := ⟨b, 0, none⟩) hbz o2
    have r3 := sg2.cell (p := ⟨b, 1, none⟩) hbz o3
    have OW5 := Lib.hid (OW.out.kept (w' := w5) (row := some sb) ⟨sg2.os, sg2.tape, sg2.output, sg2.size, fun k hk hn => sg2.block k hk (fun e => hn (by rw [e]))⟩ (.inr (by simp [Value.ownBlock]; exact hg'z)))
    have SG2 := Lib.hid sg2
    clear o0 o1 o2 o3 o4 IH3 sg2
    rcases res2 with ⟨m, hm, rfl, ⟨ca2, cc2, rfl, hrd2⟩, hsz2⟩ | ⟨hm, rfl, rfl, zs'', hzl, hsz2⟩
    · obtain ⟨haw2, hm2⟩ := HE.out m hm
      have HM := Lib.hid hm
      have RD2 := Lib.hid hrd2
      have SZ2 := Lib.hid hsz2
      have AW2 := Lib.hid haw2
      clear hm hrd2 hsz2 haw2
      go_wp2_with (first
        | (go_at_call 57; refine (VAL.out _ _ _ _).mono ?_; rintro e w6 ⟨rfl, hw2⟩; have b2 := (show Below w5.heap.size w5 w6 by rw [hw2]; exact (Below.refl _ _).alloc (Nat.le_refl _) _); have f0 := (show w6.cell? ⟨w5.heap.size, 0, none⟩ = some (.slice ca2 m.length cc2) by rw [hw2]; simp); have B6 := Lib.hid b2; have F6 := Lib.hid f0; clear hw2 b2 f0; have OW6 := Lib.hid (OW5.out.kept (w' := w6) (row := none) ⟨B6.out.os, B6.out.tape, B6.out.output, B6.out.size, fun k hk _ => B6.out.block k hk⟩ (.inr (by simp [Value.ownBlock]))); have WW6 := Lib.hid (V5.out.trans (SG.of B6.out)))
        | (at_builtin; go_must (refine wpList_append_own_at _ rfl (.tmp 30) (.tmp 33) 145 rfl w.heap.size 82 i0 .nilFunc 1 8 Tryz.underlying145 hi0 hz0 hz1 hz2 rfl (by decide) _ (0 + 1) ([] ++ [.func (.func 106) #[] #[.pointer (some ⟨w1.heap.size, 0, none⟩)]]) rfl (OW6.out.alloc _) ⟨w6.heap.size, 0, none⟩ 1 1 [.func (.func 106) #[] #[.pointer (some ⟨w5.heap.size, 0, none⟩)]] rfl rfl (cell_one_new _ _ _) (by simp [Value.oneCell']) (by unfold maxLen; omega) (by omega) (by have := WW6.out.size; simp; omega) ?_; intro x8 u0 hown' hgrow _ hnew; obtain ⟨g2, cap2, rfl⟩ := ownsRow_succ hown'; have K1 := Lib.hid (World.ownsRow.cellAt hown' 0 (by omega)); have K2 := Lib.hid (World.ownsRow.cellAt hown' 1 (by omega)); have GR := Lib.hid hgrow; clear hown' hgrow hnew)))
      have A6 := Lib.hid ((Below.refl w6.heap.size w6).alloc (Nat.le_refl _) (.cells #[.func (.func 106) #[] #[.pointer (some ⟨w5.heap.size, 0, none⟩)]] 82))
      have GRr : ∀ gg, (Value.slice (some ⟨g', 0, none⟩) (0 + 1) cap').ownBlock = some gg → gg = g' := fun gg h => by simpa [Value.ownBlock] using h.symm
      have X2 := Lib.hid ((((SG.of (z := fun k => k = sb) B4.out).trans SG2.out).trans (SG.of (B6.out.trans (A6.out.mono B6.out.size)))).row GR.out (fun gg h => by rw [GRr gg h]; exact Nat.le_of_lt GB.out))
      have X1 := Lib.hid ((SG.of (z := fun k => k = sb) B2.out).trans X2.out)
      have W0 := Lib.hid (V1.out.trans X1.out)
      have hw5 : w.heap.size < w5.heap.size := Nat.lt_of_lt_of_le hw1 (Nat.le_trans U1.out.size SG2.out.size)
      have X5 : ∀ (p : Addr) (v : Value), p.block ≠ g' → w5.cell? p = some v → u0.cell? p = some v := fun p v hp hc => by
        have hl := World.block_lt_of_cell? w5 p hc
        have h6 := (B6.out.cell (p := p) hl).trans hc
        have hl6 := World.block_lt_of_cell? w6 p h6
        have h7 := (A6.out.cell (p := p) hl6).trans h6
        exact (World.cell?_of_block (GR.out.block _ (World.block_lt_of_cell? _ p h7) (fun e => hp (GRr _ e.symm)))).trans h7
      have gb := GB.out
      have b2s := B2.out.size
      have m1 := X5 ⟨w.heap.size, 1, none⟩ _ (by show w.heap.size ≠ g'; omega) r1
      have m0 := X5 ⟨w.heap.size, 0, none⟩ _ (by show w.heap.size ≠ g'; omega) r0
      have t0 := X5 ⟨b, 0, none⟩ _ (by show b ≠ g'; omega) r2
      have t1 := X5 ⟨b, 1, none⟩ _ (by show b ≠ g'; omega) r3
      have hsu : w5.heap.size ≤ u0.heap.size := by have h1 := B6.out.size; have h2 := A6.out.size; have h3 := GR.out.size; omega
      have S0 := Lib.hid (show w.heap.size < u0.heap.size from Nat.lt_of_lt_of_le hw5 hsu)
      have U0 := Lib.hid ((Below.refl u0.heap.size u0).drew)
      have hkid1 : KidAt Z u0 (.func (.func 106) #[] #[.pointer (some ⟨w1.heap.size, 0, none⟩)]) l :=
        KidAt.grown (w := w2) ⟨_, ca, cc', rfl, fun h => by have := hZw _ h; omega, F0.out, RD.out.below B2.out⟩ (X2.out.mono (by rintro k rfl; exact hZs))
      have hkid2 : KidAt Z u0 (.func (.func 106) #[] #[.pointer (some ⟨w5.heap.size, 0, none⟩)]) m := by
        refine KidAt.mono (z := fun k => Z k ∨ k = g') (KidAt.grown (w := w6) ⟨_, ca2, cc2, rfl, ?_, F6.out, RD2.out.below B6.out⟩ ?_) (fun k hk => .inl hk)
        · rintro (h | h)
          · have := hZw _ h; omega
          · have := SG2.out.size; omega
        · refine ⟨GR.out.os.trans A6.out.os, GR.out.tape.trans A6.out.tape, GR.out.output.trans A6.out.output, Nat.le_trans A6.out.size GR.out.size, fun k hk hn => ?_⟩
          exact (GR.out.block k (Nat.lt_of_lt_of_le hk A6.out.size) (fun e => hn (.inr (GRr _ e.symm)))).trans (A6.out.block k hk)
      have hk0 : u0.cell? ⟨g2, 0, none⟩ = some (.func (.func 106) #[] #[.pointer (some ⟨w1.heap.size, 0, none⟩)]) := K1.out
      have hk1 : u0.cell? ⟨g2, 1, none⟩ = some (.func (.func 106) #[] #[.pointer (some ⟨w5.heap.size, 0, none⟩)]) := K2.out
      have hg'u : g2 < u0.heap.size := World.block_lt_of_cell? u0 _ hk0
      have RO := Lib.hid (show ∀ W, Below u0.heap.size u0 W → Calls Tryz.prog 122 #[.agg #[.map (some bm), .slice (some ⟨sb, 0, none⟩) N N], .iface t v, .slice (some ⟨g2, 0, none⟩) 2 cap2] W (OverPost Z W (on2 n l m)) from
        fun W hW => OV.out W g2 cap2 _ _ l m (fun k hk => Nat.lt_of_lt_of_le (hZw k hk) (Nat.le_trans W0.out.size hW.size)) ((hW.cell (p := ⟨g2, 0, none⟩) hg'u).trans hk0) ((hW.cell (p := ⟨g2, 1, none⟩) hg'u).trans hk1) (hkid1.below hW) (hkid2.below hW) hl2 hm2 AW.out AW2.out)
      have EV := Lib.hid (show evT g (.t2 n pl en c d) = few (on2 n l m) by show (match evT g c with | none => none | some l => match evT g d with | none => none | some m => few (on2 n l m)) = _; rw [HL.out]; simp only; rw [HM.out])
      have HZ := Lib.hid (show SzL u0 sb (putZ g d (putZ g c zs)) from by
        have h6 := (SZ2.out.below B6.out).below A6.out
        exact World.rowIs.of_block h6 (GR.out.block _ h6.lt (fun e => hg'z (GRr _ e.symm).symm)))
      have HNZ := Lib.hid (show (putZ g d (putZ g c zs)).length = N by rw [putZ_len, putZ_len, HN.out])
      have PZ := Lib.hid (show putZ g (.t2 n pl en c d) zs = (putZ g d (putZ g c zs)).set pl (sizN g (.t2 n pl en c d)) from rfl)
      generalize putZ g d (putZ g c zs) = ZS at HZ HNZ PZ
      generalize on2 n l m = L at RO EV
      clear r0 r1 r2 r3 hkid1 hkid2 hk0 hk1 hg'u hw1 hw5 lt1 hl2 hm2 X5 hsu gb b2s GRr hg'p
      rw [rounds_succ]
      go_wp2_with fail
      go_region_with (first
        | (go_at_call 122; refine (RO.out _ U0.out).mono ?_; rintro e w2 ⟨gg, lb, rfl, hb2, hen, hseq⟩; have U2 := Lib.hid (below_step U0.out (Nat.le_refl _) hb2); have EN := Lib.hid hen; have SQ := Lib.hid hseq; clear hb2 hen hseq)
        | (go_at_call 121; refine (GA.out _ _ _ _ (fun k hk => Nat.lt_of_lt_of_le (hZw k hk) (Nat.le_trans W0.out.size U2.out.size)) EN.out SQ.out).mono ?_; rintro e w3 ⟨gv, ok, rfl, hb3, hres⟩; have U3 := Lib.hid (below_step U2.out (Nat.le_refl _) hb3); have RS := Lib.hid hres; clear hb3 hres))
      all_goals (
        have SZ3 := HZ.out.below U3.out
        have W3 := Lib.hid (W0.out.trans (SG.of U3.out))
        have x0 := (U3.out.cell (p := ⟨w.heap.size, 1, none⟩) (by show w.heap.size < _; exact S0.out)).trans m1
        have x1 := (U3.out.cell (p := ⟨b, 1, none⟩) (by show b < _; exact Nat.lt_of_lt_of_le hbw W0.out.size)).trans t1
        have x2 := World.rowIs.cell SZ3 (i := pl) (by rw [HNZ.out]; exact hu)
        have x3 := World.rowIs.frozen SZ3 pl
        have SZ := Lib.hid SZ3
        clear SZ3
        generalize ZS.getD pl 0 = old at x2
        rcases RS.out with ⟨hfew, rfl, aa, ac, rfl, hrd⟩ | ⟨hfew, rfl, rfl⟩
        · have RD := Lib.hid hrd
          have FW := Lib.hid hfew
          clear hrd hfew RS
          go_wp2_with fail
          go_region_with (fail)
          all_goals (
            go_wp2_with fail
            first | go_ret | go_ret2 | go_end0
            have SD : SG (fun k => k = sb) w (w3.drew.setCell ⟨sb, pl, none⟩ (.int .i64 (L.length : Int))) := (W3.out.trans (SG.of (Below.refl _ _).drew)).trans (SG.set (z := fun k => k = sb) (s := sb) rfl _ _ _)
            have HE : evT g (.t2 n pl en c d) = some L := by rw [EV.out, FW.out]
            refine ⟨_, true, rfl, SD, .inl ⟨L, HE, rfl, ⟨aa, ac, rfl, (RD.out.below (Below.refl _ _).drew).grown (SG.set hZs _ _ _)⟩, ?_⟩⟩
            rw [PZ.out, sizN_of HE]
            exact (SZ.out.below (Below.refl _ _).drew).set (by rw [HNZ.out]; exact hu) _)
        · have FW := Lib.hid hfew
          clear hfew RS
          go_wp2_with fail
          go_region_with (fail)
          all_goals (
            go_wp2_with fail
            first | go_ret | go_ret2 | go_end0
            have SD : SG (fun k => k = sb) w (w3.drew.setCell ⟨sb, pl, none⟩ (.int .i64 0)) := (W3.out.trans (SG.of (Below.refl _ _).drew)).trans (SG.set (z := fun k => k = sb) (s := sb) rfl _ _ _)
            have HE : evT g (.t2 n pl en c d) = none := by rw [EV.out, FW.out]
            exact ⟨_, false, rfl, SD, .inr ⟨HE, rfl, rfl, _, by rw [List.length_set, HNZ.out, HN.out], (SZ.out.below (Below.refl _ _).drew).set (by rw [HNZ.out]; exact hu) _⟩⟩))
    · have HM := Lib.hid hm
      have SZ2 := Lib.hid hsz2
      have ZL := Lib.hid hzl
      clear hm hsz2 hzl
      go_wp2_with fail
      first | go_ret | go_ret2 | go_end0
      exact ⟨_, false, rfl, V5.out, .inr ⟨by show (match evT g c with | none => none | some l => match evT g d with | none => none | some m => few (on2 n l m)) = _; rw [HL.out]; simp only; rw [HM.out], rfl, rfl, zs'', by rw [ZL.out, putZ_len], SZ2.out⟩⟩
  · have HL := Lib.hid hl
    have SZ1 := Lib.hid hsz
    have ZL := Lib.hid hzl
    clear hl hsz hzl
    go_wp2_with fail
    first | go_ret | go_ret2 | go_end0
    exact ⟨_, false, rfl, V1.out, .inr ⟨by show (match evT g c with | none => none | some l => match evT g d with | none => none | some m => few (on2 n l m)) = _; rw [HL.out], rfl, rfl, zs'', ZL.out, SZ1.out⟩⟩
theorem StoX.wide {w0 : World} {fw : Fn} {f : FnV} {g : Sto} (S : StoX w0 fw f g) : WideSto fw g := fun k v hv => by
  obtain ⟨_, _, _, _, h, _⟩ := S.at_ k v hv
  exact h
theorem rowsOf_all (w00 : World) (fw : Fn) (f : FnV) (g : Sto) (S : StoX w00 fw f g) (bm nm sb N lo hi : Nat) (hbm : bm ≠ sb) (hlo : sb < lo ∨ hi ≤ sb) (hN : N ≤ 1048576) : ∀ T : Tr, T.nodes → T.under N → widT fw T ≠ -1 → IHt w00 bm nm sb f g N lo hi T := by
  intro T
  induction T with
  | t0 n pl en =>
    intro hn hu hw Z W b zs hZs hZw hZ0 h hh hb0 hm hz hl
    subst hl
    exact rowsOf0_any w00 fw f g S bm nm sb n pl en W lo hi b zs h hh hb0 hm hz Z hZs hZw hZ0 hn.1 hn.2 hw hu hN
  | t1 n pl en c ih =>
    intro hn hu hw Z W b zs hZs hZw hZ0 h hh hb0 hm hz hl
    have e : widT fw (.t1 n pl en c) = if widT fw c = -1 then -1 else over1 n (widT fw c) := rfl
    rw [e] at hw
    by_cases hc : widT fw c = -1
    · rw [if_pos hc] at hw; exact absurd rfl hw
    · rw [if_neg hc] at hw
      exact rowsOf1_any w00 fw f g bm nm sb n pl en c W lo hi b N zs (ih hn.2 hu.2 hc) h hh hb0 hm hbm hz Z hZs hZw hZ0 hlo hn.1.1 hn.1.2 (widT fw c) (evT_w S.wide c hn.2 hc) hw hu.1 hl hN
  | t2 n pl en c d ihc ihd =>
    intro hn hu hw Z W b zs hZs hZw hZ0 h hh hb0 hm hz hl
    have e : widT fw (.t2 n pl en c d) = if widT fw c = -1 then -1 else if widT fw d = -1 then -1 else over2 n (widT fw c) (widT fw d) := rfl
    rw [e] at hw
    by_cases hc : widT fw c = -1
    · rw [if_pos hc] at hw; exact absurd rfl hw
    · rw [if_neg hc] at hw
      by_cases hd : widT fw d = -1
      · rw [if_pos hd] at hw; exact absurd rfl hw
      · rw [if_neg hd] at hw
        have h1 : widT fw c ≤ 64 := by rcases widT_wide S.ok c hn.2.1 with h | ⟨_, h⟩; exact absurd h hc; exact h
        have h2 : widT fw d ≤ 64 := by rcases widT_wide S.ok d hn.2.2 with h | ⟨_, h⟩; exact absurd h hd; exact h
        exact rowsOf2_any w00 fw f g bm nm sb n pl en c d W lo hi b N zs (ihc hn.2.1 hu.2.1 hc) (ihd hn.2.2 hu.2.2 hd) h hh hb0 hm hbm hz Z hZs hZw hZ0 hlo hn.1.1 hn.1.2 (widT fw c) (widT fw d) (evT_w S.wide c hn.2.1 hc) (evT_w S.wide d hn.2.2 hd) h1 h2 hw hu.1 hl hN
set_option maxRecDepth 100000 in
theorem hasSlot_any (n : Nd) (a : Option Addr) (c : Nat) (w : World) : Calls Tryz.prog 89 #[.agg #[.int .i64 n.kind, .string n.name, .int .i64 n.col, .int .i64 n.op, .int .i64 n.num, .bool n.slot, .slice a n.cols.length c]] w fun e w' => e = .returned (.bool n.slot) ∧ Below w.heap.size w w' := by
  go_enter Tryz.func89, Tryz.ntmps89
  go_wp2
  go_ret
  exact ⟨rfl, (Below.refl _ _).alloc (Nat.le_refl _) _⟩
set_option maxRecDepth 100000 in
set_option maxHeartbeats 1600000 in
theorem indexSlot_any (ao : Option Addr) (c : Nat) (p : List Nd) (w : World) (h : RdN w ao p) (hp : p.length ≤ 1048576) :
    Calls Tryz.prog 120 #[.slice ao p.length c, .func (.func 89) #[] #[]] w fun e w' => ∃ r : Int, e = .returned (.int .i64 r) ∧ ((0 ≤ r ∧ p.any (fun n => n.slot) = true) ∨ (r = -1 ∧ p.any (fun n => n.slot) = false)) ∧ Below w.heap.size w w' := by
  have H := Lib.hid h
  have HS := Lib.hid (fun n a c W => hasSlot_any n a c W)
  clear h
  go_enter Tryz.func120, Tryz.ntmps120
  go_wp2_with fail
  go_loopw [8] (fun i wr => ∃ k : Nat, k ≤ p.length ∧ i = .int .i64 k ∧ (∀ n ∈ p.take k, n.slot = false) ∧ Below w.heap.size w wr) (fun i _ => p.length - (intOf i).toNat)
  case atStart => exact ⟨0, Nat.zero_le _, rfl, fun n hn => by simp at hn, Below.refl _ _⟩
  case round =>
    obtain ⟨k, hk, rfl, hno, hb⟩ := hrel
    have NO := Lib.hid hno
    have HB := Lib.hid hb
    clear hno
    by_cases hlt : k < p.length
    · obtain ⟨n, hn⟩ : ∃ n, p[k]? = some n := ⟨_, List.getElem?_eq_getElem hlt⟩
      rcases H.out with h0 | ⟨b, off, rfl, hc⟩
      · rw [h0] at hlt; cases hlt
      · obtain ⟨a, c', hat⟩ := hc k n hn
        have hbl : b < w.heap.size := World.block_lt_of_cell? w _ hat.c0
        have q0 := (hb.cell (p := ⟨b, off + k * 7, none⟩) hbl).trans hat.c0
        have q1 := (hb.cell (p := ⟨b, off + k * 7 + 1, none⟩) hbl).trans hat.c1
        have q2 := (hb.cell (p := ⟨b, off + k * 7 + 2, none⟩) hbl).trans hat.c2
        have q3 := (hb.cell (p := ⟨b, off + k * 7 + 3, none⟩) hbl).trans hat.c3
        have q4 := (hb.cell (p := ⟨b, off + k * 7 + 4, none⟩) hbl).trans hat.c4
        have q5 := (hb.cell (p := ⟨b, off + k * 7 + 5, none⟩) hbl).trans hat.c5
        have q6 := (hb.cell (p := ⟨b, off + k * 7 + 6, none⟩) hbl).trans hat.c6
        have HN := Lib.hid hn
        clear hc hat hb hn
        cases hsl : n.slot with
        | true =>
          have HT := Lib.hid (show p.any (fun n => n.slot) = true from List.any_eq_true.2 ⟨n, List.mem_of_getElem? HN.out, hsl⟩)
          have HSn := Lib.hid (show ∀ W, Calls Tryz.prog 89 #[.agg #[.int .i64 n.kind, .string n.name, .int .i64 n.col, .int .i64 n.op, .int .i64 n.num, .bool n.slot, .slice a n.cols.length c']] W fun e w' => e = .returned (.bool true) ∧ Below W.heap.size W w' from fun W => by have := HS.out n a c' W; rw [hsl] at this ⊢; exact this)
          rw [hsl] at q5 HSn
          clear hsl
          go_wp2_with (go_at_call 89; refine (HSn.out _).mono ?_; rintro e w1 ⟨rfl, b1⟩; have B1 := Lib.hid (below_step HB.out (Nat.le_refl _) b1); clear b1)
          go_ret
          exact ⟨_, rfl, .inl ⟨by omega, HT.out⟩, B1.out⟩
        | false =>
          have NX := Lib.hid (show ∀ m ∈ p.take (k + 1), m.slot = false from fun m hm => by
            rw [List.take_add_one, HN.out] at hm
            rcases List.mem_append.1 hm with hm | hm
            · exact NO.out m hm
            · simp at hm; subst hm; exact hsl)
          have HSn := Lib.hid (show ∀ W, Calls Tryz.prog 89 #[.agg #[.int .i64 n.kind, .string n.name, .int .i64 n.col, .int .i64 n.op, .int .i64 n.num, .bool n.slot, .slice a n.cols.length c']] W fun e w' => e = .returned (.bool false) ∧ Below W.heap.size W w' from fun W => by have := HS.out n a c' W; rw [hsl] at this ⊢; exact this)
          rw [hsl] at q5 HSn
          clear hsl
          go_wp2_with (go_at_call 89; refine (HSn.out _).mono ?_; rintro e w1 ⟨rfl, b1⟩; have B1 := Lib.hid (below_step HB.out (Nat.le_refl _) b1); clear b1)
          go_roundw
          case rel => exact ⟨k + 1, by omega, by simp, NX.out, B1.out⟩
          case measure => simp [intOf]; omega
    · obtain rfl : k = p.length := by omega
      clear hb
      go_wp2_with fail
      go_ret
      refine ⟨_, rfl, .inr ⟨rfl, List.any_eq_false.2 fun n hn => ?_⟩, HB.out⟩
      rw [NO.out n (by rw [List.take_length]; exact hn)]; simp
theorem anySlot_any (ao : Option Addr) (c : Nat) (p : List Nd) (w : World) (h : RdN w ao p) (hp : p.length ≤ 1048576) :
    Calls Tryz.prog 88 #[.slice ao p.length c, .func (.func 89) #[] #[]] w fun e w' => e = .returned (.bool (p.any (fun n => n.slot))) ∧ Below w.heap.size w w' := by
  have IX := Lib.hid (indexSlot_any ao c p w h hp)
  clear h hp
  generalize p.any (fun n => n.slot) = r at IX ⊢
  generalize p.length = m at IX ⊢
  go_enter Tryz.func88, Tryz.ntmps88
  go_wp2_with fail
  refine IX.out.mono ?_
  rintro e w1 ⟨x, rfl, hx, b1⟩
  have B1 := Lib.hid b1
  clear b1
  rcases hx with ⟨h1, rfl⟩ | ⟨rfl, rfl⟩
  · go_wp2_with fail
    go_ret
    exact ⟨ret_bool (by first | (simp; done) | (simp; omega)), B1.out⟩
  · go_wp2_with fail
    go_ret
    exact ⟨ret_bool (by simp), B1.out⟩
def valB (x : Int) : Bool := numI x || (x == -2000000)
def rowsB (wd : Int) (l : List (List Int)) : Bool := decide (l.length ≤ 40) && l.all fun r => decide ((r.length : Int) = wd) && r.all valB
def fitsB : List Tb → List (List (List Int)) → Bool
  | [], [] => true
  | t :: s, r :: l => rowsB t.width r && fitsB s l
  | _, _ => false
def storeB (s : List Tb) (l : List (List (List Int))) : Bool := schemaB s && fitsB s l
theorem fitsB_len : ∀ (s : List Tb) (l : List (List (List Int))), s.length ≠ l.length → fitsB s l = false
  | [], [], h => absurd rfl h
  | [], _ :: _, _ => rfl
  | _ :: _, [], _ => rfl
  | t :: s, r :: l, h => by simp only [fitsB]; rw [fitsB_len s l (by simpa using h)]; simp
theorem fitsB_no : ∀ (s : List Tb) (l : List (List (List Int))) (j : Nat) (t : Tb) (r : List (List Int)), s[j]? = some t → l[j]? = some r → rowsB t.width r = false → fitsB s l = false
  | [], _, j, t, r, h, _, _ => by simp at h
  | _ :: _, [], j, t, r, _, h, _ => by simp at h
  | t' :: s, r' :: l, 0, t, r, ht, hr, h => by simp at ht hr; subst ht hr; simp [fitsB, h]
  | t' :: s, r' :: l, j + 1, t, r, ht, hr, h => by simp at ht hr; simp [fitsB, fitsB_no s l j t r ht hr h]
theorem fitsB_yes : ∀ (s : List Tb) (l : List (List (List Int))), s.length = l.length → (∀ (j : Nat) (t : Tb) (r : List (List Int)), s[j]? = some t → l[j]? = some r → rowsB t.width r = true) → fitsB s l = true
  | [], [], _, _ => rfl
  | [], _ :: _, h, _ => by simp at h
  | _ :: _, [], h, _ => by simp at h
  | t :: s, r :: l, h, hh => by
    simp only [fitsB]
    rw [hh 0 t r rfl rfl, fitsB_yes s l (by simpa using h) fun j x y hx hy => hh (j + 1) x y hx hy]; rfl
theorem storeB_schema {s : List Tb} {l : List (List (List Int))} (h : schemaB s = false) : storeB s l = false := by simp [storeB, h]
theorem storeB_len {s : List Tb} {l : List (List (List Int))} (h : l.length ≠ s.length) : storeB s l = false := by simp [storeB, fitsB_len s l (Ne.symm h)]
theorem storeB_no {s : List Tb} {l : List (List (List Int))} {j : Nat} {t : Tb} {r : List (List Int)} (ht : s[j]? = some t) (hr : l[j]? = some r) (h : rowsB t.width r = false) : storeB s l = false := by
  simp [storeB, fitsB_no s l j t r ht hr h]
def FitTo (s : List Tb) (l : List (List (List Int))) (j : Nat) : Prop := ∀ (i : Nat) (t : Tb) (r : List (List Int)), i < j → s[i]? = some t → l[i]? = some r → rowsB t.width r = true
theorem FitTo.zero {s : List Tb} {l : List (List (List Int))} : FitTo s l 0 := fun _ _ _ h => absurd h (Nat.not_lt_zero _)
theorem FitTo.next {s : List Tb} {l : List (List (List Int))} {j : Nat} {t : Tb} {r : List (List Int)} (h : FitTo s l j) (ht : s[j]? = some t) (hr : l[j]? = some r) (hh : rowsB t.width r = true) : FitTo s l (j + 1) := by
  intro i t' r' hi ht' hr'
  by_cases hij : i = j
  · subst hij; rw [ht] at ht'; rw [hr] at hr'; cases ht'; cases hr'; exact hh
  · exact h i t' r' (by omega) ht' hr'
theorem FitTo.all {s : List Tb} {l : List (List (List Int))} {j : Nat} (h : FitTo s l j) (hj : s.length ≤ j) (hs : schemaB s = true) (hl : l.length = s.length) : storeB s l = true := by
  unfold storeB
  rw [hs, fitsB_yes s l hl.symm fun i t r ht hr => h i t r (by have := lt_of_get ht; omega) ht hr]; rfl
def rowB (wd : Int) (r : List Int) : Bool := decide ((r.length : Int) = wd) && r.all valB
theorem rowsB_big {wd : Int} {l : List (List Int)} (h : 40 < l.length) : rowsB wd l = false := by
  unfold rowsB
  have : ¬ l.length ≤ 40 := by omega
  simp [this]
theorem rowsB_no {wd : Int} {l : List (List Int)} {j : Nat} {r : List Int} (hr : l[j]? = some r) (h : rowB wd r = false) : rowsB wd l = false := by
  unfold rowsB
  have : (l.all fun r => decide ((r.length : Int) = wd) && r.all valB) = false := by
    rw [List.all_eq_false]
    exact ⟨r, List.mem_of_getElem? hr, by unfold rowB at h; rw [h]; simp⟩
  rw [this]; simp
theorem rowsB_yes {wd : Int} {l : List (List Int)} {j : Nat} (h : l.length ≤ 40) (hj : l.length ≤ j) (hh : ∀ r ∈ l.take j, rowB wd r = true) : rowsB wd l = true := by
  unfold rowsB
  have h1 : (l.all fun r => decide ((r.length : Int) = wd) && r.all valB) = true := by
    rw [List.all_eq_true]
    intro r hr
    have := hh r (by rw [List.take_of_length_le hj]; exact hr)
    unfold rowB at this; exact this
  rw [h1]; simp [h]
theorem rowB_len {wd : Int} {r : List Int} (h : ¬ (r.length : Int) = wd) : rowB wd r = false := by simp [rowB, h]
theorem rowB_no {wd : Int} {r : List Int} {k : Nat} {z : Int} (hz : r[k]? = some z) (h : valB z = false) : rowB wd r = false := by
  unfold rowB
  have : r.all valB = false := by rw [List.all_eq_false]; exact ⟨z, List.mem_of_getElem? hz, by rw [h]; simp⟩
  rw [this]; simp
theorem rowB_yes {wd : Int} {r : List Int} {k : Nat} (h : (r.length : Int) = wd) (hk : r.length ≤ k) (hh : ∀ z ∈ r.take k, valB z = true) : rowB wd r = true := by
  unfold rowB
  have h1 : r.all valB = true := by rw [List.all_eq_true]; intro z hz; exact hh z (by rw [List.take_of_length_le hk]; exact hz)
  rw [h1]; simp [h]
theorem rowB_rest {wd : Int} {r : List Int} (h : (r.length : Int) = wd) : rowB wd r = r.all valB := by simp [rowB, h]
theorem all_take_snoc {α : Type} {l : List α} {k : Nat} {z : α} {p : α → Bool} (hz : l[k]? = some z) (h : p z = true) (hh : ∀ y ∈ l.take k, p y = true) : ∀ y ∈ l.take (k + 1), p y = true := by
  intro y hy
  rw [List.take_add_one, hz] at hy
  rcases List.mem_append.1 hy with h1 | h1
  · exact hh y h1
  · simp at h1; subst h1; exact h
end Go.Proofs.YtanfllednlpbaaaGreat
