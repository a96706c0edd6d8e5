/-
  Contract of impl.PutTable. For every slice of tables of the caller's own and every table.
-/
import Derived.Test.YtdkiaahcmoafdaaSPut
import Derived.Test.YtdkiaahcmoafdaaITold
import Derived.Shelf.SlicesE.Clone
namespace Go.Proofs.Ytdkiaahcmoafdaa
open Go.RowKit Go.Maps Go.Shelf
set_option linter.unusedSimpArgs false
set_option linter.unusedVariables false

theorem madeT_of {w w' : World} {v : Value} {l : List Tb} (h : w'.ownsRow w.heap.size 58 2 v l.length (tbC l)) (hs : ∀ t ∈ l, t.name.size ≤ maxLen) (hb : Below w.heap.size w w') : MadeT w l (.returned v) w' := by
  rcases h.2 with ⟨rfl, hn⟩ | ⟨g, cap, cur, rfl, r⟩
  · obtain rfl : l = [] := List.eq_nil_of_length_eq_zero hn
    exact ⟨none, 0, rfl, OwnT.none_, hb⟩
  · exact ⟨_, cap, rfl, ⟨h, hs⟩, hb⟩
theorem cloneT_any (base : Nat) (ao : Option Addr) (c : Nat) (l : List Tb) (w : World) (h : OwnT w base ao c l) (hl : l.length ≤ 1048576) :
    Calls Try.prog 87 #[.slice ao l.length c] w (MadeT w l) := by
  obtain ⟨i0, hi, hz0, hz1, hz2⟩ := info_parts Try.infoTable
  rcases h.form with ⟨rfl, _, rfl⟩ | ⟨g, rfl, _⟩
  · refine (AnyE.slices_Clone_nil Try.laysCloneT 0 c w).mono ?_
    rintro e w' ⟨rfl, rfl⟩
    exact ⟨none, 0, rfl, OwnT.none_, Below.refl _ _⟩
  · refine (AnyE.slices_Clone Try.laysCloneT i0 _ 2 24 hi hz0 hz1 hz2 rfl (by omega) Try.sizeOf58 g 0 l.length c (tbC l) w (tbC_len l) (by unfold maxLen; omega) (by omega) ?_ (tbC_one l)).mono ?_
    · intro j u hj
      have hjl : j < l.length * 2 := by
        rcases Nat.lt_or_ge j (tbC l).length with h1 | h1
        · rwa [tbC_len] at h1
        · rw [List.getElem?_eq_none h1] at hj; cases hj
      rw [Nat.zero_add, World.ownsRow.cellAt h.1 j hjl]; exact hj
    · rintro e w' ⟨v', rfl, ho, _, hb⟩
      exact madeT_of ho h.2 hb

set_option maxRecDepth 100000 in
set_option maxHeartbeats 4000000 in
theorem implPut_any (base : Nat) (ao : Option Addr) (c : Nat) (l : List Tb) (t : Tb) (w : World) (h : OwnT w base ao c l) (hl : l.length ≤ 1048576) (ht : t.name.size ≤ maxLen) (hwf : (Lit.int .i64 t.width).wf = true) :
    Calls Try.prog 50 #[.slice ao l.length c, .agg #[.string t.name, .int .i64 t.width]] w (PutPost w t l) := by
  have H := Lib.hid h
  have HL := Lib.hid (fun a ha => (h.lt a ha).2)
  clear h
  have A0 := Lib.hid ((Below.refl w.heap.size w).alloc (Nat.le_refl _) (.cells #[.string t.name, .int .i64 t.width] 58))
  have WI := Lib.hid (fun W (hr : RdT W ao l) => widthsIn_any ao c l W hr hl)
  cases hs : schemaB l with
  | false =>
    have HS := Lib.hid hs
    have PB := Lib.hid (show putB t l = false by unfold putB; rw [hs]; rfl)
    have PO := Lib.hid (show putO t l = l by unfold putO; rw [PB.out]; rfl)
    clear hs
    go_enter Try.func50, Try.ntmps50
    go_wp2_with fail
    refine (WI.out _ (H.out.rd.below A0.out)).mono ?_
    rintro e w1 ⟨b1, hp⟩
    rw [HS.out] at hp
    obtain ⟨m, rfl⟩ := hp
    have B1 := Lib.hid (A0.out.trans (b1.mono (by simp)))
    clear b1
    go_wp2_with fail
    refine (cloneT_any base ao c l _ (H.out.below B1.out) hl).mono ?_
    rintro e w2 ⟨a2, c2, rfl, o2, b2⟩
    have B2 := Lib.hid (below_step B1.out (Nat.le_refl _) b2)
    have O2 := Lib.hid (o2.base_le B1.out.size)
    clear o2 b2
    go_wp2_with fail
    go_ret2
    exact ⟨a2, c2, by rw [PO.out, PB.out]; rfl, by rw [PO.out]; exact O2.out, B2.out⟩
  | true =>
    have HS := Lib.hid hs
    have TD := Lib.hid (putT_told t l (schemaB_iff.1 hs).2.2)
    have PB1 := Lib.hid (show putB t l = schemaB (putT t l) by unfold putB; rw [hs]; rfl)
    have h8 : l.length ≤ 8 := (schemaB_iff.1 hs).1
    have PL := Lib.hid (putT_len t l)
    have PE := Lib.hid (show putO t l = if schemaB (putT t l) = true then putT t l else l by unfold putO; rw [PB1.out])
    clear hs
    generalize putT t l = O at TD PB1 PL PE
    go_enter Try.func50, Try.ntmps50
    go_wp2_with fail
    refine (WI.out _ (H.out.rd.below A0.out)).mono ?_
    rintro e w1 ⟨b1, hp⟩
    rw [HS.out] at hp
    obtain ⟨bm, hbm, rfl, D, hown, hD⟩ := hp
    have HD := Lib.hid hD; clear hD
    have e0 := (b1.cell (p := ⟨w.heap.size, 0, none⟩) (by simp)).trans (show _ = some (Value.string t.name) by rw [World.cell?_alloc_new]; rfl)
    have e1 := (b1.cell (p := ⟨w.heap.size, 1, none⟩) (by simp)).trans (show _ = some (Value.int .i64 t.width) by rw [World.cell?_alloc_new]; rfl)
    have hbm' : w.heap.size + 1 ≤ bm := by simpa using hbm
    have B1 := Lib.hid (A0.out.trans (b1.mono (by simp)))
    clear b1 hbm
    cases hs2 : schemaB O with
    | true =>
      have HS2 := Lib.hid hs2
      have PB := Lib.hid (PB1.out.trans hs2)
      have PO := Lib.hid (show putO t l = O by rw [PE.out, hs2]; rfl)
      clear hs2
      go_wp2_with (first
        | (at_mapUpdate; refine wpList_mapUpdate_own _ rfl _ _ _ 106 rfl 9 3 Try.keyed Try.underlying106 _ bm 8 _ rfl hown (by unfold maxLen; omega) _ _ _ rfl rfl (WideMaps.keyOf_string_mk Try.underlying9 ht) _ [] (plainElem_int Try.underlying3 hwf) ?_; intro w2 hown2 hg2; have B2 := Lib.hid (B1.out.grown hg2 B1.out.size (fun q hq => (by injection hq with hq; omega))); have OM2 := Lib.hid (show OwnM w2 bm 9 (upd (fnOf l) t.key t.width) from ⟨_, hown2, HD.out.put t.key t.width⟩); have X2 := Lib.hid ((H.out.below B1.out).grown hg2 (fun a ha e => (by have := HL.out a ha; injection e with e; omega))); clear hown2 hg2)
        | (go_at_call 88; refine (told_any bm 9 _ _ OM2.out (by omega)).mono ?_; rintro e w3 ⟨m, hT, hml, a3, c3, rfl, o3, b3⟩; obtain rfl : O = m := TD.out.uniq hT; have B3 := Lib.hid (below_step B2.out (Nat.le_refl _) b3); have O3 := Lib.hid (o3.base_le B2.out.size); clear o3 b3)
        | (go_at_call 38; refine (implSchema_any a3 c3 O _ O3.out.rd (by omega)).mono ?_; rintro e w4 ⟨rfl, b4⟩; rw [HS2.out]; have B4 := Lib.hid (below_step B3.out (Nat.le_refl _) b4); have O4 := Lib.hid (O3.out.below b4); clear b4))
      go_ret2
      exact ⟨a3, c3, by rw [PO.out, PB.out]; rfl, by rw [PO.out]; exact O4.out, B4.out⟩
    | false =>
      have HS2 := Lib.hid hs2
      have PB := Lib.hid (PB1.out.trans hs2)
      have PO := Lib.hid (show putO t l = l by rw [PE.out, hs2]; rfl)
      clear hs2
      go_wp2_with (first
        | (at_mapUpdate; refine wpList_mapUpdate_own _ rfl _ _ _ 106 rfl 9 3 Try.keyed Try.underlying106 _ bm 8 _ rfl hown (by unfold maxLen; omega) _ _ _ rfl rfl (WideMaps.keyOf_string_mk Try.underlying9 ht) _ [] (plainElem_int Try.underlying3 hwf) ?_; intro w2 hown2 hg2; have B2 := Lib.hid (B1.out.grown hg2 B1.out.size (fun q hq => (by injection hq with hq; omega))); have OM2 := Lib.hid (show OwnM w2 bm 9 (upd (fnOf l) t.key t.width) from ⟨_, hown2, HD.out.put t.key t.width⟩); have X2 := Lib.hid ((H.out.below B1.out).grown hg2 (fun a ha e => (by have := HL.out a ha; injection e with e; omega))); clear hown2 hg2)
        | (go_at_call 88; refine (told_any bm 9 _ _ OM2.out (by omega)).mono ?_; rintro e w3 ⟨m, hT, hml, a3, c3, rfl, o3, b3⟩; obtain rfl : O = m := TD.out.uniq hT; have B3 := Lib.hid (below_step B2.out (Nat.le_refl _) b3); have X3 := Lib.hid (X2.out.below b3); have O3 := Lib.hid (o3.base_le B2.out.size); clear o3 b3)
        | (go_at_call 38; refine (implSchema_any a3 c3 O _ O3.out.rd (by omega)).mono ?_; rintro e w4 ⟨rfl, b4⟩; rw [HS2.out]; have B4 := Lib.hid (below_step B3.out (Nat.le_refl _) b4); have X4 := Lib.hid (X3.out.below b4); clear b4)
        | (go_at_call 87; refine (cloneT_any base ao c l _ X4.out hl).mono ?_; rintro e w5 ⟨a5, c5, rfl, o5, b5⟩; have B5 := Lib.hid (below_step B4.out (Nat.le_refl _) b5); have O5 := Lib.hid (o5.base_le B4.out.size); clear o5 b5))
      go_ret2
      exact ⟨a5, c5, by rw [PO.out, PB.out]; rfl, by rw [PO.out]; exact O5.out, B5.out⟩
end Go.Proofs.Ytdkiaahcmoafdaa
