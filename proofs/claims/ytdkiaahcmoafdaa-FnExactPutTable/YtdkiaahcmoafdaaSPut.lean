/-
  Contract of spec.PutTable. For every slice of tables and every table.
-/
import Derived.Test.YtdkiaahcmoafdaaPutP
import Derived.Test.YtdkiaahcmoafdaaSSch
import Derived.Test.YtdkiaahcmoafdaaHTb
import Derived.Deep.QuietTactic
namespace Go.Proofs.Ytdkiaahcmoafdaa
open Go.RowKit
set_option linter.unusedSimpArgs false
set_option linter.unusedVariables false

/-- Both answer so. -/
def PutPost (w : World) (t : Tb) (l : List Tb) (e : Ending) (w' : World) : Prop :=
  ∃ ao c, e = .returned (.tuple #[.slice ao (putO t l).length c, .bool (putB t l)]) ∧ OwnT w' w.heap.size ao c (putO t l) ∧ Below w.heap.size w w'

theorem tb_newP (w : World) (t : Tb) (hs : t.name.size ≤ maxLen) (ty : TypeId) : TbAt (w.alloc (.cells #[.string t.name, .int .i64 t.width] ty)) w.heap.size 0 t :=
  ⟨by rw [World.cell?_alloc_new]; rfl, by rw [World.cell?_alloc_new]; rfl, hs⟩
/-- append at a slice of tables of the call's own: nothing else turns. -/
theorem grown_row {w wr w1 W : World} {base : Nat} {ao : Option Addr} {c : Nat} {l : List Tb} (hb : Below w.heap.size w wr) (hW : Below wr.heap.size wr W) (ho : OwnT W base ao c l) (hbase : w.heap.size ≤ base) (hg : W.grownBy w1 (ao.map (·.block))) : Below w.heap.size w w1 := by
  refine (hb.trans (hW.mono hb.size)).grown hg (Nat.le_trans hb.size hW.size) ?_
  intro g hg'
  rcases ao with _ | a
  · cases hg'
  · simp at hg'; subst hg'; exact Nat.le_trans hbase (ho.lt a rfl).1
theorem cell_row {wr w1 W : World} {base b o : Nat} {v : Value} {ao : Option Addr} {c : Nat} {l : List Tb} (hc : wr.cell? ⟨b, o, none⟩ = some v) (hW : Below wr.heap.size wr W) (ho : OwnT W base ao c l) (hb : b < base) (hg : W.grownBy w1 (ao.map (·.block))) : w1.cell? ⟨b, o, none⟩ = some v := by
  have hlt : b < wr.heap.size := World.block_lt_of_cell? wr ⟨b, o, none⟩ hc
  have h1 : W.cell? ⟨b, o, none⟩ = some v := (hW.cell (p := ⟨b, o, none⟩) hlt).trans hc
  rw [← h1]
  refine World.cell?_of_block (w := W) (hg.block b (Nat.lt_of_lt_of_le hlt hW.size) ?_)
  cases ao with
  | none => simp
  | some a => simp; have := (ho.lt a rfl).1; omega

theorem specSchemaN_any (ao : Option Addr) (c n : Nat) (l : List Tb) (w : World) (hn : n = l.length) (h : RdT w ao l) (hl : l.length ≤ 4194304) :
    Calls Try.prog 36 #[.slice ao n c] w fun e w' => e = .returned (.bool (schemaB l)) ∧ Below w.heap.size w w' := by
  subst hn; exact specSchema_any ao c l w h hl
set_option maxRecDepth 100000 in
set_option maxHeartbeats 1600000 in
theorem l03Copy_any (ao : Option Addr) (c : Nat) (l : List Tb) (w : World) (h : RdT w ao l) (hl : l.length ≤ 1048576) :
    Calls Try.prog 86 #[.slice ao l.length c] w (MadeT w l) := by
  have H := Lib.hid h; clear h
  have O0 := Lib.hid (ownT_empty (w := w) (base := w.heap.size) (Nat.le_refl _))
  have B0 := Lib.hid ((Below.refl w.heap.size w).alloc (Nat.le_refl _) (.cells #[] 58))
  go_enter Try.func86, Try.ntmps86
  go_wp2_with fail
  go_loopw [3, 4] (fun o i wr => ∃ (j : Nat) (a3 : Option Addr) (c3 : Nat), j ≤ l.length ∧ i = .int .i64 j ∧ o = .slice a3 (l.take j).length c3 ∧ OwnT wr w.heap.size a3 c3 (l.take j) ∧ Below w.heap.size w wr) (fun _ i _ => l.length - (intOf i).toNat)
  case atStart => exact ⟨0, _, _, Nat.zero_le _, rfl, rfl, O0.out, B0.out⟩
  case round =>
    clear O0 B0
    obtain ⟨j, a3, c3, hj, rfl, rfl, ho, hb⟩ := hrel
    have OW := Lib.hid ho; have HB := Lib.hid hb
    clear ho hb
    by_cases hlt : j < l.length
    · obtain ⟨b, off, t, rfl, hn, hat⟩ := (H.out.below HB.out).at_ hlt
      have TK := Lib.hid (show l.take (j + 1) = l.take j ++ [t] by rw [List.take_add_one, hn]; rfl)
      have HLN := Lib.hid (show (l.take j).length = j by simp; omega)
      clear hn
      obtain ⟨c0, c1, nm⟩ := hat
      generalize l.take j = O at OW TK HLN ⊢
      go_wp2_with (first
        | (at_builtin; refine wpList_appendT _ rfl (.tmp 12) (.tmp 17) 50 rfl w.heap.size Try.underlying50 Try.infoTable a3 c3 O.length O rfl rfl (OW.out.alloc _) _ _ t rfl (tb_newP _ t nm _) (by have := HLN.out; omega) (by have := HB.out.size; simp; omega) ?_; intro a4 c4 w4 o4 g4; have B4 := Lib.hid (grown_row HB.out ((Below.refl _ _).alloc (Nat.le_refl _) _) (OW.out.alloc _) (Nat.le_refl _) g4); have O4 := Lib.hid o4; clear o4 g4)
        | go_in)
      go_wp2_with fail
      go_roundw
      case rel => exact ⟨j + 1, a4, c4, by omega, by go_num, by rw [TK.out]; simp, by rw [TK.out]; exact O4.out, B4.out⟩
      case measure => simp [intOf]; omega
    · obtain rfl : j = l.length := by omega
      have O5 := Lib.hid (show OwnT wr w.heap.size a3 c3 l by have := OW.out; rwa [List.take_length] at this)
      clear OW
      go_wp2_with fail
      go_ret
      exact ⟨a3, c3, ret_slice (by simp), O5.out, HB.out⟩

set_option maxRecDepth 100000 in
set_option maxHeartbeats 8000000 in
theorem specPut_any (ao : Option Addr) (c : Nat) (l : List Tb) (t : Tb) (w : World) (h : RdT w ao l) (hl : l.length ≤ 1048576) (ht : t.name.size ≤ maxLen) :
    Calls Try.prog 48 #[.slice ao l.length c, .agg #[.string t.name, .int .i64 t.width]] w (PutPost w t l) := by
  have H := Lib.hid h; clear h
  have NT := Lib.hid ht; clear ht
  have z0 : (w.alloc (.cells #[.string t.name, .int .i64 t.width] 58)).heap.size = w.heap.size + 1 := by simp
  have e00 : (w.alloc (.cells #[.string t.name, .int .i64 t.width] 58)).cell? ⟨w.heap.size, 0, none⟩ = some (.string t.name) := by rw [World.cell?_alloc_new]; rfl
  have e01 : (w.alloc (.cells #[.string t.name, .int .i64 t.width] 58)).cell? ⟨w.heap.size, 1, none⟩ = some (.int .i64 t.width) := by rw [World.cell?_alloc_new]; rfl
  have B00 := (Below.refl w.heap.size w).alloc (Nat.le_refl _) (.cells #[.string t.name, .int .i64 t.width] 58)
  have B01 := (Below.refl (w.alloc (.cells #[.string t.name, .int .i64 t.width] 58)).heap.size (w.alloc (.cells #[.string t.name, .int .i64 t.width] 58))).alloc (Nat.le_refl _) (.cells #[] 58)
  have O0 := ownT_empty (w := w.alloc (.cells #[.string t.name, .int .i64 t.width] 58)) (base := w.heap.size + 1) (by omega)
  rw [z0] at O0
  have O0 := Lib.hid O0
  have B0 := Lib.hid (B00.trans (B01.mono (by omega)))
  have D0 := Lib.hid ((B01.cell (p := ⟨w.heap.size, 0, none⟩) (by show w.heap.size < _; omega)).trans e00)
  have D1 := Lib.hid ((B01.cell (p := ⟨w.heap.size, 1, none⟩) (by show w.heap.size < _; omega)).trans e01)
  have S0 := Lib.hid (show w.heap.size + 1 ≤ ((w.alloc (.cells #[.string t.name, .int .i64 t.width] 58)).alloc (.cells #[] 58)).heap.size by simp)
  clear e00 e01 B01 B00 z0
  go_enter Try.func48, Try.ntmps48
  go_wp2_with fail
  go_loopw [6, 7, 8] (fun o p i wr => ∃ (j : Nat) (a3 : Option Addr) (c3 : Nat), j ≤ l.length ∧ i = .int .i64 j ∧ o = .slice a3 (putS t (l.take j)).1.length c3 ∧ p = .bool (putS t (l.take j)).2 ∧ OwnT wr (w.heap.size + 1) a3 c3 (putS t (l.take j)).1 ∧ Below w.heap.size w wr ∧ w.heap.size + 1 ≤ wr.heap.size ∧ wr.cell? ⟨w.heap.size, 0, none⟩ = some (.string t.name) ∧ wr.cell? ⟨w.heap.size, 1, none⟩ = some (.int .i64 t.width)) (fun _ _ i _ => l.length - (intOf i).toNat)
  case atStart => exact ⟨0, _, _, Nat.zero_le _, rfl, rfl, rfl, O0.out, B0.out, S0.out, D0.out, D1.out⟩
  case round =>
    clear O0 B0 D0 D1 S0
    obtain ⟨j, a3, c3, hj, rfl, rfl, rfl, ho, hb, hz, d0, d1⟩ := hrel
    have PL := Lib.hid (putS_len t l j hj)
    by_cases hlt : j < l.length
    · obtain ⟨b, off, s, rfl, hn, hat⟩ := H.out.at_ hlt
      have ST := Lib.hid (putS_take (t := t) hn)
      clear hn
      have hbw := hat.lt
      have c0 := (hb.cell (p := ⟨b, off + j * 2, none⟩) hbw).trans hat.c0
      have c1 := (hb.cell (p := ⟨b, off + j * 2 + 1, none⟩) hbw).trans hat.c1
      have HC0 := Lib.hid hat.c0; have HC1 := Lib.hid hat.c1
      have ns := hat.nm
      clear hat
      generalize putS t (l.take j) = S at ho PL ST ⊢
      obtain ⟨O, P⟩ := S
      have OW := Lib.hid (show OwnT wr (w.heap.size + 1) a3 c3 O from ho); have HB := Lib.hid hb
      have hol : O.length ≤ 1048577 := by have := PL.out; simp at this; omega
      clear ho hb
      have KE : (s.name.toList == t.name.toList) = decide (s.key = t.key) := by rw [ByteArray.toList_eq, ByteArray.toList_eq, Bool.eq_iff_iff]; simp [Tb.key]
      cases P with
      | true =>
        by_cases he : s.key = t.key
        · have E := Lib.hid (show putR t (O, true) s = (O, true) by unfold putR; simp [he])
          have hb0 : (s.name.toList == t.name.toList) = true := by rw [KE]; simp [he]
          have hb1 : (s.name.toList != t.name.toList) = false := by simp [bne, hb0]
          clear KE
          go_wp2_with fail
          go_quiet (fail)
          go_wp2_with fail
          go_quiet (fail)
          all_goals
            go_wp2_with fail
            go_roundw
            case rel => exact ⟨j + 1, a3, c3, by omega, by go_num, by rw [ST.out, E.out], by rw [ST.out, E.out], by rw [ST.out, E.out]; exact OW.out.below (below_drewN (Below.refl _ _) _), below_drewN HB.out _, hz, d0, d1⟩
            case measure => simp [intOf]; omega
        · have E := Lib.hid (show putR t (O, true) s = (O ++ [s], true) by unfold putR; simp [he])
          have hb0 : (s.name.toList == t.name.toList) = false := by rw [KE]; simp [he]
          have hb1 : (s.name.toList != t.name.toList) = true := by simp [bne, hb0]
          clear KE
          go_wp2_with fail
          go_quiet (fail)
          go_wp2_with fail
          go_quiet (fail)
          all_goals
            go_wp2_with (first | (at_builtin; refine wpList_appendT _ rfl (.tmp 50) (.tmp 55) 50 rfl (w.heap.size + 1) Try.underlying50 Try.infoTable a3 c3 _ O rfl rfl ((OW.out.below (below_drewN (Below.refl _ _) _)).alloc _) _ _ s rfl (tb_newP _ s ns _) (by omega) (by simp; omega) ?_; intro a4 c4 w4 o4 g4; have B4 := Lib.hid (grown_row HB.out ((below_drewN (Below.refl wr.heap.size wr) _).alloc (Nat.le_refl _) _) ((OW.out.below (below_drewN (Below.refl _ _) _)).alloc _) (Nat.le_succ _) g4); have f40 := cell_row d0 ((below_drewN (Below.refl wr.heap.size wr) _).alloc (Nat.le_refl _) _) ((OW.out.below (below_drewN (Below.refl _ _) _)).alloc _) (Nat.lt_succ_self _) g4; have f41 := cell_row d1 ((below_drewN (Below.refl wr.heap.size wr) _).alloc (Nat.le_refl _) _) ((OW.out.below (below_drewN (Below.refl _ _) _)).alloc _) (Nat.lt_succ_self _) g4; have z4 := g4.size; have hz4 : w.heap.size + 1 ≤ w4.heap.size := (by simp at z4; omega); have O4 := Lib.hid o4; clear o4 g4 z4) | go_in)
            go_wp2_with fail
            go_roundw
            case rel => exact ⟨j + 1, a4, c4, by omega, by go_num, by rw [ST.out, E.out]; simp, by rw [ST.out, E.out], by rw [ST.out, E.out]; exact O4.out, B4.out, hz4, f40, f41⟩
            case measure => simp [intOf]; omega
      | false =>
        by_cases he : s.key = t.key
        · have E := Lib.hid (show putR t (O, false) s = (O ++ [t], true) by unfold putR; simp [he])
          have hb0 : (s.name.toList == t.name.toList) = true := by rw [KE]; simp [he]
          have hb1 : (s.name.toList != t.name.toList) = false := by simp [bne, hb0]
          clear KE
          go_wp2_with fail
          go_quiet (fail)
          all_goals
            go_wp2_with (first | (at_builtin; refine wpList_appendT _ rfl (.tmp 38) (.tmp 40) 50 rfl (w.heap.size + 1) Try.underlying50 Try.infoTable a3 c3 _ O rfl rfl ((OW.out.below (below_drewN (Below.refl _ _) _)).alloc _) _ _ t rfl (tb_newP _ t NT.out _) (by omega) (by simp; omega) ?_; intro a4 c4 w4 o4 g4; have B4 := Lib.hid (grown_row HB.out ((below_drewN (Below.refl wr.heap.size wr) _).alloc (Nat.le_refl _) _) ((OW.out.below (below_drewN (Below.refl _ _) _)).alloc _) (Nat.le_succ _) g4); have f40 := cell_row d0 ((below_drewN (Below.refl wr.heap.size wr) _).alloc (Nat.le_refl _) _) ((OW.out.below (below_drewN (Below.refl _ _) _)).alloc _) (Nat.lt_succ_self _) g4; have f41 := cell_row d1 ((below_drewN (Below.refl wr.heap.size wr) _).alloc (Nat.le_refl _) _) ((OW.out.below (below_drewN (Below.refl _ _) _)).alloc _) (Nat.lt_succ_self _) g4; have z4 := g4.size; have hz4 : w.heap.size + 1 ≤ w4.heap.size := (by simp at z4; omega); have O4 := Lib.hid o4; clear o4 g4 z4; have s4 := (B4.out.cell (p := ⟨b, off + j * 2, none⟩) hbw).trans HC0.out; have r4 := (B4.out.cell (p := ⟨b, off + j * 2 + 1, none⟩) hbw).trans HC1.out; clear c0 c1 d0 d1) | go_in)
            go_quiet (fail)
            all_goals
              go_wp2_with fail
              go_roundw
              case rel => exact ⟨j + 1, a4, c4, by omega, by go_num, by rw [ST.out, E.out]; simp, by rw [ST.out, E.out], by rw [ST.out, E.out]; exact O4.out.below (below_drewN (Below.refl _ _) _), below_drewN B4.out _, hz4, f40, f41⟩
              case measure => simp [intOf]; omega
        · have hb0 : (s.name.toList == t.name.toList) = false := by rw [KE]; simp [he]
          have hb1 : (s.name.toList != t.name.toList) = true := by simp [bne, hb0]
          clear KE
          by_cases hl' : t.key < s.key
          · have E := Lib.hid (show putR t (O, false) s = (O ++ [t] ++ [s], true) by unfold putR; simp [he, hl'])
            have LS := Lib.hid (show lessS t.name s.name = true from decide_eq_true hl')
            clear hl'
            go_wp2_with fail
            go_quiet ((go_at_call 71; exact Calls.quiet_of (l01Less_is LS.out _ NT.out ns)))
            all_goals
              go_wp2_with (first | (at_builtin; refine wpList_appendT _ rfl (.tmp 38) (.tmp 40) 50 rfl (w.heap.size + 1) Try.underlying50 Try.infoTable a3 c3 _ O rfl rfl ((OW.out.below (below_drewN (Below.refl _ _) _)).alloc _) _ _ t rfl (tb_newP _ t NT.out _) (by omega) (by simp; omega) ?_; intro a4 c4 w4 o4 g4; have B4 := Lib.hid (grown_row HB.out ((below_drewN (Below.refl wr.heap.size wr) _).alloc (Nat.le_refl _) _) ((OW.out.below (below_drewN (Below.refl _ _) _)).alloc _) (Nat.le_succ _) g4); have f40 := cell_row d0 ((below_drewN (Below.refl wr.heap.size wr) _).alloc (Nat.le_refl _) _) ((OW.out.below (below_drewN (Below.refl _ _) _)).alloc _) (Nat.lt_succ_self _) g4; have f41 := cell_row d1 ((below_drewN (Below.refl wr.heap.size wr) _).alloc (Nat.le_refl _) _) ((OW.out.below (below_drewN (Below.refl _ _) _)).alloc _) (Nat.lt_succ_self _) g4; have z4 := g4.size; have hz4 : w.heap.size + 1 ≤ w4.heap.size := (by simp at z4; omega); have O4 := Lib.hid o4; clear o4 g4 z4; have s4 := (B4.out.cell (p := ⟨b, off + j * 2, none⟩) hbw).trans HC0.out; have r4 := (B4.out.cell (p := ⟨b, off + j * 2 + 1, none⟩) hbw).trans HC1.out; clear c0 c1 d0 d1) | go_in)
              go_quiet (fail)
              all_goals
                go_wp2_with (first | (at_builtin; refine wpList_appendT _ rfl (.tmp 50) (.tmp 55) 50 rfl (w.heap.size + 1) Try.underlying50 Try.infoTable a4 c4 _ (O ++ [t]) rfl (by simp) ((O4.out.below (below_drewN (Below.refl _ _) _)).alloc _) _ _ s rfl (tb_newP _ s ns _) (by simp; omega) (by simp; omega) ?_; intro a5 c5 w5 o5 g5; have B5 := Lib.hid (grown_row B4.out ((below_drewN (Below.refl w4.heap.size w4) _).alloc (Nat.le_refl _) _) ((O4.out.below (below_drewN (Below.refl _ _) _)).alloc _) (Nat.le_succ _) g5); have f50 := cell_row f40 ((below_drewN (Below.refl w4.heap.size w4) _).alloc (Nat.le_refl _) _) ((O4.out.below (below_drewN (Below.refl _ _) _)).alloc _) (Nat.lt_succ_self _) g5; have f51 := cell_row f41 ((below_drewN (Below.refl w4.heap.size w4) _).alloc (Nat.le_refl _) _) ((O4.out.below (below_drewN (Below.refl _ _) _)).alloc _) (Nat.lt_succ_self _) g5; have z5 := g5.size; have hz5 : w.heap.size + 1 ≤ w5.heap.size := (by simp at z5; omega); have O5 := Lib.hid o5; clear o5 g5 z5) | go_in)
                go_wp2_with fail
                go_roundw
                case rel => exact ⟨j + 1, a5, c5, by omega, by go_num, by rw [ST.out, E.out]; simp, by rw [ST.out, E.out], by rw [ST.out, E.out]; exact O5.out, B5.out, hz5, f50, f51⟩
                case measure => simp [intOf]; omega
          · have E := Lib.hid (show putR t (O, false) s = (O ++ [s], false) by unfold putR; simp [he, hl'])
            have LS := Lib.hid (show lessS t.name s.name = false from decide_eq_false hl')
            clear hl'
            go_wp2_with fail
            go_quiet ((go_at_call 71; exact Calls.quiet_of (l01Less_is LS.out _ NT.out ns)))
            all_goals
              go_wp2_with fail
              go_quiet (fail)
              all_goals
                go_wp2_with (first | (at_builtin; refine wpList_appendT _ rfl (.tmp 50) (.tmp 55) 50 rfl (w.heap.size + 1) Try.underlying50 Try.infoTable a3 c3 _ O rfl rfl ((OW.out.below (below_drewN (Below.refl _ _) _)).alloc _) _ _ s rfl (tb_newP _ s ns _) (by omega) (by simp; omega) ?_; intro a4 c4 w4 o4 g4; have B4 := Lib.hid (grown_row HB.out ((below_drewN (Below.refl wr.heap.size wr) _).alloc (Nat.le_refl _) _) ((OW.out.below (below_drewN (Below.refl _ _) _)).alloc _) (Nat.le_succ _) g4); have f40 := cell_row d0 ((below_drewN (Below.refl wr.heap.size wr) _).alloc (Nat.le_refl _) _) ((OW.out.below (below_drewN (Below.refl _ _) _)).alloc _) (Nat.lt_succ_self _) g4; have f41 := cell_row d1 ((below_drewN (Below.refl wr.heap.size wr) _).alloc (Nat.le_refl _) _) ((OW.out.below (below_drewN (Below.refl _ _) _)).alloc _) (Nat.lt_succ_self _) g4; have z4 := g4.size; have hz4 : w.heap.size + 1 ≤ w4.heap.size := (by simp at z4; omega); have O4 := Lib.hid o4; clear o4 g4 z4) | go_in)
                go_wp2_with fail
                go_roundw
                case rel => exact ⟨j + 1, a4, c4, by omega, by go_num, by rw [ST.out, E.out]; simp, by rw [ST.out, E.out], by rw [ST.out, E.out]; exact O4.out, B4.out, hz4, f40, f41⟩
                case measure => simp [intOf]; omega
    · obtain rfl : j = l.length := by omega
      rw [List.take_length] at ho PL ⊢
      generalize hS : putS t l = S at ho PL ⊢
      obtain ⟨O, P⟩ := S
      have hol : O.length ≤ 1048577 := by have := PL.out; simp at this; omega
      cases P with
      | true =>
        have PT := Lib.hid (show putT t l = O by unfold putT; rw [hS]; rfl)
        have OX := Lib.hid (show OwnT wr (w.heap.size + 1) a3 c3 O from ho); have BX := Lib.hid hb
        clear ho hb hS d0 d1
        cases hs : schemaB l with
        | false =>
          have HS := Lib.hid hs
          have PB := Lib.hid (show putB t l = false by unfold putB; rw [hs]; rfl)
          have PO := Lib.hid (show putO t l = l by unfold putO; rw [PB.out]; rfl)
          clear hs
          go_wp2_with (first | (go_at_call 36; refine (specSchema_any ao c l _ (H.out.below BX.out) (by omega)).mono ?_; rintro e wy ⟨rfl, by_⟩; rw [HS.out]; have BY := Lib.hid (below_step BX.out (Nat.le_refl _) by_); have OY := Lib.hid (OX.out.below by_); clear by_) | (go_at_call 86; refine (l03Copy_any ao c l _ (H.out.below BY.out) hl).mono ?_; rintro e wz ⟨az, cz, rfl, oz, bz⟩; have BZ := Lib.hid (below_step BY.out (Nat.le_refl _) bz); have OZ := Lib.hid (oz.base_le BY.out.size); clear oz bz))
          go_ret2
          exact ⟨az, cz, by rw [PO.out, PB.out]; rfl, by rw [PO.out]; exact OZ.out, BZ.out⟩
        | true =>
          have HS := Lib.hid hs
          have PB1 := Lib.hid (show putB t l = schemaB (O) by unfold putB; rw [hs, PT.out]; rfl)
          clear hs
          cases hs2 : schemaB (O) with
          | false =>
            have HS2 := Lib.hid hs2
            have PB := Lib.hid (PB1.out.trans hs2)
            have PO := Lib.hid (show putO t l = l by unfold putO; rw [PB.out]; rfl)
            clear hs2
            go_wp2_with (first | (go_at_call 36; refine (specSchemaN_any a3 c3 O.length (O) _ rfl OY.out.rd (by omega)).mono ?_; rintro e wx ⟨rfl, bx⟩; rw [HS2.out]; have BW := Lib.hid (below_step BY.out (Nat.le_refl _) bx); have OV := Lib.hid ((OY.out.below bx).base_le (Nat.le_succ _)); clear bx) | (go_at_call 36; refine (specSchema_any ao c l _ (H.out.below BX.out) (by omega)).mono ?_; rintro e wy ⟨rfl, by_⟩; rw [HS.out]; have BY := Lib.hid (below_step BX.out (Nat.le_refl _) by_); have OY := Lib.hid (OX.out.below by_); clear by_) | (go_at_call 86; refine (l03Copy_any ao c l _ (H.out.below BW.out) hl).mono ?_; rintro e wz ⟨az, cz, rfl, oz, bz⟩; have BZ := Lib.hid (below_step BW.out (Nat.le_refl _) bz); have OZ := Lib.hid (oz.base_le BW.out.size); clear oz bz))
            go_ret2
            exact ⟨az, cz, by rw [PO.out, PB.out]; rfl, by rw [PO.out]; exact OZ.out, BZ.out⟩
          | true =>
            have HS2 := Lib.hid hs2
            have PB := Lib.hid (PB1.out.trans hs2)
            have PO := Lib.hid (show putO t l = O by unfold putO; rw [PB.out, PT.out]; rfl)
            clear hs2
            go_wp2_with (first | (go_at_call 36; refine (specSchemaN_any a3 c3 O.length (O) _ rfl OY.out.rd (by omega)).mono ?_; rintro e wx ⟨rfl, bx⟩; rw [HS2.out]; have BW := Lib.hid (below_step BY.out (Nat.le_refl _) bx); have OV := Lib.hid ((OY.out.below bx).base_le (Nat.le_succ _)); clear bx) | (go_at_call 36; refine (specSchema_any ao c l _ (H.out.below BX.out) (by omega)).mono ?_; rintro e wy ⟨rfl, by_⟩; rw [HS.out]; have BY := Lib.hid (below_step BX.out (Nat.le_refl _) by_); have OY := Lib.hid (OX.out.below by_); clear by_))
            go_ret2
            exact ⟨a3, c3, by rw [PO.out, PB.out]; rfl, by rw [PO.out]; exact OV.out, BW.out⟩
      | false =>
        have PT := Lib.hid (show putT t l = O ++ [t] by unfold putT; rw [hS]; rfl)
        have OW := Lib.hid (show OwnT wr (w.heap.size + 1) a3 c3 O from ho); have HB := Lib.hid hb
        clear ho hb hS
        cases hs : schemaB l with
        | false =>
          have HS := Lib.hid hs
          have PB := Lib.hid (show putB t l = false by unfold putB; rw [hs]; rfl)
          have PO := Lib.hid (show putO t l = l by unfold putO; rw [PB.out]; rfl)
          clear hs
          go_wp2_with (first | (at_builtin; refine wpList_appendT _ rfl (.tmp 59) (.tmp 61) 50 rfl (w.heap.size + 1) Try.underlying50 Try.infoTable a3 c3 _ O rfl rfl (OW.out.alloc _) _ _ t rfl (tb_newP _ t NT.out _) (by omega) (by simp; omega) ?_; intro a4 c4 w4 o4 g4; have B4 := Lib.hid (grown_row HB.out ((Below.refl wr.heap.size wr).alloc (Nat.le_refl _) _) (OW.out.alloc _) (Nat.le_succ _) g4); have f40 := cell_row d0 ((Below.refl wr.heap.size wr).alloc (Nat.le_refl _) _) (OW.out.alloc _) (Nat.lt_succ_self _) g4; have f41 := cell_row d1 ((Below.refl wr.heap.size wr).alloc (Nat.le_refl _) _) (OW.out.alloc _) (Nat.lt_succ_self _) g4; have z4 := g4.size; have hz4 : w.heap.size + 1 ≤ w4.heap.size := (by simp at z4; omega); have O4 := Lib.hid o4; clear o4 g4 z4) | (go_at_call 36; refine (specSchema_any ao c l _ (H.out.below B4.out) (by omega)).mono ?_; rintro e wy ⟨rfl, by_⟩; rw [HS.out]; have BY := Lib.hid (below_step B4.out (Nat.le_refl _) by_); have OY := Lib.hid (O4.out.below by_); clear by_) | (go_at_call 86; refine (l03Copy_any ao c l _ (H.out.below BY.out) hl).mono ?_; rintro e wz ⟨az, cz, rfl, oz, bz⟩; have BZ := Lib.hid (below_step BY.out (Nat.le_refl _) bz); have OZ := Lib.hid (oz.base_le BY.out.size); clear oz bz))
          go_ret2
          exact ⟨az, cz, by rw [PO.out, PB.out]; rfl, by rw [PO.out]; exact OZ.out, BZ.out⟩
        | true =>
          have HS := Lib.hid hs
          have PB1 := Lib.hid (show putB t l = schemaB (O ++ [t]) by unfold putB; rw [hs, PT.out]; rfl)
          clear hs
          cases hs2 : schemaB (O ++ [t]) with
          | false =>
            have HS2 := Lib.hid hs2
            have PB := Lib.hid (PB1.out.trans hs2)
            have PO := Lib.hid (show putO t l = l by unfold putO; rw [PB.out]; rfl)
            clear hs2
            go_wp2_with (first | (at_builtin; refine wpList_appendT _ rfl (.tmp 59) (.tmp 61) 50 rfl (w.heap.size + 1) Try.underlying50 Try.infoTable a3 c3 _ O rfl rfl (OW.out.alloc _) _ _ t rfl (tb_newP _ t NT.out _) (by omega) (by simp; omega) ?_; intro a4 c4 w4 o4 g4; have B4 := Lib.hid (grown_row HB.out ((Below.refl wr.heap.size wr).alloc (Nat.le_refl _) _) (OW.out.alloc _) (Nat.le_succ _) g4); have f40 := cell_row d0 ((Below.refl wr.heap.size wr).alloc (Nat.le_refl _) _) (OW.out.alloc _) (Nat.lt_succ_self _) g4; have f41 := cell_row d1 ((Below.refl wr.heap.size wr).alloc (Nat.le_refl _) _) (OW.out.alloc _) (Nat.lt_succ_self _) g4; have z4 := g4.size; have hz4 : w.heap.size + 1 ≤ w4.heap.size := (by simp at z4; omega); have O4 := Lib.hid o4; clear o4 g4 z4) | (go_at_call 36; refine (specSchemaN_any a4 c4 (O.length + 1) (O ++ [t]) _ (by simp) OY.out.rd (by simp; omega)).mono ?_; rintro e wx ⟨rfl, bx⟩; rw [HS2.out]; have BW := Lib.hid (below_step BY.out (Nat.le_refl _) bx); have OV := Lib.hid ((OY.out.below bx).base_le (Nat.le_succ _)); clear bx) | (go_at_call 36; refine (specSchema_any ao c l _ (H.out.below B4.out) (by omega)).mono ?_; rintro e wy ⟨rfl, by_⟩; rw [HS.out]; have BY := Lib.hid (below_step B4.out (Nat.le_refl _) by_); have OY := Lib.hid (O4.out.below by_); clear by_) | (go_at_call 86; refine (l03Copy_any ao c l _ (H.out.below BW.out) hl).mono ?_; rintro e wz ⟨az, cz, rfl, oz, bz⟩; have BZ := Lib.hid (below_step BW.out (Nat.le_refl _) bz); have OZ := Lib.hid (oz.base_le BW.out.size); clear oz bz))
            go_ret2
            exact ⟨az, cz, by rw [PO.out, PB.out]; rfl, by rw [PO.out]; exact OZ.out, BZ.out⟩
          | true =>
            have HS2 := Lib.hid hs2
            have PB := Lib.hid (PB1.out.trans hs2)
            have PO := Lib.hid (show putO t l = O ++ [t] by unfold putO; rw [PB.out, PT.out]; rfl)
            clear hs2
            go_wp2_with (first | (at_builtin; refine wpList_appendT _ rfl (.tmp 59) (.tmp 61) 50 rfl (w.heap.size + 1) Try.underlying50 Try.infoTable a3 c3 _ O rfl rfl (OW.out.alloc _) _ _ t rfl (tb_newP _ t NT.out _) (by omega) (by simp; omega) ?_; intro a4 c4 w4 o4 g4; have B4 := Lib.hid (grown_row HB.out ((Below.refl wr.heap.size wr).alloc (Nat.le_refl _) _) (OW.out.alloc _) (Nat.le_succ _) g4); have f40 := cell_row d0 ((Below.refl wr.heap.size wr).alloc (Nat.le_refl _) _) (OW.out.alloc _) (Nat.lt_succ_self _) g4; have f41 := cell_row d1 ((Below.refl wr.heap.size wr).alloc (Nat.le_refl _) _) (OW.out.alloc _) (Nat.lt_succ_self _) g4; have z4 := g4.size; have hz4 : w.heap.size + 1 ≤ w4.heap.size := (by simp at z4; omega); have O4 := Lib.hid o4; clear o4 g4 z4) | (go_at_call 36; refine (specSchemaN_any a4 c4 (O.length + 1) (O ++ [t]) _ (by simp) OY.out.rd (by simp; omega)).mono ?_; rintro e wx ⟨rfl, bx⟩; rw [HS2.out]; have BW := Lib.hid (below_step BY.out (Nat.le_refl _) bx); have OV := Lib.hid ((OY.out.below bx).base_le (Nat.le_succ _)); clear bx) | (go_at_call 36; refine (specSchema_any ao c l _ (H.out.below B4.out) (by omega)).mono ?_; rintro e wy ⟨rfl, by_⟩; rw [HS.out]; have BY := Lib.hid (below_step B4.out (Nat.le_refl _) by_); have OY := Lib.hid (O4.out.below by_); clear by_))
            go_ret2
            exact ⟨a4, c4, by rw [PO.out, PB.out]; simp, by rw [PO.out]; exact OV.out, BW.out⟩
end Go.Proofs.Ytdkiaahcmoafdaa
