/-
  Contracts of spec.PutNum, spec.l01Bytes, spec.l01Join.
-/
import Derived.Test.YtfpbhedophlnkaaGreatDoorPut
namespace Go.Proofs.YtfpbhedophlnkaaGreatDoor
open Go.RowKit
set_option linter.unusedSimpArgs false
set_option linter.unusedVariables false

/-- Behind 'append(out, x)': x lay in a block of its own. -/
theorem below_app1 {w wr w1 : World} {e : TypeId} {k : IntKind} {ao : Option Addr} {c : Nat} {l : List Int} {o : Obj} (hb : Below w.heap.size w wr) (ho : Own wr w.heap.size e k ao c l) (hg : (wr.alloc o).grownBy w1 (ao.map (·.block))) : Below w.heap.size w w1 := by
  refine (hb.alloc hb.size o).grown hg (by have := hb.size; simp; omega) ?_
  intro g hg'
  rcases ao with _ | a
  · cases hg'
  · simp at hg'; subst hg'; exact (ho.lt a rfl).1

def PutRel (w wr : World) (e : TypeId) (u0 : Nat) (v q : Value) : Prop :=
  ∃ (ao : Option Addr) (c : Nat) (acc : List Int) (u : Nat), v = .slice ao acc.length c ∧ q = .int .i64 u ∧ u ≤ 2000000 ∧ Own wr w.heap.size e .u8 ao c acc ∧ acc ++ enc u = enc u0 ∧ Below w.heap.size w wr
theorem putRel_step {w wr w1 : World} {e : TypeId} {u0 u : Nat} {ao ao' : Option Addr} {c c' : Nat} {acc : List Int} {o : Obj} {z : Int} (hz : z = 128 + (u : Int) % 128) (h128 : 128 ≤ u) (hu : u ≤ 2000000)
    (he : acc ++ enc u = enc u0) (ho : Own wr w.heap.size e .u8 ao c acc) (hb : Below w.heap.size w wr) (ho' : Own w1 w.heap.size e .u8 ao' c' (acc ++ [z])) (hg : (wr.alloc o).grownBy w1 (ao.map (·.block))) :
    PutRel w w1 e u0 (.slice ao' (acc.length + 1) c') (.int .i64 ((u : Int) / 128)) := by
  subst hz
  refine ⟨ao', c', acc ++ [128 + (u : Int) % 128], u / 128, by simp, by simp, by omega, ho', ?_, below_app1 hb ho hg⟩
  rw [List.append_assoc, ← he, enc_ge h128]; rfl
theorem acc_len {acc : List Int} {u u0 : Nat} (h : acc ++ enc u = enc u0) (h0 : u0 ≤ 2000000) : acc.length ≤ 3 := by
  have := congrArg List.length h
  have := (enc_len u0 (by omega)).2
  simp at *; omega

theorem base_le {w wr : World} {o : Obj} (hb : Below w.heap.size w wr) : w.heap.size ≤ (wr.alloc o).heap.size := by have := hb.size; simp; omega

set_option maxRecDepth 100000 in
set_option maxHeartbeats 800000 in
theorem specPutNum_any (x : Int) (w : World) : Calls Tryz.prog 113 #[.int .i64 x] w (Made w 5 .u8 (putN x)) := by
  by_cases hx : -1000000 ≤ x ∧ x ≤ 1000000
  · have hfold := fold_le hx
    rw [show putN x = enc (fold x) by unfold putN; rw [isN_mk hx]; rfl]
    obtain ⟨u0, hu0⟩ : ∃ u0 : Nat, u0 = fold x := ⟨_, rfl⟩
    rw [← hu0] at hfold ⊢
    have hst : Own (w.alloc (Obj.cells #[] 5)) w.heap.size 5 .u8 (some ⟨w.heap.size, 0, none⟩) 0 [] := World.ownsRow_lit w #[] 0 (Nat.le_refl _) (Nat.zero_le _) rfl
    have HST := Lib.hid hst; clear hst
    have HF := Lib.hid hfold
    have hf' : (u0 : Int) ≤ 2000000 := by omega
    rcases Int.lt_or_le x 0 with h0 | h0
    · have hu : -2 * x - 1 = (u0 : Int) := by rw [hu0]; unfold fold; rw [if_neg (by omega)]; omega
      have hd : decide (x < 0) = true := by simp; omega
      clear hu0 hfold
      go_enter Tryz.func113, Tryz.ntmps113
      go_wp2_with (go_at_call 188; refine (l01Number_t _ _ hx).mono ?_; rintro e w' ⟨rfl, rfl⟩)
      clear hu hx
      go_loopw [3, 4] (fun v q wr => PutRel w wr 5 u0 v q) (fun _ q _ => (intOf q).toNat)
      case atStart => exact ⟨_, _, [], u0, rfl, rfl, HF.out, HST.out, rfl, (Below.refl _ _).alloc (Nat.le_refl _) _⟩
      case round =>
        obtain ⟨ao, c, acc, u, rfl, rfl, hu, ho, he, hb⟩ := hrel
        have hal := acc_len he HF.out
        have HE := Lib.hid he; have HO := Lib.hid ho; have HB := Lib.hid hb
        have hu' : (u : Int) ≤ 2000000 := by omega
        have HU := Lib.hid hu; clear hu he ho hb
        by_cases h128 : 128 ≤ u
        · have h128' : (128 : Int) ≤ u := by omega
          go_wp2_with (at_builtin; refine wpList_append1 _ rfl (.tmp 18) (.tmp 23) 22 rfl w.heap.size 5 .u8 1 Tryz.underlying22 Tryz.infoU8 ao c acc.length acc rfl rfl (HO.out.alloc _) wr.heap.size 1 (128 + (u : Int) % 128) rfl (cell_one _ _ _) (by unfold maxLen; omega) (by omega) (base_le HB.out) ?_; intro ao' c' w1 ho' hg')
          go_roundw
          case rel => exact putRel_step rfl h128 HU.out HE.out HO.out HB.out ho' hg'
          case measure => simp [intOf]; omega
        · have h128' : (u : Int) < 128 := by omega
          clear h128 hu' hf'
          go_wp2_with (at_builtin; refine wpList_append1 _ rfl (.tmp 27) (.tmp 30) 22 rfl w.heap.size 5 .u8 1 Tryz.underlying22 Tryz.infoU8 ao c acc.length acc rfl rfl (HO.out.alloc _) wr.heap.size 1 (u : Int) rfl (cell_one _ _ _) (by unfold maxLen; omega) (by omega) (base_le HB.out) ?_; intro ao' c' w1 ho' hg')
          go_ret
          refine ⟨ao', c', ?_, ?_, below_app1 HB.out HO.out hg'⟩
          · rw [← HE.out, enc_lt (by omega)]; simp
          · rw [← HE.out, enc_lt (by omega)]; exact ho'
    · have hu : 2 * x = (u0 : Int) := by rw [hu0]; unfold fold; rw [if_pos h0]; omega
      have hd : decide (x < 0) = false := by simp; omega
      clear hu0 hfold
      go_enter Tryz.func113, Tryz.ntmps113
      go_wp2_with (go_at_call 188; refine (l01Number_t _ _ hx).mono ?_; rintro e w' ⟨rfl, rfl⟩)
      clear hu hx
      go_loopw [3, 4] (fun v q wr => PutRel w wr 5 u0 v q) (fun _ q _ => (intOf q).toNat)
      case atStart => exact ⟨_, _, [], u0, rfl, rfl, HF.out, HST.out, rfl, (Below.refl _ _).alloc (Nat.le_refl _) _⟩
      case round =>
        obtain ⟨ao, c, acc, u, rfl, rfl, hu, ho, he, hb⟩ := hrel
        have hal := acc_len he HF.out
        have HE := Lib.hid he; have HO := Lib.hid ho; have HB := Lib.hid hb
        have hu' : (u : Int) ≤ 2000000 := by omega
        have HU := Lib.hid hu; clear hu he ho hb
        by_cases h128 : 128 ≤ u
        · have h128' : (128 : Int) ≤ u := by omega
          go_wp2_with (at_builtin; refine wpList_append1 _ rfl (.tmp 18) (.tmp 23) 22 rfl w.heap.size 5 .u8 1 Tryz.underlying22 Tryz.infoU8 ao c acc.length acc rfl rfl (HO.out.alloc _) wr.heap.size 1 (128 + (u : Int) % 128) rfl (cell_one _ _ _) (by unfold maxLen; omega) (by omega) (base_le HB.out) ?_; intro ao' c' w1 ho' hg')
          go_roundw
          case rel => exact putRel_step rfl h128 HU.out HE.out HO.out HB.out ho' hg'
          case measure => simp [intOf]; omega
        · have h128' : (u : Int) < 128 := by omega
          clear h128 hu' hf'
          go_wp2_with (at_builtin; refine wpList_append1 _ rfl (.tmp 27) (.tmp 30) 22 rfl w.heap.size 5 .u8 1 Tryz.underlying22 Tryz.infoU8 ao c acc.length acc rfl rfl (HO.out.alloc _) wr.heap.size 1 (u : Int) rfl (cell_one _ _ _) (by unfold maxLen; omega) (by omega) (base_le HB.out) ?_; intro ao' c' w1 ho' hg')
          go_ret
          refine ⟨ao', c', ?_, ?_, below_app1 HB.out HO.out hg'⟩
          · rw [← HE.out, enc_lt (by omega)]; simp
          · rw [← HE.out, enc_lt (by omega)]; exact ho'
  · rw [show putN x = [] by unfold putN; rw [isN_not hx]; rfl]
    have HX := Lib.hid hx; clear hx
    go_enter Tryz.func113, Tryz.ntmps113
    go_wp2_with (go_at_call 188; refine (l01Number_f _ _ HX.out).mono ?_; rintro e w' ⟨rfl, rfl⟩)
    go_ret
    exact ⟨none, 0, rfl, Own.none_, (Below.refl _ _).alloc (Nat.le_refl _) _⟩
end Go.Proofs.YtfpbhedophlnkaaGreatDoor
