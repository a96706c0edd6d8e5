/-
  Contract of impl.numberIn. For every text that is not too long.
-/
import Derived.Test.YtdkiaahcmoafdaaGreatDoorPSch
import Derived.Test.YtdkiaahcmoafdaaGreatDoorSRead
import Derived.Test.YtdkiaahcmoafdaaGreatDoorShelf6
import Derived.Lib.AtoiErrMem
import Derived.Lib.LaidTab
namespace Go.Proofs.YtdkiaahcmoafdaaGreatDoor
open Go.RowKit Go.Shelf
set_option linter.unusedSimpArgs false
set_option linter.unusedVariables false

theorem var_below {P : Program} {w w' : World} {n : String} {cs : Array Value} (h : w.var? P n = some cs) (hb : Below w.heap.size w w') : w'.var? P n = some cs := by
  unfold World.var? at h ⊢
  cases hg : P.globalNamed n with
  | none => simp [hg] at h
  | some g =>
    simp only [hg, Option.bind_some] at h ⊢
    by_cases hlt : g < w.heap.size
    · rw [hb.block g hlt]
      exact h
    · have hn : w.heap[g]? = none := Array.getElem?_eq_none (by omega)
      simp [hn] at h
/-- What the walk asks of the library's variables. -/
structure Glob (w : World) : Prop where
  tab : Lib.TabIs Tryz.prog w "internal/strconv.uint64pow10" .u64 Lib.pow10Tab
  syn : ∃ tp p, w.var? Tryz.prog "strconv.ErrSyntax" = some #[.iface tp p]
  rng : ∃ tp p, w.var? Tryz.prog "strconv.ErrRange" = some #[.iface tp p]
  mxl : ∃ m, w.cell? ⟨Tryz.lays147_ren.g 1, 0, none⟩ = some (.int .i64 m)
theorem Glob.below {w w' : World} (h : Glob w) (hb : Below w.heap.size w w') : Glob w' := by
  obtain ⟨tp, p, hs⟩ := h.syn
  obtain ⟨tq, q, hr⟩ := h.rng
  obtain ⟨m, hm⟩ := h.mxl
  exact ⟨var_below h.tab hb, ⟨tp, p, var_below hs hb⟩, ⟨tq, q, var_below hr hb⟩, ⟨m, (hb.cell (World.block_lt_of_cell? w _ hm)).trans hm⟩⟩
theorem isNumB_any (x : Int) (w : World) : Calls Tryz.prog 26 #[.int .i64 x] w fun e w' => e = .returned (.bool (decide (-1000000 ≤ x) && decide (x ≤ 1000000))) ∧ w = w' := by
  by_cases h1 : -1000000 ≤ x
  · by_cases h2 : x ≤ 1000000
    · go_enter Tryz.func26, Tryz.ntmps26
      go_wp2
      go_ret
      exact ⟨ret_bool (by simp [h1, h2]), rfl⟩
    · have h3 : 1000000 < x := by omega
      go_enter Tryz.func26, Tryz.ntmps26
      go_wp2
      go_ret
      exact ⟨ret_bool (by simp [h2]), rfl⟩
  · have h3 : x < -1000000 := by omega
    have h4 : decide (-1000000 ≤ x) = false := by simp; omega
    go_enter Tryz.func26, Tryz.ntmps26
    go_wp2
    go_ret
    exact ⟨ret_bool (by simp), rfl⟩
theorem atoi_num {y : Int} (h1 : 1 ≤ y) (h2 : y ≤ 6) : Lib.atoiAll (numT y).data.toList = .ok y := by
  have hx : y = 1 ∨ y = 2 ∨ y = 3 ∨ y = 4 ∨ y = 5 ∨ y = 6 := by omega
  rw [numT_list, itoa_small h1 h2]
  rcases hx with rfl | rfl | rfl | rfl | rfl | rfl <;> rfl
def NumPost (s : ByteArray) (w : World) (e : Ending) (w' : World) : Prop :=
  ∃ (x : Int) (ok : Bool), e = .returned (.tuple #[.int .i64 x, .bool ok]) ∧ -1000000 ≤ x ∧ x ≤ 1000000 ∧ Below w.heap.size w w' ∧ ∀ y : Int, 1 ≤ y → y ≤ 6 → s = numT y → x = y
theorem num_no {s : ByteArray} {w w' : World} {e : Ending} (he : e = .returned (.tuple #[.int .i64 0, .bool false])) (hb : Below w.heap.size w w') (h : ∀ y : Int, 1 ≤ y → y ≤ 6 → s ≠ numT y) : NumPost s w e w' :=
  ⟨0, false, he, by omega, by omega, hb, fun y h1 h2 hy => absurd hy (h y h1 h2)⟩
theorem grow_below (w : World) (k : Nat) (os : Array Obj) : Below w.heap.size w (Sort.grow (w.drewN k) os) :=
  ⟨rfl, rfl, rfl, by simp [Sort.grow, World.drewN], fun i hi => by show (w.heap ++ os)[i]? = _; rw [Array.getElem?_append_left hi]⟩

set_option maxRecDepth 100000 in
set_option maxHeartbeats 1600000 in
theorem numberIn_any (s : ByteArray) (w : World) (hs : s.size ≤ 1048576) (hg : Glob w) :
    Calls Tryz.prog 14 #[.string s] w (NumPost s w) := by
  have HG := Lib.hid hg; clear hg
  rcases hA : Lib.atoiAll s.data.toList with v | _ | _
  · have V := Lib.hid (show ∀ y : Int, 1 ≤ y → y ≤ 6 → s = numT y → v = y from fun y h1 h2 hy => by rw [hy, atoi_num h1 h2] at hA; injection hA with hA; exact hA.symm)
    have AT := Lib.hid ((Any.strconv_Atoi_ok Tryz.lays172 s (by omega) v hA w).mono (R' := fun e w' => e = .returned (.tuple #[.int .i64 v, .nilIface]) ∧ Below w.heap.size w w') (fun e w' ⟨he, hw⟩ => ⟨he, by
      rcases hw with rfl | ⟨t, rfl⟩
      · exact Below.refl _ _
      · exact Lib.bytesWorld_below _ _ _⟩))
    clear hA
    by_cases hn : -1000000 ≤ v ∧ v ≤ 1000000
    · obtain ⟨hn1, hn2⟩ := hn
      by_cases hq : numT v = s
      · have hs2 : ((numT v).toList == s.toList) = true := by rw [str_same]; simp [hq]
        have hs3 : ((numT v).toList != s.toList) = false := by simp [bne, hs2]
        have HQ := Lib.hid hq; clear hq
        go_enter Tryz.func14, Tryz.ntmps14
        go_wp2_with fail
        refine AT.out.mono ?_
        rintro e w1 ⟨rfl, b1⟩
        have B1 := Lib.hid b1; have G1 := Lib.hid (HG.out.below b1); clear b1
        go_wp2_with (first | (go_at_call 26; refine (isNumB_any _ _).mono ?_; rintro e w' ⟨rfl, rfl⟩) | (go_at_call 27; refine ((Any.strconv_Itoa Tryz.laysM171 v (by omega) (by omega) _ G1.out.tab).mono (R' := fun e w' => e = .returned (.string (numT v)) ∧ Below w1.heap.size w1 w') (fun e w' ⟨he, k, os, hw⟩ => ⟨he, hw ▸ grow_below _ _ _⟩)).mono ?_; rintro e w2 ⟨rfl, b2⟩; have B2 := Lib.hid (below_step B1.out (Nat.le_refl _) b2); clear b2))
        go_ret2
        exact ⟨v, true, rfl, hn1, hn2, B2.out, V.out⟩
      · have hs2 : ((numT v).toList == s.toList) = false := by rw [str_same]; simp [hq]
        have hs3 : ((numT v).toList != s.toList) = true := by simp [bne, hs2]
        have NO := Lib.hid (show ∀ y : Int, 1 ≤ y → y ≤ 6 → s ≠ numT y from fun y h1 h2 hy => hq (by rw [V.out y h1 h2 hy, hy]))
        clear hq
        go_enter Tryz.func14, Tryz.ntmps14
        go_wp2_with fail
        refine AT.out.mono ?_
        rintro e w1 ⟨rfl, b1⟩
        have B1 := Lib.hid b1; have G1 := Lib.hid (HG.out.below b1); clear b1
        go_wp2_with (first | (go_at_call 26; refine (isNumB_any _ _).mono ?_; rintro e w' ⟨rfl, rfl⟩) | (go_at_call 27; refine ((Any.strconv_Itoa Tryz.laysM171 v (by omega) (by omega) _ G1.out.tab).mono (R' := fun e w' => e = .returned (.string (numT v)) ∧ Below w1.heap.size w1 w') (fun e w' ⟨he, k, os, hw⟩ => ⟨he, hw ▸ grow_below _ _ _⟩)).mono ?_; rintro e w2 ⟨rfl, b2⟩; have B2 := Lib.hid (below_step B1.out (Nat.le_refl _) b2); clear b2))
        go_ret2
        exact num_no rfl B2.out NO.out
    · have NO := Lib.hid (show ∀ y : Int, 1 ≤ y → y ≤ 6 → s ≠ numT y from fun y h1 h2 hy => hn (by rw [V.out y h1 h2 hy]; omega))
      have HB := Lib.hid (show (decide (-1000000 ≤ v) && decide (v ≤ 1000000)) = false by simp; omega)
      clear hn
      go_enter Tryz.func14, Tryz.ntmps14
      go_wp2_with fail
      refine AT.out.mono ?_
      rintro e w1 ⟨rfl, b1⟩
      have B1 := Lib.hid b1; clear b1
      go_wp2_with (go_at_call 26; refine (isNumB_any _ _).mono ?_; rintro e w' ⟨rfl, rfl⟩; rw [HB.out])
      go_ret2
      exact num_no rfl B1.out NO.out
  · obtain ⟨tp, p, hv⟩ := HG.out.syn
    have NO := Lib.hid (show ∀ y : Int, 1 ≤ y → y ≤ 6 → s ≠ numT y from fun y h1 h2 hy => by rw [hy, atoi_num h1 h2] at hA; cases hA)
    have AT := Lib.hid (Any.strconv_Atoi_syntax_var Tryz.lays172 s (by omega) hA tp p w hv)
    clear hA hv
    go_enter Tryz.func14, Tryz.ntmps14
    go_wp2_with fail
    refine AT.out.mono ?_
    rintro e w1 ⟨N, rfl, _, _, b1⟩
    have B1 := Lib.hid b1; clear b1
    go_wp2_with fail
    go_ret2
    exact num_no rfl B1.out NO.out
  · obtain ⟨tp, p, hv⟩ := HG.out.rng
    have NO := Lib.hid (show ∀ y : Int, 1 ≤ y → y ≤ 6 → s ≠ numT y from fun y h1 h2 hy => by rw [hy, atoi_num h1 h2] at hA; cases hA)
    have AT := Lib.hid (Any.strconv_Atoi_range_var Tryz.lays172 s (by omega) hA tp p w hv)
    clear hA hv
    generalize Lib.atoiSat s.data.toList = sat at AT
    go_enter Tryz.func14, Tryz.ntmps14
    go_wp2_with fail
    refine AT.out.mono ?_
    rintro e w1 ⟨N, rfl, _, _, b1⟩
    have B1 := Lib.hid b1; clear b1
    go_wp2_with fail
    go_ret2
    exact num_no rfl B1.out NO.out
end Go.Proofs.YtdkiaahcmoafdaaGreatDoor
