/-
  Contract of impl.numberIn, at every number. For every text that is not too long.
-/
import Derived.Test.YtfpbhedophlnkaaGreatDoorSRead
import Derived.Test.YtfpbhedophlnkaaGreatDoorShelf6
import Derived.Lib.AtoiErrMem
import Derived.Lib.AtoiTie
import Derived.Lib.LaidTab
namespace Go.Proofs.YtfpbhedophlnkaaGreatDoor
open Go.RowKit Go.Shelf
set_option linter.unusedSimpArgs false
set_option linter.unusedVariables false

theorem var_below {P : Program} {w w' : World} {n : String} {cs : Array Value} (h : w.var? P n = some cs) (hb : Below w.heap.size w w') : w'.var? P n = some cs := by
  unfold World.var? at h ⊢
  cases hg : P.globalNamed n with
  | none => simp [hg] at h
  | some g =>
    simp only [hg, Option.bind_some] at h ⊢
    by_cases hlt : g < w.heap.size
    · rw [hb.block g hlt]
      exact h
    · have hn : w.heap[g]? = none := Array.getElem?_eq_none (by omega)
      simp [hn] at h
/-- What reading a number asks of the library's variables. -/
structure GlobN (w : World) : Prop where
  tab : Lib.TabIs Tryz.prog w "internal/strconv.uint64pow10" .u64 Lib.pow10Tab
  syn : ∃ tp p, w.var? Tryz.prog "strconv.ErrSyntax" = some #[.iface tp p]
  rng : ∃ tp p, w.var? Tryz.prog "strconv.ErrRange" = some #[.iface tp p]
theorem GlobN.below {w w' : World} (h : GlobN w) (hb : Below w.heap.size w w') : GlobN w' := by
  obtain ⟨tp, p, hs⟩ := h.syn
  obtain ⟨tq, q, hr⟩ := h.rng
  exact ⟨var_below h.tab hb, ⟨tp, p, var_below hs hb⟩, ⟨tq, q, var_below hr hb⟩⟩
theorem isNumB_any (x : Int) (w : World) : Calls Tryz.prog 171 #[.int .i64 x] w fun e w' => e = .returned (.bool (decide (-1000000 ≤ x) && decide (x ≤ 1000000))) ∧ w = w' := by
  by_cases h1 : -1000000 ≤ x
  · by_cases h2 : x ≤ 1000000
    · go_enter Tryz.func171, Tryz.ntmps171
      go_wp2
      go_ret
      exact ⟨ret_bool (by simp [h1, h2]), rfl⟩
    · have h3 : 1000000 < x := by omega
      go_enter Tryz.func171, Tryz.ntmps171
      go_wp2
      go_ret
      exact ⟨ret_bool (by simp [h2]), rfl⟩
  · have h3 : x < -1000000 := by omega
    have h4 : decide (-1000000 ≤ x) = false := by simp; omega
    go_enter Tryz.func171, Tryz.ntmps171
    go_wp2
    go_ret
    exact ⟨ret_bool (by simp), rfl⟩
theorem decFrom_digits : ∀ (l : List UInt8) (acc : Nat), (∀ c ∈ l, 48 ≤ c.toNat ∧ c.toNat ≤ 57) → Lib.decFrom acc l = some (l.foldl (fun a c => 10 * a + (c.toNat - 48)) acc)
  | [], acc, _ => rfl
  | c :: r, acc, h => by
    have hc := h c (by simp)
    have hd : Lib.digitVal c = some (c.toNat - 48) := by simp [Lib.digitVal, hc.1, hc.2]
    unfold Lib.decFrom
    rw [hd]
    simp only [List.foldl_cons]
    rw [decFrom_digits r _ (fun x hx => h x (List.mem_cons_of_mem _ hx)), Nat.mul_comm acc 10]
theorem decNat_dec (u : Nat) : Lib.decNat (Lib.decDigits u) = some u := by
  unfold Lib.decNat
  have h1 := dec_pos u
  have h2 := valD_dec u
  unfold valD at h2
  rw [decFrom_digits _ _ (dec_digit u), h2]
  cases hc : Lib.decDigits u with
  | nil => rw [hc] at h1; simp at h1
  | cons a b => rfl
theorem atoi_all {y : Int} (h1 : -1000000 ≤ y) (h2 : y ≤ 1000000) : Lib.atoiAll (numT y).data.toList = .ok y := by
  have hz := (num_size y h1 h2).2
  rw [← size_list] at hz
  rw [Lib.atoiAll_short _ (by omega), numT_list]
  have key : Lib.atoi (Lib.itoa y) = some y := by
    unfold Lib.itoa
    split
    · have : Lib.atoi (45 :: Lib.decDigits y.natAbs) = (Lib.decNat (Lib.decDigits y.natAbs)).map fun (m : Nat) => -(m : Int) := by
        simp [Lib.atoi]
      rw [this, decNat_dec]
      simp; omega
    · have hp := dec_pos y.toNat
      have hd := dec_digit y.toNat
      have hn := decNat_dec y.toNat
      cases hc : Lib.decDigits y.toNat with
      | nil => rw [hc] at hp; simp at hp
      | cons a b =>
        rw [hc] at hd hn
        have ha := hd a (by simp)
        have e1 : (a == 45) = false := by
          cases hq : a == 45 with
          | false => rfl
          | true => have := eq_of_beq hq; subst this; simp at ha
        have e2 : (a == 43) = false := by
          cases hq : a == 43 with
          | false => rfl
          | true => have := eq_of_beq hq; subst this; simp at ha
        simp only [Lib.atoi, e1, e2, hn]
        simp; omega
  rw [key]; rfl
def NumAll (s : ByteArray) (w : World) (e : Ending) (w' : World) : Prop :=
  Below w.heap.size w w' ∧ ((∃ x : Int, e = .returned (.tuple #[.int .i64 x, .bool true]) ∧ s = numT x ∧ -1000000 ≤ x ∧ x ≤ 1000000) ∨ (e = .returned (.tuple #[.int .i64 0, .bool false]) ∧ ∀ y : Int, -1000000 ≤ y → y ≤ 1000000 → s ≠ numT y))
theorem all_noN {s : ByteArray} {w w' : World} {e : Ending} (he : e = .returned (.tuple #[.int .i64 0, .bool false])) (hb : Below w.heap.size w w') (h : ∀ y : Int, -1000000 ≤ y → y ≤ 1000000 → s ≠ numT y) : NumAll s w e w' :=
  ⟨hb, .inr ⟨he, h⟩⟩
theorem grow_below (w : World) (k : Nat) (os : Array Obj) : Below w.heap.size w (Sort.grow (w.drewN k) os) :=
  ⟨rfl, rfl, rfl, by simp [Sort.grow, World.drewN], fun i hi => by show (w.heap ++ os)[i]? = _; rw [Array.getElem?_append_left hi]⟩

set_option maxRecDepth 100000 in
set_option maxHeartbeats 1600000 in
theorem numberIn_N (s : ByteArray) (w : World) (hs : s.size ≤ 1048576) (hg : GlobN w) :
    Calls Tryz.prog 87 #[.string s] w (NumAll s w) := by
  have HG := Lib.hid hg; clear hg
  rcases hA : Lib.atoiAll s.data.toList with v | _ | _
  · have V := Lib.hid (show ∀ y : Int, -1000000 ≤ y → y ≤ 1000000 → s = numT y → v = y from fun y h1 h2 hy => by rw [hy, atoi_all h1 h2] at hA; injection hA with hA; exact hA.symm)
    have AT := Lib.hid ((Any.strconv_Atoi_ok Tryz.lays172 s (by omega) v hA w).mono (R' := fun e w' => e = .returned (.tuple #[.int .i64 v, .nilIface]) ∧ Below w.heap.size w w') (fun e w' ⟨he, hw⟩ => ⟨he, by
      rcases hw with rfl | ⟨t, rfl⟩
      · exact Below.refl _ _
      · exact Lib.bytesWorld_below _ _ _⟩))
    clear hA
    by_cases hn : -1000000 ≤ v ∧ v ≤ 1000000
    · obtain ⟨hn1, hn2⟩ := hn
      by_cases hq : numT v = s
      · have hs2 : ((numT v).toList == s.toList) = true := by rw [str_same]; simp [hq]
        have hs3 : ((numT v).toList != s.toList) = false := by simp [bne, hs2]
        have HQ := Lib.hid hq; clear hq
        go_enter Tryz.func87, Tryz.ntmps87
        go_wp2_with fail
        refine AT.out.mono ?_
        rintro e w1 ⟨rfl, b1⟩
        have B1 := Lib.hid b1; have G1 := Lib.hid (HG.out.below b1); clear b1
        go_wp2_with (first | (go_at_call 171; refine (isNumB_any _ _).mono ?_; rintro e w' ⟨rfl, rfl⟩) | (go_at_call 83; refine ((Any.strconv_Itoa Tryz.laysM171 v (by omega) (by omega) _ G1.out.tab).mono (R' := fun e w' => e = .returned (.string (numT v)) ∧ Below w1.heap.size w1 w') (fun e w' ⟨he, k, os, hw⟩ => ⟨he, hw ▸ grow_below _ _ _⟩)).mono ?_; rintro e w2 ⟨rfl, b2⟩; have B2 := Lib.hid (below_step B1.out (Nat.le_refl _) b2); clear b2))
        go_ret2
        exact ⟨B2.out, .inl ⟨v, rfl, HQ.out.symm, hn1, hn2⟩⟩
      · have hs2 : ((numT v).toList == s.toList) = false := by rw [str_same]; simp [hq]
        have hs3 : ((numT v).toList != s.toList) = true := by simp [bne, hs2]
        have NO := Lib.hid (show ∀ y : Int, -1000000 ≤ y → y ≤ 1000000 → s ≠ numT y from fun y h1 h2 hy => hq (by rw [V.out y h1 h2 hy, hy]))
        clear hq
        go_enter Tryz.func87, Tryz.ntmps87
        go_wp2_with fail
        refine AT.out.mono ?_
        rintro e w1 ⟨rfl, b1⟩
        have B1 := Lib.hid b1; have G1 := Lib.hid (HG.out.below b1); clear b1
        go_wp2_with (first | (go_at_call 171; refine (isNumB_any _ _).mono ?_; rintro e w' ⟨rfl, rfl⟩) | (go_at_call 83; refine ((Any.strconv_Itoa Tryz.laysM171 v (by omega) (by omega) _ G1.out.tab).mono (R' := fun e w' => e = .returned (.string (numT v)) ∧ Below w1.heap.size w1 w') (fun e w' ⟨he, k, os, hw⟩ => ⟨he, hw ▸ grow_below _ _ _⟩)).mono ?_; rintro e w2 ⟨rfl, b2⟩; have B2 := Lib.hid (below_step B1.out (Nat.le_refl _) b2); clear b2))
        go_ret2
        exact all_noN rfl B2.out NO.out
    · have NO := Lib.hid (show ∀ y : Int, -1000000 ≤ y → y ≤ 1000000 → s ≠ numT y from fun y h1 h2 hy => hn (by rw [V.out y h1 h2 hy]; omega))
      have HB := Lib.hid (show (decide (-1000000 ≤ v) && decide (v ≤ 1000000)) = false by simp; omega)
      clear hn
      go_enter Tryz.func87, Tryz.ntmps87
      go_wp2_with fail
      refine AT.out.mono ?_
      rintro e w1 ⟨rfl, b1⟩
      have B1 := Lib.hid b1; clear b1
      go_wp2_with (go_at_call 171; refine (isNumB_any _ _).mono ?_; rintro e w' ⟨rfl, rfl⟩; rw [HB.out])
      go_ret2
      exact all_noN rfl B1.out NO.out
  · obtain ⟨tp, p, hv⟩ := HG.out.syn
    have NO := Lib.hid (show ∀ y : Int, -1000000 ≤ y → y ≤ 1000000 → s ≠ numT y from fun y h1 h2 hy => by rw [hy, atoi_all h1 h2] at hA; cases hA)
    have AT := Lib.hid (Any.strconv_Atoi_syntax_var Tryz.lays172 s (by omega) hA tp p w hv)
    clear hA hv
    go_enter Tryz.func87, Tryz.ntmps87
    go_wp2_with fail
    refine AT.out.mono ?_
    rintro e w1 ⟨N, rfl, _, _, b1⟩
    have B1 := Lib.hid b1; clear b1
    go_wp2_with fail
    go_ret2
    exact all_noN rfl B1.out NO.out
  · obtain ⟨tp, p, hv⟩ := HG.out.rng
    have NO := Lib.hid (show ∀ y : Int, -1000000 ≤ y → y ≤ 1000000 → s ≠ numT y from fun y h1 h2 hy => by rw [hy, atoi_all h1 h2] at hA; cases hA)
    have AT := Lib.hid (Any.strconv_Atoi_range_var Tryz.lays172 s (by omega) hA tp p w hv)
    clear hA hv
    generalize Lib.atoiSat s.data.toList = sat at AT
    go_enter Tryz.func87, Tryz.ntmps87
    go_wp2_with fail
    refine AT.out.mono ?_
    rintro e w1 ⟨N, rfl, _, _, b1⟩
    have B1 := Lib.hid b1; clear b1
    go_wp2_with fail
    go_ret2
    exact all_noN rfl B1.out NO.out
end Go.Proofs.YtfpbhedophlnkaaGreatDoor
