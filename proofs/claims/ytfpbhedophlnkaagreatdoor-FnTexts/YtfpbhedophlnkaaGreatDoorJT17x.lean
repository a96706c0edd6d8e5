/-
  Contract of impl.numberIn, at every number. For every text that is not too long. The program's reader of words: contracts of strings.CutPrefix at one byte, of number, literal and cols. For every list of words that are none of them empty. The program's reader of words: contract of cols. For every list of words that are none of them empty.
-/
import Derived.Test.YtfpbhedophlnkaaGreatDoorJT8x
import Derived.Test.YtfpbhedophlnkaaGreatDoorShelf6
import Derived.Lib.AtoiErrMem
import Derived.Lib.AtoiTie
import Derived.Lib.LaidTab
import Derived.Test.YtfpbhedophlnkaaGreatDoorJT15x
import Derived.Test.YtfpbhedophlnkaaGreatDoorJT5x
import Derived.Deep.Onto
namespace Go.Proofs.YtfpbhedophlnkaaGreatDoor
open Go.RowKit Go.Shelf
set_option linter.unusedSimpArgs false
set_option linter.unusedVariables false

theorem var_below {P : Program} {w w' : World} {n : String} {cs : Array Value} (h : w.var? P n = some cs) (hb : Below w.heap.size w w') : w'.var? P n = some cs := by
  unfold World.var? at h ⊢
  cases hg : P.globalNamed n with
  | none => simp [hg] at h
  | some g =>
    simp only [hg, Option.bind_some] at h ⊢
    by_cases hlt : g < w.heap.size
    · rw [hb.block g hlt]
      exact h
    · have hn : w.heap[g]? = none := Array.getElem?_eq_none (by omega)
      simp [hn] at h
/-- What reading a number asks of the library's variables. -/
structure GlobN (w : World) : Prop where
  tab : Lib.TabIs Tryz.prog w "internal/strconv.uint64pow10" .u64 Lib.pow10Tab
  syn : ∃ tp p, w.var? Tryz.prog "strconv.ErrSyntax" = some #[.iface tp p]
  rng : ∃ tp p, w.var? Tryz.prog "strconv.ErrRange" = some #[.iface tp p]
theorem GlobN.below {w w' : World} (h : GlobN w) (hb : Below w.heap.size w w') : GlobN w' := by
  obtain ⟨tp, p, hs⟩ := h.syn
  obtain ⟨tq, q, hr⟩ := h.rng
  exact ⟨var_below h.tab hb, ⟨tp, p, var_below hs hb⟩, ⟨tq, q, var_below hr hb⟩⟩
theorem isNumB_any (x : Int) (w : World) : Calls Tryz.prog 171 #[.int .i64 x] w fun e w' => e = .returned (.bool (decide (-1000000 ≤ x) && decide (x ≤ 1000000))) ∧ w = w' := by
  by_cases h1 : -1000000 ≤ x
  · by_cases h2 : x ≤ 1000000
    · go_enter Tryz.func171, Tryz.ntmps171
      go_wp2
      go_ret
      exact ⟨ret_bool (by simp [h1, h2]), rfl⟩
    · have h3 : 1000000 < x := by omega
      go_enter Tryz.func171, Tryz.ntmps171
      go_wp2
      go_ret
      exact ⟨ret_bool (by simp [h2]), rfl⟩
  · have h3 : x < -1000000 := by omega
    have h4 : decide (-1000000 ≤ x) = false := by simp; omega
    go_enter Tryz.func171, Tryz.ntmps171
    go_wp2
    go_ret
    exact ⟨ret_bool (by simp), rfl⟩
theorem decFrom_digits : ∀ (l : List UInt8) (acc : Nat), (∀ c ∈ l, 48 ≤ c.toNat ∧ c.toNat ≤ 57) → Lib.decFrom acc l = some (l.foldl (fun a c => 10 * a + (c.toNat - 48)) acc)
  | [], acc, _ => rfl
  | c :: r, acc, h => by
    have hc := h c (by simp)
    have hd : Lib.digitVal c = some (c.toNat - 48) := by simp [Lib.digitVal, hc.1, hc.2]
    unfold Lib.decFrom
    rw [hd]
    simp only [List.foldl_cons]
    rw [decFrom_digits r _ (fun x hx => h x (List.mem_cons_of_mem _ hx)), Nat.mul_comm acc 10]
theorem decNat_dec (u : Nat) : Lib.decNat (Lib.decDigits u) = some u := by
  unfold Lib.decNat
  have h1 := dec_pos u
  have h2 := valD_dec u
  unfold valD at h2
  rw [decFrom_digits _ _ (dec_digit u), h2]
  cases hc : Lib.decDigits u with
  | nil => rw [hc] at h1; simp at h1
  | cons a b => rfl
theorem atoi_all {y : Int} (h1 : -1000000 ≤ y) (h2 : y ≤ 1000000) : Lib.atoiAll (numT y).data.toList = .ok y := by
  have hz := (num_size y h1 h2).2
  rw [← size_list] at hz
  rw [Lib.atoiAll_short _ (by omega), numT_list]
  have key : Lib.atoi (Lib.itoa y) = some y := by
    unfold Lib.itoa
    split
    · have : Lib.atoi (45 :: Lib.decDigits y.natAbs) = (Lib.decNat (Lib.decDigits y.natAbs)).map fun (m : Nat) => -(m : Int) := by
        simp [Lib.atoi]
      rw [this, decNat_dec]
      simp; omega
    · have hp := dec_pos y.toNat
      have hd := dec_digit y.toNat
      have hn := decNat_dec y.toNat
      cases hc : Lib.decDigits y.toNat with
      | nil => rw [hc] at hp; simp at hp
      | cons a b =>
        rw [hc] at hd hn
        have ha := hd a (by simp)
        have e1 : (a == 45) = false := by
          cases hq : a == 45 with
          | false => rfl
          | true => have := eq_of_beq hq; subst this; simp at ha
        have e2 : (a == 43) = false := by
          cases hq : a == 43 with
          | false => rfl
          | true => have := eq_of_beq hq; subst this; simp at ha
        simp only [Lib.atoi, e1, e2, hn]
        simp; omega
  rw [key]; rfl
def NumAll (s : ByteArray) (w : World) (e : Ending) (w' : World) : Prop :=
  Below w.heap.size w w' ∧ ((∃ x : Int, e = .returned (.tuple #[.int .i64 x, .bool true]) ∧ s = numT x ∧ -1000000 ≤ x ∧ x ≤ 1000000) ∨ (e = .returned (.tuple #[.int .i64 0, .bool false]) ∧ ∀ y : Int, -1000000 ≤ y → y ≤ 1000000 → s ≠ numT y))
theorem all_noN {s : ByteArray} {w w' : World} {e : Ending} (he : e = .returned (.tuple #[.int .i64 0, .bool false])) (hb : Below w.heap.size w w') (h : ∀ y : Int, -1000000 ≤ y → y ≤ 1000000 → s ≠ numT y) : NumAll s w e w' :=
  ⟨hb, .inr ⟨he, h⟩⟩
theorem grow_below (w : World) (k : Nat) (os : Array Obj) : Below w.heap.size w (Sort.grow (w.drewN k) os) :=
  ⟨rfl, rfl, rfl, by simp [Sort.grow, World.drewN], fun i hi => by show (w.heap ++ os)[i]? = _; rw [Array.getElem?_append_left hi]⟩

set_option maxRecDepth 100000 in
set_option maxHeartbeats 1600000 in
theorem numberIn_N (s : ByteArray) (w : World) (hs : s.size ≤ 1048576) (hg : GlobN w) :
    Calls Tryz.prog 87 #[.string s] w (NumAll s w) := by
  have HG := Lib.hid hg; clear hg
  rcases hA : Lib.atoiAll s.data.toList with v | _ | _
  · have V := Lib.hid (show ∀ y : Int, -1000000 ≤ y → y ≤ 1000000 → s = numT y → v = y from fun y h1 h2 hy => by rw [hy, atoi_all h1 h2] at hA; injection hA with hA; exact hA.symm)
    have AT := Lib.hid ((Any.strconv_Atoi_ok Tryz.lays172 s (by omega) v hA w).mono (R' := fun e w' => e = .returned (.tuple #[.int .i64 v, .nilIface]) ∧ Below w.heap.size w w') (fun e w' ⟨he, hw⟩ => ⟨he, by
      rcases hw with rfl | ⟨t, rfl⟩
      · exact Below.refl _ _
      · exact Lib.bytesWorld_below _ _ _⟩))
    clear hA
    by_cases hn : -1000000 ≤ v ∧ v ≤ 1000000
    · obtain ⟨hn1, hn2⟩ := hn
      by_cases hq : numT v = s
      · have hs2 : ((numT v).toList == s.toList) = true := by rw [str_same]; simp [hq]
        have hs3 : ((numT v).toList != s.toList) = false := by simp [bne, hs2]
        have HQ := Lib.hid hq; clear hq
        go_enter Tryz.func87, Tryz.ntmps87
        go_wp2_with fail
        refine AT.out.mono ?_
        rintro e w1 ⟨rfl, b1⟩
        have B1 := Lib.hid b1; have G1 := Lib.hid (HG.out.below b1); clear b1
        go_wp2_with (first | (go_at_call 171; refine (isNumB_any _ _).mono ?_; rintro e w' ⟨rfl, rfl⟩) | (go_at_call 83; refine ((Any.strconv_Itoa Tryz.laysM171 v (by omega) (by omega) _ G1.out.tab).mono (R' := fun e w' => e = .returned (.string (numT v)) ∧ Below w1.heap.size w1 w') (fun e w' ⟨he, k, os, hw⟩ => ⟨he, hw ▸ grow_below _ _ _⟩)).mono ?_; rintro e w2 ⟨rfl, b2⟩; have B2 := Lib.hid (below_step B1.out (Nat.le_refl _) b2); clear b2))
        go_ret2
        exact ⟨B2.out, .inl ⟨v, rfl, HQ.out.symm, hn1, hn2⟩⟩
      · have hs2 : ((numT v).toList == s.toList) = false := by rw [str_same]; simp [hq]
        have hs3 : ((numT v).toList != s.toList) = true := by simp [bne, hs2]
        have NO := Lib.hid (show ∀ y : Int, -1000000 ≤ y → y ≤ 1000000 → s ≠ numT y from fun y h1 h2 hy => hq (by rw [V.out y h1 h2 hy, hy]))
        clear hq
        go_enter Tryz.func87, Tryz.ntmps87
        go_wp2_with fail
        refine AT.out.mono ?_
        rintro e w1 ⟨rfl, b1⟩
        have B1 := Lib.hid b1; have G1 := Lib.hid (HG.out.below b1); clear b1
        go_wp2_with (first | (go_at_call 171; refine (isNumB_any _ _).mono ?_; rintro e w' ⟨rfl, rfl⟩) | (go_at_call 83; refine ((Any.strconv_Itoa Tryz.laysM171 v (by omega) (by omega) _ G1.out.tab).mono (R' := fun e w' => e = .returned (.string (numT v)) ∧ Below w1.heap.size w1 w') (fun e w' ⟨he, k, os, hw⟩ => ⟨he, hw ▸ grow_below _ _ _⟩)).mono ?_; rintro e w2 ⟨rfl, b2⟩; have B2 := Lib.hid (below_step B1.out (Nat.le_refl _) b2); clear b2))
        go_ret2
        exact all_noN rfl B2.out NO.out
    · have NO := Lib.hid (show ∀ y : Int, -1000000 ≤ y → y ≤ 1000000 → s ≠ numT y from fun y h1 h2 hy => hn (by rw [V.out y h1 h2 hy]; omega))
      have HB := Lib.hid (show (decide (-1000000 ≤ v) && decide (v ≤ 1000000)) = false by simp; omega)
      clear hn
      go_enter Tryz.func87, Tryz.ntmps87
      go_wp2_with fail
      refine AT.out.mono ?_
      rintro e w1 ⟨rfl, b1⟩
      have B1 := Lib.hid b1; clear b1
      go_wp2_with (go_at_call 171; refine (isNumB_any _ _).mono ?_; rintro e w' ⟨rfl, rfl⟩; rw [HB.out])
      go_ret2
      exact all_noN rfl B1.out NO.out
  · obtain ⟨tp, p, hv⟩ := HG.out.syn
    have NO := Lib.hid (show ∀ y : Int, -1000000 ≤ y → y ≤ 1000000 → s ≠ numT y from fun y h1 h2 hy => by rw [hy, atoi_all h1 h2] at hA; cases hA)
    have AT := Lib.hid (Any.strconv_Atoi_syntax_var Tryz.lays172 s (by omega) hA tp p w hv)
    clear hA hv
    go_enter Tryz.func87, Tryz.ntmps87
    go_wp2_with fail
    refine AT.out.mono ?_
    rintro e w1 ⟨N, rfl, _, _, b1⟩
    have B1 := Lib.hid b1; clear b1
    go_wp2_with fail
    go_ret2
    exact all_noN rfl B1.out NO.out
  · obtain ⟨tp, p, hv⟩ := HG.out.rng
    have NO := Lib.hid (show ∀ y : Int, -1000000 ≤ y → y ≤ 1000000 → s ≠ numT y from fun y h1 h2 hy => by rw [hy, atoi_all h1 h2] at hA; cases hA)
    have AT := Lib.hid (Any.strconv_Atoi_range_var Tryz.lays172 s (by omega) hA tp p w hv)
    clear hA hv
    generalize Lib.atoiSat s.data.toList = sat at AT
    go_enter Tryz.func87, Tryz.ntmps87
    go_wp2_with fail
    refine AT.out.mono ?_
    rintro e w1 ⟨N, rfl, _, _, b1⟩
    have B1 := Lib.hid b1; clear b1
    go_wp2_with fail
    go_ret2
    exact all_noN rfl B1.out NO.out
end Go.Proofs.YtfpbhedophlnkaaGreatDoor
namespace Go.Proofs.YtfpbhedophlnkaaGreatDoor
open Go.RowKit
set_option linter.unusedSimpArgs false
set_option linter.unusedVariables false

theorem head_ofI {s : ByteArray} (h : 0 < s.size) : s.data.toList.head? = some s[0] := by
  rw [List.head?_eq_getElem?, Array.getElem?_toList, Array.getElem?_eq_getElem (show 0 < s.data.size from h)]; rfl
theorem ext_one {s : ByteArray} (h : 0 < s.size) : s.extract 0 1 = ⟨#[s[0]]⟩ := by
  apply ByteArray.ext
  rw [ByteArray.data_extract]
  apply Array.toList_inj.1
  have h1 := head_ofI h
  cases hl : s.data.toList with
  | nil => rw [hl] at h1; simp at h1
  | cons a r => rw [hl] at h1; simp at h1; simp [Array.toList_extract, List.extract_eq_take_drop, hl, h1]
theorem cutM_yes {s : ByteArray} (h : 0 < s.size) (hc : s[0].toNat = 36) : cutM true s = (s.extract 1 s.size, true) := by
  unfold cutM
  rw [if_pos ⟨rfl, by rw [head_ofI h]; exact congrArg some (UInt8.toNat_inj.1 hc)⟩]
theorem cutM_no {s : ByteArray} (h : 0 < s.size) (hc : ¬ s[0].toNat = 36) : cutM true s = (s, false) := by
  unfold cutM
  rw [if_neg]
  rintro ⟨_, h2⟩
  rw [head_ofI h] at h2
  injection h2 with h2
  exact hc (by rw [h2]; rfl)
theorem has_any (s : ByteArray) (w : World) (h : 0 < s.size) : Calls Tryz.prog 293 #[.string s, .string ⟨#[36]⟩] w fun e w' => e = .returned (.bool (decide (s[0].toNat = 36))) ∧ w = w' := by
  have i0 : (1 : Int) ≤ (s.size : Int) := by omega
  have e1 := ext_one h
  by_cases hc : s[0].toNat = 36
  · have E := Lib.hid (show decide (s[0].toNat = 36) = true by simp [hc])
    have e2 : s.extract 0 1 = ⟨#[36]⟩ := by rw [e1, show s[0] = 36 from UInt8.toNat_inj.1 hc]
    have q := str_same (s.extract 0 1) ⟨#[36]⟩
    have q2 : decide (s.extract 0 1 = ⟨#[36]⟩) = true := by simp [e2]
    rw [q2, show (⟨#[36]⟩ : ByteArray).toList = [36] by rw [ByteArray.toList_eq]] at q
    clear e1 e2 q2 hc
    go_enter Tryz.func293, Tryz.ntmps293
    go_wp2_with fail
    go_ret
    exact ⟨by rw [E.out]; rfl, rfl⟩
  · have E := Lib.hid (show decide (s[0].toNat = 36) = false by simp [hc])
    have e2 : ¬ s.extract 0 1 = ⟨#[36]⟩ := by
      rw [e1]; intro e
      have := congrArg (fun b : ByteArray => b.data.toList) e
      simp at this
      exact hc (by rw [this]; rfl)
    have q := str_same (s.extract 0 1) ⟨#[36]⟩
    have q2 : decide (s.extract 0 1 = ⟨#[36]⟩) = false := by simp [e2]
    rw [q2, show (⟨#[36]⟩ : ByteArray).toList = [36] by rw [ByteArray.toList_eq]] at q
    clear e1 e2 q2 hc
    go_enter Tryz.func293, Tryz.ntmps293
    go_wp2_with fail
    go_ret
    exact ⟨by rw [E.out]; rfl, rfl⟩
theorem cutPre_any (s : ByteArray) (w : World) (h : 0 < s.size) : Calls Tryz.prog 294 #[.string s, .string ⟨#[36]⟩] w fun e w' => e = .returned (.tuple #[.string (cutM true s).1, .bool (cutM true s).2]) ∧ w = w' := by
  have HA := Lib.hid (fun W => has_any s W h)
  have i0 : (1 : Int) ≤ (s.size : Int) := by omega
  by_cases hc : s[0].toNat = 36
  · rw [cutM_yes h hc]
    rw [show decide (s[0].toNat = 36) = true by simp [hc]] at HA
    have I : Hid (∀ W, Calls Tryz.prog 321 #[.string s, .string ⟨#[36]⟩] W fun e w' => e = .returned (.tuple #[.string (s.extract 1 s.size), .bool true]) ∧ W = w') := fun W => by
      clear hc
      go_enter Tryz.func321, Tryz.ntmps321
      go_wp2_with fail
      refine (HA.out _).mono ?_
      rintro e w' ⟨rfl, rfl⟩
      go_wp2_with fail
      go_ret2
      exact ⟨rfl, rfl⟩
    clear hc
    go_enter Tryz.func294, Tryz.ntmps294
    go_wp2_with fail
    refine (I.out _).mono ?_
    rintro e w' ⟨rfl, rfl⟩
    go_wp2_with fail
    go_ret2
    exact ⟨rfl, rfl⟩
  · rw [cutM_no h hc]
    rw [show decide (s[0].toNat = 36) = false by simp [hc]] at HA
    have I : Hid (∀ W, Calls Tryz.prog 321 #[.string s, .string ⟨#[36]⟩] W fun e w' => e = .returned (.tuple #[.string s, .bool false]) ∧ W = w') := fun W => by
      clear hc
      go_enter Tryz.func321, Tryz.ntmps321
      go_wp2_with fail
      refine (HA.out _).mono ?_
      rintro e w' ⟨rfl, rfl⟩
      go_wp2_with fail
      go_ret2
      exact ⟨rfl, rfl⟩
    clear hc
    go_enter Tryz.func294, Tryz.ntmps294
    go_wp2_with fail
    refine (I.out _).mono ?_
    rintro e w' ⟨rfl, rfl⟩
    go_wp2_with fail
    go_ret2
    exact ⟨rfl, rfl⟩
/-- A number out of a text, or none. -/
def NumQ (s : ByteArray) (w : World) (e : Ending) (w' : World) : Prop :=
  ∃ (x : Int) (ok : Bool), e = .returned (.tuple #[.int .i64 x, .bool ok]) ∧ Below w.heap.size w w' ∧ ((ok = true ∧ readN s = some x) ∨ (ok = false ∧ readN s = none))
theorem numQ_any (s : ByteArray) (w : World) (hs : s.size ≤ 1048576) (hg : GlobN w) : Calls Tryz.prog 87 #[.string s] w (NumQ s w) :=
  (numberIn_N s w hs hg).mono fun e w' ⟨hb, h⟩ => by
    rcases h with ⟨x, he, hx, h1, h2⟩ | ⟨he, h⟩
    · exact ⟨x, true, he, hb, .inl ⟨rfl, readN_yes (fun _ _ => numT_inj) hx h1 h2⟩⟩
    · exact ⟨0, false, he, hb, .inr ⟨rfl, readN_no h⟩⟩
def WdsI (ws : List ByteArray) : Prop := ∀ s ∈ ws, 0 < s.size ∧ s.size ≤ 2000
def NumI (r : Option (Int × Bool)) (R : Nat) (ao : Option Addr) (c : Nat) (ws : List ByteArray) (p : Nat) (w : World) (e : Ending) (w' : World) : Prop :=
  match r with
  | none => Pnk p R w e w'
  | some x => TookI6 (.int .i64 x.1) R ao c ws (p + 1) w e w'
def LitI (r : Option (Int × Bool)) (R : Nat) (ao : Option Addr) (c : Nat) (ws : List ByteArray) (p : Nat) (w : World) (e : Ending) (w' : World) : Prop :=
  match r with
  | none => Pnk p R w e w'
  | some x => TookI6 (.tuple #[.int .i64 x.1, .bool x.2]) R ao c ws (p + 1) w e w'
theorem intQ_endI {slot : Bool} {ws : List ByteArray} {p : Nat} (h : ws[p]? = none) : intQ slot ws p = none := by unfold intQ; rw [h]
theorem cutM_false (s : ByteArray) : cutM false s = (s, false) := by unfold cutM; simp
theorem intQ_tail {slot : Bool} {ws : List ByteArray} {p : Nat} {s d : ByteArray} {m : Bool} (hx : ws[p]? = some s) (hc : cutM slot s = (d, m)) : (∀ x, readN d = some x → (m = true ∧ x < 0) → intQ slot ws p = none) ∧ (∀ x, readN d = some x → ¬ (m = true ∧ x < 0) → intQ slot ws p = some (x, m)) ∧ (readN d = none → intQ slot ws p = none) := by
  have e : intQ slot ws p = litQ slot s := by unfold intQ; rw [hx]
  rw [e]
  unfold litQ
  rw [hc]
  refine ⟨fun x hr h => ?_, fun x hr h => ?_, fun hr => ?_⟩
  · simp only [hr]; rw [if_pos h]
  · simp only [hr]; rw [if_neg h]
  · simp only [hr]
/-- The library's variables stay where only the reader and new blocks turn. -/
def GKeep (R : Nat) (w : World) : Prop := ∀ w', w.grownBy w' (some R) → GlobN w'
theorem GKeep.step {R : Nat} {w w1 : World} (h : GKeep R w) (hg : w.grownBy w1 (some R)) : GKeep R w1 := fun w' hg' => h w' (grownBy_trans hg hg')
theorem GKeep.here {R : Nat} {w : World} (h : GKeep R w) : GlobN w := h w (World.grownBy.refl w (some R))

set_option maxRecDepth 100000 in
theorem number_any {R c p : Nat} {ao : Option Addr} {ws : List ByteArray} (w : World) (hw : WdsI ws) (hg : GKeep R w) (h : Prd w R ao c ws p) :
    Calls Tryz.prog 255 #[.pointer (some ⟨R, 0, none⟩)] w (NumI (intQ false ws p) R ao c ws p w) := by
  have G := Lib.hid hg
  obtain ⟨rr, hrr⟩ : ∃ rr, rr = intQ false ws p := ⟨_, rfl⟩
  cases hx : ws[p]? with
  | none =>
    have T := Lib.hid (next_end w h hx)
    rw [intQ_endI hx]
    clear h hx hw hg hrr
    go_enter Tryz.func255, Tryz.ntmps255
    go_wp2_with fail
    refine T.out.mono ?_
    rintro e w1 ⟨rfl, g1⟩
    go_wp2_with fail
    exact ⟨rfl, rfl, g1⟩
  | some s =>
    have T := Lib.hid (next_yes w h hx)
    obtain ⟨_, h2k⟩ := hw s (List.mem_of_getElem? hx)
    obtain ⟨_, t2, t3⟩ := intQ_tail hx (cutM_false s)
    rw [← hrr] at t2 t3 ⊢
    have T2 := Lib.hid t2; have T3 := Lib.hid t3
    have NQ := Lib.hid (fun W g => numQ_any s W (by omega) g)
    clear h hx hw hg hrr t2 t3
    go_enter Tryz.func255, Tryz.ntmps255
    go_wp2_with fail
    refine T.out.mono ?_
    rintro e w1 ⟨rfl, h1, g1⟩
    have H1 := Lib.hid h1; have G1 := Lib.hid g1
    clear h1 g1
    go_wp2_with fail
    refine (NQ.out _ (G.out _ G1.out)).mono ?_
    rintro e w2 ⟨x, ok, rfl, b2, hq⟩
    have H2 := Lib.hid (H1.out.below b2); have G2 := Lib.hid (grownBy_below G1.out b2)
    clear b2
    rcases hq with ⟨rfl, hq⟩ | ⟨rfl, hq⟩
    · have E := Lib.hid (T2.out x hq (by simp))
      clear hq
      go_wp2_with fail
      go_ret
      rw [E.out]
      exact ⟨rfl, H2.out, G2.out⟩
    · have E := Lib.hid (T3.out hq)
      have LA := Lib.hid (last_any w2 H2.out)
      clear hq
      go_wp2_with fail
      refine LA.out.mono ?_
      rintro e w' ⟨rfl, rfl⟩
      go_wp2_with fail
      rw [E.out]
      exact ⟨rfl, rfl, G2.out⟩
set_option maxRecDepth 100000 in
theorem literal_any {R c p : Nat} {ao : Option Addr} {ws : List ByteArray} (w : World) (hw : WdsI ws) (hg : GKeep R w) (h : Prd w R ao c ws p) :
    Calls Tryz.prog 256 #[.pointer (some ⟨R, 0, none⟩)] w (LitI (intQ true ws p) R ao c ws p w) := by
  have G := Lib.hid hg
  obtain ⟨rr, hrr⟩ : ∃ rr, rr = intQ true ws p := ⟨_, rfl⟩
  cases hx : ws[p]? with
  | none =>
    have T := Lib.hid (next_end w h hx)
    rw [intQ_endI hx]
    clear h hx hw hg hrr
    go_enter Tryz.func256, Tryz.ntmps256
    go_wp2_with fail
    refine T.out.mono ?_
    rintro e w1 ⟨rfl, g1⟩
    go_wp2_with fail
    exact ⟨rfl, rfl, g1⟩
  | some s =>
    have T := Lib.hid (next_yes w h hx)
    obtain ⟨hpos, h2k⟩ := hw s (List.mem_of_getElem? hx)
    have CP := Lib.hid (fun W => cutPre_any s W hpos)
    have hds : (cutM true s).1.size ≤ 2000 := by
      unfold cutM; split
      · simp only; rw [ByteArray.size_extract]; omega
      · exact h2k
    obtain ⟨⟨d, m⟩, hdm⟩ : ∃ x, x = cutM true s := ⟨_, rfl⟩
    rw [← hdm] at CP hds
    obtain ⟨t1, t2, t3⟩ := intQ_tail hx hdm.symm
    rw [← hrr] at t1 t2 t3 ⊢
    have T1 := Lib.hid t1; have T2 := Lib.hid t2; have T3 := Lib.hid t3
    simp only at CP hds
    have NQ := Lib.hid (fun W g => numQ_any d W (by omega) g)
    clear h hx hw hg hrr t1 t2 t3 hdm
    go_enter Tryz.func256, Tryz.ntmps256
    go_wp2_with fail
    refine T.out.mono ?_
    rintro e w1 ⟨rfl, h1, g1⟩
    have H1 := Lib.hid h1; have G1 := Lib.hid g1
    clear h1 g1
    go_wp2_with fail
    refine (CP.out _).mono ?_
    rintro e w' ⟨rfl, rfl⟩
    go_wp2_with fail
    refine (NQ.out _ (G.out _ G1.out)).mono ?_
    rintro e w2 ⟨x, ok, rfl, b2, hq⟩
    have H2 := Lib.hid (H1.out.below b2); have G2 := Lib.hid (grownBy_below G1.out b2)
    have LA := Lib.hid (last_any w2 H2.out)
    clear b2
    rcases hq with ⟨rfl, hq⟩ | ⟨rfl, hq⟩
    · by_cases hm : m = true ∧ x < 0
      · have E := Lib.hid (T1.out x hq hm)
        obtain ⟨rfl, hx0⟩ := hm
        have d0 : decide (x < 0) = true := by simpa using hx0
        clear hq
        go_wp2_with fail
        refine LA.out.mono ?_
        rintro e w' ⟨rfl, rfl⟩
        go_wp2_with fail
        rw [E.out]
        exact ⟨rfl, rfl, G2.out⟩
      · have E := Lib.hid (T2.out x hq hm)
        clear hq
        cases m with
        | false =>
          go_wp2_with fail
          go_ret2
          rw [E.out]
          exact ⟨rfl, H2.out, G2.out⟩
        | true =>
          have d0 : decide (x < 0) = false := by simp at hm; simpa using hm
          clear hm
          go_wp2_with fail
          go_ret2
          rw [E.out]
          exact ⟨rfl, H2.out, G2.out⟩
    · have E := Lib.hid (T3.out hq)
      clear hq
      cases m
      all_goals
        go_wp2_with fail
        refine LA.out.mono ?_
        rintro e w' ⟨rfl, rfl⟩
        go_wp2_with fail
        rw [E.out]
        exact ⟨rfl, rfl, G2.out⟩
end Go.Proofs.YtfpbhedophlnkaaGreatDoor
namespace Go.Proofs.YtfpbhedophlnkaaGreatDoor
open Go.RowKit
set_option linter.unusedSimpArgs false
set_option linter.unusedVariables false

theorem grown_belowI {a b c : World} {row : Option Nat} (h : a.grownBy b row) (k : Below a.heap.size b c) : a.grownBy c row :=
  ⟨k.os.trans h.os, k.tape.trans h.tape, k.output.trans h.output, Nat.le_trans h.size k.size, fun i hi hne => (k.block i hi).trans (h.block i hi hne)⟩
theorem Prd.words {w : World} {R c p : Nat} {ao : Option Addr} {ws : List ByteArray} (h : Prd w R ao c ws p) : ∀ a, ao = some a → ws ≠ [] → a.block < w.heap.size := by
  obtain ⟨hh, hr, _⟩ := h
  intro a ha hl
  rcases hr with rfl | ⟨b1, off, rfl, hc⟩
  · exact absurd rfl hl
  · cases ha
    have hpos : 0 < ws.length := Nat.pos_of_ne_zero (fun e => hl (List.eq_nil_of_length_eq_zero e))
    exact World.block_lt_of_cell? w ⟨b1, off + 0, none⟩ (hc 0 hpos)
theorem Prd.belowB {w w' : World} {B R c p : Nat} {ao : Option Addr} {ws : List ByteArray} (h : Prd w R ao c ws p) (hR : R < B) (hB : ∀ a, ao = some a → ws ≠ [] → a.block < B) (hb : Below B w w') : Prd w' R ao c ws p := by
  obtain ⟨hh, hr, hp, hne, h2⟩ := h
  refine ⟨(hb.block R hR).trans hh, ?_, hp, hne, h2⟩
  rcases hr with rfl | ⟨b1, off, rfl, hc⟩
  · exact .inl rfl
  · by_cases hl : ws = []
    · exact .inl hl
    · exact .inr ⟨b1, off, rfl, fun i hi => (hb.cell (p := ⟨b1, off + i, none⟩) (hB ⟨b1, off, none⟩ rfl hl)).trans (hc i hi)⟩
def ColsI (r : Nat ⊕ List Int) (R : Nat) (ao : Option Addr) (c : Nat) (ws : List ByteArray) (p : Nat) (w : World) (e : Ending) (w' : World) : Prop :=
  match r with
  | .inl q => Pnk q R w e w'
  | .inr l => ∃ a cc, e = .returned (.slice a l.length cc) ∧ Own w' w.heap.size 3 .i64 a cc l ∧ Prd w' R ao c ws (p + 1 + l.length) ∧ w.grownBy w' (some R)
/-- How many columns, and each of them. -/
noncomputable def keepQ (ws : List ByteArray) (p : Nat) : Nat ⊕ List Int :=
  match intQ false ws p with
  | none => .inl p
  | some m => if 1 ≤ m.1 ∧ m.1 ≤ 6 then colsQ ws (p + 1) m.1.toNat else .inl p
theorem set_rep (acc : List Int) (k : Nat) (x : Int) : (acc ++ List.replicate (k + 1) 0).set acc.length x = (acc ++ [x]) ++ List.replicate k 0 := by
  rw [List.set_append_right _ _ (Nat.le_refl _), Nat.sub_self, List.replicate_succ]
  simp
def ClRel (w : World) (R : Nat) (ao : Option Addr) (c : Nat) (ws : List ByteArray) (p cnt g : Nat) (wr : World) (i : Value) : Prop :=
  ∃ (j : Nat) (acc : List Int), i = .int .i64 j ∧ j ≤ cnt ∧ colsQ ws (p + 1) j = .inr acc ∧ wr.ownsRow w.heap.size 3 1 (.slice (some ⟨g, 0, none⟩) cnt cnt) cnt ((acc ++ List.replicate (cnt - j) 0).map (Value.int .i64)) ∧ Prd wr R ao c ws (p + 1 + j) ∧ w.grownBy wr (some R)

set_option maxRecDepth 100000 in
set_option maxHeartbeats 1600000 in
theorem cols_any {R c p : Nat} {ao : Option Addr} {ws : List ByteArray} (w : World) (hw : WdsI ws) (hg : GKeep R w) (h : Prd w R ao c ws p) :
    Calls Tryz.prog 254 #[.pointer (some ⟨R, 0, none⟩)] w (ColsI (keepQ ws p) R ao c ws p w) := by
  obtain ⟨i0, hi, hz0, hz1, hz2⟩ := info_parts Tryz.infoI64
  have G := Lib.hid hg
  have HR := h.lt
  have HWD := Lib.hid h.words
  have N1 := Lib.hid (number_any w hw hg h)
  have NN := Lib.hid (fun W q (g : GKeep R W) (h : Prd W R ao c ws q) => number_any W hw g h)
  have K : Hid (keepQ ws p = match intQ false ws p with | none => .inl p | some m => if 1 ≤ m.1 ∧ m.1 ≤ 6 then colsQ ws (p + 1) m.1.toNat else .inl p) := rfl
  obtain ⟨rr, hrr⟩ : ∃ rr, rr = keepQ ws p := ⟨_, rfl⟩
  rw [← hrr] at K ⊢
  obtain ⟨r1, hr1⟩ : ∃ r1, r1 = intQ false ws p := ⟨_, rfl⟩
  rw [← hr1] at K N1
  clear h hw hg hrr hr1
  cases r1 with
  | none =>
    have E : Hid (rr = .inl p) := K.out
    go_enter Tryz.func254, Tryz.ntmps254
    go_wp2_with fail
    refine N1.out.mono ?_
    rintro e w1 ⟨rfl, g1⟩
    go_wp2_with fail
    rw [E.out]
    exact ⟨rfl, rfl, g1⟩
  | some m =>
    obtain ⟨m, mm⟩ := m
    simp only at K
    by_cases hm : 1 ≤ m ∧ m ≤ 6
    · obtain ⟨cnt, rfl⟩ : ∃ cnt : Nat, m = cnt := ⟨m.toNat, by omega⟩
      have E : Hid (rr = colsQ ws (p + 1) cnt) := by show _ = _; rw [K.out, if_pos hm, Int.toNat_natCast]
      have hc6 : cnt ≤ 6 := by omega
      have d1 : decide ((cnt : Int) < 1) = false := by simp; omega
      have d2 : decide ((6 : Int) < (cnt : Int)) = false := by simp; omega
      clear hm K
      go_enter Tryz.func254, Tryz.ntmps254
      go_wp2_with fail
      refine N1.out.mono ?_
      rintro e w1 ⟨rfl, h1, g1⟩
      have H1 := Lib.hid h1; have G1 := Lib.hid g1
      clear h1 g1 N1
      go_wp2_with (at_make; refine wpList_make_full _ rfl (.tmp 17) (.tmp 17) 47 rfl w1.heap.size 3 i0 (.int .i64 0) 1 Tryz.underlying47 hi hz0 hz1 .i64 .i64 _ _ cnt rfl rfl rfl rfl (by rw [hz2]; omega) (by unfold maxLen; omega) (Nat.le_refl _) ?_; intro w2 hown hgrow)
      rw [made_ints] at hown
      have hz := G1.out.size
      have HO := Lib.hid (World.ownsRow.mono hown (show w.heap.size ≤ w1.heap.size from hz))
      have HB := Lib.hid (below_of_grown hgrow (Nat.le_refl _) (by intro g hg; cases hg))
      have H2 := Lib.hid (H1.out.below HB.out); have G2 := Lib.hid (grown_belowI G1.out (HB.out.mono hz))
      clear hgrow hi hz0 hz1 hz2 hown
      go_wp2_with fail
      go_loopw [21] (fun i wr => ClRel w R ao c ws p cnt w1.heap.size wr i) (fun i _ => cnt - (intOf i).toNat)
      case atStart => exact ⟨0, [], rfl, Nat.zero_le _, rfl, by simpa using HO.out, H2.out, G2.out⟩
      case round =>
        obtain ⟨j, acc, rfl, hj, hcq, ho, hp, hgr⟩ := hrel
        have CQ := Lib.hid hcq; have O := Lib.hid ho; have HP := Lib.hid hp; have GR := Lib.hid hgr
        have hal := (colsQ_len hcq).1
        have szr := hgr.size
        clear hcq ho hp hgr
        by_cases hlt : j < cnt
        · have i1 : (j : Int) < (cnt : Int) := by omega
          have N2 := Lib.hid (NN.out wr (p + 1 + j) (G.out.step GR.out) HP.out)
          obtain ⟨r2, hr2⟩ : ∃ r2, r2 = intQ false ws (p + 1 + j) := ⟨_, rfl⟩
          rw [← hr2] at N2
          have HR2 := Lib.hid hr2.symm
          clear hr2
          cases r2 with
          | none =>
            have E2 := Lib.hid (E.out.trans (colsQ_stays (colsQ_no CQ.out HR2.out) cnt (by omega)))
            go_wp2_with fail
            refine N2.out.mono ?_
            rintro e w3 ⟨rfl, g3⟩
            have G3 := Lib.hid (grownBy_trans GR.out g3)
            clear g3
            go_wp2_with fail
            rw [E2.out]
            exact ⟨rfl, rfl, G3.out⟩
          | some x =>
            obtain ⟨x, xm⟩ := x
            have CY := Lib.hid (colsQ_yes CQ.out HR2.out)
            go_wp2_with fail
            refine N2.out.mono ?_
            rintro e w3 ⟨rfl, h3, g3⟩
            simp only
            have O3 := O.out.kept g3 (.inr (by simp [Value.ownBlock]; omega))
            have hl3 : j < ((acc ++ List.replicate (cnt - j) (0 : Int)).map (Value.int IntKind.i64)).length := by simp; omega
            have hcell : ∃ y, w3.cell? ⟨w1.heap.size, j, none⟩ = some y := ⟨_, (O3.cellAt j (by omega)).trans (List.getElem?_eq_getElem hl3)⟩
            obtain ⟨y, hy⟩ := hcell
            have hf := O3.frozenAt j
            have ST := (O3.stored j (.int .i64 x)).1
            rw [map_set_int, show cnt - j = (cnt - (j + 1)) + 1 by omega, ← hal, set_rep, hal] at ST
            have HST := Lib.hid ST
            have BS := Lib.hid ((Below.refl w.heap.size w3).setCell (p := ⟨w1.heap.size, j, none⟩) hz (.int .i64 x))
            have H3 := Lib.hid (h3.belowB HR HWD.out BS.out)
            have G3 := Lib.hid (grown_belowI (grownBy_trans GR.out g3) BS.out)
            clear ST O3 h3 g3 hl3
            go_wp2_with fail
            go_roundw
            case rel => exact ⟨j + 1, acc ++ [x], by go_num, hlt, CY.out, HST.out, H3.out, G3.out⟩
            case measure => simp [intOf]; omega
        · obtain rfl : j = cnt := by omega
          have E2 := Lib.hid (E.out.trans CQ.out)
          have O' := O.out
          rw [Nat.sub_self, List.replicate_zero, List.append_nil] at O'
          have HO' := Lib.hid O'
          clear O'
          go_wp2_with fail
          go_ret
          rw [E2.out]
          exact ⟨_, _, by rw [hal]; rfl, by have := HO'.out; rw [← hal] at this ⊢; exact this, by rw [hal]; exact HP.out, GR.out⟩
    · have E : Hid (rr = .inl p) := by show _ = _; rw [K.out, if_neg hm]
      by_cases h0 : m < 1
      · have d1 : decide (m < 1) = true := by simpa using h0
        clear hm K
        go_enter Tryz.func254, Tryz.ntmps254
        go_wp2_with fail
        refine N1.out.mono ?_
        rintro e w1 ⟨rfl, h1, g1⟩
        have LA := Lib.hid (last_any w1 h1)
        have G1 := Lib.hid g1
        clear h1 g1 N1
        go_wp2_with fail
        refine LA.out.mono ?_
        rintro e w' ⟨rfl, rfl⟩
        go_wp2_with fail
        rw [E.out]
        exact ⟨rfl, rfl, G1.out⟩
      · have d1 : decide (m < 1) = false := by simpa using h0
        have d2 : decide (6 < m) = true := by simp; omega
        clear hm K
        go_enter Tryz.func254, Tryz.ntmps254
        go_wp2_with fail
        refine N1.out.mono ?_
        rintro e w1 ⟨rfl, h1, g1⟩
        have LA := Lib.hid (last_any w1 h1)
        have G1 := Lib.hid g1
        clear h1 g1 N1
        go_wp2_with fail
        refine LA.out.mono ?_
        rintro e w' ⟨rfl, rfl⟩
        go_wp2_with fail
        rw [E.out]
        exact ⟨rfl, rfl, G1.out⟩
end Go.Proofs.YtfpbhedophlnkaaGreatDoor
