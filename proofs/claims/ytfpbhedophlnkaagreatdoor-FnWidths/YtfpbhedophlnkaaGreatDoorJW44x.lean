/-
  Contract of spec.l01Read: the number that a word writes. For every text. What the library's parting of a text gives at a schema's text. Plain facts; no walk.
-/
import Derived.Test.YtfpbhedophlnkaaGreatDoorJW42x
import Derived.Test.YtfpbhedophlnkaaGreatDoorJW7x
import Derived.Test.YtfpbhedophlnkaaGreatDoorJW43x
import Derived.Lib.Split
import Derived.Lib.IndexMore
import Derived.Lib.IndexBytes
namespace Go.Proofs.YtfpbhedophlnkaaGreatDoor
open Go.RowKit
set_option linter.unusedSimpArgs false
set_option linter.unusedVariables false

/-- What reading a number answers. -/
def ReadPost (s : ByteArray) (w : World) (e : Ending) (w' : World) : Prop :=
  ∃ (x : Int) (ok : Bool), e = .returned (.tuple #[.int .i64 x, .bool ok]) ∧ Below w.heap.size w w' ∧ (ok = true → s = numT x ∧ -1000000 ≤ x ∧ x ≤ 1000000) ∧ (ok = false → ∀ y : Int, -1000000 ≤ y → y ≤ 1000000 → s ≠ numT y)
theorem read_no {s : ByteArray} {w w' : World} {e : Ending} (he : e = .returned (.tuple #[.int .i64 0, .bool false])) (hb : Below w.heap.size w w') (h : ∀ y : Int, -1000000 ≤ y → y ≤ 1000000 → s ≠ numT y) : ReadPost s w e w' :=
  ⟨0, false, he, hb, by simp, fun _ => h⟩
theorem numRange_any (x : Int) (w : World) :
    Calls Tryz.prog 188 #[.int .i64 x] w fun e w' => e = .returned (.bool (decide (-1000000 ≤ x) && decide (x ≤ 1000000))) ∧ w = w' := by
  go_enter Tryz.func188, Tryz.ntmps188
  go_wp2_with (go_at_call 97; refine (l01In_any _ _ _ _).mono ?_; rintro e w' ⟨rfl, rfl⟩)
  go_ret
  exact ⟨rfl, rfl⟩
theorem size_list (s : ByteArray) : s.data.toList.length = s.size := by rw [Array.length_toList]; rfl
/-- A number's text that does not begin with a sign. -/
theorem form_pos {s : ByteArray} {y : Int} (h : s = numT y) (h0 : ∀ c, s.data.toList[0]? = some c → c ≠ 45) : 0 ≤ y ∧ s.data.toList = Lib.decDigits y.toNat := by
  have hl : s.data.toList = Lib.itoa y := by rw [h, numT_list]
  unfold Lib.itoa at hl
  split at hl
  · exact absurd rfl (h0 45 (by rw [hl]; rfl))
  · exact ⟨by omega, hl⟩
theorem form_neg {s : ByteArray} {y : Int} (h : s = numT y) (h0 : s.data.toList[0]? = some 45) : y < 0 ∧ s.data.toList = 45 :: Lib.decDigits y.natAbs := by
  have hl : s.data.toList = Lib.itoa y := by rw [h, numT_list]
  unfold Lib.itoa at hl
  split at hl
  · exact ⟨by assumption, hl⟩
  · rw [hl] at h0
    have := dec_digit y.toNat 45 (List.mem_of_getElem? h0)
    simp at this
theorem bytes_num {s : ByteArray} {x : Int} (h : s.data.toList = Lib.itoa x) : s = numT x := by
  apply ByteArray.ext
  apply Array.toList_inj.1
  rw [h, numT_list]
theorem str_same (a b : ByteArray) : (a.toList == b.toList) = decide (a = b) := by
  rw [ByteArray.toList_eq, ByteArray.toList_eq, Bool.eq_iff_iff]
  simp
  constructor
  · intro h; apply ByteArray.ext; exact h
  · rintro rfl; rfl

set_option maxRecDepth 100000 in
set_option maxHeartbeats 1600000 in
theorem readPos_any (s : ByteArray) (w : World) (h1 : 1 ≤ s.size) (h7 : s.size ≤ 7) (h45 : s[0].toNat ≠ 45) :
    Calls Tryz.prog 258 #[.string s] w (ReadPost s w) := by
  have H0 := Lib.hid (show ∀ c, s.data.toList[0]? = some c → c ≠ 45 by
    intro c hc hh
    subst hh
    have X : s.data.toList[0]? = some s[0] := by rw [Array.getElem?_toList, Array.getElem?_eq_getElem (show 0 < s.data.size from h1)]; rfl
    rw [X] at hc
    injection hc with hc
    exact h45 (by rw [hc]; rfl))
  have h1' : (0 : Int) < (s.size : Int) := by omega
  have hq : ((s[0].toNat : Int) == 45) = false := by simp; omega
  have HL := Lib.hid (show (decide ((1 : Int) ≤ s.size) && decide ((s.size : Int) ≤ 7)) = true by simp; omega)
  go_enter Tryz.func258, Tryz.ntmps258
  go_wp2_with (go_at_call 97; refine (l01In_any _ _ _ _).mono ?_; rintro e w' ⟨rfl, rfl⟩; rw [HL.out])
  go_loop [5, 6] (fun x i => ∃ k : Nat, k ≤ s.size ∧ i = .int .i64 k ∧ x = .int .i64 (valD (s.data.toList.take k) : Nat) ∧ ∀ c ∈ s.data.toList.take k, 48 ≤ c.toNat ∧ c.toNat ≤ 57) (fun _ i => s.size - (intOf i).toNat)
  case atStart => exact ⟨0, Nat.zero_le _, rfl, rfl, by simp⟩
  case round =>
    obtain ⟨k, hk, rfl, rfl, hall⟩ := hrel
    have hv := valD_lt hall
    have hv7 : valD (s.data.toList.take k) < 10000000 := by
      have h2 : (10 : Nat) ^ (s.data.toList.take k).length ≤ 10 ^ 7 := Nat.pow_le_pow_right (by omega) (by simp [size_list]; omega)
      have : (10 : Nat) ^ 7 = 10000000 := by decide
      omega
    clear hv
    have HA := Lib.hid hall; clear hall
    by_cases hlt : k < s.size
    · have hlt' : (k : Int) < (s.size : Int) := by omega
      have X := Lib.hid (show s.data.toList[k]? = some s[k] by rw [Array.getElem?_toList, Array.getElem?_eq_getElem (show k < s.data.size from hlt)]; rfl)
      by_cases hdig : 48 ≤ s[k].toNat ∧ s[k].toNat ≤ 57
      · obtain ⟨hd1, hd2⟩ := hdig
        have hd1' : decide ((s[k].toNat : Int) < 48) = false := by simp; omega
        have hd2' : decide ((57 : Int) < (s[k].toNat : Int)) = false := by simp; omega
        have R := Lib.hid (show valD (s.data.toList.take (k + 1)) = 10 * valD (s.data.toList.take k) + (s[k].toNat - 48) ∧ ∀ c ∈ s.data.toList.take (k + 1), 48 ≤ c.toNat ∧ c.toNat ≤ 57 by
          rw [List.take_add_one, X.out]
          refine ⟨valD_snoc _ _, fun c hc => ?_⟩
          rcases List.mem_append.1 hc with hc | hc
          · exact HA.out c hc
          · simp at hc; subst hc; exact ⟨hd1, hd2⟩)
        generalize valD (s.data.toList.take k) = v at hv7 R
        go_wp2_with fail
        go_round
        case rel => exact ⟨k + 1, by omega, by go_num, by rw [R.out.1]; go_num, R.out.2⟩
        case measure => simp [intOf]; omega
      · have NO := Lib.hid (show ∀ y : Int, -1000000 ≤ y → y ≤ 1000000 → s ≠ numT y from fun y _ _ hy => by
          have hf := (form_pos hy H0.out).2
          have := dec_digit y.toNat s[k] (by rw [← hf]; exact List.mem_of_getElem? X.out)
          exact hdig this)
        by_cases hlo : s[k].toNat < 48
        · have hlo' : (s[k].toNat : Int) < 48 := by omega
          clear hdig
          go_wp2_with fail
          go_ret2
          exact read_no rfl (Below.refl _ _) NO.out
        · have hlo' : decide ((s[k].toNat : Int) < 48) = false := by simp; omega
          have hhi : (57 : Int) < (s[k].toNat : Int) := by omega
          clear hdig
          go_wp2_with fail
          go_ret2
          exact read_no rfl (Below.refl _ _) NO.out
    · obtain rfl : k = s.size := by omega
      have E := Lib.hid (show s.data.toList.take s.size = s.data.toList from List.take_of_length_le (by rw [size_list]; exact Nat.le_refl _))
      have C := Lib.hid (show ∀ y : Int, s = numT y → y = (valD (s.data.toList.take s.size) : Nat) from fun y hy => by
        have hf := form_pos hy H0.out
        rw [E.out, hf.2, valD_dec]; omega)
      generalize valD (s.data.toList.take s.size) = v at hv7 C
      have hv0 : (0 : Int) ≤ (v : Int) := by omega
      have hvb : (v : Int) < 10000000 := by omega
      by_cases hq2 : numT (v : Int) = s
      · have hs2 : ((numT (v : Int)).toList == s.toList) = true := by rw [str_same]; simp [hq2]
        have HQ := Lib.hid hq2; clear hq2
        go_wp2_with fail
        refine (num_all (v : Int) (by omega) (by omega) _).mono ?_
        rintro e w1 ⟨rfl, b1⟩
        have B1 := Lib.hid b1; clear b1
        go_wp2_with (go_at_call 188; refine (numRange_any _ _).mono ?_; rintro e w' ⟨rfl, rfl⟩)
        go_ret2
        refine ⟨_, _, rfl, B1.out, fun hok => ?_, fun hok y _ hy1 hy => ?_⟩
        · simp at hok
          exact ⟨HQ.out.symm, by omega, by omega⟩
        · have := C.out y hy
          simp at hok
          omega
      · have hs2 : ((numT (v : Int)).toList == s.toList) = false := by rw [str_same]; simp [hq2]
        have HQ := Lib.hid hq2; clear hq2
        go_wp2_with fail
        refine (num_all (v : Int) (by omega) (by omega) _).mono ?_
        rintro e w1 ⟨rfl, b1⟩
        have B1 := Lib.hid b1; clear b1
        go_wp2_with (go_at_call 188; refine (numRange_any _ _).mono ?_; rintro e w' ⟨rfl, rfl⟩)
        go_ret2
        refine ⟨_, _, rfl, B1.out, fun hok => ?_, fun hok y _ hy1 hy => ?_⟩
        · simp at hok
        · have := C.out y hy
          exact HQ.out (by rw [← this]; exact hy.symm)

set_option maxRecDepth 100000 in
set_option maxHeartbeats 1600000 in
theorem readNeg_any (s : ByteArray) (w : World) (h1 : 2 ≤ s.size) (h7 : s.size ≤ 8) (h45 : s[0].toNat = 45) :
    Calls Tryz.prog 258 #[.string s] w (ReadPost s w) := by
  have H0 := Lib.hid (show s.data.toList[0]? = some 45 by
    rw [Array.getElem?_toList, Array.getElem?_eq_getElem (show 0 < s.data.size from (show 0 < s.size by omega))]
    have : s.data[0]'(show 0 < s.size by omega) = 45 := UInt8.toNat_inj.1 h45
    rw [this])
  have h1' : (0 : Int) < (s.size : Int) := by omega
  have h1'' : (1 : Int) ≤ (s.size : Int) := by omega
  have hq : ((s[0].toNat : Int) == 45) = true := by simp; omega
  have HL := Lib.hid (show (decide ((1 : Int) ≤ ((s.size - 1 : Nat) : Int)) && decide (((s.size - 1 : Nat) : Int) ≤ 7)) = true by simp; omega)
  go_enter Tryz.func258, Tryz.ntmps258
  go_wp2_with fail
  refine (l01In_any _ _ _ _).mono ?_
  rintro e w' ⟨rfl, rfl⟩
  rw [HL.out]
  obtain ⟨D, hD⟩ : ∃ D, D = s.extract 1 s.size := ⟨_, rfl⟩
  rw [← hD]
  have hDl : D.data.toList = s.data.toList.drop 1 := by
    rw [hD, ByteArray.data_extract]
    simp [Array.toList_extract, List.extract_eq_take_drop]
    exact List.take_of_length_le (by rw [List.length_tail, size_list]; exact Nat.le_refl _)
  have hDs : D.size = s.size - 1 := by
    rw [← size_list D, hDl, List.length_drop, size_list]
  have HDL := Lib.hid hDl
  have hDa : D.size + 1 ≤ s.size := by omega
  have hDb : s.size ≤ D.size + 1 := by omega
  have hDc : (D.size : Int) < (s.size : Int) := by omega
  clear hD hDl hDs h45
  go_wp2_with fail
  go_loop [5, 6] (fun x i => ∃ k : Nat, k ≤ D.size ∧ i = .int .i64 k ∧ x = .int .i64 (valD (D.data.toList.take k) : Nat) ∧ ∀ c ∈ D.data.toList.take k, 48 ≤ c.toNat ∧ c.toNat ≤ 57) (fun _ i => D.size - (intOf i).toNat)
  case atStart => exact ⟨0, Nat.zero_le _, rfl, rfl, by simp⟩
  case round =>
    obtain ⟨k, hk, rfl, rfl, hall⟩ := hrel
    have hv := valD_lt hall
    have hv7 : valD (D.data.toList.take k) < 10000000 := by
      have h2 : (10 : Nat) ^ (D.data.toList.take k).length ≤ 10 ^ 7 := Nat.pow_le_pow_right (by omega) (by simp [size_list]; omega)
      have : (10 : Nat) ^ 7 = 10000000 := by decide
      omega
    clear hv
    have HA := Lib.hid hall; clear hall
    by_cases hlt : k < D.size
    · have hlt' : (k : Int) < (D.size : Int) := by omega
      have X := Lib.hid (show D.data.toList[k]? = some D[k] by rw [Array.getElem?_toList, Array.getElem?_eq_getElem (show k < D.data.size from hlt)]; rfl)
      by_cases hdig : 48 ≤ D[k].toNat ∧ D[k].toNat ≤ 57
      · obtain ⟨hd1, hd2⟩ := hdig
        have hd1' : decide ((D[k].toNat : Int) < 48) = false := by simp; omega
        have hd2' : decide ((57 : Int) < (D[k].toNat : Int)) = false := by simp; omega
        have R := Lib.hid (show valD (D.data.toList.take (k + 1)) = 10 * valD (D.data.toList.take k) + (D[k].toNat - 48) ∧ ∀ c ∈ D.data.toList.take (k + 1), 48 ≤ c.toNat ∧ c.toNat ≤ 57 by
          rw [List.take_add_one, X.out]
          refine ⟨valD_snoc _ _, fun c hc => ?_⟩
          rcases List.mem_append.1 hc with hc | hc
          · exact HA.out c hc
          · simp at hc; subst hc; exact ⟨hd1, hd2⟩)
        generalize valD (D.data.toList.take k) = v at hv7 R
        go_wp2_with fail
        go_round
        case rel => exact ⟨k + 1, by omega, by go_num, by rw [R.out.1]; go_num, R.out.2⟩
        case measure => simp [intOf]; omega
      · have NO := Lib.hid (show ∀ y : Int, -1000000 ≤ y → y ≤ 1000000 → s ≠ numT y from fun y _ _ hy => by
          have hf := (form_neg hy H0.out).2
          have hf2 : D.data.toList = Lib.decDigits y.natAbs := by rw [HDL.out, hf]; rfl
          have := dec_digit y.natAbs D[k] (by rw [← hf2]; exact List.mem_of_getElem? X.out)
          exact hdig this)
        by_cases hlo : D[k].toNat < 48
        · have hlo' : (D[k].toNat : Int) < 48 := by omega
          clear hdig
          go_wp2_with fail
          go_ret2
          exact read_no rfl (Below.refl _ _) NO.out
        · have hlo' : decide ((D[k].toNat : Int) < 48) = false := by simp; omega
          have hhi : (57 : Int) < (D[k].toNat : Int) := by omega
          clear hdig
          go_wp2_with fail
          go_ret2
          exact read_no rfl (Below.refl _ _) NO.out
    · obtain rfl : k = D.size := by omega
      have E := Lib.hid (show D.data.toList.take D.size = D.data.toList from List.take_of_length_le (by rw [size_list]; exact Nat.le_refl _))
      have C := Lib.hid (show ∀ y : Int, s = numT y → y = -((valD (D.data.toList.take D.size) : Nat) : Int) from fun y hy => by
        have hf := form_neg hy H0.out
        have hf2 : D.data.toList = Lib.decDigits y.natAbs := by rw [HDL.out, hf.2]; rfl
        rw [E.out, hf2, valD_dec]; omega)
      generalize valD (D.data.toList.take D.size) = v at hv7 C
      have hv0 : (0 : Int) ≤ (v : Int) := by omega
      have hvb : (v : Int) < 10000000 := by omega
      by_cases hq2 : numT (-(v : Int)) = s
      · have hs2 : ((numT (-(v : Int))).toList == s.toList) = true := by rw [str_same]; simp [hq2]
        have HQ := Lib.hid hq2; clear hq2
        go_wp2_with fail
        refine (num_all (-(v : Int)) (by omega) (by omega) _).mono ?_
        rintro e w1 ⟨rfl, b1⟩
        have B1 := Lib.hid b1; clear b1
        go_wp2_with (go_at_call 188; refine (numRange_any _ _).mono ?_; rintro e w' ⟨rfl, rfl⟩)
        go_ret2
        refine ⟨_, _, rfl, B1.out, fun hok => ?_, fun hok y _ hy1 hy => ?_⟩
        · simp at hok
          exact ⟨HQ.out.symm, by omega, by omega⟩
        · have := C.out y hy
          simp at hok
          omega
      · have hs2 : ((numT (-(v : Int))).toList == s.toList) = false := by rw [str_same]; simp [hq2]
        have HQ := Lib.hid hq2; clear hq2
        go_wp2_with fail
        refine (num_all (-(v : Int)) (by omega) (by omega) _).mono ?_
        rintro e w1 ⟨rfl, b1⟩
        have B1 := Lib.hid b1; clear b1
        go_wp2_with (go_at_call 188; refine (numRange_any _ _).mono ?_; rintro e w' ⟨rfl, rfl⟩)
        go_ret2
        refine ⟨_, _, rfl, B1.out, fun hok => ?_, fun hok y _ hy1 hy => ?_⟩
        · simp at hok
        · have := C.out y hy
          exact HQ.out (by rw [← this]; exact hy.symm)

theorem num_size (y : Int) (h0 : -1000000 ≤ y) (h1 : y ≤ 1000000) : 1 ≤ (numT y).size ∧ (numT y).size ≤ 8 := by
  have hl : (numT y).size = (Lib.itoa y).length := by rw [← size_list, numT_list]
  rw [hl]
  unfold Lib.itoa
  split
  · have := dec_pos y.natAbs; have := dec_len (u := y.natAbs) (by omega); simp; omega
  · have := dec_pos y.toNat; have := dec_len (u := y.toNat) (by omega); omega
set_option maxRecDepth 100000 in
set_option maxHeartbeats 1600000 in
theorem read_any (s : ByteArray) (w : World) (hs : s.size ≤ maxLen) : Calls Tryz.prog 258 #[.string s] w (ReadPost s w) := by
  unfold maxLen at hs
  by_cases hz : s.size = 0
  · have hz' : (s.size : Int) ≤ 0 := by omega
    have NO := Lib.hid (show ∀ y : Int, -1000000 ≤ y → y ≤ 1000000 → s ≠ numT y from fun y h0 h1 hy => by have := num_size y h0 h1; rw [← hy] at this; omega)
    have HL := Lib.hid (show (decide ((1 : Int) ≤ s.size) && decide ((s.size : Int) ≤ 7)) = false by simp; omega)
    clear hz
    go_enter Tryz.func258, Tryz.ntmps258
    go_wp2_with (go_at_call 97; refine (l01In_any _ _ _ _).mono ?_; rintro e w' ⟨rfl, rfl⟩; rw [HL.out])
    go_ret2
    exact read_no rfl (Below.refl _ _) NO.out
  · have hp : 0 < s.size := by omega
    have h1' : (0 : Int) < (s.size : Int) := by omega
    have h1'' : (1 : Int) ≤ (s.size : Int) := by omega
    by_cases h45 : s[0].toNat = 45
    · by_cases hl : 2 ≤ s.size ∧ s.size ≤ 8
      · exact readNeg_any s w hl.1 hl.2 h45
      · have X : s.data.toList[0]? = some 45 := by
          rw [Array.getElem?_toList, Array.getElem?_eq_getElem (show 0 < s.data.size from hp)]
          have : s.data[0]'hp = 45 := UInt8.toNat_inj.1 h45
          rw [this]
        have NO := Lib.hid (show ∀ y : Int, -1000000 ≤ y → y ≤ 1000000 → s ≠ numT y from fun y h0 h1 hy => by
          have hf := (form_neg hy X).2
          have hh := congrArg List.length hf
          rw [size_list, List.length_cons] at hh
          have := dec_pos y.natAbs
          have := dec_len (u := y.natAbs) (by omega)
          omega)
        have hq : ((s[0].toNat : Int) == 45) = true := by simp; omega
        have HL := Lib.hid (show (decide ((1 : Int) ≤ ((s.size - 1 : Nat) : Int)) && decide (((s.size - 1 : Nat) : Int) ≤ 7)) = false by simp; omega)
        clear X hz hl h45
        go_enter Tryz.func258, Tryz.ntmps258
        go_wp2_with (go_at_call 97; refine (l01In_any _ _ _ _).mono ?_; rintro e w' ⟨rfl, rfl⟩; rw [HL.out])
        go_ret2
        exact read_no rfl (Below.refl _ _) NO.out
    · by_cases hl : s.size ≤ 7
      · exact readPos_any s w hp hl h45
      · have X : ∀ c, s.data.toList[0]? = some c → c ≠ 45 := by
          intro c hc hh
          subst hh
          have X : s.data.toList[0]? = some s[0] := by rw [Array.getElem?_toList, Array.getElem?_eq_getElem (show 0 < s.data.size from hp)]; rfl
          rw [X] at hc
          injection hc with hc
          exact h45 (by rw [hc]; rfl)
        have NO := Lib.hid (show ∀ y : Int, -1000000 ≤ y → y ≤ 1000000 → s ≠ numT y from fun y h0 h1 hy => by
          have hf := (form_pos hy X).2
          have hh := congrArg List.length hf
          rw [size_list] at hh
          have := dec_len (u := y.toNat) (by omega)
          omega)
        have hq : ((s[0].toNat : Int) == 45) = false := by simp; omega
        have HL := Lib.hid (show (decide ((1 : Int) ≤ s.size) && decide ((s.size : Int) ≤ 7)) = false by simp; omega)
        clear X hz hl h45
        go_enter Tryz.func258, Tryz.ntmps258
        go_wp2_with (go_at_call 97; refine (l01In_any _ _ _ _).mono ?_; rintro e w' ⟨rfl, rfl⟩; rw [HL.out])
        go_ret2
        exact read_no rfl (Below.refl _ _) NO.out
end Go.Proofs.YtfpbhedophlnkaaGreatDoor
namespace Go.Proofs.YtfpbhedophlnkaaGreatDoor
set_option linter.unusedSimpArgs false
set_option linter.unusedVariables false

theorem ib_hit {c : UInt8} : ∀ (a d : List UInt8), (∀ x ∈ a, x ≠ c) → Lib.indexByte (a ++ c :: d) c = a.length
  | [], d, _ => by simp [Lib.indexByte]
  | x :: a, d, h => by
    have ih := ib_hit a d (fun y hy => h y (by simp [hy]))
    rw [List.cons_append]
    unfold Lib.indexByte
    rw [if_neg (by simpa using h x (by simp)), ih, if_neg (by simp)]
    simp
theorem ib_miss {c : UInt8} : ∀ (a : List UInt8), (∀ x ∈ a, x ≠ c) → Lib.indexByte a c = -1
  | [], _ => rfl
  | x :: a, h => by
    have ih := ib_miss a (fun y hy => h y (by simp [hy]))
    unfold Lib.indexByte
    rw [if_neg (by simpa using h x (by simp)), ih]
    rfl
theorem cut_hit {a d : List UInt8} (h : ∀ x ∈ a, x ≠ 47) : Lib.cut (a ++ 47 :: d) [47] = (a, d, true) := by
  unfold Lib.cut
  rw [Lib.index_one, ib_hit a d h, if_pos (by omega)]
  simp
theorem cut_size (l sep : List UInt8) : (Lib.cut l sep).1.length ≤ l.length ∧ (Lib.cut l sep).2.1.length ≤ l.length := by
  unfold Lib.cut
  split
  · simp; omega
  · simp
theorem mkB_list (x : List UInt8) : (mkB x).data.toList = x := by simp [mkB]
theorem mkB_size (x : List UInt8) : (mkB x).size = x.length := by rw [← size_list, mkB_list]
theorem ext_le (s : ByteArray) (m k : Nat) : (s.extract m k).size ≤ s.size := by
  rw [ext_mk, mkB_size, ← size_list s]
  simp; omega
theorem splitN_le (sep : ByteArray) (save : Nat) : ∀ (k : Nat) (s x : ByteArray), x ∈ Lib.splitB sep save k s → x.size ≤ s.size
  | 0, s, x, h => by simp [Lib.splitB] at h; rw [h]; exact Nat.le_refl _
  | k + 1, s, x, h => by
    unfold Lib.splitB at h
    split at h
    · simp at h; rw [h]; exact Nat.le_refl _
    · rcases List.mem_cons.1 h with h | h
      · rw [h]; exact ext_le _ _ _
      · exact Nat.le_trans (splitN_le sep save k _ x h) (ext_le _ _ _)
theorem splitN_words : ∀ (xs : List (List UInt8)) (k : Nat), xs ≠ [] → (∀ x ∈ xs, ∀ c ∈ x, c ≠ 32) → xs.length ≤ k + 1 → Lib.splitB ⟨#[32]⟩ 0 k (mkB (joinB 32 xs)) = xs.map mkB
  | [], k, h, _, _ => absurd rfl h
  | [x], k, _, h, _ => by
    have : Lib.indexB (mkB x) ⟨#[32]⟩ = -1 := by
      show Lib.index (mkB x).data.toList [32] = -1
      rw [mkB_list, Lib.index_one, ib_miss x (h x (by simp))]
    exact Lib.splitB_miss _ _ _ _ this
  | x :: y :: r, 0, _, _, hk => by simp at hk
  | x :: y :: r, k + 1, _, h, hk => by
    have ih := splitN_words (y :: r) k (by simp) (fun z hz => h z (List.mem_cons_of_mem _ hz)) (by simp at hk ⊢; omega)
    have hi : Lib.indexB (mkB (joinB 32 (x :: y :: r))) ⟨#[32]⟩ = x.length := by
      show Lib.index (mkB _).data.toList [32] = _
      rw [mkB_list, Lib.index_one]
      exact ib_hit x _ (h x (by simp))
    rw [Lib.splitB_hit _ _ _ _ _ hi, ext_mk, ext_mk, mkB_list]
    have e1 : ((joinB 32 (x :: y :: r)).drop 0).take (x.length + 0 - 0) = x := by simp [joinB]
    have e2 : ((joinB 32 (x :: y :: r)).drop (x.length + (ByteArray.mk #[32]).size)).take ((mkB (joinB 32 (x :: y :: r))).size - (x.length + (ByteArray.mk #[32]).size)) = joinB 32 (y :: r) := by
      have h1 : (ByteArray.mk #[32]).size = 1 := rfl
      rw [h1, mkB_size]
      have h2 : (joinB 32 (x :: y :: r)).drop (x.length + 1) = joinB 32 (y :: r) := by
        simp only [joinB]
        rw [← List.drop_drop]
        simp
      rw [h2]
      apply List.take_of_length_le
      simp only [joinB, List.length_append, List.length_cons]
      omega
    rw [e1, e2, ih]
    rfl
/-- The words that the library gives of a schema's text. -/
theorem splitN_sch {s : ByteArray} {m : List Tb} (hm : schemaB m = true) (hne : m ≠ []) (he : s.data.toList = schT m) : Lib.splitB ⟨#[32]⟩ 0 (min 9 (s.size + 1) - 1) s = m.map fun t => mkB (wordOf t) := by
  obtain ⟨hw, hn⟩ := sch_words hm hne
  have ha := schema_all hm
  have hs : s = mkB (joinB 32 (m.map wordOf)) := by
    apply ByteArray.ext
    apply Array.toList_inj.1
    rw [mkB_list, he, ← hw, join_split]
  have hl := split_len 32 (schT m)
  rw [hw, List.length_map, ← he, size_list] at hl
  have h8 := (schemaB_iff.1 hm).1
  have key := splitN_words (m.map wordOf) (min 9 (s.size + 1) - 1) (by simpa using hne) (by
    intro x hx
    obtain ⟨t, ht, rfl⟩ := List.mem_map.1 hx
    rw [← (tbT_word (ha t ht)).1]
    exact (tbT_word (ha t ht)).2.2) (by rw [List.length_map]; omega)
  rw [← hs] at key
  rw [key, List.map_map]
  rfl
/-- What is known of the tables that the program reads. -/
def Cuts (WS : List ByteArray) (out : List Tb) : Prop :=
  ∀ (i : Nat) (t : Tb), out[i]? = some t → ∃ wd : ByteArray, WS[i]? = some wd ∧ t.name = mkB (Lib.cut wd.data.toList [47]).1 ∧ ∀ y : Int, 1 ≤ y → y ≤ 6 → mkB (Lib.cut wd.data.toList [47]).2.1 = numT y → t.width = y
theorem Cuts.snoc {WS : List ByteArray} {out : List Tb} {t : Tb} {wd : ByteArray} (h : Cuts WS out) (hw : WS[out.length]? = some wd) (hn : t.name = mkB (Lib.cut wd.data.toList [47]).1) (hx : ∀ y : Int, 1 ≤ y → y ≤ 6 → mkB (Lib.cut wd.data.toList [47]).2.1 = numT y → t.width = y) : Cuts WS (out ++ [t]) := by
  intro i u hu
  by_cases hi : i < out.length
  · rw [List.getElem?_append_left hi] at hu; exact h i u hu
  · rw [List.getElem?_append_right (by omega)] at hu
    have h0 : i - out.length = 0 := by
      have := (List.getElem?_eq_some_iff.1 hu).1; simp at this; omega
    rw [h0] at hu
    simp at hu
    subst hu
    rw [show i = out.length by omega]
    exact ⟨wd, hw, hn, hx⟩
theorem cuts_sch {s : ByteArray} {m out : List Tb} (hm : schemaB m = true) (hne : m ≠ []) (he : s.data.toList = schT m) (hl : out.length = (Lib.splitB ⟨#[32]⟩ 0 (min 9 (s.size + 1) - 1) s).length) (hc : Cuts (Lib.splitB ⟨#[32]⟩ 0 (min 9 (s.size + 1) - 1) s) out) : out = m := by
  have hs := splitN_sch hm hne he
  rw [hs] at hl hc
  rw [List.length_map] at hl
  apply List.ext_getElem? 
  intro i
  by_cases hi : i < out.length
  · have hu : out[i]? = some out[i] := List.getElem?_eq_getElem hi
    obtain ⟨wd, hw, hn, hx⟩ := hc i _ hu
    rw [List.getElem?_map] at hw
    have hi2 : i < m.length := by omega
    have hmi : m[i]? = some m[i] := List.getElem?_eq_getElem hi2
    rw [hmi] at hw
    simp at hw
    have hmem : m[i] ∈ m := List.getElem_mem hi2
    have ht := schema_all hm m[i] hmem
    obtain ⟨_, h1, h2⟩ := tableB_iff ht
    have h47 := (tbT_word ht).2.1
    have hcut : Lib.cut wd.data.toList [47] = (m[i].name.data.toList, Lib.itoa m[i].width, true) := by
      rw [← hw, mkB_list]
      exact cut_hit h47
    rw [hcut] at hn hx
    rw [hu, hmi]
    congr 1
    apply key_inj
    · unfold Tb.key
      rw [hn, mkB_list]
    · exact hx m[i].width h1 h2 (by unfold mkB numT; rfl)
  · rw [List.getElem?_eq_none (by omega), List.getElem?_eq_none (by omega)]
end Go.Proofs.YtfpbhedophlnkaaGreatDoor
