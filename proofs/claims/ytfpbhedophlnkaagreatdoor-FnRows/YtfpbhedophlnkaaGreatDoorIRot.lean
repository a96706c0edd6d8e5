/-
  Contract of slices.rotateCmpFunc at rows: two neighbours are turned.
-/
import Derived.Test.YtfpbhedophlnkaaGreatDoorJR11x
namespace Go.Proofs.YtfpbhedophlnkaaGreatDoor
open Go.Shelf Go.RowKit Go.Lib Go.Sort
set_option linter.unusedSimpArgs false
set_option linter.unusedVariables false

section
variable {α : Type} [Inhabited α]
theorem swapRange_z (enc : α → Value) (g : Nat) (cb : Array Value) (blk off cap : Nat) (d0 : Array α) (w0 w : World) (L U Q V T d e : List α)
    (R : Row1 enc w0 blk off d0) (hd : d = L ++ U ++ Q ++ V ++ T) (he : e = L ++ V ++ Q ++ U ++ T) (hs : d0.size = d.length) (S : SW enc w0 blk off d.toArray w) (za zb zn : Int) (hu : zn = (U.length : Int)) (hv : zn = (V.length : Int)) (ha : za = (L.length : Int)) (hb : zb = (L.length : Int) + zn + (Q.length : Int)) (hsz : d0.size ≤ 1048576) :
    Calls Tryz.prog 334 #[.slice (some ⟨blk, off, none⟩) d0.size cap, .int .i64 za, .int .i64 zb, .int .i64 zn, .func (.func g) #[] cb] w fun r w' => r = .returned (.tuple #[]) ∧ SW enc w0 blk off e.toArray w' := by
  subst hd he
  have hz : zb = ((L.length + U.length + Q.length : Nat) : Int) := by omega
  subst ha hu
  rw [hz]
  exact swapRange_s enc g cb blk off cap U.length d0 w0 w L U Q V T R hs S rfl (by omega) L.length _ rfl rfl hsz

end
section
variable {α : Type}
theorem rot_more {L U V T d : List α} {i j : Nat} (h : RotAt L U V T i j d) (hij : j < i) : ∃ A B C D : List α, d = A ++ B ++ C ++ D ++ (d.drop (A.length + B.length + C.length + D.length)) ∧ B.length = j ∧ D.length = j ∧ A.length + i = L.length + U.length ∧ A.length + B.length + C.length = L.length + U.length ∧
    RotAt L U V T (i - j) j (A ++ D ++ C ++ B ++ d.drop (A.length + B.length + C.length + D.length)) := by
  obtain ⟨D1, U', V', D2, rfl, e1, e2, e3, e4⟩ := h
  have t1 : U'.take j ++ U'.drop j = U' := List.take_append_drop j U'
  have hdrop : (L ++ D1 ++ U' ++ V' ++ D2 ++ T).drop ((L ++ D1).length + (U'.take j).length + (U'.drop j).length + V'.length) = D2 ++ T := by
    have : (L ++ D1).length + (U'.take j).length + (U'.drop j).length + V'.length = (L ++ D1 ++ U' ++ V').length := by simp; omega
    rw [this, List.append_assoc (L ++ D1 ++ U' ++ V'), List.drop_left]
  refine ⟨L ++ D1, U'.take j, U'.drop j, V', ?_, by simp; omega, e3, by simp; omega, by simp; omega, ?_⟩
  · rw [hdrop, List.append_assoc (L ++ D1) (U'.take j), t1]; simp
  · rw [hdrop]
    refine ⟨D1 ++ V', U'.drop j, U'.take j, D2, by simp, by simp; omega, by simp; omega, by simp; omega, ?_⟩
    rw [List.append_assoc (D1 ++ V'), t1]; exact e4
theorem rot_less {L U V T d : List α} {i j : Nat} (h : RotAt L U V T i j d) (hij : i < j) : ∃ A B C D : List α, d = A ++ B ++ C ++ D ++ (d.drop (A.length + B.length + C.length + D.length)) ∧ B.length = i ∧ D.length = i ∧ A.length + i = L.length + U.length ∧ C.length + i = j ∧
    RotAt L U V T i (j - i) (A ++ D ++ C ++ B ++ d.drop (A.length + B.length + C.length + D.length)) := by
  obtain ⟨D1, U', V', D2, rfl, e1, e2, e3, e4⟩ := h
  have t1 : V'.take (j - i) ++ V'.drop (j - i) = V' := List.take_append_drop _ V'
  have hdrop : (L ++ D1 ++ U' ++ V' ++ D2 ++ T).drop ((L ++ D1).length + U'.length + (V'.take (j - i)).length + (V'.drop (j - i)).length) = D2 ++ T := by
    have : (L ++ D1).length + U'.length + (V'.take (j - i)).length + (V'.drop (j - i)).length = (L ++ D1 ++ U' ++ V').length := by simp; omega
    rw [this, List.append_assoc (L ++ D1 ++ U' ++ V'), List.drop_left]
  refine ⟨L ++ D1, U', V'.take (j - i), V'.drop (j - i), ?_, e2, by simp; omega, by simp; omega, by simp; omega, ?_⟩
  · rw [hdrop, List.append_assoc (L ++ D1 ++ U') (V'.take (j - i)), t1]; simp
  · rw [hdrop]
    refine ⟨D1, V'.drop (j - i), V'.take (j - i), U' ++ D2, by simp, by omega, by simp; omega, by simp; omega, ?_⟩
    rw [← e4, List.append_assoc D1, t1]; simp
theorem rot_end {L U V T d : List α} {i : Nat} (h : RotAt L U V T i i d) : ∃ A B D F : List α, d = A ++ B ++ [] ++ D ++ F ∧ B.length = i ∧ D.length = i ∧ A.length + i = L.length + U.length ∧ L ++ V ++ U ++ T = A ++ D ++ [] ++ B ++ F := by
  obtain ⟨D1, U', V', D2, rfl, e1, e2, e3, e4⟩ := h
  refine ⟨L ++ D1, U', V', D2 ++ T, by simp, e2, e3, by simp; omega, ?_⟩
  have : L ++ V ++ U ++ T = L ++ (V ++ U) ++ T := by simp
  rw [this, ← e4]; simp
theorem rot_len {L U V T d : List α} {i j : Nat} (h : RotAt L U V T i j d) : d.length = (L ++ U ++ V ++ T).length := by
  obtain ⟨D1, U', V', D2, rfl, e1, e2, e3, e4⟩ := h
  have := congrArg List.length e4
  simp at this ⊢; omega

end
section
variable {α : Type} [Inhabited α]
set_option maxHeartbeats 4000000 in
set_option maxRecDepth 1000000 in
theorem rotate_s (enc : α → Value) (g : Nat) (cb : Array Value) (blk off cap : Nat) (d0 : Array α) (w0 w : World) (L U V T : List α)
    (R : Row1 enc w0 blk off d0) (hs : d0.size = (L ++ U ++ V ++ T).length) (S : SW enc w0 blk off (L ++ U ++ V ++ T).toArray w) (hu : 0 < U.length) (hv : 0 < V.length) (a m b : Nat) (ha : a = L.length) (hm : m = L.length + U.length) (hb : b = L.length + U.length + V.length) (hsz : d0.size ≤ 1048576) :
    Calls Tryz.prog 332 #[.slice (some ⟨blk, off, none⟩) d0.size cap, .int .i64 a, .int .i64 m, .int .i64 b, .func (.func g) #[] cb] w fun e w' => e = .returned (.tuple #[]) ∧ SW enc w0 blk off (L ++ V ++ U ++ T).toArray w' := by
  have hlen : b ≤ d0.size := by rw [hs]; simp; omega
  have z1 : (m : Int) - (a : Int) = (U.length : Int) := by omega
  have z2 : (b : Int) - (m : Int) = (V.length : Int) := by omega
  have Z1 : Hid _ := z1
  have Z2 : Hid _ := z2
  have EM : Hid (m = L.length + U.length) := hm
  have S0 : Aside (RotAt L U V T U.length V.length (L ++ U ++ V ++ T) ∧ SW enc w0 blk off (L ++ U ++ V ++ T).toArray w) := ⟨RotAt.start _ _ _ _, S⟩
  have HS : Hid (d0.size = (L ++ U ++ V ++ T).length) := hs
  have hbm : m + V.length = b := by omega
  have ham : a + U.length = m := by omega
  clear S hs ha hm hb z1 z2
  go_enter Tryz.func332, Tryz.ntmps332
  go_wp2
  go_loopg [10, 11] (U.length + V.length) (fun kx s t wr => ∃ (i j : Nat) (d : List α), s = .int .i64 i ∧ t = .int .i64 j ∧ 0 < i ∧ 0 < j ∧ i ≤ m ∧ j ≤ d0.size ∧ m + j ≤ d0.size ∧ i + j ≤ kx ∧ Aside (RotAt L U V T i j d ∧ SW enc w0 blk off d.toArray wr))
  case atStart => exact ⟨_, _, _, by rw [Z1.out], by rw [Z2.out], hu, hv, by omega, by omega, by omega, Nat.le_refl _, S0⟩
  case round =>
    clear S0
    obtain ⟨i, j, d, rfl, rfl, hi0, hj0, him, hjn, hmj, hkx, S1⟩ := hrel
    have hdl : Hid (d0.size = d.length) := by rw [rot_len S1.out.1]; exact HS.out
    by_cases hij : i = j
    · subst hij
      have hne : ((i : Int) != (i : Int)) = false := by simp
      obtain ⟨A, B, D, F, e1, e2, e3, e4, e5⟩ := rot_end S1.out.1
      have SS : Hid _ := S1.out.2
      have E1 : Hid _ := e1; have E2 : Hid _ := e2; have E3 : Hid _ := e3; have E4 : Hid _ := e4; have E5 : Hid _ := e5
      clear e1 e2 e3 e4 e5 S1
      go_wp2_with fail
      refine (swapRange_z enc g cb blk off cap d0 w0 _ A B [] D F d _ R E1.out E5.out hdl.out SS.out _ _ _ (by rw [E2.out]) (by rw [E3.out]) (by have := E4.out; have := EM.out; omega) (by have := E4.out; have := EM.out; simp; omega) hsz).mono ?_
      rintro e w1 ⟨rfl, s1⟩
      have SS1 : Hid _ := s1
      clear s1 SS
      go_wp2_with fail
      go_end0
      exact ⟨rfl, SS1.out⟩
    · have hne : ((i : Int) != (j : Int)) = true := by simp; omega
      by_cases hgt : j < i
      · have hgtz : (j : Int) < (i : Int) := by omega
        obtain ⟨A, B, C, D, e1, e2, e3, e4, e5, e6⟩ := rot_more S1.out.1 hgt
        have SS : Hid _ := S1.out.2
        have E1 : Hid _ := e1; have E2 : Hid _ := e2; have E3 : Hid _ := e3; have E4 : Hid _ := e4; have E5 : Hid _ := e5; have E6 : Hid _ := e6
        clear e1 e2 e3 e4 e5 e6 S1
        go_wp2_with fail
        refine (swapRange_z enc g cb blk off cap d0 w0 _ A B C D _ d _ R E1.out rfl hdl.out SS.out _ _ _ (by rw [E2.out]) (by rw [E3.out]) (by have := E4.out; have := EM.out; omega) (by have := E5.out; have := EM.out; have := E2.out; omega) hsz).mono ?_
        rintro e w1 ⟨rfl, s1⟩
        have SS1 : Aside _ := And.intro E6.out s1
        clear s1 SS E1 E6
        go_wp2_with fail
        go_roundg (i - j + j)
        case measure => omega
        case rel => exact ⟨i - j, j, _, by rw [Int.ofNat_sub (by omega)], rfl, by omega, by omega, by omega, by omega, by omega, Nat.le_refl _, SS1⟩
      · have hgtz : (i : Int) < (j : Int) := by omega
        have hgtz' : (i : Int) ≤ (j : Int) := by omega
        obtain ⟨A, B, C, D, e1, e2, e3, e4, e5, e6⟩ := rot_less S1.out.1 (by omega)
        have SS : Hid _ := S1.out.2
        have E1 : Hid _ := e1; have E2 : Hid _ := e2; have E3 : Hid _ := e3; have E4 : Hid _ := e4; have E5 : Hid _ := e5; have E6 : Hid _ := e6
        clear e1 e2 e3 e4 e5 e6 S1
        go_wp2_with fail
        refine (swapRange_z enc g cb blk off cap d0 w0 _ A B C D _ d _ R E1.out rfl hdl.out SS.out _ _ _ (by rw [E2.out]) (by rw [E3.out]) (by have := E4.out; have := EM.out; omega) (by have := E5.out; have := E4.out; have := EM.out; have := E2.out; omega) hsz).mono ?_
        rintro e w1 ⟨rfl, s1⟩
        have SS1 : Aside _ := And.intro E6.out s1
        clear s1 SS E1 E6
        go_wp2_with fail
        go_roundg (i + (j - i))
        case measure => omega
        case rel => exact ⟨i, j - i, _, rfl, by rw [Int.ofNat_sub (by omega)], by omega, by omega, by omega, by omega, by omega, Nat.le_refl _, SS1⟩
end
end Go.Proofs.YtfpbhedophlnkaaGreatDoor
