/-
  Contracts of slices.swapRangeCmpFunc and slices.rotateCmpFunc at rows: two ranges are exchanged, two neighbours are turned.
-/
import Derived.Test.YtfbgflmolkgopaaRows
import Derived.Test.YtfbgflmolkgopaaSymP
import Derived.Shelf.SlSortCmp.Kit1
import Derived.Sort.WalkB2
import Derived.Sort.WalkB12
import Derived.Deep.LoopGhost
namespace Go.Proofs.Ytfbgflmolkgopaa
open Go.Shelf Go.RowKit Go.Lib Go.Sort
set_option linter.unusedSimpArgs false
set_option linter.unusedVariables false

section
variable {α : Type} [Inhabited α]
set_option maxHeartbeats 4000000 in
set_option maxRecDepth 1000000 in
theorem swapRange_s (enc : α → Value) (g : Nat) (cb : Array Value) (blk off cap n : Nat) (d0 : Array α) (w0 w : World) (L U Q V T : List α)
    (R : Row1 enc w0 blk off d0) (hs : d0.size = (L ++ U ++ Q ++ V ++ T).length) (S : SW enc w0 blk off (L ++ U ++ Q ++ V ++ T).toArray w) (hu : U.length = n) (hv : V.length = n) (a b : Nat) (ha : a = L.length) (hb : b = L.length + n + Q.length) (hsz : d0.size ≤ 1048576) :
    Calls Try.prog 117 #[.slice (some ⟨blk, off, none⟩) d0.size cap, .int .i64 a, .int .i64 b, .int .i64 n, .func (.func g) #[] cb] w fun e w' => e = .returned (.tuple #[]) ∧ SW enc w0 blk off (L ++ V ++ Q ++ U ++ T).toArray w' := by
  have hcl0 := R.hO.cells
  simp only [Value.cells] at hcl0
  have hst := R.hO.store Try.prog
  have mixed : Try.prog.follows .mixedOrders = true := by kernel_rfl
  have hn : a + n ≤ b ∧ b + n ≤ d0.size := by rw [hs]; simp; omega
  have EA : Hid (a = L.length) := ha
  have EB : Hid (b = L.length + n + Q.length) := hb
  have HU : Hid (U.length = n) := hu
  have HV : Hid (V.length = n) := hv
  have HS : Hid (d0.size = (L ++ U ++ Q ++ V ++ T).length) := hs
  have S0 : Aside (SW enc w0 blk off (swR L U Q V T 0).toArray w) := by rw [swR_zero]; exact S
  have hds : ∀ i, (swR L U Q V T i).toArray.size = d0.size := fun i => by rw [List.size_toArray, swR_len _ _ _ _ _ _ (by omega), hs]
  clear S ha hb hu hv hs
  obtain ⟨hn1, hn2⟩ := hn
  go_enter Try.func117, Try.ntmps117
  go_wp2
  go_loopg [10] n (fun kx s wr => ∃ (i : Nat), s = .int .i64 i ∧ i ≤ n ∧ n - i ≤ kx ∧ Aside (SW enc w0 blk off (swR L U Q V T i).toArray wr))
  case atStart => exact ⟨0, rfl, Nat.zero_le _, by omega, S0⟩
  case round =>
    clear S0
    obtain ⟨i, rfl, hin, hkx, S1⟩ := hrel
    by_cases hlt : i < n
    · have hltz : (i : Int) < (n : Int) := by omega
      have hd := hds i
      have ST : Aside _ := swR_step L U Q V T (n := n) (i := i) (a := a) (b := b) HU.out HV.out EA.out EB.out hlt
      generalize hdk : (swR L U Q V T i).toArray = dk at S1 ST hd
      clear hdk
      go_wp2_with fail
      obtain ⟨iN, hiN⟩ : ∃ q, q = a + i := ⟨_, rfl⟩
      obtain ⟨jN, hjN⟩ : ∃ q, q = b + i := ⟨_, rfl⟩
      have ea : ((a : Int) + (i : Int)).toNat = iN := by omega
      have pa : (0 : Int) ≤ (a : Int) + (i : Int) := by omega
      have ba : (a : Int) + (i : Int) < (d0.size : Int) := by omega
      have ra : IntKind.i64.wrap ((a : Int) + (i : Int)) = (a : Int) + (i : Int) := by rw [IntKind.wrap_i64]; omega
      have ec : ((b : Int) + (i : Int)).toNat = jN := by omega
      have pc : (0 : Int) ≤ (b : Int) + (i : Int) := by omega
      have bc : (b : Int) + (i : Int) < (d0.size : Int) := by omega
      have rc : IntKind.i64.wrap ((b : Int) + (i : Int)) = (b : Int) + (i : Int) := by rw [IntKind.wrap_i64]; omega
      obtain ⟨x, hx⟩ : ∃ x, x = dk[a + i]! := ⟨_, rfl⟩
      obtain ⟨y, hy⟩ : ∃ x, x = dk[b + i]! := ⟨_, rfl⟩
      have S2 : Aside (SW enc w0 blk off (swp dk (a + i) (b + i)) ((wr.setCell ⟨blk, off + iN, none⟩ (enc y)).setCell ⟨blk, off + jN, none⟩ (enc x)).drew) := by rw [hiN, hjN, hx, hy]; exact S1.out.swapped R (a + i) (b + i) (by omega) (by omega)
      have ca := S1.out.c1 R (by omega) (a + i) (by omega)
      have cc := S1.out.c1 R (by omega) (b + i) (by omega)
      have fa := S1.out.f1 R (by omega) (a + i) (by omega)
      have fb := S1.out.f1 R (by omega) (b + i) (by omega)
      obtain ⟨u, cd⟩ := S1.out.c2 R (by omega) (a + i) (b + i) (by omega) (by omega) (enc y)
      rw [← hjN, ← hiN] at cd
      rw [← hx, ← hiN] at ca
      rw [← hy, ← hjN] at cc
      rw [← hiN] at fa
      rw [← hjN] at fb
      rw [ST.out] at S2
      clear S1 hx hy hiN hjN ST hd
      go_wp2_with fail
      go_big_region_o
      clear ca cc cd fa fb
      generalize ((wr.setCell ⟨blk, off + iN, none⟩ (enc y)).setCell ⟨blk, off + jN, none⟩ (enc x)).drew = w2 at S2 ⊢
      clear ea ec
      go_wp2
      go_roundg (n - (i + 1))
      case measure => omega
      case rel => exact ⟨i + 1, by go_num, by omega, Nat.le_refl _, S2⟩
    · have e : i = n := by omega
      subst e
      go_wp2
      go_end0
      refine ⟨rfl, ?_⟩
      rw [← swR_all L U Q V T HU.out HV.out]
      exact S1.out
end
end Go.Proofs.Ytfbgflmolkgopaa
