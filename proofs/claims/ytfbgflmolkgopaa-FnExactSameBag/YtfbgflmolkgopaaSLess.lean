/-
  Contract of spec.RowLess. For every two rows.
-/
import Derived.Test.YtfbgflmolkgopaaRowP
import Derived.Deep.RegionWith
namespace Go.Proofs.Ytfbgflmolkgopaa
open Go.RowKit
set_option linter.unusedSimpArgs false
set_option linter.unusedVariables false

theorem Rd.get {w : World} {k : IntKind} {ao : Option Addr} {l : List Int} {i : Nat} (h : Rd w k ao l) (hi : i < l.length) :
    ∃ b off z, ao = some ⟨b, off, none⟩ ∧ l[i]? = some z ∧ w.cell? ⟨b, off + i, none⟩ = some (.int k z) := by
  rcases h with rfl | ⟨b, off, rfl, hc⟩
  · simp at hi
  · obtain ⟨z, _, h1, h2, _⟩ := Rd.at_ hc hi
    exact ⟨b, off, z, rfl, h1, h2⟩
theorem Rd.drewN {w : World} {k : IntKind} {ao : Option Addr} {l : List Int} (h : Rd w k ao l) (q : Nat) : Rd (w.drewN q) k ao l := h.below (below_drewN (Below.refl _ _) q)

set_option maxRecDepth 100000 in
set_option maxHeartbeats 1600000 in
theorem specRowLess_q (a b : Option Addr) (c d : Nat) (l m : List Int) (w : World) (h : Rd w .i64 a l) (k : Rd w .i64 b m) (hn : l.length ≤ maxLen) (hm : m.length ≤ maxLen) :
    Calls Try.prog 47 #[.slice a l.length c, .slice b m.length d] w fun e w' => e = .returned (.bool (lessL l m)) ∧ ∃ q, w' = w.drewN q := by
  unfold maxLen at hn hm
  have H := Lib.hid h; clear h
  have K := Lib.hid k; clear k
  go_enter Try.func47, Try.ntmps47
  go_wp2_with fail
  go_loopw [5] (fun i wr => ∃ j q : Nat, j ≤ l.length ∧ j ≤ m.length ∧ i = .int .i64 j ∧ l.take j = m.take j ∧ wr = w.drewN q) (fun i _ => l.length - (intOf i).toNat)
  case atStart => exact ⟨0, 0, Nat.zero_le _, Nat.zero_le _, rfl, rfl, rfl⟩
  case round =>
    obtain ⟨j, q, hj, hj2, rfl, ht, rfl⟩ := hrel
    have HT := Lib.hid ht; clear ht
    by_cases hlt : j < l.length
    · by_cases hlt2 : j < m.length
      · obtain ⟨b1, o1, x, rfl, hx, cx⟩ := H.out.get hlt
        obtain ⟨b2, o2, y, rfl, hy, cy⟩ := K.out.get hlt2
        have X := Lib.hid hx; have Y := Lib.hid hy
        clear hx hy
        have i1 : (j : Int) < (l.length : Int) := by omega
        have i2 : (j : Int) < (m.length : Int) := by omega
        by_cases hxy : x = y
        · subst hxy
          have hb : (x != x) = false := by simp
          go_wp2_with fail
          go_quiet (fail)
          go_wp2_with fail
          go_roundw
          case rel => exact ⟨j + 1, _, by omega, by omega, by go_num, take_eq_step HT.out X.out Y.out, by first | rfl | rw [World.drewN_drewN]⟩
          case measure => simp [intOf]; omega
        · have hb : (x != y) = true := by simp [hxy]
          have F := Lib.hid (lessL_at l m j x y HT.out X.out Y.out hxy)
          clear hxy
          go_wp2_with fail
          go_quiet (fail)
          go_wp2_with fail
          go_quiet (fail)
          go_wp2_with fail
          go_ret
          exact ⟨ret_bool F.out.symm, _, by first | rfl | (rw [World.drewN_drewN, World.drewN_drewN]) | rw [World.drewN_drewN]⟩
      · have i1 : (j : Int) < (l.length : Int) := by omega
        have i2 : ¬ (j : Int) < (m.length : Int) := by omega
        have F := Lib.hid (lessL_end l m j HT.out (.inr (by omega)))
        go_wp2_with fail
        go_ret
        exact ⟨ret_bool (by rw [F.out]; try simp), _, rfl⟩
    · have i1 : ¬ (j : Int) < (l.length : Int) := by omega
      have F := Lib.hid (lessL_end l m j HT.out (.inl (by omega)))
      go_wp2_with fail
      go_ret
      exact ⟨ret_bool (by rw [F.out]; try simp), _, rfl⟩
theorem specRowLess_any (a b : Option Addr) (c d : Nat) (l m : List Int) (w : World) (h : Rd w .i64 a l) (k : Rd w .i64 b m) (hn : l.length ≤ maxLen) (hm : m.length ≤ maxLen) :
    Calls Try.prog 47 #[.slice a l.length c, .slice b m.length d] w fun e w' => e = .returned (.bool (lessL l m)) ∧ Below w.heap.size w w' :=
  (specRowLess_q a b c d l m w h k hn hm).mono fun e w' ⟨h1, q, h2⟩ => ⟨h1, by rw [h2]; exact below_drewN (Below.refl _ _) q⟩
end Go.Proofs.Ytfbgflmolkgopaa
