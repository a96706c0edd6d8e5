/-
  The model's draws of numbers below a bound, of an element of a list, of a text of a list; the cursor made. For every slice of bytes.
-/
import Derived.Test.YtcegekkhlfpgfaaDoorDraw
namespace Go.Proofs.YtcegekkhlfpgfaaDoor
open Go.RowKit
set_option linter.unusedSimpArgs false
set_option linter.unusedVariables false

theorem Cur.keepB {w w' : World} {g : Nat} {ao : Option Addr} {d : Nat} {code : List Int} (h : Cur w g ao d code) (hb : Below w.heap.size w w') : Cur w' g ao d code := by
  obtain ⟨i, x, h1, h2, h3, h4, h5, h6⟩ := h
  exact ⟨i, x, (hb.block g (lt_of_block h1)).trans h1, h2, h3, h4.below hb, h5, h6⟩
theorem Cur.lt {w : World} {g : Nat} {ao : Option Addr} {d : Nat} {code : List Int} (h : Cur w g ao d code) : g < w.heap.size := by
  obtain ⟨i, x, h1, _⟩ := h
  exact lt_of_block h1

set_option maxRecDepth 100000 in
theorem l01Below_any (g : Nat) (ao : Option Addr) (d : Nat) (code : List Int) (n : Int) (w : World) (hc : Cur w g ao d code) (hl : code.length ≤ 1048577) (h0 : 1 ≤ n) (h1 : n ≤ 256) :
    Calls Tryd.prog 75 #[.pointer (some ⟨g, 0, none⟩), .int .i64 n] w (ByteP w g ao d code 0 (n - 1)) := by
  have C := Lib.hid (l01Byte_any g ao d code w hc hl)
  clear hc hl
  go_enter Tryd.func75, Tryd.ntmps75
  go_wp2_with fail
  refine C.out.mono ?_
  rintro e w1 ⟨x, rfl, x0, x1, hc1, hg1⟩
  have HC1 := Lib.hid hc1; have HG1 := Lib.hid hg1; clear hc1 hg1
  go_wp2
  go_ret
  have e1 : x % n < n := Int.emod_lt_of_pos _ (by omega)
  have e2 : 0 ≤ x % n := Int.emod_nonneg _ (by omega)
  exact ⟨_, rfl, e2, by omega, HC1.out, HG1.out⟩

def OnceP (w : World) (g : Nat) (ao : Option Addr) (d : Nat) (code : List Int) (e : Ending) (w' : World) : Prop :=
  ∃ b : Bool, e = .returned (.bool b) ∧ Cur w' g ao d code ∧ w.grownBy w' (some g)
set_option maxRecDepth 100000 in
theorem l01Once_any (g : Nat) (ao : Option Addr) (d : Nat) (code : List Int) (n : Int) (w : World) (hc : Cur w g ao d code) (hl : code.length ≤ 1048577) (h0 : 1 ≤ n) (h1 : n ≤ 256) :
    Calls Tryd.prog 76 #[.pointer (some ⟨g, 0, none⟩), .int .i64 n] w (OnceP w g ao d code) := by
  have C := Lib.hid (l01Below_any g ao d code n w hc hl h0 h1)
  clear hc hl
  go_enter Tryd.func76, Tryd.ntmps76
  go_wp2_with fail
  refine C.out.mono ?_
  rintro e w1 ⟨x, rfl, x0, x1, hc1, hg1⟩
  have HC1 := Lib.hid hc1; have HG1 := Lib.hid hg1; clear hc1 hg1
  go_wp2
  go_ret
  exact ⟨_, rfl, HC1.out, HG1.out⟩

def PickP (w : World) (g : Nat) (ao : Option Addr) (d : Nat) (code l : List Int) (e : Ending) (w' : World) : Prop :=
  ∃ z, z ∈ l ∧ e = .returned (.int .i64 z) ∧ Cur w' g ao d code ∧ w.grownBy w' (some g)
set_option maxRecDepth 100000 in
theorem l01PickInt_any (g : Nat) (ao : Option Addr) (d : Nat) (code : List Int) (b off c : Nat) (l : List Int) (w : World) (hc : Cur w g ao d code) (hl : code.length ≤ 1048577)
    (hb : ∀ i, i < l.length → w.cell? ⟨b, off + i, none⟩ = some (.int .i64 (l.getD i 0))) (hbg : b ≠ g) (h0 : 1 ≤ l.length) (h1 : l.length ≤ 256) :
    Calls Tryd.prog 95 #[.pointer (some ⟨g, 0, none⟩), .slice (some ⟨b, off, none⟩) l.length c] w (PickP w g ao d code l) := by
  have C := Lib.hid (l01Below_any g ao d code (l.length : Int) w hc hl (by omega) (by omega))
  have HB := Lib.hid hb
  clear hc hl hb
  go_enter Tryd.func95, Tryd.ntmps95
  go_wp2_with fail
  refine C.out.mono ?_
  rintro e w1 ⟨x, rfl, x0, x1, hc1, hg1⟩
  have HC1 := Lib.hid hc1; have HG1 := Lib.hid hg1; clear hc1 hg1
  obtain ⟨k, rfl⟩ : ∃ k : Nat, x = k := ⟨x.toNat, by omega⟩
  have hk : k < l.length := by omega
  obtain ⟨z, hz, _, hcz, _⟩ := Rd.at_ HB.out hk
  have hcz1 : w1.cell? ⟨b, off + k, none⟩ = some (.int .i64 z) := HG1.out.cell hcz (by simp [hbg])
  have HZ := Lib.hid hz
  clear hz hcz
  go_wp2
  go_ret
  exact ⟨z, HZ.out, rfl, HC1.out, HG1.out⟩

def PickT (w : World) (g : Nat) (ao : Option Addr) (d : Nat) (code : List Int) (e : Ending) (w' : World) : Prop :=
  ∃ s : ByteArray, s.size ≤ 100 ∧ e = .returned (.string s) ∧ Cur w' g ao d code ∧ w.grownBy w' (some g)
set_option maxRecDepth 100000 in
theorem l01PickText_any (g : Nat) (ao : Option Addr) (d : Nat) (code : List Int) (b n c : Nat) (w : World) (hc : Cur w g ao d code) (hl : code.length ≤ 1048577)
    (hb : ∀ i, i < n → ∃ s : ByteArray, s.size ≤ 100 ∧ w.cell? ⟨b, i, none⟩ = some (.string s)) (hbg : b ≠ g) (h0 : 1 ≤ n) (h1 : n ≤ 256) :
    Calls Tryd.prog 92 #[.pointer (some ⟨g, 0, none⟩), .slice (some ⟨b, 0, none⟩) n c] w (PickT w g ao d code) := by
  have C := Lib.hid (l01Below_any g ao d code (n : Int) w hc hl (by omega) (by omega))
  have HB := Lib.hid hb
  clear hc hl hb
  go_enter Tryd.func92, Tryd.ntmps92
  go_wp2_with fail
  refine C.out.mono ?_
  rintro e w1 ⟨x, rfl, x0, x1, hc1, hg1⟩
  have HC1 := Lib.hid hc1; have HG1 := Lib.hid hg1; clear hc1 hg1
  obtain ⟨k, rfl⟩ : ∃ k : Nat, x = k := ⟨x.toNat, by omega⟩
  have hk : k < n := by omega
  obtain ⟨s, hs, hcs⟩ := HB.out k hk
  have hcs1 : w1.cell? ⟨b, k, none⟩ = some (.string s) := HG1.out.cell hcs (by simp [hbg])
  have HS := Lib.hid hs
  clear hcs hs
  go_wp2
  go_ret
  exact ⟨s, HS.out, rfl, HC1.out, HG1.out⟩

set_option maxRecDepth 100000 in
theorem l01Size_any (b : Option Addr) (n c : Nat) (w : World) (hn : n ≤ 1048577) :
    Calls Tryd.prog 89 #[.slice b n c, .int .i64 12] w fun e w' => (∃ x : Int, 2 ≤ x ∧ x ≤ 12 ∧ e = .returned (.int .i64 x)) ∧ w = w' := by
  by_cases h : 12 < 2 + n / 16
  · have h' : (12 : Int) < 2 + (n : Int) / 16 := by omega
    go_enter Tryd.func89, Tryd.ntmps89
    go_wp2
    go_ret
    exact ⟨⟨12, by omega, by omega, rfl⟩, rfl⟩
  · have h' : 2 + (n : Int) / 16 ≤ 12 := by omega
    go_enter Tryd.func89, Tryd.ntmps89
    go_wp2
    go_ret
    exact ⟨⟨2 + (n : Int) / 16, by omega, by omega, rfl⟩, rfl⟩

def NewP (w : World) (ao : Option Addr) (d : Nat) (code : List Int) (e : Ending) (w' : World) : Prop :=
  ∃ g, e = .returned (.pointer (some ⟨g, 0, none⟩)) ∧ w.heap.size ≤ g ∧ Cur w' g ao d code ∧ Below w.heap.size w w'
theorem new_cur {w : World} {ao : Option Addr} {d : Nat} {code : List Int} {h : Int} (hr : Rd w .u8 ao code) (hby : By code) :
    Cur (w.alloc (.cells #[.slice ao code.length d, .int .i64 0, .int .i64 h] 120)) w.heap.size ao d code := by
  refine ⟨0, h, heap_alloc_new w _, by omega, by omega, hr.below ((Below.refl _ _).alloc (Nat.le_refl _) _), hby, ?_⟩
  intro a ha hl e
  rcases hr with rfl | ⟨b, off, hh, hc⟩
  · exact hl rfl
  · rw [ha] at hh
    injection hh with hh
    subst hh
    have := World.block_lt_of_cell? w _ (hc 0 (by cases code with | nil => exact absurd rfl hl | cons _ _ => simp))
    simp only at this e; omega

set_option maxRecDepth 100000 in
set_option maxHeartbeats 1600000 in
theorem l01New_any (ao : Option Addr) (d : Nat) (code : List Int) (w : World) (hr : Rd w .u8 ao code) (hby : By code) (hl : code.length ≤ 1048577) :
    Calls Tryd.prog 63 #[.slice ao code.length d] w (NewP w ao d code) := by
  have HR := Lib.hid hr; have HBY := Lib.hid hby
  have hl' : (code.length : Int) ≤ 1048577 := by omega
  clear hby hl
  rcases hr with rfl | ⟨b1, off, rfl, hc⟩
  · go_enter Tryd.func63, Tryd.ntmps63
    go_wp2
    refine wp_loop_rounds 1 ?_; rw [rounds_succ]; go_wp2
    go_ret
    exact ⟨_, rfl, Nat.le_refl _, new_cur HR.out HBY.out, (Below.refl _ _).alloc (Nat.le_refl _) _⟩
  · have HC := Lib.hid hc; clear hc
    go_enter Tryd.func63, Tryd.ntmps63
    go_wp2
    go_loop [3, 4] (fun h i => ∃ (k : Nat) (x : Int), k ≤ code.length ∧ i = .int .i64 k ∧ h = .int .i64 x) (fun _ i => code.length - (intOf i).toNat)
    case atStart => exact ⟨0, _, Nat.zero_le _, rfl, rfl⟩
    case round =>
      obtain ⟨k, x, hk, rfl, rfl⟩ := hrel
      by_cases hlt : k < code.length
      · have hb1 : decide ((k : Int) < code.length) = true := by simp; omega
        have hb1' : decide (k < code.length) = true := by simpa using hlt
        by_cases h4 : k < 4000
        · obtain ⟨z, hz, _, hcz, _⟩ := Rd.at_ HC.out hlt
          have zb := HBY.out z hz
          have h4' : (k : Int) < 4000 := by omega
          clear hz
          go_wp2
          go_round
          case rel => exact ⟨k + 1, _, by omega, by go_num, rfl⟩
          case measure => simp [intOf]; omega
        · have h4' : (4000 : Int) ≤ k := by omega
          go_wp2
          go_ret
          exact ⟨_, rfl, Nat.le_refl _, new_cur HR.out HBY.out, (Below.refl _ _).alloc (Nat.le_refl _) _⟩
      · have hb1' : decide (k < code.length) = false := by simpa using hlt
        go_wp2
        go_ret
        exact ⟨_, rfl, Nat.le_refl _, new_cur HR.out HBY.out, (Below.refl _ _).alloc (Nat.le_refl _) _⟩
end Go.Proofs.YtcegekkhlfpgfaaDoor
