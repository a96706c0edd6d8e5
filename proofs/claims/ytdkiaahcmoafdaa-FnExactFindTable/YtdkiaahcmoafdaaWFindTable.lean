/-
  The walk of FnExactFindTable.
-/
import Derived.Test.YtdkiaahcmoafdaaRows
import Derived.Test.YtdkiaahcmoafdaaRead
import Derived.Test.YtdkiaahcmoafdaaFind
import Derived.Test.YtdkiaahcmoafdaaHTq
import Derived.Deep.RegionWith
namespace Go.Proofs.Ytdkiaahcmoafdaa.fnExactFindTable
open Go.RowKit
set_option linter.unusedSimpArgs false
set_option linter.unusedVariables false
set_option linter.unusedVariables false

set_option maxRecDepth 100000 in
set_option maxHeartbeats 1600000 in
theorem walk (w : World) (a0 : Option Addr) (cap : Nat) (l : List Tb) (hn : l.length ≤ maxLen) (rd : RdT w a0 l) (x : ByteArray) (hx : x.size ≤ maxLen) :
    Calls Try.prog 9 #[.slice a0 l.length cap, .string x] w fun e w' => e = .returned (.bool true) ∧ Below w.heap.size w w' := by
  have RD := Lib.hid rd; clear rd
  have HX := Lib.hid hx
  unfold maxLen at hx
  by_cases hbig : 1048576 < x.size
  · have hbig' : (1048576 : Int) < x.size := by omega
    go_enter Try.func9, Try.ntmps9
    go_wp2_with fail
    go_ret
    exact ⟨rfl, Below.refl _ _⟩
  have hbig' : (x.size : Int) ≤ 1048576 := by omega
  clear hbig
  go_enter Try.func9, Try.ntmps9
  go_wp2_with fail
  refine (szTableS_any a0 cap l 1048576 _ RD.out hn (by omega) (by omega)).mono ?_
  rintro e w1 ⟨r, rfl, b1, hr⟩
  have B1 := Lib.hid b1; clear b1
  rcases hr with rfl | ⟨hr0, hr⟩
  · go_wp2_with fail
    go_ret
    exact ⟨rfl, B1.out⟩
  have hl : l.length ≤ 1048576 := by omega
  clear hr
  go_wp2_with fail
  refine (toTableS_any a0 cap l _ (RD.out.below B1.out) hl).mono ?_
  rintro e w2 ⟨a2, c2, rfl, o2, b2⟩
  have B2 := Lib.hid (below_step B1.out (Nat.le_refl _) b2)
  have R2 := Lib.hid o2.rd
  clear o2 b2
  go_wp2_with fail
  refine (specFind_any a2 c2 l x _ R2.out hl).mono ?_
  rintro e w3 ⟨rfl, b3⟩
  have B3 := Lib.hid (below_step B2.out (Nat.le_refl _) b3)
  clear b3
  have I5 := Lib.hid (fun a c W (h : RdT W a l) => implFind_any a c l x W h hl HX.out)
  unfold FindPost at I5
  have hq : (fdB l x != fdB l x) = false := by simp
  have hq' : (!fdB l x == fdB l x) = false := by simp
  generalize fdT l x = ft at I5 ⊢
  generalize fdB l x = fb at I5 hq hq' ⊢
  have A3 := Lib.hid (B3.out.trans ((boxed_below w3 ft).mono B3.out.size))
  have Z3 := Lib.hid (boxed_size w3 ft)
  go_wp2_with fail
  refine (toTableS_any a0 cap l _ (RD.out.below (show Below w.heap.size w (boxed w3 ft) from A3.out)) hl).mono ?_
  rintro e w4 ⟨a4, c4, rfl, o4, b4⟩
  have C4 := Lib.hid (show Below (boxed w3 ft).heap.size (boxed w3 ft) w4 from b4)
  have B4 := Lib.hid (below_boxed B3.out C4.out)
  have X4 := Lib.hid o4.rd
  clear o4 b4
  go_wp2_with fail
  refine (I5.out a4 c4 _ X4.out).mono ?_
  rintro e w5 ⟨rfl, b5⟩
  have B5 := Lib.hid (below_step B4.out (Nat.le_refl _) b5)
  have C5 := Lib.hid (C4.out.trans (b5.mono C4.out.size))
  have X5 := Lib.hid (X4.out.below b5)
  clear b5
  obtain ⟨d0, d1⟩ := boxed_cells C5.out
  have hz5 : w3.heap.size < w5.heap.size := by have := C5.out.size; rw [boxed_size] at this; omega
  have f0 : (w5.alloc (.cells #[.string ft.name, .int .i64 ft.width] 58)).cell? ⟨w3.heap.size, 0, none⟩ = some (.string ft.name) := (((Below.refl _ w5).alloc (Nat.le_refl _) _).cell (p := ⟨w3.heap.size, 0, none⟩) hz5).trans d0
  have f1 : (w5.alloc (.cells #[.string ft.name, .int .i64 ft.width] 58)).cell? ⟨w3.heap.size, 1, none⟩ = some (.int .i64 ft.width) := (((Below.refl _ w5).alloc (Nat.le_refl _) _).cell (p := ⟨w3.heap.size, 1, none⟩) hz5).trans d1
  go_wp2_with fail
  refine (eqTable_any ft ft _).mono ?_
  rintro e w6 ⟨rfl, b6⟩
  rw [eqTb_refl]
  have C6 := Lib.hid (show Below (boxed w5 ft).heap.size (boxed w5 ft) w6 from b6)
  have B6 := Lib.hid (below_boxed B5.out C6.out)
  have X6 := Lib.hid ((X5.out.below (boxed_below w5 ft)).below C6.out)
  clear b6 f0 f1 d0 d1
  go_wp2_with fail
  refine (toTableS_any a0 cap l _ (RD.out.below B6.out) hl).mono ?_
  rintro e w7 ⟨a7, c7, rfl, o7, b7⟩
  have B7 := Lib.hid (below_step B6.out (Nat.le_refl _) b7)
  have X7 := Lib.hid (X6.out.below b7)
  have R7 := Lib.hid o7.rd
  clear o7 b7
  go_wp2_with fail
  refine (eqTableS_any a4 a7 c4 c7 l l _ X7.out R7.out hn hn).mono ?_
  rintro e w8 ⟨rfl, b8⟩
  rw [eqTs_refl]
  have B8 := Lib.hid (below_step B7.out (Nat.le_refl _) b8)
  clear b8
  go_wp2_with fail
  go_ret
  exact ⟨rfl, B8.out⟩
end Go.Proofs.Ytdkiaahcmoafdaa.fnExactFindTable
