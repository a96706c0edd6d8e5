/-
  The walk of FnExactTablesOf.
-/
import Derived.Test.YtdkiaahcmoafdaaRows
import Derived.Test.YtdkiaahcmoafdaaRead
import Derived.Test.YtdkiaahcmoafdaaSTabs
import Derived.Test.YtdkiaahcmoafdaaTabsI
import Derived.Test.YtdkiaahcmoafdaaHT
import Derived.Test.YtdkiaahcmoafdaaHQ
import Derived.Test.YtdkiaahcmoafdaaSm
import Derived.Test.YtdkiaahcmoafdaaMarkS
import Derived.Test.YtdkiaahcmoafdaaStrQ
import Derived.Deep.RegionWith
namespace Go.Proofs.Ytdkiaahcmoafdaa.fnExactTablesOf
open Go.RowKit
set_option linter.unusedSimpArgs false
set_option linter.unusedVariables false
set_option linter.unusedVariables false

theorem tabs_le (p : List Nd) : (if planB p = true then tabsOf (scans p) else []).length ≤ 40 := by
  split
  · rename_i h
    have h40 : p.length ≤ 40 := by
      unfold planB at h
      cases ht : treeN p with
      | none => rw [ht] at h; cases h
      | some T => exact (treeN_some ht).1
    have h1 := tabsOf_le (scans p)
    have h2 := scans_len p
    omega
  · simp
theorem _root_.Go.Proofs.Ytdkiaahcmoafdaa.OwnS.frame {w w' : World} {lo' hi' base : Nat} {ao : Option Addr} {c : Nat} {l : List ByteArray} (h : OwnS w base ao c l) (hf : Frame lo' hi' w w') (hd : (∀ x, ao = some x → x.block < lo') ∨ hi' ≤ base) : OwnS w' base ao c l :=
  h.keep fun x hx hlt => hf.block x.block hlt (by
    rcases hd with hd | hd
    · exact .inl (hd x hx)
    · right; have := (h.lt x hx).1; omega)
theorem mlen_small {l : List Nd} {r left : Int} (h0 : 0 ≤ r) (h : r + l.length + tot l = left) (hl : left ≤ 1048576) : mlen l ≤ 7340032 := by
  have key : (l.map fun n => n.cols.length).sum ≤ tot l := by
    unfold tot
    clear h
    induction l with
    | nil => simp
    | cons n l ih => simp only [List.map_cons, List.sum_cons]; omega
  unfold mlen; omega

set_option maxRecDepth 100000 in
set_option maxHeartbeats 4000000 in
theorem walk (w : World) (a0 : Option Addr) (cap : Nat) (l : List Nd) (hn : l.length ≤ maxLen) (rd : RdN w a0 l) :
    Calls Try.prog 4 #[.slice a0 l.length cap] w fun e w' => e = .returned (.bool true) ∧ Below w.heap.size w w' := by
  have RD := Lib.hid rd; clear rd
  have kl := tabs_le l
  have km : (if planB l = true then tabsOf (scans l) else []).length ≤ maxLen := by unfold maxLen; omega
  generalize hks : (if planB l = true then tabsOf (scans l) else []) = ks at kl km
  have KS := Lib.hid hks; clear hks
  go_enter Try.func4, Try.ntmps4
  go_wp2_with fail
  refine (szNodeS_any a0 cap l 1048576 _ RD.out hn (by omega) (by omega)).mono ?_
  rintro e w1 ⟨r, rfl, b1, hr⟩
  have B1 := Lib.hid b1; clear b1
  rcases hr with rfl | ⟨hr0, hr⟩
  · go_wp2_with fail
    go_ret
    exact ⟨rfl, B1.out⟩
  have SM := Lib.hid (small_of hr0 hr (by omega))
  have ml := mlen_small hr0 hr (by omega)
  have ml0 := mlen_pos l
  have hl : l.length ≤ 1048576 := SM.out.1
  clear hr
  go_wp2_with fail
  refine (toNodeS_any a0 cap l _ (RD.out.below B1.out) hl SM.out.2).mono ?_
  rintro e w2 ⟨a2, c2, rfl, o2, b2⟩
  have B2 := Lib.hid (below_step B1.out (Nat.le_refl _) b2)
  have R2 := Lib.hid o2.rd
  clear o2 b2
  go_wp2_with fail
  refine (specTables_any a2 c2 l _ R2.out hl).mono ?_
  rw [KS.out]
  rintro e w3 ⟨a3, c3, rfl, o3, b3⟩
  have B3 := Lib.hid (below_step B2.out (Nat.le_refl _) b3)
  have O3 := Lib.hid o3
  have L3 := Lib.hid (fun x hx => (o3.lt x hx).2)
  clear o3 b3
  go_wp2_with fail
  refine (toNodeS_any a0 cap l _ (RD.out.below B3.out) hl SM.out.2).mono ?_
  rintro e w4 ⟨a4, c4, rfl, o4, b4⟩
  have B4 := Lib.hid (below_step B3.out (Nat.le_refl _) b4)
  have X4 := Lib.hid o4.hi
  have O4 := Lib.hid (O3.out.below b4)
  have Z4 := Lib.hid b4.size
  clear o4 b4 O3
  go_wp2_with fail
  refine (implTables_any a4 c4 l SM.out _ X4.out.rd).mono ?_
  rw [KS.out]
  rintro e w5 ⟨a5, c5, rfl, o5, b5⟩
  have B5 := Lib.hid (below_step B4.out (Nat.le_refl _) b5)
  have X5 := Lib.hid (X4.out.below b5)
  have O5 := Lib.hid (O4.out.below b5)
  have G5 := Lib.hid o5
  clear o5 b5 X4 O4
  go_wp2_with fail
  refine (eqStringS_any a5 a3 c5 c3 ks ks _ G5.out.rd O5.out.rd km km).mono ?_
  rintro e w6 ⟨rfl, b6⟩
  rw [eqSs_refl]
  have B6 := Lib.hid (below_step B5.out (Nat.le_refl _) b6)
  have X6 := Lib.hid (X5.out.below b6)
  have O6 := Lib.hid (O5.out.below b6)
  have G6 := Lib.hid (G5.out.below b6)
  clear b6 X5 O5 G5
  go_wp2_with fail
  refine (toNodeS_any a0 cap l _ (RD.out.below B6.out) hl SM.out.2).mono ?_
  rintro e w7 ⟨a7, c7, rfl, o7, b7⟩
  have B7 := Lib.hid (below_step B6.out (Nat.le_refl _) b7)
  have X7 := Lib.hid (X6.out.below b7)
  have O7 := Lib.hid (O6.out.below b7)
  have G7 := Lib.hid (G6.out.below b7)
  have R7 := Lib.hid o7.rd
  clear o7 b7 X6 O6 G6
  go_wp2_with fail
  refine (eqNodeS_any a4 a7 c4 c7 l l _ X7.out.rd R7.out hn hn).mono ?_
  rintro e w8 ⟨rfl, b8⟩
  rw [eqNs_refl]
  have B8 := Lib.hid (below_step B7.out (Nat.le_refl _) b8)
  have X8 := Lib.hid (X7.out.below b8)
  have O8 := Lib.hid (O7.out.below b8)
  have G8 := Lib.hid (G7.out.below b8)
  clear b8 X7 O7 G7 R7
  go_wp2_with fail
  refine (markNodeS_any _ _ a4 c4 l 1 _ X8.out hl (by omega) (by omega)).mono ?_
  rintro e w9 ⟨rfl, _, f9⟩
  have B9 := Lib.hid (f9.below B8.out B3.out.size (Nat.le_refl _))
  have O9 := Lib.hid (O8.out.frame f9 (.inl L3.out))
  have G9 := Lib.hid (G8.out.frame f9 (.inr (Nat.le_refl _)))
  clear f9 X8 O8 G8
  go_wp2_with fail
  refine (eqStringS_any a5 a3 c5 c3 ks ks _ G9.out.rd O9.out.rd km km).mono ?_
  rintro e w10 ⟨rfl, b10⟩
  rw [eqSs_refl]
  have B10 := Lib.hid (below_step B9.out (Nat.le_refl _) b10)
  have O10 := Lib.hid (O9.out.below b10)
  have G10 := Lib.hid (G9.out.below b10)
  clear b10 O9 G9
  go_wp2_with fail
  refine (markStringS_any _ a5 c5 ks 1 _ G10.out (by omega) (by omega)).mono ?_
  rintro e w11 ⟨rfl, m11, g11⟩
  have ha5 : ∀ x, a5 = some x → w.heap.size ≤ x.block := fun x hx => Nat.le_trans B4.out.size (G10.out.lt x hx).1
  have B11 := Lib.hid (below_grow B10.out (Nat.le_refl _) g11 ha5)
  have Z4 := Z4.out
  have O11 := Lib.hid (O10.out.apart g11 (fun x y hx hy => by have := L3.out x hx; have := (G10.out.lt y hy).1; omega))
  have M11 := Lib.hid m11.rd
  clear m11 g11 O10 G10 ha5 Z4
  go_wp2_with fail
  refine (heldStringS_any a5 c5 ks.length 1 _ M11.out (by omega) (by omega)).mono ?_
  rintro e wh ⟨rfl, bh⟩
  have Bh := Lib.hid (below_step B11.out (Nat.le_refl _) bh)
  have Oh := Lib.hid (O11.out.below bh)
  have Mh := Lib.hid (M11.out.below bh)
  clear bh O11 M11
  go_wp2_with fail
  refine (toNodeS_any a0 cap l _ (RD.out.below Bh.out) hl SM.out.2).mono ?_
  rintro e w12 ⟨a12, c12, rfl, o12, b12⟩
  have B12 := Lib.hid (below_step Bh.out (Nat.le_refl _) b12)
  have O12 := Lib.hid (Oh.out.below b12)
  have M12 := Lib.hid (Mh.out.below b12)
  have R12 := Lib.hid o12.rd
  clear o12 b12 Oh Mh
  go_wp2_with fail
  refine (implTables_any a12 c12 l SM.out _ R12.out).mono ?_
  rw [KS.out]
  rintro e w13 ⟨a13, c13, rfl, o13, b13⟩
  have B13 := Lib.hid (below_step B12.out (Nat.le_refl _) b13)
  have O13 := Lib.hid (O12.out.below b13)
  have M13 := Lib.hid (M12.out.below b13)
  have H13 := Lib.hid o13
  clear o13 b13 O12 M12
  go_wp2_with fail
  refine (eqStringS_any a13 a3 c13 c3 ks ks _ H13.out.rd O13.out.rd km km).mono ?_
  rintro e w14 ⟨rfl, b14⟩
  rw [eqSs_refl]
  have B14 := Lib.hid (below_step B13.out (Nat.le_refl _) b14)
  have M14 := Lib.hid (M13.out.below b14)
  clear b14 O13 M13 H13
  go_wp2_with fail
  refine (heldStringS_any a5 c5 ks.length 1 _ M14.out (by omega) (by omega)).mono ?_
  rintro e w15 ⟨rfl, b15⟩
  have B15 := Lib.hid (below_step B14.out (Nat.le_refl _) b15); clear b15
  go_wp2_with fail
  go_ret
  exact ⟨rfl, B15.out⟩
end Go.Proofs.Ytdkiaahcmoafdaa.fnExactTablesOf
