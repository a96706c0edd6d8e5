/-
  The walk of FnExactPutPart.
-/
import Derived.Test.YtdkiaahcmoafdaaRows
import Derived.Test.YtdkiaahcmoafdaaRead
import Derived.Test.YtdkiaahcmoafdaaKP1
import Derived.Test.YtdkiaahcmoafdaaHT
import Derived.Test.YtdkiaahcmoafdaaHQ
import Derived.Test.YtdkiaahcmoafdaaSm
import Derived.Test.YtdkiaahcmoafdaaHeldN
import Derived.Deep.RegionWith
namespace Go.Proofs.Ytdkiaahcmoafdaa.fnExactPutPart
open Go.RowKit
set_option linter.unusedSimpArgs false
set_option linter.unusedVariables false
set_option linter.unusedVariables false

theorem mlen_small {l : List Nd} {r left : Int} (h0 : 0 ≤ r) (h : r + l.length + tot l = left) (hl : left ≤ 1048576) : mlen l ≤ 7340032 := by
  have key : (l.map fun n => n.cols.length).sum ≤ tot l := by
    unfold tot
    clear h
    induction l with
    | nil => simp
    | cons n l ih => simp only [List.map_cons, List.sum_cons]; omega
  unfold mlen; omega
theorem mlen_drop_le (l : List Nd) (j : Nat) : mlen (l.drop j) ≤ mlen l := by
  have := mlen_app (l.take j) (l.drop j)
  rw [List.take_append_drop] at this
  have := mlen_pos (l.take j)
  omega
theorem mlen_put (l : List Nd) (k : Int) (m : List Nd) : mlen (putN l k m) ≤ 2 * mlen l + mlen m := by
  have h1 := mlen_pos l
  have h2 := mlen_pos m
  unfold putN
  split
  · unfold joinN
    rw [mlen_app, mlen_app]
    have := mlen_take_le l k.toNat
    have := mlen_drop_le l (endOfN l k).toNat
    omega
  · omega
theorem put_len (l : List Nd) (k : Int) (m : List Nd) (h : l.length ≤ 1048576) : (putN l k m).length ≤ 1048576 := by
  unfold putN
  split
  · rename_i hb
    simp only [putB, Bool.and_eq_true] at hb
    have := (planB_40 hb.2).1
    omega
  · exact h

set_option maxRecDepth 100000 in
set_option maxHeartbeats 4000000 in
theorem walk (w : World) (a0 : Option Addr) (cap : Nat) (l : List Nd) (hn : l.length ≤ maxLen) (rd : RdN w a0 l) (k0 : Int) (a1 : Option Addr) (cap1 : Nat) (m : List Nd) (hm : m.length ≤ maxLen) (rd1 : RdN w a1 m) :
    Calls Try.prog 5 #[.slice a0 l.length cap, .int .i64 k0, .slice a1 m.length cap1] w fun e w' => e = .returned (.bool true) ∧ Below w.heap.size w w' := by
  have RD := Lib.hid rd; have RE := Lib.hid rd1; clear rd rd1
  go_enter Try.func5, Try.ntmps5
  go_wp2_with fail
  refine (szNodeS_any a0 cap l 1048576 _ RD.out hn (by omega) (by omega)).mono ?_
  rintro e w1 ⟨r, rfl, b1, hr⟩
  have B1 := Lib.hid b1; clear b1
  rcases hr with rfl | ⟨hr0, hr⟩
  · go_wp2_with fail
    go_ret
    exact ⟨rfl, B1.out⟩
  have SM := Lib.hid (small_of hr0 hr (by omega))
  have ml := mlen_small hr0 hr (by omega)
  have ml0 := mlen_pos l
  have hl : l.length ≤ 1048576 := SM.out.1
  have hrle : r ≤ 1048576 := by omega
  clear hr
  go_wp2_with fail
  refine (szNodeS_any a1 cap1 m r _ (RE.out.below B1.out) hm hr0 hrle).mono ?_
  rintro e w1' ⟨r', rfl, b1', hr'⟩
  have B1' := Lib.hid (below_step B1.out (Nat.le_refl _) b1'); clear b1'
  rcases hr' with rfl | ⟨hr0', hr'⟩
  · go_wp2_with fail
    go_ret
    exact ⟨rfl, B1'.out⟩
  have SN := Lib.hid (small_of hr0' hr' (by omega))
  have nl := mlen_small hr0' hr' (by omega)
  have nl0 := mlen_pos m
  have hml : m.length ≤ 1048576 := SN.out.1
  have mp := mlen_put l k0 m
  have mp0 := mlen_pos (putN l k0 m)
  have pl := put_len l k0 m hl
  clear hr'
  generalize hks : putN l k0 m = ks at mp mp0 pl
  generalize hok : putB l k0 m = ok
  have KS := Lib.hid hks; have OK := Lib.hid hok; clear hks hok
  have hq : (ok != ok) = false := by simp
  have hq' : (!ok == ok) = false := by cases ok <;> rfl
  have km : ks.length ≤ maxLen := by unfold maxLen; omega
  go_wp2_with fail
  refine (toNodeS_any a0 cap l _ (RD.out.below B1'.out) hl SM.out.2).mono ?_
  rintro e w2 ⟨a2, c2, rfl, o2, b2⟩
  have B2 := Lib.hid (below_step B1'.out (Nat.le_refl _) b2)
  have R2 := Lib.hid o2.rd; have K2 := Lib.hid o2.cap
  clear o2 b2
  go_wp2_with fail
  refine (toNodeS_any a1 cap1 m _ (RE.out.below B2.out) hml SN.out.2).mono ?_
  rintro e w2' ⟨a2', c2', rfl, o2', b2'⟩
  have B2' := Lib.hid (below_step B2.out (Nat.le_refl _) b2')
  have R2a := Lib.hid (R2.out.below b2'); have R2b := Lib.hid o2'.rd
  clear o2' b2'
  go_wp2_with fail
  refine (specPut_any a2 c2 l SM.out k0 a2' c2' m SN.out _ R2a.out R2b.out K2.out).mono ?_
  rw [KS.out, OK.out]
  rintro e w3 ⟨a3, c3, rfl, o3, b3⟩
  have B3 := Lib.hid (below_step B2'.out (Nat.le_refl _) b3)
  have O3 := Lib.hid o3.rd
  clear o3 b3
  go_wp2_with fail
  refine (toNodeSP_any a0 cap l _ (RD.out.below B3.out) hl SM.out.2).mono ?_
  rintro e w4 ⟨g4, c4, xs4, A4, C4, rfl, p4, b4⟩
  have B4 := Lib.hid (below_step B3.out (Nat.le_refl _) b4)
  have D4 := Lib.hid b4
  have o4 : OwnN w4 w3.heap.size (some ⟨g4, 0, none⟩) c4 l := .inr ⟨g4, xs4, A4, C4, rfl, p4⟩
  have X4 := Lib.hid o4.hi; have K4 := Lib.hid o4.cap
  have z4 := b4.size
  clear o4 p4 b4
  go_wp2_with fail
  refine (toNodeSP_any a1 cap1 m _ (RE.out.below B4.out) hml SN.out.2).mono ?_
  rintro e w4' ⟨h4, d4, ys4, E4, F4, rfl, p4', b4'⟩
  have B4' := Lib.hid (below_step B4.out (Nat.le_refl _) b4')
  have D4' := Lib.hid (below_step D4.out (Nat.le_refl _) b4')
  have X4' := Lib.hid (X4.out.below b4')
  have o4' : OwnN w4' w4.heap.size (some ⟨h4, 0, none⟩) d4 m := .inr ⟨h4, ys4, E4, F4, rfl, p4'⟩
  have Y4 := Lib.hid o4'.hi
  have z4' := b4'.size
  clear o4' p4' b4' X4
  go_wp2_with fail
  refine (implPut_any g4 0 c4 l SM.out k0 h4 0 d4 m SN.out _ X4'.out.rd Y4.out.rd K4.out).mono ?_
  rw [KS.out, OK.out]
  rintro e w5 ⟨a5, c5, rfl, o5, b5⟩
  have B5 := Lib.hid (below_step B4'.out (Nat.le_refl _) b5)
  have D5 := Lib.hid (below_step D4'.out (Nat.le_refl _) b5)
  have X5 := Lib.hid (X4'.out.below b5); have Y5 := Lib.hid (Y4.out.below b5)
  have G5 := Lib.hid o5.hi
  clear o5 b5 X4' Y4
  go_wp2_with fail
  refine (eqNodeS_any a5 a3 c5 c3 ks ks _ G5.out.rd (O3.out.below D5.out) km km).mono ?_
  rintro e w6 ⟨rfl, b6⟩
  rw [eqNs_refl]
  have B6 := Lib.hid (below_step B5.out (Nat.le_refl _) b6)
  have D6 := Lib.hid (below_step D5.out (Nat.le_refl _) b6)
  have X6 := Lib.hid (X5.out.below b6); have Y6 := Lib.hid (Y5.out.below b6)
  have G6 := Lib.hid (G5.out.below b6)
  clear b6 X5 Y5 G5
  go_wp2_with fail
  refine (toNodeS_any a0 cap l _ (RD.out.below B6.out) hl SM.out.2).mono ?_
  rintro e w7 ⟨a7, c7, rfl, o7, b7⟩
  have B7 := Lib.hid (below_step B6.out (Nat.le_refl _) b7)
  have D7 := Lib.hid (below_step D6.out (Nat.le_refl _) b7)
  have X7 := Lib.hid (X6.out.below b7); have Y7 := Lib.hid (Y6.out.below b7)
  have G7 := Lib.hid (G6.out.below b7)
  have R7 := Lib.hid o7.rd
  clear o7 b7 X6 Y6 G6
  go_wp2_with fail
  refine (eqNodeS_any _ a7 c4 c7 l l _ X7.out.rd R7.out hn hn).mono ?_
  rintro e w8 ⟨rfl, b8⟩
  rw [eqNs_refl]
  have B8 := Lib.hid (below_step B7.out (Nat.le_refl _) b8)
  have D8 := Lib.hid (below_step D7.out (Nat.le_refl _) b8)
  have X8 := Lib.hid (X7.out.below b8); have Y8 := Lib.hid (Y7.out.below b8)
  have G8 := Lib.hid (G7.out.below b8)
  clear b8 X7 Y7 G7 R7
  go_wp2_with fail
  refine (toNodeS_any a1 cap1 m _ (RE.out.below B8.out) hml SN.out.2).mono ?_
  rintro e v7 ⟨a7', c7', rfl, o7, b7⟩
  have B7' := Lib.hid (below_step B8.out (Nat.le_refl _) b7)
  have D7' := Lib.hid (below_step D8.out (Nat.le_refl _) b7)
  have X7' := Lib.hid (X8.out.below b7); have Y7' := Lib.hid (Y8.out.below b7)
  have G7' := Lib.hid (G8.out.below b7)
  have R7' := Lib.hid o7.rd
  clear o7 b7 X8 Y8 G8
  go_wp2_with fail
  refine (eqNodeS_any _ a7' d4 c7' m m _ Y7'.out.rd R7'.out hm hm).mono ?_
  rintro e v8 ⟨rfl, b8⟩
  rw [eqNs_refl]
  have B8' := Lib.hid (below_step B7'.out (Nat.le_refl _) b8)
  have D8' := Lib.hid (below_step D7'.out (Nat.le_refl _) b8)
  have X8' := Lib.hid (X7'.out.below b8); have Y8' := Lib.hid (Y7'.out.below b8)
  have G8' := Lib.hid (G7'.out.below b8)
  clear b8 X7' Y7' G7' R7'
  go_wp2_with fail
  refine (markNodeS_any _ _ _ c4 l 1 _ X8'.out hl (by omega) (by omega)).mono ?_
  rintro e v9 ⟨rfl, _, f9⟩
  have B9 := Lib.hid (f9.below B8'.out B3.out.size (Nat.le_refl _))
  have D9 := Lib.hid (f9.below D8'.out (Nat.le_refl _) (Nat.le_refl _))
  have Y9 := Lib.hid (Y8'.out.frame f9 (.inr (Nat.le_refl _)))
  have G9 := Lib.hid (G8'.out.frame f9 (.inr z4'))
  clear f9 X8' Y8' G8'
  go_wp2_with fail
  refine (markNodeS_any _ _ _ d4 m _ _ Y9.out hml (by omega) (by omega)).mono ?_
  rintro e w9 ⟨rfl, _, f9⟩
  have B9' := Lib.hid (f9.below B9.out B4.out.size (Nat.le_refl _))
  have D9' := Lib.hid (f9.below D9.out z4 (Nat.le_refl _))
  have G9' := Lib.hid (G9.out.frame f9 (.inr (Nat.le_refl _)))
  clear f9 Y9 G9
  go_wp2_with fail
  refine (eqNodeS_any a5 a3 c5 c3 ks ks _ G9'.out.rd (O3.out.below D9'.out) km km).mono ?_
  rintro e w10 ⟨rfl, b10⟩
  rw [eqNs_refl]
  have B10 := Lib.hid (below_step B9'.out (Nat.le_refl _) b10)
  have D10 := Lib.hid (below_step D9'.out (Nat.le_refl _) b10)
  have G10 := Lib.hid (G9'.out.below b10)
  clear b10 G9'
  go_wp2_with fail
  refine (markNodeS_any _ _ a5 c5 ks 1 _ G10.out (by omega) (by omega) (by omega)).mono ?_
  rintro e w11 ⟨rfl, m11, f11⟩
  have B11 := Lib.hid (f11.below B10.out B4'.out.size (Nat.le_refl _))
  have D11 := Lib.hid (f11.below D10.out (Nat.le_trans z4 z4') (Nat.le_refl _))
  have M11 := Lib.hid m11.rd
  clear m11 f11 G10
  go_wp2_with fail
  refine (heldNodeS_any a5 c5 ks 1 _ M11.out (by omega) (by omega) (by omega)).mono ?_
  rintro e w12 ⟨rfl, b12⟩
  have B12 := Lib.hid (below_step B11.out (Nat.le_refl _) b12)
  have D12 := Lib.hid (below_step D11.out (Nat.le_refl _) b12)
  have M12 := Lib.hid (M11.out.below b12)
  clear b12 M11
  have q1 : (1 + mlen ks != 1 + mlen ks) = false := by simp
  go_wp2_with fail
  refine (toNodeSP_any a0 cap l _ (RD.out.below B12.out) hl SM.out.2).mono ?_
  rintro e w13 ⟨g13, c13, xs13, A13, C13, rfl, p13, b13⟩
  have o13 : OwnN w13 w12.heap.size (some ⟨g13, 0, none⟩) c13 l := .inr ⟨g13, xs13, A13, C13, rfl, p13⟩
  have B13 := Lib.hid (below_step B12.out (Nat.le_refl _) b13)
  have D13 := Lib.hid (below_step D12.out (Nat.le_refl _) b13)
  have M13 := Lib.hid (M12.out.below b13)
  have R13 := Lib.hid o13.rd; have K13 := Lib.hid o13.cap
  clear o13 p13 b13 M12
  go_wp2_with fail
  refine (toNodeSP_any a1 cap1 m _ (RE.out.below B13.out) hml SN.out.2).mono ?_
  rintro e v13 ⟨h13, d13, ys13, E13, F13, rfl, p13, b13⟩
  have o13 : OwnN v13 w13.heap.size (some ⟨h13, 0, none⟩) d13 m := .inr ⟨h13, ys13, E13, F13, rfl, p13⟩
  have B13' := Lib.hid (below_step B13.out (Nat.le_refl _) b13)
  have D13' := Lib.hid (below_step D13.out (Nat.le_refl _) b13)
  have M13' := Lib.hid (M13.out.below b13)
  have R13' := Lib.hid (R13.out.below b13); have S13 := Lib.hid o13.rd
  clear o13 p13 b13 M13
  go_wp2_with fail
  refine (implPut_any g13 0 c13 l SM.out k0 h13 0 d13 m SN.out _ R13'.out S13.out K13.out).mono ?_
  rw [KS.out, OK.out]
  rintro e w14 ⟨a14, c14, rfl, o14, b14⟩
  have B14 := Lib.hid (below_step B13'.out (Nat.le_refl _) b14)
  have D14 := Lib.hid (below_step D13'.out (Nat.le_refl _) b14)
  have M14 := Lib.hid (M13'.out.below b14)
  have R14 := Lib.hid o14.rd
  clear o14 b14 M13'
  go_wp2_with fail
  refine (eqNodeS_any a14 a3 c14 c3 ks ks _ R14.out (O3.out.below D14.out) km km).mono ?_
  rintro e w15 ⟨rfl, b15⟩
  rw [eqNs_refl]
  have B15 := Lib.hid (below_step B14.out (Nat.le_refl _) b15)
  have M15 := Lib.hid (M14.out.below b15)
  clear b15 M14
  go_wp2_with fail
  refine (heldNodeS_any a5 c5 ks 1 _ M15.out (by omega) (by omega) (by omega)).mono ?_
  rintro e w16 ⟨rfl, b16⟩
  have B16 := Lib.hid (below_step B15.out (Nat.le_refl _) b16)
  clear b16
  go_wp2_with fail
  go_ret
  exact ⟨rfl, B16.out⟩
end Go.Proofs.Ytdkiaahcmoafdaa.fnExactPutPart
