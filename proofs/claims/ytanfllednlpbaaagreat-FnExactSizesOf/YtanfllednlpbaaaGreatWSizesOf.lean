/-
  The walk of FnExactSizesOf.
-/
import Derived.Test.YtanfllednlpbaaaGreatRows
import Derived.Test.YtanfllednlpbaaaGreatJ2x
import Derived.Test.YtanfllednlpbaaaGreatSSiz
import Derived.Test.YtanfllednlpbaaaGreatJ50x
import Derived.Test.YtanfllednlpbaaaGreatJ3x
import Derived.Test.YtanfllednlpbaaaGreatJ38x
import Derived.Test.YtanfllednlpbaaaGreatJ28x
import Derived.Test.YtanfllednlpbaaaGreatJ51x
import Derived.Test.YtanfllednlpbaaaGreatJ4x
import Derived.Deep.RegionWith
namespace Go.Proofs.YtanfllednlpbaaaGreat.fnExactSizesOf
open Go.RowKit
set_option linter.unusedSimpArgs false
set_option linter.unusedVariables false
set_option linter.unusedVariables false

theorem sizO_len (s : List Tb) (l : List (List (List Int))) (p : List Nd) (hp : p.length ≤ 1048576) : (sizO s l p).length ≤ 1048576 := by
  unfold sizO
  split
  · rw [sizesO_len]; exact hp
  · simp
theorem mlen_small3 {l : List Nd} {r left : Int} (h0 : 0 ≤ r) (h : r + l.length + tot l = left) (hl : left ≤ 1048576) : mlen l ≤ 7340032 := by
  have key : (l.map fun n => n.cols.length).sum ≤ tot l := by
    unfold tot
    clear h
    induction l with
    | nil => simp
    | cons n l ih => simp only [List.map_cons, List.sum_cons]; omega
  unfold mlen; omega
theorem OwnT.frame_ {w w' : World} {base lo' hi' : Nat} {ao : Option Addr} {c : Nat} {l : List Tb} (h : OwnT w base ao c l) (hf : Frame lo' hi' w w') (hd : ∀ x : Addr, ao = some x → x.block < lo' ∨ hi' ≤ x.block) : OwnT w' base ao c l :=
  h.keep fun x hx hlt => hf.block x.block hlt (hd x hx)
set_option maxRecDepth 100000 in
set_option maxHeartbeats 6400000 in
theorem walk (w : World) (a0 : Option Addr) (cap0 : Nat) (s : List Tb) (n0 : s.length ≤ maxLen) (rd0 : RdT w a0 s) (a1 : Option Addr) (cap1 : Nat) (l : List (List (List Int))) (n1 : l.length ≤ maxLen) (rd1 : RdRR w a1 l) (a2 : Option Addr) (cap2 : Nat) (p : List Nd) (n2 : p.length ≤ maxLen) (rd2 : RdN w a2 p) :
    Calls Tryz.prog 5 #[.slice a0 s.length cap0, .slice a1 l.length cap1, .slice a2 p.length cap2] w fun e w' => e = .returned (.bool true) ∧ Below w.heap.size w w' := by
  have RD0 := Lib.hid rd0; have RD1 := Lib.hid rd1; have RD2 := Lib.hid rd2; clear rd0 rd1 rd2
  go_enter Tryz.func5, Tryz.ntmps5
  go_wp2_with fail
  refine (szTableS_any a0 cap0 s 1048576 _ RD0.out n0 (by omega) (by omega)).mono ?_
  rintro e w1 ⟨r1, rfl, b1, hr⟩
  have B1 := Lib.hid b1; clear b1
  rcases hr with rfl | ⟨hp1, hr1⟩
  · go_wp2_with fail
    go_ret
    exact ⟨rfl, B1.out⟩
  have hl0 : s.length ≤ 1048576 := by omega
  have hz1 : r1 ≤ 1048576 := by omega
  go_wp2_with fail
  refine (szIntSSS_any a1 cap1 l r1 _ (RD1.out.below B1.out) n1 hp1 hz1).mono ?_
  rintro e w2 ⟨r2, rfl, rfl, hr⟩
  rcases hr with rfl | ⟨hp2, hr2⟩
  · go_wp2_with fail
    go_ret
    exact ⟨rfl, B1.out⟩
  have hl1 : l.length ≤ 1048576 := by omega
  have hz2 : r2 ≤ 1048576 := by omega
  have ht1 : (1 : Int) + 2 * s.length + totRR l ≤ 3145729 := by omega
  have HC := Lib.hid (smallRR (l := l) hp2 hr2 (by omega))
  clear hr1 hr2
  go_wp2_with fail
  refine (szNodeS_any a2 cap2 p r2 _ (RD2.out.below B1.out) n2 hp2 hz2).mono ?_
  rintro e w3 ⟨r3, rfl, b3, hr⟩
  have B3 := Lib.hid (below_step B1.out (Nat.le_refl _) b3); clear b3
  rcases hr with rfl | ⟨hp3, hr3⟩
  · go_wp2_with fail
    go_ret
    exact ⟨rfl, B3.out⟩
  have SM := Lib.hid (small_of hp3 hr3 hz2)
  have hm3 := mlen_small3 hp3 hr3 hz2
  have hm0 := mlen_pos p
  have hl2 : p.length ≤ 1048576 := SM.out.1
  clear hr3
  have kl := sizO_len s l p hl2
  have K := Lib.hid (show ∀ w e w', SizesPost w s l p e w' → ∃ a c, e = .returned (.slice a (sizO s l p).length c) ∧ Own w' w.heap.size 3 .i64 a c (sizO s l p) ∧ Below w.heap.size w w' from fun w e w' ⟨a, c, h1, h2, _, _, h3⟩ => ⟨a, c, h1, h2, h3⟩)
  have SPEC := Lib.hid (fun a b c d e f W (h1 : RdT W a s) (h2 : RdRR W c l) (h3 : RdN W e p) => (specSizes_any a b s c d l e f p W h1 h2 h3 hl0 hl1 HC.out SM.out).mono (K.out W))
  have IMPL := Lib.hid (fun a b c d e f W (h1 : RdT W a s) (h2 : RdRR W c l) (h3 : RdN W e p) => (implSizes_any a b s c d l e f p W h1 h2 h3 hl0 hl1 HC.out SM.out).mono (K.out W))
  generalize sizO s l p = ks at kl SPEC IMPL
  have km : ks.length ≤ maxLen := by unfold maxLen; omega
  clear K
  go_wp2_with fail
  refine (toTableS_any a0 cap0 s _ (RD0.out.below B3.out) hl0).mono ?_
  rintro e w4 ⟨p4, c4, rfl, o4, b4⟩
  have B4 := Lib.hid (below_step B3.out (Nat.le_refl _) b4)
  have z4 := b4.size
  have R0 := Lib.hid o4.rd
  clear o4 b4
  go_wp2_with fail
  refine (toIntSSS_any a1 cap1 l _ (RD1.out.below B4.out) hl1 HC.out).mono ?_
  rintro e w5 ⟨p5, c5, rfl, o5, _, _, b5⟩
  have B5 := Lib.hid (below_step B4.out (Nat.le_refl _) b5)
  replace R0 := Lib.hid (R0.out.below b5)
  have z5 := b5.size
  have R1 := Lib.hid o5.rd
  clear o5 b5
  go_wp2_with fail
  refine (toNodeS_any a2 cap2 p _ (RD2.out.below B5.out) hl2 SM.out.2).mono ?_
  rintro e w6 ⟨p6, c6, rfl, o6, b6⟩
  have B6 := Lib.hid (below_step B5.out (Nat.le_refl _) b6)
  replace R0 := Lib.hid (R0.out.below b6)
  replace R1 := Lib.hid (R1.out.below b6)
  have z6 := b6.size
  have R2 := Lib.hid o6.rd
  clear o6 b6
  go_wp2_with fail
  refine (SPEC.out p4 c4 p5 c5 p6 c6 _ R0.out R1.out R2.out).mono ?_
  rintro e w7 ⟨p7, c7, rfl, o7, b7⟩
  clear R0 R1 R2
  have B7 := Lib.hid (below_step B6.out (Nat.le_refl _) b7)
  have z7 := b7.size
  have O := Lib.hid o7
  have LO := Lib.hid (fun x hx => o7.lt x hx)
  clear o7 b7
  go_wp2_with fail
  refine (toTableS_any a0 cap0 s _ (RD0.out.below B7.out) hl0).mono ?_
  rintro e w8 ⟨p8, c8, rfl, o8, b8⟩
  have B8 := Lib.hid (below_step B7.out (Nat.le_refl _) b8)
  replace O := Lib.hid (O.out.below b8)
  have z8 := b8.size
  have LX := Lib.hid (fun x hx => o8.lt x hx)
  have X0 := Lib.hid o8
  clear o8 b8
  go_wp2_with fail
  refine (toIntSSS_any a1 cap1 l _ (RD1.out.below B8.out) hl1 HC.out).mono ?_
  rintro e w9 ⟨p9, c9, rfl, o9, _, _, b9⟩
  have B9 := Lib.hid (below_step B8.out (Nat.le_refl _) b9)
  replace O := Lib.hid (O.out.below b9)
  replace X0 := Lib.hid (X0.out.below b9)
  have z9 := b9.size
  have X1 := Lib.hid o9.top
  clear o9 b9
  go_wp2_with fail
  refine (toNodeS_any a2 cap2 p _ (RD2.out.below B9.out) hl2 SM.out.2).mono ?_
  rintro e w10 ⟨p10, c10, rfl, o10, b10⟩
  have B10 := Lib.hid (below_step B9.out (Nat.le_refl _) b10)
  replace O := Lib.hid (O.out.below b10)
  replace X0 := Lib.hid (X0.out.below b10)
  replace X1 := Lib.hid (X1.out.below b10)
  have z10 := b10.size
  have X2 := Lib.hid o10.hi
  clear o10 b10
  go_wp2_with fail
  refine (IMPL.out p8 c8 p9 c9 p10 c10 _ X0.out.rd X1.out.rd X2.out.rd).mono ?_
  rintro e w11 ⟨p11, c11, rfl, o11, b11⟩
  have B11 := Lib.hid (below_step B10.out (Nat.le_refl _) b11)
  replace O := Lib.hid (O.out.below b11)
  replace X0 := Lib.hid (X0.out.below b11)
  replace X1 := Lib.hid (X1.out.below b11)
  replace X2 := Lib.hid (X2.out.below b11)
  have z11 := b11.size
  have G := Lib.hid o11
  have LG := Lib.hid (fun x hx => o11.lt x hx)
  clear o11 b11
  go_wp2_with fail
  refine (eqIntS_any p11 p7 c11 c7 ks ks _ G.out.rd O.out.rd km km).mono ?_
  rintro e w12 ⟨rfl, b12⟩
  rw [eqL_refl]
  have B12 := Lib.hid (below_step B11.out (Nat.le_refl _) b12)
  replace O := Lib.hid (O.out.below b12)
  replace X0 := Lib.hid (X0.out.below b12)
  replace X1 := Lib.hid (X1.out.below b12)
  replace X2 := Lib.hid (X2.out.below b12)
  replace G := Lib.hid (G.out.below b12)
  clear b12
  go_wp2_with fail
  refine (toTableS_any a0 cap0 s _ (RD0.out.below B12.out) hl0).mono ?_
  rintro e w13 ⟨p13, c13, rfl, o13, b13⟩
  have B13 := Lib.hid (below_step B12.out (Nat.le_refl _) b13)
  replace O := Lib.hid (O.out.below b13)
  replace X0 := Lib.hid (X0.out.below b13)
  replace X1 := Lib.hid (X1.out.below b13)
  replace X2 := Lib.hid (X2.out.below b13)
  replace G := Lib.hid (G.out.below b13)
  have Y := Lib.hid o13.rd
  clear o13 b13
  go_wp2_with fail
  refine (eqTableS_any p8 p13 c8 c13 s s _ X0.out.rd Y.out n0 n0).mono ?_
  rintro e w14 ⟨rfl, b14⟩
  rw [eqTs_refl]
  clear Y
  have B14 := Lib.hid (below_step B13.out (Nat.le_refl _) b14)
  replace O := Lib.hid (O.out.below b14)
  replace X0 := Lib.hid (X0.out.below b14)
  replace X1 := Lib.hid (X1.out.below b14)
  replace X2 := Lib.hid (X2.out.below b14)
  replace G := Lib.hid (G.out.below b14)
  clear b14
  go_wp2_with fail
  refine (toIntSSS_any a1 cap1 l _ (RD1.out.below B14.out) hl1 HC.out).mono ?_
  rintro e w15 ⟨p15, c15, rfl, o15, _, _, b15⟩
  have B15 := Lib.hid (below_step B14.out (Nat.le_refl _) b15)
  replace O := Lib.hid (O.out.below b15)
  replace X0 := Lib.hid (X0.out.below b15)
  replace X1 := Lib.hid (X1.out.below b15)
  replace X2 := Lib.hid (X2.out.below b15)
  replace G := Lib.hid (G.out.below b15)
  have Y := Lib.hid o15.rd
  clear o15 b15
  go_wp2_with fail
  refine (eqIntSSS_any p9 p15 c9 c15 l l _ X1.out.rd Y.out n1 n1).mono ?_
  rintro e w16 ⟨rfl, b16⟩
  rw [eqRR_refl]
  clear Y
  have B16 := Lib.hid (below_step B15.out (Nat.le_refl _) b16)
  replace O := Lib.hid (O.out.below b16)
  replace X0 := Lib.hid (X0.out.below b16)
  replace X1 := Lib.hid (X1.out.below b16)
  replace X2 := Lib.hid (X2.out.below b16)
  replace G := Lib.hid (G.out.below b16)
  clear b16
  go_wp2_with fail
  refine (toNodeS_any a2 cap2 p _ (RD2.out.below B16.out) hl2 SM.out.2).mono ?_
  rintro e w17 ⟨p17, c17, rfl, o17, b17⟩
  have B17 := Lib.hid (below_step B16.out (Nat.le_refl _) b17)
  replace O := Lib.hid (O.out.below b17)
  replace X0 := Lib.hid (X0.out.below b17)
  replace X1 := Lib.hid (X1.out.below b17)
  replace X2 := Lib.hid (X2.out.below b17)
  replace G := Lib.hid (G.out.below b17)
  have Y := Lib.hid o17.rd
  clear o17 b17
  go_wp2_with fail
  refine (eqNodeS_any p10 p17 c10 c17 p p _ X2.out.rd Y.out n2 n2).mono ?_
  rintro e w18 ⟨rfl, b18⟩
  rw [eqNs_refl]
  clear Y
  have B18 := Lib.hid (below_step B17.out (Nat.le_refl _) b18)
  replace O := Lib.hid (O.out.below b18)
  replace X0 := Lib.hid (X0.out.below b18)
  replace X1 := Lib.hid (X1.out.below b18)
  replace X2 := Lib.hid (X2.out.below b18)
  replace G := Lib.hid (G.out.below b18)
  clear b18
  go_wp2_with fail
  refine (markTableS_any _ p8 c8 s 1 _ X0.out (by omega) (by omega)).mono ?_
  rintro e w19 ⟨rfl, _, g19⟩
  have f19 := Frame.of_grown (lo := w7.heap.size) (hi := w8.heap.size) g19 (fun y hy => by
    cases hp : p8 with
    | none => rw [hp] at hy; cases hy
    | some z => rw [hp] at hy; simp at hy; subst hy; exact LX.out z hp)
  have B19 := Lib.hid (f19.below B18.out (by have := B7.out.size; omega) (Nat.le_refl _))
  replace O := Lib.hid (O.out.frame f19 (.inl (fun x hx => by have := (LO.out x hx).2; omega)))
  replace X1 := Lib.hid (X1.out.frame f19 (.inr (by omega)))
  replace X2 := Lib.hid (X2.out.frame f19 (.inr (by omega)))
  replace G := Lib.hid (G.out.frame f19 (.inr (by omega)))
  clear f19 g19 X0
  go_wp2_with fail
  refine (markIntSSS_any _ _ p9 c9 l _ _ X1.out hl1 (fun r hr => (HC.out r hr).1) (by omega) (by omega)).mono ?_
  rintro e w20 ⟨k20, rfl, h20, i20, f20⟩
  have B20 := Lib.hid (f20.below B19.out (by have := B7.out.size; omega) (Nat.le_refl _))
  replace O := Lib.hid (O.out.frame f20 (.inl (fun x hx => by have := (LO.out x hx).2; omega)))
  replace X2 := Lib.hid (X2.out.frame f20 (.inr (by omega)))
  replace G := Lib.hid (G.out.frame f20 (.inr (by omega)))
  clear f20 X1
  go_wp2_with fail
  refine (markNodeS_any _ _ p10 c10 p k20 _ X2.out hl2 h20 (by omega)).mono ?_
  rintro e w21 ⟨rfl, _, f21⟩
  have B21 := Lib.hid (f21.below B20.out (by have := B7.out.size; omega) (Nat.le_refl _))
  replace O := Lib.hid (O.out.frame f21 (.inl (fun x hx => by have := (LO.out x hx).2; omega)))
  replace G := Lib.hid (G.out.frame f21 (.inr (by omega)))
  clear f21 X2
  have hk21 : ¬ (k20 + mlen p < 0) := by omega
  go_wp2_with fail
  refine (eqIntS_any p11 p7 c11 c7 ks ks _ G.out.rd O.out.rd km km).mono ?_
  rintro e w22 ⟨rfl, b22⟩
  rw [eqL_refl]
  have B22 := Lib.hid (below_step B21.out (Nat.le_refl _) b22)
  replace O := Lib.hid (O.out.below b22)
  replace G := Lib.hid (G.out.below b22)
  clear b22
  go_wp2_with fail
  refine (markIntS_any _ p11 c11 ks 1 _ G.out (by omega) (by omega)).mono ?_
  rintro e w23 ⟨rfl, m23, g23⟩
  have f23 := Frame.of_grown (lo := w10.heap.size) (hi := w11.heap.size) g23 (fun y hy => by
    cases hp : p11 with
    | none => rw [hp] at hy; cases hy
    | some z => rw [hp] at hy; simp at hy; subst hy; exact LG.out z hp)
  have B23 := Lib.hid (f23.below B22.out (by have := B7.out.size; omega) (Nat.le_refl _))
  replace O := Lib.hid (O.out.frame f23 (.inl (fun x hx => by have := (LO.out x hx).2; omega)))
  have M := Lib.hid m23
  clear f23 m23 g23 G
  go_wp2_with fail
  refine (heldIntS_any p11 c11 ks.length 1 _ M.out (by omega) (by omega)).mono ?_
  rintro e w' ⟨rfl, rfl⟩
  go_wp2_with fail
  refine (toTableS_any a0 cap0 s _ (RD0.out.below B23.out) hl0).mono ?_
  rintro e w24 ⟨p24, c24, rfl, o24, b24⟩
  have B24 := Lib.hid (below_step B23.out (Nat.le_refl _) b24)
  replace O := Lib.hid (O.out.below b24)
  replace M := Lib.hid (M.out.below b24)
  have z24 := b24.size
  have R0 := Lib.hid o24.rd
  clear o24 b24
  go_wp2_with fail
  refine (toIntSSS_any a1 cap1 l _ (RD1.out.below B24.out) hl1 HC.out).mono ?_
  rintro e w25 ⟨p25, c25, rfl, o25, _, _, b25⟩
  have B25 := Lib.hid (below_step B24.out (Nat.le_refl _) b25)
  replace O := Lib.hid (O.out.below b25)
  replace M := Lib.hid (M.out.below b25)
  replace R0 := Lib.hid (R0.out.below b25)
  have z25 := b25.size
  have R1 := Lib.hid o25.rd
  clear o25 b25
  go_wp2_with fail
  refine (toNodeS_any a2 cap2 p _ (RD2.out.below B25.out) hl2 SM.out.2).mono ?_
  rintro e w26 ⟨p26, c26, rfl, o26, b26⟩
  have B26 := Lib.hid (below_step B25.out (Nat.le_refl _) b26)
  replace O := Lib.hid (O.out.below b26)
  replace M := Lib.hid (M.out.below b26)
  replace R0 := Lib.hid (R0.out.below b26)
  replace R1 := Lib.hid (R1.out.below b26)
  have z26 := b26.size
  have R2 := Lib.hid o26.rd
  clear o26 b26
  go_wp2_with fail
  refine (IMPL.out p24 c24 p25 c25 p26 c26 _ R0.out R1.out R2.out).mono ?_
  rintro e w27 ⟨p27, c27, rfl, o27, b27⟩
  clear R0 R1 R2
  have B27 := Lib.hid (below_step B26.out (Nat.le_refl _) b27)
  replace O := Lib.hid (O.out.below b27)
  replace M := Lib.hid (M.out.below b27)
  have z27 := b27.size
  have H := Lib.hid o27
  have LH := Lib.hid (fun x hx => o27.lt x hx)
  clear o27 b27
  go_wp2_with fail
  refine (eqIntS_any p27 p7 c27 c7 ks ks _ H.out.rd O.out.rd km km).mono ?_
  rintro e w28 ⟨rfl, b28⟩
  rw [eqL_refl]
  have B28 := Lib.hid (below_step B27.out (Nat.le_refl _) b28)
  replace O := Lib.hid (O.out.below b28)
  replace M := Lib.hid (M.out.below b28)
  replace H := Lib.hid (H.out.below b28)
  clear b28
  go_wp2_with fail
  refine (heldIntS_any p11 c11 ks.length 1 _ M.out (by omega) (by omega)).mono ?_
  rintro e w' ⟨rfl, rfl⟩
  go_wp2_with fail
  go_ret
  exact ⟨rfl, B28.out⟩
end Go.Proofs.YtanfllednlpbaaaGreat.fnExactSizesOf
