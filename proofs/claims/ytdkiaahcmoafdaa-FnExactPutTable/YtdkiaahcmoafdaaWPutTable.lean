/-
  The walk of FnExactPutTable.
-/
import Derived.Test.YtdkiaahcmoafdaaRows
import Derived.Test.YtdkiaahcmoafdaaRead
import Derived.Test.YtdkiaahcmoafdaaIPut
import Derived.Test.YtdkiaahcmoafdaaHTq
import Derived.Test.YtdkiaahcmoafdaaTbM
import Derived.Deep.RegionWith
namespace Go.Proofs.Ytdkiaahcmoafdaa.fnExactPutTable
open Go.RowKit
set_option linter.unusedSimpArgs false
set_option linter.unusedVariables false
set_option linter.unusedVariables false

theorem putO_len (t : Tb) (l : List Tb) : (putO t l).length ≤ l.length + 1 := by
  unfold putO; split
  · exact putT_len t l
  · omega
set_option maxRecDepth 100000 in
set_option maxHeartbeats 4000000 in
theorem walk (w : World) (a0 : Option Addr) (cap : Nat) (l : List Tb) (hn : l.length ≤ maxLen) (rd : RdT w a0 l) (t : Tb) (ht : t.name.size ≤ maxLen) (hwf : (Lit.int .i64 t.width).wf = true) :
    Calls Try.prog 10 #[.slice a0 l.length cap, .agg #[.string t.name, .int .i64 t.width]] w fun e w' => e = .returned (.bool true) ∧ Below w.heap.size w w' := by
  obtain ⟨W0, hW0⟩ : ∃ W0, W0 = w.alloc (.cells #[.string t.name, .int .i64 t.width] 63) := ⟨_, rfl⟩
  have z0 : W0.heap.size = w.heap.size + 1 := by rw [hW0]; simp
  have A0 := Lib.hid (show Below w.heap.size w W0 by rw [hW0]; exact (Below.refl w.heap.size w).alloc (Nat.le_refl _) _)
  have e0 : W0.cell? ⟨w.heap.size, 0, none⟩ = some (.string t.name) := by rw [hW0, World.cell?_alloc_new]; rfl
  have e1 : W0.cell? ⟨w.heap.size, 1, none⟩ = some (.int .i64 t.width) := by rw [hW0, World.cell?_alloc_new]; rfl
  have E0 := Lib.hid e0; have E1 := Lib.hid e1
  have RD := Lib.hid (rd.below A0.out); clear rd e0 e1
  have NT := Lib.hid ht; have WF := Lib.hid hwf; clear hwf
  have FIN := Lib.hid (fun w' (hc : Below W0.heap.size W0 w') => (A0.out.trans (hc.mono (by omega)) : Below w.heap.size w w'))
  go_enter Try.func10, Try.ntmps10
  go_wp2_with fail
  rw [← hW0]
  clear hW0
  refine (szTableS_any a0 cap l 1048576 _ RD.out hn (by omega) (by omega)).mono ?_
  rintro e w1 ⟨r, rfl, b1, hr⟩
  have C1 := Lib.hid b1; clear b1
  rcases hr with rfl | ⟨hr0, hr⟩
  · go_wp2_with fail
    go_ret
    exact ⟨rfl, FIN.out _ C1.out⟩
  have hl : l.length ≤ 1048576 := by omega
  have hr1 : r ≤ 1048576 := by omega
  clear hr
  have k10 := (C1.out.cell (p := ⟨w.heap.size, 0, none⟩) (by show w.heap.size < _; omega)).trans E0.out
  have k11 := (C1.out.cell (p := ⟨w.heap.size, 1, none⟩) (by show w.heap.size < _; omega)).trans E1.out
  go_wp2_with fail
  refine (szTable_any t r _ hr0 hr1 NT.out).mono ?_
  rintro e w2 ⟨rfl, b2⟩
  have C2 := Lib.hid (below_step C1.out (Nat.le_refl _) b2)
  clear b2 k10 k11
  by_cases hsz : szB t r < 0
  · go_wp2_with fail
    go_ret
    exact ⟨rfl, FIN.out _ C2.out⟩
  have hsz' : 0 ≤ szB t r := by omega
  clear hsz
  have SP := Lib.hid (fun a c W (h : RdT W a l) => specPut_any a c l t W h hl NT.out)
  have IP := Lib.hid (fun b a c W (h : OwnT W b a c l) => implPut_any b a c l t W h hl NT.out WF.out)
  unfold PutPost at SP IP
  have PL := Lib.hid (putO_len t l)
  have hq : (putB t l != putB t l) = false := by simp
  have hq' : (!putB t l == putB t l) = false := by simp
  generalize putO t l = po at SP IP PL
  generalize putB t l = pb at SP IP hq hq'
  have pl1 : po.length ≤ 1048577 := by have := PL.out; omega
  have pl2 : po.length ≤ maxLen := by unfold maxLen; omega
  have k20 := (C2.out.cell (p := ⟨w.heap.size, 0, none⟩) (by show w.heap.size < _; omega)).trans E0.out
  have k21 := (C2.out.cell (p := ⟨w.heap.size, 1, none⟩) (by show w.heap.size < _; omega)).trans E1.out
  go_wp2_with fail
  first | go_region_with (first
    | (go_at_call 37; refine (toTableS_any a0 cap l _ (RD.out.below C2.out.drew) hl).mono ?_; rintro e w3 ⟨a3, c3, rfl, o3, b3⟩; have C3 := Lib.hid (below_step C2.out.drew (Nat.le_refl _) b3); have R3 := Lib.hid o3.rd; have k30 := (C3.out.cell (p := ⟨w.heap.size, 0, none⟩) (by show w.heap.size < _; omega)).trans E0.out; have k31 := (C3.out.cell (p := ⟨w.heap.size, 1, none⟩) (by show w.heap.size < _; omega)).trans E1.out; clear o3 b3)
    | (go_at_call 49; refine (toTable_any t _).mono ?_; rintro e w4 ⟨rfl, b4⟩; have C4 := Lib.hid (below_step C3.out (Nat.le_refl _) b4); have R4 := Lib.hid (R3.out.below b4); clear b4)
    | (go_at_call 48; refine (SP.out a3 c3 _ R4.out).mono ?_; rintro e w5 ⟨a5, c5, rfl, o5, b5⟩; have C5 := Lib.hid (below_step C4.out (Nat.le_refl _) b5); have O5 := Lib.hid o5; clear o5 b5)) | fail
  all_goals
    have L5 := Lib.hid (fun x hx => (O5.out.lt x hx).2)
    go_wp2_with fail
    refine (toTableS_any a0 cap l _ (RD.out.below C5.out) hl).mono ?_
    rintro e w6 ⟨a6, c6, rfl, o6, b6⟩
    have C6 := Lib.hid (below_step C5.out (Nat.le_refl _) b6)
    have z56 := b6.size
    have X6 := Lib.hid o6
    have LX := Lib.hid (fun x hx => (o6.lt x hx).2)
    have O6 := Lib.hid (O5.out.below b6)
    clear o6 b6 O5
    have k60 := (C6.out.cell (p := ⟨w.heap.size, 0, none⟩) (by show w.heap.size < _; omega)).trans E0.out
    have k61 := (C6.out.cell (p := ⟨w.heap.size, 1, none⟩) (by show w.heap.size < _; omega)).trans E1.out
    go_wp2_with fail
    refine (toTable_any t _).mono ?_
    rintro e w7 ⟨rfl, b7⟩
    have C7 := Lib.hid (below_step C6.out (Nat.le_refl _) b7)
    have z67 := b7.size
    have X7 := Lib.hid (X6.out.below b7)
    have O7 := Lib.hid (O6.out.below b7)
    clear b7 X6 O6 k60 k61
    go_wp2_with fail
    refine (IP.out _ a6 c6 _ X7.out).mono ?_
    rintro e w8 ⟨a8, c8, rfl, o8, b8⟩
    have C8 := Lib.hid (below_step C7.out (Nat.le_refl _) b8)
    have X8 := Lib.hid (X7.out.below b8)
    have O8 := Lib.hid (O7.out.below b8)
    have G8 := Lib.hid o8
    clear o8 b8 X7 O7
    go_wp2_with fail
    refine (eqTableS_any a8 a5 c8 c5 po po _ G8.out.rd O8.out.rd pl2 pl2).mono ?_
    rintro e w9 ⟨rfl, b9⟩
    rw [eqTs_refl]
    have C9 := Lib.hid (below_step C8.out (Nat.le_refl _) b9)
    have X9 := Lib.hid (X8.out.below b9)
    have O9 := Lib.hid (O8.out.below b9)
    have G9 := Lib.hid (G8.out.below b9)
    clear b9 X8 O8 G8
    go_wp2_with fail
    refine (toTableS_any a0 cap l _ (RD.out.below C9.out) hl).mono ?_
    rintro e w10 ⟨a10, c10, rfl, o10, b10⟩
    have C10 := Lib.hid (below_step C9.out (Nat.le_refl _) b10)
    have X10 := Lib.hid (X9.out.below b10)
    have O10 := Lib.hid (O9.out.below b10)
    have G10 := Lib.hid (G9.out.below b10)
    have R10 := Lib.hid o10.rd
    clear o10 b10 X9 O9 G9
    go_wp2_with fail
    refine (eqTableS_any a6 a10 c6 c10 l l _ X10.out.rd R10.out hn hn).mono ?_
    rintro e w11 ⟨rfl, b11⟩
    rw [eqTs_refl]
    have C11 := Lib.hid (below_step C10.out (Nat.le_refl _) b11)
    have X11 := Lib.hid (X10.out.below b11)
    have O11 := Lib.hid (O10.out.below b11)
    have G11 := Lib.hid (G10.out.below b11)
    clear b11 X10 O10 G10 R10
    go_wp2_with fail
    refine (markTableS_any _ a6 c6 l 1 _ X11.out (by omega) (by omega)).mono ?_
    rintro e w12 ⟨rfl, _, g12⟩
    have C12 := Lib.hid (below_grow C11.out (Nat.le_refl _) g12 (fun x hx => Nat.le_trans C5.out.size (X11.out.lt x hx).1))
    have O12 := Lib.hid (O11.out.apart g12 (fun x y hx hy => by have := L5.out x hx; have := (X11.out.lt y hy).1; omega))
    have G12 := Lib.hid (G11.out.apart g12 (fun x y hx hy => by have := (G11.out.lt x hx).1; have := LX.out y hy; omega))
    clear g12 X11 O11 G11
    go_wp2_with fail
    refine (eqTableS_any a8 a5 c8 c5 po po _ G12.out.rd O12.out.rd pl2 pl2).mono ?_
    rintro e w13 ⟨rfl, b13⟩
    rw [eqTs_refl]
    have C13 := Lib.hid (below_step C12.out (Nat.le_refl _) b13)
    have O13 := Lib.hid (O12.out.below b13)
    have G13 := Lib.hid (G12.out.below b13)
    clear b13 O12 G12
    go_wp2_with fail
    refine (markTableS_any _ a8 c8 po 1 _ G13.out (by omega) (by omega)).mono ?_
    rintro e w14 ⟨rfl, m14, g14⟩
    have C14 := Lib.hid (below_grow C13.out (Nat.le_refl _) g14 (fun x hx => Nat.le_trans C7.out.size (G13.out.lt x hx).1))
    have O14 := Lib.hid (O13.out.apart g14 (fun x y hx hy => by have := L5.out x hx; have := (G13.out.lt y hy).1; omega))
    have M14 := Lib.hid m14
    clear m14 g14 O13 G13
    go_wp2_with fail
    refine (heldTableS_any _ a8 c8 po.length 1 _ M14.out (by omega) (by omega)).mono ?_
    rintro e w15 ⟨rfl, b15⟩
    have C15 := Lib.hid (below_step C14.out (Nat.le_refl _) b15)
    have O15 := Lib.hid (O14.out.below b15)
    have M15 := Lib.hid (M14.out.below b15)
    clear b15 O14 M14
    have k150 := (C15.out.cell (p := ⟨w.heap.size, 0, none⟩) (by show w.heap.size < _; omega)).trans E0.out
    have k151 := (C15.out.cell (p := ⟨w.heap.size, 1, none⟩) (by show w.heap.size < _; omega)).trans E1.out
    go_wp2_with fail
    first | go_region_with (first
      | (go_at_call 37; refine (toTableS_any a0 cap l _ (RD.out.below C15.out.drew) hl).mono ?_; rintro e w16 ⟨a16, c16, rfl, o16, b16⟩; have C16 := Lib.hid (below_step C15.out.drew (Nat.le_refl _) b16); have O16 := Lib.hid (O15.out.below ((Below.refl _ _).drew.trans (b16.mono (Nat.le_refl _)))); have M16 := Lib.hid (M15.out.below ((Below.refl _ _).drew.trans (b16.mono (Nat.le_refl _)))); have Y16 := Lib.hid o16; have k160 := (C16.out.cell (p := ⟨w.heap.size, 0, none⟩) (by show w.heap.size < _; omega)).trans E0.out; have k161 := (C16.out.cell (p := ⟨w.heap.size, 1, none⟩) (by show w.heap.size < _; omega)).trans E1.out; clear o16 b16)
      | (go_at_call 49; refine (toTable_any t _).mono ?_; rintro e w17 ⟨rfl, b17⟩; have C17 := Lib.hid (below_step C16.out (Nat.le_refl _) b17); have O17 := Lib.hid (O16.out.below b17); have M17 := Lib.hid (M16.out.below b17); have Y17 := Lib.hid (Y16.out.below b17); clear b17)
      | (go_at_call 50; refine (IP.out _ a16 c16 _ Y17.out).mono ?_; rintro e w18 ⟨a18, c18, rfl, o18, b18⟩; have C18 := Lib.hid (below_step C17.out (Nat.le_refl _) b18); have O18 := Lib.hid (O17.out.below b18); have M18 := Lib.hid (M17.out.below b18); have H18 := Lib.hid o18.rd; clear o18 b18)) | fail
    all_goals
      go_wp2_with fail
      refine (eqTableS_any a18 a5 c18 c5 po po _ H18.out O18.out.rd pl2 pl2).mono ?_
      rintro e w19 ⟨rfl, b19⟩
      rw [eqTs_refl]
      have C19 := Lib.hid (below_step C18.out (Nat.le_refl _) b19)
      have M19 := Lib.hid (M18.out.below b19)
      clear b19
      go_wp2_with fail
      refine (heldTableS_any _ a8 c8 po.length 1 _ M19.out (by omega) (by omega)).mono ?_
      rintro e w20 ⟨rfl, b20⟩
      have C20 := Lib.hid (below_step C19.out (Nat.le_refl _) b20)
      clear b20
      go_wp2_with fail
      go_ret
      exact ⟨rfl, FIN.out _ C20.out⟩
end Go.Proofs.Ytdkiaahcmoafdaa.fnExactPutTable
