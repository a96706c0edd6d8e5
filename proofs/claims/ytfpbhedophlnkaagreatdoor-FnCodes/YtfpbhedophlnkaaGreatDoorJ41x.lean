/-
  The program's reader of bytes in a block of its own: what it holds, and the contracts of takeNext at numbers, words and lists, of num, word, list and flag. For every slice of bytes and every place. The program's reader where other blocks turn: what stays. No walk.
-/
import Derived.Test.YtfpbhedophlnkaaGreatDoorJ16x
import Derived.Test.YtfpbhedophlnkaaGreatDoorJ13x
import Derived.Test.YtfpbhedophlnkaaGreatDoorJ40x
import Derived.OneCell
import Derived.Shelf.Abstract
namespace Go.Proofs.YtfpbhedophlnkaaGreatDoor
open Go.RowKit
set_option linter.unusedSimpArgs false
set_option linter.unusedVariables false

/-- Whether something was missing. -/
def ErV (er : Value) (p : Int) (s : Option Int) : Prop := (s = some p ∧ er = .nilIface) ∨ (s = none ∧ ∃ k1 k2 : Int, er = .iface 200 (.agg #[.int .i64 k1, .int .i64 k2]))
/-- The reader in block R over the bytes l. -/
def Rdr (w : World) (R : Nat) (b : Option Addr) (d : Nat) (l : List Int) (s : Option Int) : Prop :=
  ∃ (p : Int) (er : Value), w.heap[R]? = some (.cells #[.slice b l.length d, .int .i64 p, er] 116 (0, 0)) ∧ (-9223372036854775808 ≤ p ∧ p ≤ 9223372036854775807) ∧ ErV er p s ∧ Rd w .u8 b l ∧ By l ∧ (l.length ≤ d ∧ d ≤ maxLen) ∧ (∀ a, b = some a → l ≠ [] → a.block ≠ R)
def TookR (v : Value) (R : Nat) (b : Option Addr) (d : Nat) (l : List Int) (s : Option Int) (w : World) (e : Ending) (w' : World) : Prop :=
  e = .returned v ∧ Rdr w' R b d l s ∧ w.grownBy w' (some R)

section
variable {w w1 w' : World} {R d : Nat} {b : Option Addr} {l : List Int} {p q : Int} {er er' : Value} {s : Option Int}
theorem rdr_set1 (hh : w1.heap[R]? = some (.cells #[.slice b l.length d, .int .i64 p, er] 116 (0, 0))) (hr : Rd w1 .u8 b l) (hby : By l) (hd : l.length ≤ d ∧ d ≤ maxLen) (hne : ∀ a, b = some a → l ≠ [] → a.block ≠ R) (hq : -9223372036854775808 ≤ q ∧ q ≤ 9223372036854775807) (he : er = .nilIface) :
    Rdr (w1.setCell ⟨R, 1, none⟩ (.int .i64 q)) R b d l (some q) :=
  ⟨q, er, by rw [heap_setCell_same w1 R 1 _ _ _ hh]; rfl, hq, .inl ⟨rfl, he⟩, hr.far hne fun x hx => World.cell?_setCell_other _ _ _ _ (fun e => by subst e; exact hx rfl), hby, hd, hne⟩
theorem rdr_set2 {k1 k2 : Int} (hh : w1.heap[R]? = some (.cells #[.slice b l.length d, .int .i64 p, er] 116 (0, 0))) (hr : Rd w1 .u8 b l) (hby : By l) (hd : l.length ≤ d ∧ d ≤ maxLen) (hne : ∀ a, b = some a → l ≠ [] → a.block ≠ R) (hp : -9223372036854775808 ≤ p ∧ p ≤ 9223372036854775807) :
    Rdr (w1.setCell ⟨R, 2, none⟩ (.iface 200 (.agg #[.int .i64 k1, .int .i64 k2]))) R b d l none :=
  ⟨p, _, by rw [heap_setCell_same w1 R 2 _ _ _ hh]; rfl, hp, .inr ⟨rfl, k1, k2, rfl⟩, hr.far hne fun x hx => World.cell?_setCell_other _ _ _ _ (fun e => by subst e; exact hx rfl), hby, hd, hne⟩
theorem rdr_same (hh : w1.heap[R]? = some (.cells #[.slice b l.length d, .int .i64 p, er] 116 (0, 0))) (hr : Rd w1 .u8 b l) (hby : By l) (hd : l.length ≤ d ∧ d ≤ maxLen) (hne : ∀ a, b = some a → l ≠ [] → a.block ≠ R) (hp : -9223372036854775808 ≤ p ∧ p ≤ 9223372036854775807) (he : ErV er p s) : Rdr w1 R b d l s :=
  ⟨p, er, hh, hp, he, hr, hby, hd, hne⟩
theorem grown_set (h : w.grownBy w1 (some R)) (o : Nat) (v : Value) : w.grownBy (w1.setCell ⟨R, o, none⟩ v) (some R) :=
  grownBy_trans h ⟨rfl, rfl, rfl, by simp [World.setCell], fun i _ hi => heap_setCell_other w1 ⟨R, o, none⟩ i _ (fun e => hi (by simp [e]))⟩
theorem Rdr.below (h : Rdr w R b d l s) (hb : Below w.heap.size w w') : Rdr w' R b d l s := by
  obtain ⟨p, er, hh, hp, he, hr, hby, hd, hne⟩ := h
  refine ⟨p, er, ?_, hp, he, hr.below hb, hby, hd, hne⟩
  rw [hb.block R (by
    rcases Nat.lt_or_ge R w.heap.size with h1 | h1
    · exact h1
    · rw [Array.getElem?_eq_none h1] at hh; cases hh)]; exact hh
end

set_option maxRecDepth 100000 in
set_option maxHeartbeats 800000 in
theorem takeNum_any (R : Nat) (b : Option Addr) (d : Nat) (l : List Int) (s : Option Int) (w : World) (h : Rdr w R b d l s) :
    Calls Tryz.prog 236 #[.pointer (some ⟨R, 0, none⟩), .func (.func 234) #[.slice b l.length d] #[]] w (TookR (.int .i64 (numR l s).1) R b d l (numR l s).2 w) := by
  obtain ⟨p, er, hh, hp, he, hr, hby, hd, hne⟩ := h
  have c0 : w.cell? ⟨R, 0, none⟩ = some (.slice b l.length d) := cell_of_row w R 0 _ _ _ hh
  have c1 : w.cell? ⟨R, 1, none⟩ = some (.int .i64 p) := cell_of_row w R 1 _ _ _ hh
  have c2 : w.cell? ⟨R, 2, none⟩ = some er := cell_of_row w R 2 _ _ _ hh
  have f1 : w.frozen? ⟨R, 1, none⟩ = false := by simp [World.frozen?, hh]
  have f2 : w.frozen? ⟨R, 2, none⟩ = false := by simp [World.frozen?, hh]
  have hlm : l.length ≤ maxLen := Nat.le_trans hd.1 hd.2
  rcases he with ⟨rfl, rfl⟩ | ⟨rfl, k1, k2, rfl⟩
  · have C := Lib.hid (numAt_any b d l p w hr hby hlm hd.1 hd.2 hp.2 hp.1)
    have BD := Lib.hid (takeN_bd hby p)
    have HH := Lib.hid hh; have HR := Lib.hid hr; have HBY := Lib.hid hby; have HNE := Lib.hid hne; have HD := Lib.hid hd; have HP := Lib.hid hp
    clear hh hr hby hne hd hp
    have RL : Hid (numR l (some p) = if (takeN l p).2 = -1 then (0, none) else ((takeN l p).1, some (takeN l p).2)) := rfl
    obtain ⟨⟨x, y⟩, hxy⟩ : ∃ r, r = takeN l p := ⟨_, rfl⟩
    rw [← hxy] at C BD RL
    obtain ⟨rr, hrr⟩ : ∃ rr, rr = numR l (some p) := ⟨_, rfl⟩
    rw [← hrr] at RL ⊢
    simp only at RL
    clear hxy hrr
    go_enter Tryz.func236, Tryz.ntmps236
    go_wp2_with fail
    refine C.out.mono ?_
    clear C
    rintro e w' ⟨hh | hh, rfl⟩
    · obtain ⟨h1, rfl⟩ := hh
      simp only at h1
      have E : Hid (rr = (0, none)) := by show _ = _; rw [RL.out, if_pos h1]
      have RS := Lib.hid (rdr_set2 (k1 := 0) (k2 := p) HH.out HR.out HBY.out HD.out HNE.out HP.out)
      have GS := Lib.hid (grown_set (World.grownBy.refl w (some R)) 2 (.iface 200 (.agg #[.int .i64 0, .int .i64 p])))
      clear h1
      go_wp2_with fail
      go_ret
      rw [E.out]
      exact ⟨rfl, RS.out, GS.out⟩
    · obtain ⟨h1, rfl⟩ := hh
      simp only at h1 ⊢
      have E : Hid (rr = (x, some y)) := by show _ = _; rw [RL.out, if_neg h1]
      have hb := BD.out
      have RS := Lib.hid (rdr_set1 (q := y) HH.out HR.out HBY.out HD.out HNE.out (by unfold maxLen at hlm; omega) rfl)
      have GS := Lib.hid (grown_set (World.grownBy.refl w (some R)) 1 (.int .i64 y))
      clear h1 hb BD
      go_wp2_with fail
      go_ret
      rw [E.out]
      exact ⟨rfl, RS.out, GS.out⟩
  · have RS := Lib.hid (rdr_same (s := none) hh hr hby hd hne hp (.inr ⟨rfl, k1, k2, rfl⟩))
    clear hh hr hby hne hd hp
    go_enter Tryz.func236, Tryz.ntmps236
    go_wp2_with fail
    go_ret
    exact ⟨rfl, RS.out, World.grownBy.refl _ _⟩

set_option maxRecDepth 100000 in
set_option maxHeartbeats 800000 in
theorem takeWord_any (R : Nat) (b : Option Addr) (d : Nat) (l : List Int) (s : Option Int) (w : World) (h : Rdr w R b d l s) :
    Calls Tryz.prog 237 #[.pointer (some ⟨R, 0, none⟩), .func (.func 238) #[.slice b l.length d] #[]] w (TookR (.string (wordR l s).1) R b d l (wordR l s).2 w) := by
  obtain ⟨p, er, hh, hp, he, hr, hby, hd, hne⟩ := h
  have c0 : w.cell? ⟨R, 0, none⟩ = some (.slice b l.length d) := cell_of_row w R 0 _ _ _ hh
  have c1 : w.cell? ⟨R, 1, none⟩ = some (.int .i64 p) := cell_of_row w R 1 _ _ _ hh
  have c2 : w.cell? ⟨R, 2, none⟩ = some er := cell_of_row w R 2 _ _ _ hh
  have f1 : w.frozen? ⟨R, 1, none⟩ = false := by simp [World.frozen?, hh]
  have f2 : w.frozen? ⟨R, 2, none⟩ = false := by simp [World.frozen?, hh]
  have hlm : l.length ≤ maxLen := Nat.le_trans hd.1 hd.2
  rcases he with ⟨rfl, rfl⟩ | ⟨rfl, k1, k2, rfl⟩
  · have C := Lib.hid (wordAt_any b d l p w hr hby hlm hd.1 hd.2 hp.2 hp.1)
    have BD := Lib.hid (takeW_pl hby p)
    have HH := Lib.hid hh; have HR := Lib.hid hr; have HBY := Lib.hid hby; have HNE := Lib.hid hne; have HD := Lib.hid hd; have HP := Lib.hid hp
    clear hh hr hby hne hd hp
    have RL : Hid (wordR l (some p) = if (takeW l p).2 = -1 then (⟨#[]⟩, none) else ((takeW l p).1, some (takeW l p).2)) := rfl
    obtain ⟨⟨x, y⟩, hxy⟩ : ∃ r, r = takeW l p := ⟨_, rfl⟩
    rw [← hxy] at C BD RL
    obtain ⟨rr, hrr⟩ : ∃ rr, rr = wordR l (some p) := ⟨_, rfl⟩
    rw [← hrr] at RL ⊢
    simp only at RL
    clear hxy hrr
    go_enter Tryz.func237, Tryz.ntmps237
    go_wp2_with fail
    refine C.out.mono ?_
    clear C
    rintro e w' ⟨hh | hh, rfl⟩
    · obtain ⟨h1, k1, k2, rfl⟩ := hh
      have E : Hid (rr = (⟨#[]⟩, none)) := by show _ = _; rw [RL.out, if_pos (by injection h1)]
      have RS := Lib.hid (rdr_set2 (k1 := k1) (k2 := k2) HH.out HR.out HBY.out HD.out HNE.out HP.out)
      have GS := Lib.hid (grown_set (World.grownBy.refl w (some R)) 2 (.iface 200 (.agg #[.int .i64 k1, .int .i64 k2])))
      clear h1
      go_wp2_with fail
      go_ret
      rw [E.out]
      exact ⟨rfl, RS.out, GS.out⟩
    · obtain ⟨h1, rfl⟩ := hh
      simp only at h1 ⊢
      have E : Hid (rr = (x, some y)) := by show _ = _; rw [RL.out, if_neg h1]
      have hb := BD.out
      have RS := Lib.hid (rdr_set1 (q := y) HH.out HR.out HBY.out HD.out HNE.out (by unfold maxLen at hlm; omega) rfl)
      have GS := Lib.hid (grown_set (World.grownBy.refl w (some R)) 1 (.int .i64 y))
      clear h1 hb BD
      go_wp2_with fail
      go_ret
      rw [E.out]
      exact ⟨rfl, RS.out, GS.out⟩
  · have RS := Lib.hid (rdr_same (s := none) hh hr hby hd hne hp (.inr ⟨rfl, k1, k2, rfl⟩))
    clear hh hr hby hne hd hp
    go_enter Tryz.func237, Tryz.ntmps237
    go_wp2_with fail
    go_ret
    exact ⟨rfl, RS.out, World.grownBy.refl _ _⟩

def TookLR (xs : List Int) (R : Nat) (b : Option Addr) (d : Nat) (l : List Int) (s : Option Int) (w : World) (e : Ending) (w' : World) : Prop :=
  ∃ ao c, e = .returned (.slice ao xs.length c) ∧ Own w' w.heap.size 3 .i64 ao c xs ∧ Rdr w' R b d l s ∧ w.grownBy w' (some R)
theorem takeNs_plR {l : List Int} (hl : By l) (p : Int) : (takeNs l p).2 = -1 ∨ (0 ≤ (takeNs l p).2 ∧ (takeNs l p).2 ≤ l.length) := by
  unfold takeNs
  have bd := takeN_bd hl p
  split
  · exact .inl rfl
  · rename_i h
    cases hr : rdN l (takeN l p).2 (takeN l p).1.toNat with
    | none => exact .inl rfl
    | some x =>
      obtain ⟨acc, q⟩ := x
      have := rdN_bd hl (p0 := (takeN l p).2) (by omega) (by omega) _ _ _ hr
      right; simp only [Option.getD_some]; omega
set_option maxRecDepth 100000 in
set_option maxHeartbeats 800000 in
theorem takeList_any (R : Nat) (b : Option Addr) (d : Nat) (l : List Int) (s : Option Int) (w : World) (h : Rdr w R b d l s) :
    Calls Tryz.prog 287 #[.pointer (some ⟨R, 0, none⟩), .func (.func 288) #[.slice b l.length d] #[]] w (TookLR (listR l s).1 R b d l (listR l s).2 w) := by
  obtain ⟨p, er, hh, hp, he, hr, hby, hd, hne⟩ := h
  have c0 : w.cell? ⟨R, 0, none⟩ = some (.slice b l.length d) := cell_of_row w R 0 _ _ _ hh
  have c1 : w.cell? ⟨R, 1, none⟩ = some (.int .i64 p) := cell_of_row w R 1 _ _ _ hh
  have c2 : w.cell? ⟨R, 2, none⟩ = some er := cell_of_row w R 2 _ _ _ hh
  have hlm : l.length ≤ maxLen := Nat.le_trans hd.1 hd.2
  have hRl : R < w.heap.size := lt_of_block hh
  rcases he with ⟨rfl, rfl⟩ | ⟨rfl, k1, k2, rfl⟩
  · have C := Lib.hid (listAt_any b d l p w hr hby hlm hd.1 hd.2 hp.2 hp.1)
    have BD := Lib.hid (takeNs_plR hby p)
    have HH := Lib.hid hh; have HR := Lib.hid hr; have HBY := Lib.hid hby; have HNE := Lib.hid hne; have HD := Lib.hid hd; have HP := Lib.hid hp
    clear hh hr hby hne hd hp
    have RL : Hid (listR l (some p) = if (takeNs l p).2 = -1 then ([], none) else ((takeNs l p).1, some (takeNs l p).2)) := rfl
    obtain ⟨⟨x, y⟩, hxy⟩ : ∃ r, r = takeNs l p := ⟨_, rfl⟩
    rw [← hxy] at C BD RL
    obtain ⟨rr, hrr⟩ : ∃ rr, rr = listR l (some p) := ⟨_, rfl⟩
    rw [← hrr] at RL ⊢
    simp only at RL
    clear hxy hrr
    go_enter Tryz.func287, Tryz.ntmps287
    go_wp2_with fail
    refine C.out.mono ?_
    clear C
    rintro e w1 ⟨hh | hh, b1⟩
    · obtain ⟨h1, k1, k2, rfl⟩ := hh
      have hh1 := (b1.block R hRl).trans HH.out
      have f2 : w1.frozen? ⟨R, 2, none⟩ = false := by simp [World.frozen?, hh1]
      have d2 := cell_of_row w1 R 2 _ _ _ hh1
      have E : Hid (rr = ([], none)) := by show _ = _; rw [RL.out, if_pos (by injection h1)]
      have RS := Lib.hid (rdr_set2 (k1 := k1) (k2 := k2) hh1 (HR.out.below b1) HBY.out HD.out HNE.out HP.out)
      have GS := Lib.hid (grown_set (grownBy_below (World.grownBy.refl w (some R)) b1) 2 (.iface 200 (.agg #[.int .i64 k1, .int .i64 k2])))
      clear h1 hh1 b1
      go_wp2_with fail
      go_ret
      rw [E.out]
      exact ⟨none, 0, rfl, Own.none_, RS.out, GS.out⟩
    · obtain ⟨ao, c, h1, rfl, ho⟩ := hh
      simp only at h1 ho ⊢
      have hh1 := (b1.block R hRl).trans HH.out
      have f1 : w1.frozen? ⟨R, 1, none⟩ = false := by simp [World.frozen?, hh1]
      have d1 := cell_of_row w1 R 1 _ _ _ hh1
      have E : Hid (rr = (x, some y)) := by show _ = _; rw [RL.out, if_neg h1]
      have hb := BD.out
      have RS := Lib.hid (rdr_set1 (q := y) hh1 (HR.out.below b1) HBY.out HD.out HNE.out (by unfold maxLen at hlm; omega) rfl)
      have GS := Lib.hid (grown_set (grownBy_below (World.grownBy.refl w (some R)) b1) 1 (.int .i64 y))
      have OS := Lib.hid (ho.keep (w' := w1.setCell ⟨R, 1, none⟩ (.int .i64 y)) (fun a ha _ => Below.heap_setCell w1 ⟨R, 1, none⟩ _ a.block (by have := (ho.lt a ha).1; simp; omega)))
      clear h1 hb BD hh1 b1 ho
      go_wp2_with fail
      go_ret
      rw [E.out]
      exact ⟨ao, c, rfl, OS.out, RS.out, GS.out⟩
  · have RS := Lib.hid (rdr_same (s := none) hh hr hby hd hne hp (.inr ⟨rfl, k1, k2, rfl⟩))
    clear hh hr hby hne hd hp
    go_enter Tryz.func287, Tryz.ntmps287
    go_wp2_with fail
    go_ret
    exact ⟨none, 0, rfl, Own.none_, RS.out, World.grownBy.refl _ _⟩

set_option maxRecDepth 100000 in
theorem rList_any (R : Nat) (b : Option Addr) (d : Nat) (l : List Int) (s : Option Int) (w : World) (h : Rdr w R b d l s) :
    Calls Tryz.prog 246 #[.pointer (some ⟨R, 0, none⟩)] w (TookLR (listR l s).1 R b d l (listR l s).2 w) := by
  have T := Lib.hid (takeList_any R b d l s w h)
  obtain ⟨p, er, hh, _⟩ := h
  have c0 : w.cell? ⟨R, 0, none⟩ = some (.slice b l.length d) := cell_of_row w R 0 _ _ _ hh
  have hmf : ∀ (fn : Fn) (first cap : Array Value) (w : World), (Instr.makeFunc fn first cap).run Tryz.prog w = .ok (.func fn first cap) w := fun _ _ _ _ => rfl
  clear hh
  go_enter Tryz.func246, Tryz.ntmps246
  go_wp2_with fail
  refine T.out.mono ?_
  rintro e w1 ⟨ao, c, rfl, h0, h1, h2⟩
  have H0 := Lib.hid h0; have H1 := Lib.hid h1; have H2 := Lib.hid h2; clear h0 h1 h2 T
  go_wp2_with fail
  go_ret
  exact ⟨ao, c, rfl, H0.out, H1.out, H2.out⟩

set_option maxRecDepth 100000 in
theorem rNum_any (R : Nat) (b : Option Addr) (d : Nat) (l : List Int) (s : Option Int) (w : World) (h : Rdr w R b d l s) :
    Calls Tryz.prog 179 #[.pointer (some ⟨R, 0, none⟩)] w (TookR (.int .i64 (numR l s).1) R b d l (numR l s).2 w) := by
  have T := Lib.hid (takeNum_any R b d l s w h)
  obtain ⟨p, er, hh, _⟩ := h
  have c0 : w.cell? ⟨R, 0, none⟩ = some (.slice b l.length d) := cell_of_row w R 0 _ _ _ hh
  have hmf : ∀ (fn : Fn) (first cap : Array Value) (w : World), (Instr.makeFunc fn first cap).run Tryz.prog w = .ok (.func fn first cap) w := fun _ _ _ _ => rfl
  clear hh
  go_enter Tryz.func179, Tryz.ntmps179
  go_wp2_with fail
  refine T.out.mono ?_
  rintro e w' ⟨rfl, h1, h2⟩
  have H1 := Lib.hid h1; have H2 := Lib.hid h2; clear h1 h2 T
  go_wp2_with fail
  go_ret
  exact ⟨rfl, H1.out, H2.out⟩

set_option maxRecDepth 100000 in
theorem rWord_any (R : Nat) (b : Option Addr) (d : Nat) (l : List Int) (s : Option Int) (w : World) (h : Rdr w R b d l s) :
    Calls Tryz.prog 180 #[.pointer (some ⟨R, 0, none⟩)] w (TookR (.string (wordR l s).1) R b d l (wordR l s).2 w) := by
  have T := Lib.hid (takeWord_any R b d l s w h)
  obtain ⟨p, er, hh, _⟩ := h
  have c0 : w.cell? ⟨R, 0, none⟩ = some (.slice b l.length d) := cell_of_row w R 0 _ _ _ hh
  have hmf : ∀ (fn : Fn) (first cap : Array Value) (w : World), (Instr.makeFunc fn first cap).run Tryz.prog w = .ok (.func fn first cap) w := fun _ _ _ _ => rfl
  clear hh
  go_enter Tryz.func180, Tryz.ntmps180
  go_wp2_with fail
  refine T.out.mono ?_
  rintro e w' ⟨rfl, h1, h2⟩
  have H1 := Lib.hid h1; have H2 := Lib.hid h2; clear h1 h2 T
  go_wp2_with fail
  go_ret
  exact ⟨rfl, H1.out, H2.out⟩

set_option maxRecDepth 100000 in
set_option maxHeartbeats 800000 in
theorem rFlag_any (R : Nat) (b : Option Addr) (d : Nat) (l : List Int) (s : Option Int) (w : World) (h : Rdr w R b d l s) :
    Calls Tryz.prog 245 #[.pointer (some ⟨R, 0, none⟩)] w (TookR (.bool (flagR l s).1) R b d l (flagR l s).2 w) := by
  have T := Lib.hid (rNum_any R b d l s w h)
  obtain ⟨p, er, hh, _⟩ := h
  have c1 : w.cell? ⟨R, 1, none⟩ = some (.int .i64 p) := cell_of_row w R 1 _ _ _ hh
  have FL : Hid (flagR l s = ((numR l s).1 == 1, if (numR l s).1 = 0 ∨ (numR l s).1 = 1 then (numR l s).2 else none)) := rfl
  obtain ⟨⟨x, s1⟩, hx⟩ : ∃ r, r = numR l s := ⟨_, rfl⟩
  rw [← hx] at T FL
  obtain ⟨rr, hrr⟩ : ∃ rr, rr = flagR l s := ⟨_, rfl⟩
  rw [← hrr] at FL ⊢
  simp only at FL
  clear hh hx hrr
  go_enter Tryz.func245, Tryz.ntmps245
  go_wp2_with fail
  refine T.out.mono ?_
  rintro e w1 ⟨rfl, h1, h2⟩
  simp only at h1 ⊢
  have H1 := Lib.hid h1; have H2 := Lib.hid h2
  clear T c1 h2
  obtain ⟨p1, er1, hh, hp, he, hr, hby, hd, hne⟩ := h1
  have c1 : w1.cell? ⟨R, 1, none⟩ = some (.int .i64 p1) := cell_of_row w1 R 1 _ _ _ hh
  have c2 : w1.cell? ⟨R, 2, none⟩ = some er1 := cell_of_row w1 R 2 _ _ _ hh
  have f2 : w1.frozen? ⟨R, 2, none⟩ = false := by simp [World.frozen?, hh]
  by_cases h0 : x = 0
  · subst h0
    have E : Hid (rr = (false, s1)) := by show _ = _; rw [FL.out]; simp
    clear hh hp he hr hby hd hne
    go_wp2_with fail
    go_ret
    rw [E.out]
    exact ⟨rfl, H1.out, H2.out⟩
  · by_cases h1 : x = 1
    · subst h1
      have E : Hid (rr = (true, s1)) := by show _ = _; rw [FL.out]; simp
      clear hh hp he hr hby hd hne
      go_wp2_with fail
      go_ret
      rw [E.out]
      exact ⟨rfl, H1.out, H2.out⟩
    · have E : Hid (rr = (false, none)) := by show _ = _; rw [FL.out]; simp [h0, h1]
      have RS := Lib.hid (rdr_set2 (k1 := 4) (k2 := p) hh hr hby hd hne hp)
      have GS := Lib.hid (grown_set H2.out 2 (.iface 200 (.agg #[.int .i64 4, .int .i64 p])))
      have n0 : (x != 0) = true := by simp [h0]
      have n1 : (x != 1) = true := by simp [h1]
      have n2 : (x == 1) = false := by simp [h1]
      clear hh hp he hr hby hd hne
      go_wp2_with fail
      go_ret
      rw [E.out]
      exact ⟨rfl, RS.out, GS.out⟩
end Go.Proofs.YtfpbhedophlnkaaGreatDoor
namespace Go.Proofs.YtfpbhedophlnkaaGreatDoor
open Go.RowKit
set_option linter.unusedSimpArgs false
set_option linter.unusedVariables false

theorem gcell {W w1 : World} {R : Nat} (hg : W.grownBy w1 (some R)) {X : Nat} (hX : X < W.heap.size) (hne : X ≠ R) :
    (∀ o, w1.cell? ⟨X, o, none⟩ = W.cell? ⟨X, o, none⟩) ∧ (∀ o, w1.frozen? ⟨X, o, none⟩ = W.frozen? ⟨X, o, none⟩) :=
  have hb := hg.block X hX (by simp; exact hne)
  ⟨fun o => World.cell?_of_block (a := ⟨X, o, none⟩) hb, fun o => World.frozen?_of_block (a := ⟨X, o, none⟩) hb⟩
theorem grownBy_belowB {a b c : World} {row : Option Nat} (h : a.grownBy b row) (k : Below a.heap.size b c) : a.grownBy c row :=
  ⟨k.os.trans h.os, k.tape.trans h.tape, k.output.trans h.output, Nat.le_trans h.size k.size, fun i hi hne => (k.block i hi).trans (h.block i hi hne)⟩
theorem below_grownBy {a b c : World} {row : Option Nat} (h : Below a.heap.size a b) (k : b.grownBy c row) : a.grownBy c row :=
  ⟨k.os.trans h.os, k.tape.trans h.tape, k.output.trans h.output, Nat.le_trans h.size k.size, fun i hi hne => (k.block i (Nat.lt_of_lt_of_le hi h.size) hne).trans (h.block i hi)⟩
theorem Rdr.lt {w : World} {R d : Nat} {b : Option Addr} {l : List Int} {s : Option Int} (h : Rdr w R b d l s) : R < w.heap.size := by
  obtain ⟨p, er, hh, _⟩ := h; exact lt_of_block hh
theorem Rdr.bytes {w : World} {R d : Nat} {b : Option Addr} {l : List Int} {s : Option Int} (h : Rdr w R b d l s) : ∀ a, b = some a → l ≠ [] → a.block < w.heap.size := by
  obtain ⟨p, er, hh, hp, he, hr, hby, hd, hne⟩ := h
  intro a ha hl
  rcases hr with rfl | ⟨b1, off, rfl, hc⟩
  · exact absurd rfl hl
  · cases ha
    have hpos : 0 < l.length := Nat.pos_of_ne_zero (fun e => hl (List.eq_nil_of_length_eq_zero e))
    exact World.block_lt_of_cell? w ⟨b1, off + 0, none⟩ (hc 0 hpos)
theorem Rdr.belowB {w1 w' : World} {B R d : Nat} {b : Option Addr} {l : List Int} {s : Option Int} (h : Rdr w1 R b d l s) (hR : R < B) (hbB : ∀ a, b = some a → l ≠ [] → a.block < B) (hb : Below B w1 w') : Rdr w' R b d l s := by
  obtain ⟨p, er, hh, hp, he, hr, hby, hd, hne⟩ := h
  refine ⟨p, er, (hb.block R hR).trans hh, hp, he, ?_, hby, hd, hne⟩
  rcases hr with rfl | ⟨b1, off, rfl, hc⟩
  · exact .inl rfl
  · by_cases hl : l = []
    · exact .inl hl
    · exact .inr ⟨b1, off, rfl, fun i hi => (hb.cell (p := ⟨b1, off + i, none⟩) (hbB ⟨b1, off, none⟩ rfl hl)).trans (hc i hi)⟩
theorem erv_some {er : Value} {p q : Int} (h : ErV er p (some q)) : q = p ∧ er = .nilIface := by
  rcases h with ⟨h1, h2⟩ | ⟨h1, _⟩
  · injection h1 with h1; exact ⟨h1, h2⟩
  · cases h1
theorem erv_none {er : Value} {p : Int} (h : ErV er p none) : ∃ k1 k2 : Int, er = .iface 200 (.agg #[.int .i64 k1, .int .i64 k2]) := by
  rcases h with ⟨h1, _⟩ | ⟨_, h⟩
  · cases h1
  · exact h
theorem rdr_box {w : World} {b : Option Addr} {d : Nat} {l : List Int} (h : Rd w .u8 b l) (hby : By l) (hd : l.length ≤ d ∧ d ≤ maxLen) (hlt : ∀ a, b = some a → a.block < w.heap.size) : Rdr (w.alloc (.cells #[.slice b l.length d, .int .i64 0, .nilIface] 116)) w.heap.size b d l (some 0) :=
  ⟨0, .nilIface, heap_alloc_new w _, by decide, .inl ⟨rfl, rfl⟩, h.below ((Below.refl _ w).alloc (Nat.le_refl _) _), hby, hd, fun a ha _ => by have := hlt a ha; omega⟩

end Go.Proofs.YtfpbhedophlnkaaGreatDoor
