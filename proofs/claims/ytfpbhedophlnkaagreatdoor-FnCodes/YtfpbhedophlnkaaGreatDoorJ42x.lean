/-
  The model's reader of bytes in a block of its own: what it holds, and the contracts of l05Next and l05Slot. For every slice of bytes and every place. Contract of spec.TakeNode: what its theorems share. For every slice of bytes and every place.
-/
import Derived.Test.YtfpbhedophlnkaaGreatDoorJ16x
import Derived.Test.YtfpbhedophlnkaaGreatDoorJ13x
import Derived.Test.YtfpbhedophlnkaaGreatDoorJ8x
import Derived.OneCell
import Derived.Deep.RegionHeld3
import Derived.Test.YtfpbhedophlnkaaGreatDoorJ41x
import Derived.Test.YtfpbhedophlnkaaGreatDoorJ20x
namespace Go.Proofs.YtfpbhedophlnkaaGreatDoor
open Go.RowKit
set_option linter.unusedSimpArgs false
set_option linter.unusedVariables false

/-- The reader in block R over the bytes l. -/
def Srd (w : World) (R : Nat) (b : Option Addr) (d : Nat) (l : List Int) (s : Option Int) : Prop :=
  ∃ (p : Int) (f : Bool), w.heap[R]? = some (.cells #[.slice b l.length d, .int .i64 p, .bool f] 203 (0, 0)) ∧ p ≤ 9223372036854775807 ∧ ((s = some p ∧ f = false) ∨ (s = none ∧ f = true)) ∧ Rd w .u8 b l ∧ By l ∧ l.length ≤ maxLen ∧ (∀ a, b = some a → l ≠ [] → a.block ≠ R)
def TookM (v : Value) (R : Nat) (b : Option Addr) (d : Nat) (l : List Int) (s : Option Int) (w : World) (e : Ending) (w' : World) : Prop :=
  e = .returned v ∧ Srd w' R b d l s ∧ w.grownBy w' (some R)

section
variable {w w1 w' : World} {R d : Nat} {b : Option Addr} {l : List Int} {p q : Int} {f : Bool} {s : Option Int}
theorem srd_set1 (hh : w1.heap[R]? = some (.cells #[.slice b l.length d, .int .i64 p, .bool false] 203 (0, 0))) (hr : Rd w1 .u8 b l) (hby : By l) (hd : l.length ≤ maxLen) (hne : ∀ a, b = some a → l ≠ [] → a.block ≠ R) (hq : q ≤ 9223372036854775807) :
    Srd (w1.setCell ⟨R, 1, none⟩ (.int .i64 q)) R b d l (some q) :=
  ⟨q, false, by rw [heap_setCell_same w1 R 1 _ _ _ hh]; rfl, hq, .inl ⟨rfl, rfl⟩, hr.far hne fun x hx => World.cell?_setCell_other _ _ _ _ (fun e => by subst e; exact hx rfl), hby, hd, hne⟩
theorem srd_set2 (hh : w1.heap[R]? = some (.cells #[.slice b l.length d, .int .i64 p, .bool f] 203 (0, 0))) (hr : Rd w1 .u8 b l) (hby : By l) (hd : l.length ≤ maxLen) (hne : ∀ a, b = some a → l ≠ [] → a.block ≠ R) (hp : p ≤ 9223372036854775807) :
    Srd (w1.setCell ⟨R, 2, none⟩ (.bool true)) R b d l none :=
  ⟨p, true, by rw [heap_setCell_same w1 R 2 _ _ _ hh]; rfl, hp, .inr ⟨rfl, rfl⟩, hr.far hne fun x hx => World.cell?_setCell_other _ _ _ _ (fun e => by subst e; exact hx rfl), hby, hd, hne⟩
theorem srd_grown (h : w.grownBy w1 (some R)) (o : Nat) (v : Value) : w.grownBy (w1.setCell ⟨R, o, none⟩ v) (some R) :=
  grownBy_trans h ⟨rfl, rfl, rfl, by simp [World.setCell], fun i _ hi => heap_setCell_other w1 ⟨R, o, none⟩ i _ (fun e => hi (by simp [e]))⟩
theorem Srd.below (h : Srd w R b d l s) (hb : Below w.heap.size w w') : Srd w' R b d l s := by
  obtain ⟨p, f, hh, hp, he, hr, hby, hd, hne⟩ := h
  exact ⟨p, f, (hb.block R (lt_of_block hh)).trans hh, hp, he, hr.below hb, hby, hd, hne⟩
theorem Srd.lt (h : Srd w R b d l s) : R < w.heap.size := by
  obtain ⟨p, er, hh, _⟩ := h; exact lt_of_block hh
theorem Srd.bytes (h : Srd w R b d l s) : ∀ a, b = some a → l ≠ [] → a.block < w.heap.size := by
  obtain ⟨p, er, hh, hp, he, hr, hby, hd, hne⟩ := h
  intro a ha hl
  rcases hr with rfl | ⟨b1, off, rfl, hc⟩
  · exact absurd rfl hl
  · cases ha
    have hpos : 0 < l.length := Nat.pos_of_ne_zero (fun e => hl (List.eq_nil_of_length_eq_zero e))
    exact World.block_lt_of_cell? w ⟨b1, off + 0, none⟩ (hc 0 hpos)
theorem Srd.belowB {B : Nat} (h : Srd w1 R b d l s) (hR : R < B) (hbB : ∀ a, b = some a → l ≠ [] → a.block < B) (hb : Below B w1 w') : Srd w' R b d l s := by
  obtain ⟨p, f, hh, hp, he, hr, hby, hd, hne⟩ := h
  refine ⟨p, f, (hb.block R hR).trans hh, hp, he, ?_, hby, hd, hne⟩
  rcases hr with rfl | ⟨b1, off, rfl, hc⟩
  · exact .inl rfl
  · by_cases hl : l = []
    · exact .inl hl
    · exact .inr ⟨b1, off, rfl, fun i hi => (hb.cell (p := ⟨b1, off + i, none⟩) (hbB ⟨b1, off, none⟩ rfl hl)).trans (hc i hi)⟩
end
theorem takeN_neg {l : List Int} (hl : By l) (p : Int) : (takeN l p).2 < 0 ↔ (takeN l p).2 = -1 := by
  have := takeN_bd hl p; omega

set_option maxRecDepth 100000 in
set_option maxHeartbeats 1600000 in
theorem l05Next_any (R : Nat) (b : Option Addr) (d : Nat) (l : List Int) (s : Option Int) (w : World) (h : Srd w R b d l s) :
    Calls Tryz.prog 198 #[.pointer (some ⟨R, 0, none⟩)] w (TookM (.int .i64 (numR l s).1) R b d l (numR l s).2 w) := by
  have HS := Lib.hid h
  obtain ⟨p, f, hh, hp, he, hr, hby, hd, hne⟩ := h
  have c0 : w.cell? ⟨R, 0, none⟩ = some (.slice b l.length d) := cell_of_row w R 0 _ _ _ hh
  have c1 : w.cell? ⟨R, 1, none⟩ = some (.int .i64 p) := cell_of_row w R 1 _ _ _ hh
  have c2 : w.cell? ⟨R, 2, none⟩ = some (.bool f) := cell_of_row w R 2 _ _ _ hh
  have f1 : w.frozen? ⟨R, 1, none⟩ = false := by simp [World.frozen?, hh]
  have f2 : w.frozen? ⟨R, 2, none⟩ = false := by simp [World.frozen?, hh]
  rcases he with ⟨rfl, rfl⟩ | ⟨rfl, rfl⟩
  · have BD := Lib.hid (takeN_bd hby p)
    have RL : Hid (numR l (some p) = if (takeN l p).2 = -1 then (0, none) else ((takeN l p).1, some (takeN l p).2)) := rfl
    have hlm := hd
    unfold maxLen at hlm
    have C := Lib.hid (fun W (h : Rd W .u8 b l) => specTakeNum_any b d l p W h hby hd hp)
    obtain ⟨⟨x, y⟩, hxy⟩ : ∃ r, r = takeN l p := ⟨_, rfl⟩
    rw [← hxy] at C BD RL
    obtain ⟨rr, hrr⟩ : ∃ rr, rr = numR l (some p) := ⟨_, rfl⟩
    rw [← hrr] at RL ⊢
    simp only at RL
    have HH := Lib.hid hh; have HR := Lib.hid hr; have HBY := Lib.hid hby; have HNE := Lib.hid hne; have HD := Lib.hid hd
    clear hxy hrr hh hr hby hne hd
    go_enter Tryz.func198, Tryz.ntmps198
    go_wp2_with fail
    go_region_held3 (fun w' => w'.cell? ⟨R, 0, none⟩ = some (.slice b l.length d) ∧ w'.cell? ⟨R, 1, none⟩ = some (.int .i64 p)) (go_keep)
      (first
        | (go_at_call 126; refine (C.out _ (HR.out.below (Below.refl _ w).drew)).mono ?_; rintro e w' ⟨rfl, rfl⟩))
    by_cases hy : y < 0
    · have E : Hid (rr = (0, none)) := by show _ = _; have := BD.out; rw [RL.out, if_pos (by omega)]
      have RS := Lib.hid (srd_set2 (w1 := w.drew) HH.out (HR.out.below (Below.refl _ w).drew) HBY.out HD.out HNE.out hp)
      have GS := Lib.hid (srd_grown (grownBy_below (World.grownBy.refl w (some R)) (Below.refl _ w).drew) 2 (.bool true))
      go_wp2_with fail
      go_ret
      rw [E.out]
      exact ⟨rfl, RS.out, GS.out⟩
    · have E : Hid (rr = (x, some y)) := by show _ = _; rw [RL.out, if_neg (by omega)]
      have hb := BD.out
      have RS := Lib.hid (srd_set1 (w1 := w.drew) (q := y) HH.out (HR.out.below (Below.refl _ w).drew) HBY.out HD.out HNE.out (by omega))
      have GS := Lib.hid (srd_grown (grownBy_below (World.grownBy.refl w (some R)) (Below.refl _ w).drew) 1 (.int .i64 y))
      clear hb BD
      go_wp2_with fail
      go_ret
      rw [E.out]
      exact ⟨rfl, RS.out, GS.out⟩
  · have RS := HS
    clear hh hr hby hne hd
    go_enter Tryz.func198, Tryz.ntmps198
    go_wp2_with fail
    go_ret
    exact ⟨rfl, RS.out, World.grownBy.refl _ _⟩

set_option maxRecDepth 100000 in
set_option maxHeartbeats 800000 in
theorem l05Slot_any (R : Nat) (b : Option Addr) (d : Nat) (l : List Int) (s : Option Int) (w : World) (h : Srd w R b d l s) :
    Calls Tryz.prog 200 #[.pointer (some ⟨R, 0, none⟩)] w (TookM (.bool (flagR l s).1) R b d l (flagR l s).2 w) := by
  have T := Lib.hid (l05Next_any R b d l s w h)
  have FL : Hid (flagR l s = ((numR l s).1 == 1, if (numR l s).1 = 0 ∨ (numR l s).1 = 1 then (numR l s).2 else none)) := rfl
  obtain ⟨⟨x, s1⟩, hx⟩ : ∃ r, r = numR l s := ⟨_, rfl⟩
  rw [← hx] at T FL
  obtain ⟨rr, hrr⟩ : ∃ rr, rr = flagR l s := ⟨_, rfl⟩
  rw [← hrr] at FL ⊢
  simp only at FL
  clear h hx hrr
  go_enter Tryz.func200, Tryz.ntmps200
  go_wp2_with fail
  refine T.out.mono ?_
  rintro e w1 ⟨rfl, h1, h2⟩
  simp only at h1 ⊢
  have H1 := Lib.hid h1; have H2 := Lib.hid h2
  clear T h2
  obtain ⟨p1, f, hh, hp, he, hr, hby, hd, hne⟩ := h1
  have c2 : w1.cell? ⟨R, 2, none⟩ = some (.bool f) := cell_of_row w1 R 2 _ _ _ hh
  have f2 : w1.frozen? ⟨R, 2, none⟩ = false := by simp [World.frozen?, hh]
  by_cases h0 : x = 0
  · subst h0
    have E : Hid (rr = (false, s1)) := by show _ = _; rw [FL.out]; simp
    clear hh hp he hr hby hd hne
    go_wp2_with fail
    refine (l01In_any 0 0 1 _).mono ?_
    rintro e w' ⟨rfl, rfl⟩
    go_wp2_with fail
    go_ret
    rw [E.out]
    exact ⟨rfl, H1.out, H2.out⟩
  · by_cases h1 : x = 1
    · subst h1
      have E : Hid (rr = (true, s1)) := by show _ = _; rw [FL.out]; simp
      clear hh hp he hr hby hd hne
      go_wp2_with fail
      refine (l01In_any 1 0 1 _).mono ?_
      rintro e w' ⟨rfl, rfl⟩
      go_wp2_with fail
      go_ret
      rw [E.out]
      exact ⟨rfl, H1.out, H2.out⟩
    · have E : Hid (rr = (false, none)) := by show _ = _; rw [FL.out]; simp [h0, h1]
      have RS := Lib.hid (srd_set2 hh hr hby hd hne hp)
      have GS := Lib.hid (srd_grown H2.out 2 (.bool true))
      have n2 : (x == 1) = false := by simp [h1]
      have IN := Lib.hid (l01In_any x 0 1 w1)
      rw [show (decide (0 ≤ x) && decide (x ≤ 1)) = false by simp; omega] at IN
      clear hh hp he hr hby hd hne
      go_wp2_with fail
      refine IN.out.mono ?_
      rintro e w' ⟨rfl, rfl⟩
      go_wp2_with fail
      go_ret
      rw [E.out]
      exact ⟨rfl, RS.out, GS.out⟩
end Go.Proofs.YtfpbhedophlnkaaGreatDoor
namespace Go.Proofs.YtfpbhedophlnkaaGreatDoor
open Go.RowKit
set_option linter.unusedSimpArgs false
set_option linter.unusedVariables false

/-- The call answered a node, its columns in memory of its own, beside a place. -/
def TookNm (r : Nd × Int) (w : World) (e : Ending) (w' : World) : Prop :=
  ∃ a c, e = .returned (.tuple #[.agg #[.int .i64 r.1.kind, .string r.1.name, .int .i64 r.1.col, .int .i64 r.1.op, .int .i64 r.1.num, .bool r.1.slot, .slice a r.1.cols.length c], .int .i64 r.2]) ∧ Own w' w.heap.size 3 .i64 a c r.1.cols ∧ Below w.heap.size w w'
theorem rd_lt {w : World} {b : Option Addr} {l : List Int} (h : Rd w .u8 b l) : ∀ a, b = some a → l ≠ [] → a.block < w.heap.size := by
  intro a ha hl
  rcases h with rfl | ⟨b1, off, rfl, hc⟩
  · exact absurd rfl hl
  · cases ha
    have hpos : 0 < l.length := Nat.pos_of_ne_zero (fun e => hl (List.eq_nil_of_length_eq_zero e))
    exact World.block_lt_of_cell? w ⟨b1, off + 0, none⟩ (hc 0 hpos)
def WS (w : World) (b : Option Addr) (n d : Nat) (at_ : Int) : World := (w.alloc (.cells #[.int .i64 0, .string ⟨#[]⟩, .int .i64 0, .int .i64 0, .int .i64 0, .bool false, .slice none 0 0] 92)).alloc (.cells #[.slice b n d, .int .i64 at_, .bool false] 203)
theorem WS_below (w : World) (b : Option Addr) (n d : Nat) (at_ : Int) : Below w.heap.size w (WS w b n d at_) := ((Below.refl _ w).alloc (Nat.le_refl _) _).alloc (by simp) _
theorem srd_new {w : World} {b : Option Addr} {d : Nat} {l : List Int} {at_ : Int} (h : Rd w .u8 b l) (hby : By l) (hl : l.length ≤ maxLen) (ha : at_ ≤ 9223372036854775807) : Srd (WS w b l.length d at_) (w.heap.size + 1) b d l (some at_) := by
  refine ⟨at_, false, ?_, ha, .inl ⟨rfl, rfl⟩, h.below (WS_below w b l.length d at_), hby, hl, fun a hb hl' => by have := rd_lt h a hb hl'; omega⟩
  have := heap_alloc_new (w.alloc (.cells #[.int .i64 0, .string ⟨#[]⟩, .int .i64 0, .int .i64 0, .int .i64 0, .bool false, .slice none 0 0] 92)) (.cells #[.slice b l.length d, .int .i64 at_, .bool false] 203)
  simpa [WS] using this
theorem ws_zero (w : World) (b : Option Addr) (n d : Nat) (at_ : Int) (o : Nat) (v : Value) (h : (#[.int .i64 0, .string ⟨#[]⟩, .int .i64 0, .int .i64 0, .int .i64 0, .bool false, .slice none 0 0] : Array Value)[o]? = some v) : (WS w b n d at_).cell? ⟨w.heap.size, o, none⟩ = some v := by
  have h1 := cell_of_row (w.alloc (.cells #[.int .i64 0, .string ⟨#[]⟩, .int .i64 0, .int .i64 0, .int .i64 0, .bool false, .slice none 0 0] 92)) w.heap.size o _ _ _ (heap_alloc_new w _)
  exact ((Below.alloc (Below.refl _ _) (Nat.le_refl _) _).cell (p := ⟨w.heap.size, o, none⟩) (by simp)).trans (h1.trans h)
theorem below_ws {w w1 : World} {b : Option Addr} {n d : Nat} {at_ : Int} (h : ((w.alloc (.cells #[.int .i64 0, .string ⟨#[]⟩, .int .i64 0, .int .i64 0, .int .i64 0, .bool false, .slice none 0 0] 92)).alloc (.cells #[.slice b n d, .int .i64 at_, .bool false] 203)).grownBy w1 (some (w.heap.size + 1))) : Below w.heap.size w w1 :=
  (WS_below w b n d at_).grown h (WS_below w b n d at_).size (by intro g hg; cases hg; omega)
end Go.Proofs.YtfpbhedophlnkaaGreatDoor
