/-
  The model's reader of words in a block of its own: contracts of l06Find, l06Word, l06Bad and l06Int. For every list of words. Contract of the model's l06Int: a number, with a mark where one may stand. For every list of words that are none of them empty. A node's text, as the two sides put it together. Plain facts; no program, no walk. One number of a slice that reads. No program, no walk.
-/
import Derived.Test.YtfpbhedophlnkaaGreatDoorJT6x
import Derived.Test.YtfpbhedophlnkaaGreatDoorJT5x
import Derived.Test.YtfpbhedophlnkaaGreatDoorJT7x
import Derived.Test.YtfpbhedophlnkaaGreatDoorJT8x
import Derived.OneCell
import Derived.BigQuiet
import Derived.Deep.QuietTactic
import Derived.Test.YtfpbhedophlnkaaGreatDoorJT3x
namespace Go.Proofs.YtfpbhedophlnkaaGreatDoor
open Go.RowKit
set_option linter.unusedSimpArgs false
set_option linter.unusedVariables false

/-- The reader in block R over the words ws: the place, and whether it has failed. -/
def Lrd (w : World) (R : Nat) (ao : Option Addr) (c : Nat) (ws : List ByteArray) (p : Nat) (f : Bool) : Prop :=
  w.heap[R]? = some (.cells #[.slice ao ws.length c, .int .i64 p, .bool f] 153 (0, 0)) ∧ RdS w ao ws ∧ p ≤ ws.length ∧ (∀ a, ao = some a → ws ≠ [] → a.block ≠ R) ∧ ws.length ≤ 2000
def TookL6 (v : Value) (R : Nat) (ao : Option Addr) (c : Nat) (ws : List ByteArray) (p : Nat) (f : Bool) (w : World) (e : Ending) (w' : World) : Prop :=
  e = .returned v ∧ Lrd w' R ao c ws p f ∧ w.grownBy w' (some R)
section
variable {w w1 w' : World} {R c p q : Nat} {ao : Option Addr} {ws : List ByteArray} {f : Bool}
theorem rdS_far (h : RdS w ao ws) (hne : ∀ a, ao = some a → ws ≠ [] → a.block ≠ R) (o : Nat) (v : Value) : RdS (w.setCell ⟨R, o, none⟩ v) ao ws := by
  rcases h with h | ⟨b, off, rfl, hc⟩
  · exact .inl h
  · by_cases hl : ws = []
    · exact .inl hl
    · have hb := hne _ rfl hl
      exact .inr ⟨b, off, rfl, fun i hi => by rw [World.cell?_setCell_other _ _ _ _ (by intro e; simp at e; exact hb e.1.symm)]; exact hc i hi⟩
theorem Lrd.lt (h : Lrd w R ao c ws p f) : R < w.heap.size := (Array.getElem?_eq_some_iff.1 h.1).1
theorem Lrd.below (h : Lrd w R ao c ws p f) (hb : Below w.heap.size w w') : Lrd w' R ao c ws p f :=
  ⟨(hb.block R h.lt).trans h.1, h.2.1.below hb, h.2.2.1, h.2.2.2.1, h.2.2.2.2⟩
theorem lrd_set1 {z : Int} (h : Lrd w R ao c ws p f) (hz : z = q) (hq : q ≤ ws.length) : Lrd (w.setCell ⟨R, 1, none⟩ (.int .i64 z)) R ao c ws q f :=
  ⟨by rw [hz]; rw [heap_setCell_same w R 1 _ _ _ h.1]; rfl, rdS_far h.2.1 h.2.2.2.1 1 _, hq, h.2.2.2.1, h.2.2.2.2⟩
theorem lrd_set2 (h : Lrd w R ao c ws p f) : Lrd (w.setCell ⟨R, 2, none⟩ (.bool true)) R ao c ws p true :=
  ⟨by rw [heap_setCell_same w R 2 _ _ _ h.1]; rfl, rdS_far h.2.1 h.2.2.2.1 2 _, h.2.2.1, h.2.2.2.1, h.2.2.2.2⟩
theorem lrd_grown (h : w.grownBy w1 (some R)) (o : Nat) (v : Value) : w.grownBy (w1.setCell ⟨R, o, none⟩ v) (some R) :=
  grownBy_trans h ⟨rfl, rfl, rfl, by simp [World.setCell], fun i _ hi => heap_setCell_other w1 ⟨R, o, none⟩ i _ (fun e => hi (by simp [e]))⟩
end
theorem w64 {p : Nat} (h : p ≤ 2000) : RowKit.wrap64 ((p : Int) + 1) = ((p + 1 : Nat) : Int) := by
  unfold RowKit.wrap64; push_cast; omega
theorem w64m {p : Nat} (h : p ≤ 2000) : RowKit.wrap64 (((p + 1 : Nat) : Int) - 1) = (p : Int) := by
  unfold RowKit.wrap64; push_cast; omega
theorem findB_cons (x : ByteArray) (r : List ByteArray) (s : ByteArray) : findB (x :: r) s = if x = s then 0 else if findB r s = -1 then -1 else findB r s + 1 := rfl
def FdRel (l : List ByteArray) (s : ByteArray) (i : Value) : Prop :=
  ∃ j : Nat, i = .int .i64 j ∧ j ≤ l.length ∧ findB l s = if findB (l.drop j) s = -1 then -1 else findB (l.drop j) s + j

set_option maxRecDepth 100000 in
theorem findL_any (ao : Option Addr) (c : Nat) (l : List ByteArray) (s : ByteArray) (w : World) (h : RdS w ao l) (hl : l.length ≤ 1000) :
    Calls Tryz.prog 210 #[.slice ao l.length c, .string s] w fun e w' => e = .returned (.int .i64 (findB l s)) ∧ w = w' := by
  have H := Lib.hid h; clear h
  have P0 := Lib.hid (show FdRel l s (.int .i64 0) from ⟨0, rfl, Nat.zero_le _, by simp only [List.drop_zero]; split <;> simp_all⟩)
  go_enter Tryz.func210, Tryz.ntmps210
  go_wp2_with fail
  go_loop [5] (fun i => FdRel l s i) (fun i => l.length - (intOf i).toNat)
  case atStart => exact P0.out
  case round =>
    clear P0
    obtain ⟨j, rfl, hj, hf⟩ := hrel
    have HF := Lib.hid hf; clear hf
    by_cases hlt : j < l.length
    · have i1 : (j : Int) < (l.length : Int) := by omega
      obtain ⟨b, off, rfl, hc⟩ : ∃ b off, ao = some ⟨b, off, none⟩ ∧ ∀ i, i < l.length → w.cell? ⟨b, off + i, none⟩ = some (.string (l.getD i ByteArray.empty)) := by
        rcases H.out with rfl | h
        · simp at hlt
        · exact h
      have hcj := hc j hlt
      have hx : l[j]? = some l[j] := List.getElem?_eq_getElem hlt
      rw [List.getD_eq_getElem?_getD, hx, Option.getD_some] at hcj
      have hd : l.drop j = l[j] :: l.drop (j + 1) := List.drop_eq_getElem_cons hlt
      rw [hd] at HF
      generalize l[j] = x at hcj HF
      clear hc hx hd
      rw [findB_cons] at HF
      have sq := str_same x s
      by_cases hq : x = s
      · rw [if_pos hq] at HF
        have q1 : (x.toList == s.toList) = true := by rw [sq]; simp [hq]
        have E := Lib.hid (show findB l s = (j : Int) by rw [HF.out]; simp)
        clear sq hq
        go_wp2_with fail
        go_ret
        exact ⟨by rw [E.out]; rfl, rfl⟩
      · rw [if_neg hq] at HF
        have q1 : (x.toList == s.toList) = false := by rw [sq]; simp [hq]
        have F2 := Lib.hid (show findB l s = if findB (l.drop (j + 1)) s = -1 then -1 else findB (l.drop (j + 1)) s + ((j + 1 : Nat) : Int) by
          rw [HF.out]
          have hb := findB_bd (l.drop (j + 1)) s
          by_cases h2 : findB (l.drop (j + 1)) s = -1
          · simp [h2]
          · have h3 : ¬ (findB (l.drop (j + 1)) s + 1 = -1) := by omega
            simp only [if_neg h2, if_neg h3]; push_cast; omega)
        clear sq hq
        go_wp2_with fail
        go_round
        case rel => exact ⟨j + 1, by go_num, hlt, F2.out⟩
        case measure => simp [intOf]; omega
    · obtain rfl : j = l.length := by omega
      have E := Lib.hid (show findB l s = -1 by rw [HF.out, List.drop_of_length_le (Nat.le_refl _)]; rfl)
      go_wp2_with fail
      go_ret
      exact ⟨by rw [E.out]; rfl, rfl⟩

set_option maxRecDepth 100000 in
theorem l06Word_yes {R c p : Nat} {ao : Option Addr} {ws : List ByteArray} {x : ByteArray} (w : World) (h : Lrd w R ao c ws p false) (hx : ws[p]? = some x) :
    Calls Tryz.prog 211 #[.pointer (some ⟨R, 0, none⟩)] w (TookL6 (.string x) R ao c ws (p + 1) false w) := by
  have HL := Lib.hid h
  have hlt : p < ws.length := (List.getElem?_eq_some_iff.1 hx).1
  obtain ⟨hh, hr, hp, hne, h2⟩ := h
  have h2k : p ≤ 2000 := by omega
  have c0 : w.cell? ⟨R, 0, none⟩ = some (.slice ao ws.length c) := cell_of_row w R 0 _ _ _ hh
  have c1 : w.cell? ⟨R, 1, none⟩ = some (.int .i64 p) := cell_of_row w R 1 _ _ _ hh
  have c2 : w.cell? ⟨R, 2, none⟩ = some (.bool false) := cell_of_row w R 2 _ _ _ hh
  have f1 : w.frozen? ⟨R, 1, none⟩ = false := by simp [World.frozen?, hh]
  obtain ⟨b, off, rfl, hc⟩ : ∃ b off, ao = some ⟨b, off, none⟩ ∧ ∀ i, i < ws.length → w.cell? ⟨b, off + i, none⟩ = some (.string (ws.getD i ByteArray.empty)) := by
    rcases hr with rfl | h
    · simp at hlt
    · exact h
  have hcj := hc p hlt
  rw [List.getD_eq_getElem?_getD, hx, Option.getD_some] at hcj
  have i1 : (p : Int) < (ws.length : Int) := by omega
  have i0 : (0 : Int) ≤ (p : Int) := by omega
  have d1 : decide ((ws.length : Int) ≤ (p : Int)) = false := by simp; omega
  clear hh hc hp hne h2 hx
  go_enter Tryz.func211, Tryz.ntmps211
  go_wp2_with fail
  go_quiet (fail)
  go_wp2_with fail
  go_quiet (fail)
  go_wp2_with fail
  go_ret
  exact ⟨rfl, lrd_set1 (HL.out.below (below_drewN (Below.refl _ _) _)) (by first | exact w64 h2k | (push_cast; rfl)) hlt, lrd_grown (grownBy_below (World.grownBy.refl w (some R)) (below_drewN (Below.refl _ _) _)) 1 _⟩
set_option maxRecDepth 100000 in
theorem l06Word_end {R c p : Nat} {ao : Option Addr} {ws : List ByteArray} (w : World) (h : Lrd w R ao c ws p false) (hx : ws[p]? = none) :
    Calls Tryz.prog 211 #[.pointer (some ⟨R, 0, none⟩)] w (TookL6 (.string ⟨#[]⟩) R ao c ws p true w) := by
  have HL := Lib.hid h
  have hge : ws.length ≤ p := by
    rcases Nat.lt_or_ge p ws.length with h1 | h1
    · rw [List.getElem?_eq_getElem h1] at hx; cases hx
    · exact h1
  obtain ⟨hh, hr, hp, hne, h2⟩ := h
  have c0 : w.cell? ⟨R, 0, none⟩ = some (.slice ao ws.length c) := cell_of_row w R 0 _ _ _ hh
  have c1 : w.cell? ⟨R, 1, none⟩ = some (.int .i64 p) := cell_of_row w R 1 _ _ _ hh
  have c2 : w.cell? ⟨R, 2, none⟩ = some (.bool false) := cell_of_row w R 2 _ _ _ hh
  have f2 : w.frozen? ⟨R, 2, none⟩ = false := by simp [World.frozen?, hh]
  have i1 : (ws.length : Int) ≤ (p : Int) := by omega
  clear hh hr hp hne h2 hx
  go_enter Tryz.func211, Tryz.ntmps211
  go_wp2_with fail
  go_quiet (fail)
  go_wp2_with fail
  go_ret
  exact ⟨rfl, lrd_set2 (HL.out.below (below_drewN (Below.refl _ _) _)), lrd_grown (grownBy_below (World.grownBy.refl w (some R)) (below_drewN (Below.refl _ _) _)) 2 _⟩
set_option maxRecDepth 100000 in
theorem l06Word_fail {R c p : Nat} {ao : Option Addr} {ws : List ByteArray} (w : World) (h : Lrd w R ao c ws p true) :
    Calls Tryz.prog 211 #[.pointer (some ⟨R, 0, none⟩)] w (TookL6 (.string ⟨#[]⟩) R ao c ws p true w) := by
  have HL := Lib.hid h
  obtain ⟨hh, hr, hp, hne, h2⟩ := h
  have c0 : w.cell? ⟨R, 0, none⟩ = some (.slice ao ws.length c) := cell_of_row w R 0 _ _ _ hh
  have c1 : w.cell? ⟨R, 1, none⟩ = some (.int .i64 p) := cell_of_row w R 1 _ _ _ hh
  have c2 : w.cell? ⟨R, 2, none⟩ = some (.bool true) := cell_of_row w R 2 _ _ _ hh
  have f2 : w.frozen? ⟨R, 2, none⟩ = false := by simp [World.frozen?, hh]
  clear hh hr hp hne h2
  go_enter Tryz.func211, Tryz.ntmps211
  go_wp2_with fail
  go_quiet (fail)
  go_wp2_with fail
  go_ret
  exact ⟨rfl, lrd_set2 (HL.out.below (below_drewN (Below.refl _ _) _)), lrd_grown (grownBy_below (World.grownBy.refl w (some R)) (below_drewN (Below.refl _ _) _)) 2 _⟩
theorem l06Bad_yes {R c p : Nat} {ao : Option Addr} {ws : List ByteArray} (w : World) (h : Lrd w R ao c ws (p + 1) false) :
    Calls Tryz.prog 212 #[.pointer (some ⟨R, 0, none⟩)] w (TookL6 (.tuple #[]) R ao c ws p true w) := by
  have HL := Lib.hid h
  obtain ⟨hh, hr, hp, hne, h2⟩ := h
  have c1 : w.cell? ⟨R, 1, none⟩ = some (.int .i64 ((p + 1 : Nat) : Int)) := cell_of_row w R 1 _ _ _ hh
  have c2 : w.cell? ⟨R, 2, none⟩ = some (.bool false) := cell_of_row w R 2 _ _ _ hh
  have f1 : w.frozen? ⟨R, 1, none⟩ = false := by simp [World.frozen?, hh]
  have f2 : w.frozen? ⟨R, 2, none⟩ = false := by simp [World.frozen?, hh]
  have hpl : p ≤ ws.length := by omega
  have h2k : p ≤ 2000 := by omega
  clear hh hr hp hne h2
  go_enter Tryz.func212, Tryz.ntmps212
  go_wp2_with fail
  go_end0
  exact ⟨rfl, lrd_set2 (lrd_set1 HL.out (by first | exact w64m h2k | rfl) hpl), lrd_grown (lrd_grown (World.grownBy.refl w (some R)) 1 _) 2 _⟩
theorem l06Bad_fail {R c p : Nat} {ao : Option Addr} {ws : List ByteArray} (w : World) (h : Lrd w R ao c ws p true) :
    Calls Tryz.prog 212 #[.pointer (some ⟨R, 0, none⟩)] w (TookL6 (.tuple #[]) R ao c ws p true w) := by
  have HL := Lib.hid h
  obtain ⟨hh, hr, hp, hne, h2⟩ := h
  have c2 : w.cell? ⟨R, 2, none⟩ = some (.bool true) := cell_of_row w R 2 _ _ _ hh
  clear hh hr hp hne h2
  go_enter Tryz.func212, Tryz.ntmps212
  go_wp2_with fail
  go_end0
  exact ⟨rfl, HL.out, World.grownBy.refl w (some R)⟩
/-- A number out of a text, or none. -/
def ReadQ (s : ByteArray) (w : World) (e : Ending) (w' : World) : Prop :=
  ∃ (x : Int) (ok : Bool), e = .returned (.tuple #[.int .i64 x, .bool ok]) ∧ Below w.heap.size w w' ∧ ((ok = true ∧ readN s = some x) ∨ (ok = false ∧ readN s = none))
theorem read_Q (s : ByteArray) (w : World) (hs : s.size ≤ maxLen) : Calls Tryz.prog 258 #[.string s] w (ReadQ s w) :=
  (read_any s w hs).mono fun e w' ⟨x, ok, he, hb, h1, h2⟩ => ⟨x, ok, he, hb, by
    cases ok with
    | true => obtain ⟨h3, h4, h5⟩ := h1 rfl; exact .inl ⟨rfl, readN_yes (fun _ _ => numT_inj) h3 h4 h5⟩
    | false => exact .inr ⟨rfl, readN_no (h2 rfl)⟩⟩
end Go.Proofs.YtfpbhedophlnkaaGreatDoor
namespace Go.Proofs.YtfpbhedophlnkaaGreatDoor
open Go.RowKit
set_option linter.unusedSimpArgs false
set_option linter.unusedVariables false

/-- Words as a text has them. -/
def Wds (ws : List ByteArray) : Prop := ∀ s ∈ ws, 0 < s.size ∧ s.size ≤ 2000
def IntP (r : Option (Int × Bool)) (R : Nat) (ao : Option Addr) (c : Nat) (ws : List ByteArray) (p : Nat) (w : World) (e : Ending) (w' : World) : Prop :=
  match r with
  | none => TookL6 (.tuple #[.int .i64 0, .bool false]) R ao c ws p true w e w'
  | some x => TookL6 (.tuple #[.int .i64 x.1, .bool x.2]) R ao c ws (p + 1) false w e w'
theorem intP_no {r : Option (Int × Bool)} {R c p : Nat} {ao : Option Addr} {ws : List ByteArray} {w w' : World} (hr : r = none) (h : Lrd w' R ao c ws p true) (hg : w.grownBy w' (some R)) : IntP r R ao c ws p w (.returned (.tuple #[.int .i64 0, .bool false])) w' := by
  subst hr; exact ⟨rfl, h, hg⟩
theorem intP_yes {r : Option (Int × Bool)} {x : Int} {m : Bool} {R c p : Nat} {ao : Option Addr} {ws : List ByteArray} {w w' : World} (hr : r = some (x, m)) (h : Lrd w' R ao c ws (p + 1) false) (hg : w.grownBy w' (some R)) : IntP r R ao c ws p w (.returned (.tuple #[.int .i64 x, .bool m])) w' := by
  subst hr; exact ⟨rfl, h, hg⟩
theorem head_of {s : ByteArray} (h : 0 < s.size) : s.data.toList.head? = some s[0] := by
  rw [List.head?_eq_getElem?, Array.getElem?_toList, Array.getElem?_eq_getElem (show 0 < s.data.size from h)]; rfl
theorem cutS_yes {s : ByteArray} (h : 0 < s.size) (hc : s[0].toNat = 36) : cutM true s = (s.extract 1 s.size, true) := by
  unfold cutM
  rw [if_pos ⟨rfl, by rw [head_of h]; exact congrArg some (UInt8.toNat_inj.1 hc)⟩]
theorem cutS_no {s : ByteArray} (h : 0 < s.size) (hc : ¬ s[0].toNat = 36) : cutM true s = (s, false) := by
  unfold cutM
  rw [if_neg]
  rintro ⟨_, h2⟩
  rw [head_of h] at h2
  injection h2 with h2
  exact hc (by rw [h2]; rfl)
theorem cut_false (s : ByteArray) : cutM false s = (s, false) := by unfold cutM; simp
theorem litQ_none {slot : Bool} {s d : ByteArray} {m : Bool} (hc : cutM slot s = (d, m)) (hr : readN d = none) : litQ slot s = none := by unfold litQ; rw [hc]; simp only [hr]
theorem litQ_neg {slot : Bool} {s d : ByteArray} {m : Bool} {x : Int} (hc : cutM slot s = (d, m)) (hr : readN d = some x) (h : m = true ∧ x < 0) : litQ slot s = none := by unfold litQ; rw [hc]; simp only [hr]; rw [if_pos h]
theorem litQ_some {slot : Bool} {s d : ByteArray} {m : Bool} {x : Int} (hc : cutM slot s = (d, m)) (hr : readN d = some x) (h : ¬ (m = true ∧ x < 0)) : litQ slot s = some (x, m) := by unfold litQ; rw [hc]; simp only [hr]; rw [if_neg h]
theorem intQ_word {slot : Bool} {ws : List ByteArray} {p : Nat} {s : ByteArray} (h : ws[p]? = some s) : intQ slot ws p = litQ slot s := by unfold intQ; rw [h]
theorem intQ_end {slot : Bool} {ws : List ByteArray} {p : Nat} (h : ws[p]? = none) : intQ slot ws p = none := by unfold intQ; rw [h]
theorem lrd_c2 {w : World} {R c p : Nat} {ao : Option Addr} {ws : List ByteArray} {f : Bool} (h : Lrd w R ao c ws p f) : w.cell? ⟨R, 2, none⟩ = some (.bool f) := cell_of_row w R 2 _ _ _ h.1

theorem l06Int_fail (slot : Bool) {R c p : Nat} {ao : Option Addr} {ws : List ByteArray} (w : World) (h : Lrd w R ao c ws p true) :
    Calls Tryz.prog 213 #[.pointer (some ⟨R, 0, none⟩), .bool slot] w (TookL6 (.tuple #[.int .i64 0, .bool false]) R ao c ws p true w) := by
  have T := Lib.hid (l06Word_fail w h)
  clear h
  go_enter Tryz.func213, Tryz.ntmps213
  go_wp2_with fail
  refine T.out.mono ?_
  rintro e w1 ⟨rfl, h1, g1⟩
  have H1 := Lib.hid h1; have G1 := Lib.hid g1
  have c2 := lrd_c2 h1
  clear h1 g1 T
  go_wp2_with fail
  go_ret2
  exact ⟨rfl, H1.out, G1.out⟩

/-- Behind the mark: the number is read, or the reader fails at the word. -/
theorem l06Int_tail {slot : Bool} {ws : List ByteArray} {p : Nat} {s d : ByteArray} {m : Bool} (hx : ws[p]? = some s) (hc : cutM slot s = (d, m)) : (∀ x, readN d = some x → m = true → x < 0 → intQ slot ws p = none) ∧ (∀ x, readN d = some x → ¬ (m = true ∧ x < 0) → intQ slot ws p = some (x, m)) ∧ (readN d = none → intQ slot ws p = none) := by
  rw [intQ_word hx]
  exact ⟨fun x hr h1 h2 => litQ_neg hc hr ⟨h1, h2⟩, fun x hr h => litQ_some hc hr h, fun hr => litQ_none hc hr⟩
set_option maxRecDepth 100000 in
set_option maxHeartbeats 1600000 in
theorem l06Int_any (slot : Bool) {R c p : Nat} {ao : Option Addr} {ws : List ByteArray} (w : World) (hw : Wds ws) (h : Lrd w R ao c ws p false) :
    Calls Tryz.prog 213 #[.pointer (some ⟨R, 0, none⟩), .bool slot] w (IntP (intQ slot ws p) R ao c ws p w) := by
  cases hx : ws[p]? with
  | none =>
    have E := Lib.hid (intQ_end (slot := slot) hx)
    have T := Lib.hid (l06Word_end w h hx)
    clear h hx hw
    go_enter Tryz.func213, Tryz.ntmps213
    go_wp2_with fail
    refine T.out.mono ?_
    rintro e w1 ⟨rfl, h1, g1⟩
    have H1 := Lib.hid h1; have G1 := Lib.hid g1
    have c2 := lrd_c2 h1
    clear h1 g1 T
    go_wp2_with fail
    go_ret2
    exact intP_no E.out H1.out G1.out
  | some s =>
    have T := Lib.hid (l06Word_yes w h hx)
    obtain ⟨hpos, h2k⟩ := hw s (List.mem_of_getElem? hx)
    have hex : (s.extract 1 s.size).size ≤ 2000 := by rw [ByteArray.size_extract]; omega
    have i0 : (0 : Int) < (s.size : Int) := by omega
    have i1 : (1 : Int) ≤ (s.size : Int) := by omega
    obtain ⟨rr, hrr⟩ : ∃ rr, rr = intQ slot ws p := ⟨_, rfl⟩
    have hways : (slot = false ∧ cutM slot s = (s, false)) ∨ (slot = true ∧ s[0].toNat = 36 ∧ cutM slot s = (s.extract 1 s.size, true)) ∨ (slot = true ∧ ¬ s[0].toNat = 36 ∧ cutM slot s = (s, false)) := by
      cases slot with
      | false => exact .inl ⟨rfl, cut_false s⟩
      | true =>
        by_cases hc : s[0].toNat = 36
        · exact .inr (.inl ⟨rfl, hc, cutS_yes hpos hc⟩)
        · exact .inr (.inr ⟨rfl, hc, cutS_no hpos hc⟩)
    rcases hways with ⟨rfl, hcut⟩ | ⟨rfl, hc, hcut⟩ | ⟨rfl, hc, hcut⟩
    all_goals
      obtain ⟨t1, t2, t3⟩ := l06Int_tail hx hcut
      rw [← hrr] at t1 t2 t3 ⊢
      have T1 := Lib.hid t1; have T2 := Lib.hid t2; have T3 := Lib.hid t3
      clear h hx hw hrr t1 t2 t3 hcut
    · have RQ := Lib.hid (fun W => read_Q s W (by unfold maxLen; omega))
      go_enter Tryz.func213, Tryz.ntmps213
      go_wp2_with fail
      refine T.out.mono ?_
      rintro e w1 ⟨rfl, h1, g1⟩
      have H1 := Lib.hid h1; have G1 := Lib.hid g1
      have c2 := lrd_c2 h1
      clear h1 g1 T
      go_wp2_with fail
      refine (RQ.out _).mono ?_
      rintro e w2 ⟨x, ok, rfl, b2, hq⟩
      have H2 := Lib.hid (H1.out.below b2); have G2 := Lib.hid (grownBy_below G1.out b2)
      clear b2
      rcases hq with ⟨rfl, hq⟩ | ⟨rfl, hq⟩
      · have E := Lib.hid (T2.out x hq (by simp))
        clear hq
        go_wp2_with fail
        go_ret2
        exact intP_yes E.out H2.out G2.out
      · have E := Lib.hid (T3.out hq)
        have TB := Lib.hid (l06Bad_yes w2 H2.out)
        clear hq
        go_wp2_with fail
        refine TB.out.mono ?_
        rintro e w3 ⟨rfl, h3, g3⟩
        have H3 := Lib.hid h3; have G3 := Lib.hid (grownBy_trans G2.out g3)
        clear h3 g3
        go_wp2_with fail
        go_ret2
        exact intP_no E.out H3.out G3.out
    · have RQ := Lib.hid (fun W => read_Q (s.extract 1 s.size) W (by unfold maxLen; omega))
      have q0 : ((s[0].toNat : Int) == 36) = true := by simp; omega
      go_enter Tryz.func213, Tryz.ntmps213
      go_wp2_with fail
      refine T.out.mono ?_
      rintro e w1 ⟨rfl, h1, g1⟩
      have H1 := Lib.hid h1; have G1 := Lib.hid g1
      have c2 := lrd_c2 h1
      clear h1 g1 T
      go_wp2_with fail
      refine (RQ.out _).mono ?_
      rintro e w2 ⟨x, ok, rfl, b2, hq⟩
      have H2 := Lib.hid (H1.out.below b2); have G2 := Lib.hid (grownBy_below G1.out b2)
      clear b2
      rcases hq with ⟨rfl, hq⟩ | ⟨rfl, hq⟩
      · by_cases hx0 : x < 0
        · have d0 : decide (x < 0) = true := by simpa using hx0
          have E := Lib.hid (T1.out x hq (by trivial) hx0)
          have TB := Lib.hid (l06Bad_yes w2 H2.out)
          clear hq
          go_wp2_with fail
          refine TB.out.mono ?_
          rintro e w3 ⟨rfl, h3, g3⟩
          have H3 := Lib.hid h3; have G3 := Lib.hid (grownBy_trans G2.out g3)
          clear h3 g3
          go_wp2_with fail
          go_ret2
          exact intP_no E.out H3.out G3.out
        · have d0 : decide (x < 0) = false := by simpa using hx0
          have E := Lib.hid (T2.out x hq (by simp; omega))
          clear hq
          go_wp2_with fail
          go_ret2
          exact intP_yes E.out H2.out G2.out
      · have E := Lib.hid (T3.out hq)
        have TB := Lib.hid (l06Bad_yes w2 H2.out)
        clear hq
        go_wp2_with fail
        refine TB.out.mono ?_
        rintro e w3 ⟨rfl, h3, g3⟩
        have H3 := Lib.hid h3; have G3 := Lib.hid (grownBy_trans G2.out g3)
        clear h3 g3
        go_wp2_with fail
        go_ret2
        exact intP_no E.out H3.out G3.out
    · have RQ := Lib.hid (fun W => read_Q s W (by unfold maxLen; omega))
      have q0 : ((s[0].toNat : Int) == 36) = false := by simp; omega
      go_enter Tryz.func213, Tryz.ntmps213
      go_wp2_with fail
      refine T.out.mono ?_
      rintro e w1 ⟨rfl, h1, g1⟩
      have H1 := Lib.hid h1; have G1 := Lib.hid g1
      have c2 := lrd_c2 h1
      clear h1 g1 T
      go_wp2_with fail
      refine (RQ.out _).mono ?_
      rintro e w2 ⟨x, ok, rfl, b2, hq⟩
      have H2 := Lib.hid (H1.out.below b2); have G2 := Lib.hid (grownBy_below G1.out b2)
      clear b2
      rcases hq with ⟨rfl, hq⟩ | ⟨rfl, hq⟩
      · have E := Lib.hid (T2.out x hq (by simp))
        clear hq
        go_wp2_with fail
        go_ret2
        exact intP_yes E.out H2.out G2.out
      · have E := Lib.hid (T3.out hq)
        have TB := Lib.hid (l06Bad_yes w2 H2.out)
        clear hq
        go_wp2_with fail
        refine TB.out.mono ?_
        rintro e w3 ⟨rfl, h3, g3⟩
        have H3 := Lib.hid h3; have G3 := Lib.hid (grownBy_trans G2.out g3)
        clear h3 g3
        go_wp2_with fail
        go_ret2
        exact intP_no E.out H3.out G3.out
end Go.Proofs.YtfpbhedophlnkaaGreatDoor
namespace Go.Proofs.YtfpbhedophlnkaaGreatDoor
open Go.RowKit
set_option linter.unusedSimpArgs false
set_option linter.unusedVariables false

theorem ba3 (a b c : ByteArray) : a ++ b ++ c = a ++ (b ++ c) := by apply ByteArray.ext; simp [ByteArray.data_append]
section
variable {name : ByteArray} {col op num : Int} {slot : Bool} {cols : List Int}
theorem nd0_eq (h : nodeB ⟨0, name, col, op, num, slot, cols⟩ = true) : ndO ⟨0, name, col, op, num, slot, cols⟩ = ⟨#[115, 99, 97, 110]⟩ ++ ⟨#[32]⟩ ++ name := by
  rw [ndO_yes h]; exact (bx (by simp [ndT, ndB, bl, joinB, ByteArray.data_append])).symm
theorem nd1n_eq (h : nodeB ⟨1, name, col, op, num, slot, cols⟩ = true) (ho : op = 3) : ndO ⟨1, name, col, op, num, slot, cols⟩ = ⟨#[102, 105, 108, 116, 101, 114]⟩ ++ ⟨#[32]⟩ ++ numT col ++ ⟨#[32]⟩ ++ opB op := by
  rw [ndO_yes h]; exact (bx (by simp [ndT, ndB, bl, joinB, ByteArray.data_append, ho])).symm
theorem nd1_eq (h : nodeB ⟨1, name, col, op, num, slot, cols⟩ = true) (ho : op ≠ 3) : ndO ⟨1, name, col, op, num, slot, cols⟩ = ⟨#[102, 105, 108, 116, 101, 114]⟩ ++ ⟨#[32]⟩ ++ numT col ++ ⟨#[32]⟩ ++ opB op ++ ⟨#[32]⟩ ++ litB slot num := by
  rw [ndO_yes h]; exact (bx (by simp [ndT, ndB, bl, joinB, ByteArray.data_append, ho])).symm
theorem nd3_eq (h : nodeB ⟨3, name, col, op, num, slot, cols⟩ = true) : ndO ⟨3, name, col, op, num, slot, cols⟩ = ⟨#[106, 111, 105, 110]⟩ ++ ⟨#[32]⟩ ++ numT col ++ ⟨#[32]⟩ ++ numT num := by
  rw [ndO_yes h]; exact (bx (by simp [ndT, ndB, bl, joinB, ByteArray.data_append])).symm
theorem nd4_eq (h : nodeB ⟨4, name, col, op, num, slot, cols⟩ = true) : ndO ⟨4, name, col, op, num, slot, cols⟩ = ⟨#[98, 111, 116, 104]⟩ := by
  rw [ndO_yes h]; exact (bx (by simp [ndT, ndB, bl, joinB, ByteArray.data_append])).symm
theorem nd5_eq (h : nodeB ⟨5, name, col, op, num, slot, cols⟩ = true) : ndO ⟨5, name, col, op, num, slot, cols⟩ = ⟨#[115, 111, 114, 116]⟩ ++ ⟨#[32]⟩ ++ numT col := by
  rw [ndO_yes h]; exact (bx (by simp [ndT, ndB, bl, joinB, ByteArray.data_append])).symm
theorem nd6_eq (h : nodeB ⟨6, name, col, op, num, slot, cols⟩ = true) : ndO ⟨6, name, col, op, num, slot, cols⟩ = ⟨#[108, 105, 109, 105, 116]⟩ ++ ⟨#[32]⟩ ++ litB slot num := by
  rw [ndO_yes h]; exact (bx (by simp [ndT, ndB, bl, joinB, ByteArray.data_append])).symm
theorem nd7_eq (h : nodeB ⟨7, name, col, op, num, slot, cols⟩ = true) : ndO ⟨7, name, col, op, num, slot, cols⟩ = ⟨#[111, 110, 99, 101]⟩ := by
  rw [ndO_yes h]; exact (bx (by simp [ndT, ndB, bl, joinB, ByteArray.data_append])).symm
end
/-- A keep's text, as far as j of its columns. -/
def kpT (cols : List Int) (j : Nat) : List UInt8 := joinB 32 (([⟨#[107, 101, 101, 112]⟩, numT (cols.length : Int)] ++ (cols.take j).map numT : List ByteArray).map bl)
theorem kpT_zero (cols : List Int) : (⟨#[107, 101, 101, 112]⟩ ++ ⟨#[32]⟩ ++ numT (cols.length : Int) : ByteArray).data.toList = kpT cols 0 := by
  simp [kpT, bl, joinB, ByteArray.data_append]
theorem kpT_step {cols : List Int} {j : Nat} {x : Int} (h : cols[j]? = some x) {X : ByteArray} (hX : X.data.toList = kpT cols j) : (X ++ ⟨#[32]⟩ ++ numT x).data.toList = kpT cols (j + 1) := by
  unfold kpT
  have e : (([⟨#[107, 101, 101, 112]⟩, numT (cols.length : Int)] ++ (cols.take (j + 1)).map numT : List ByteArray).map bl) = (([⟨#[107, 101, 101, 112]⟩, numT (cols.length : Int)] ++ (cols.take j).map numT : List ByteArray).map bl) ++ [bl (numT x)] := by
    rw [List.take_add_one, h]; simp
  rw [e, joinB_snoc, if_neg (by simp)]
  rw [ByteArray.data_append, ByteArray.data_append, Array.toList_append, Array.toList_append, hX]
  simp [kpT, bl]
theorem kpT_all {name : ByteArray} {col op num : Int} {slot : Bool} {cols : List Int} (h : nodeB ⟨2, name, col, op, num, slot, cols⟩ = true) {X : ByteArray} (hX : X.data.toList = kpT cols cols.length) : X = ndO ⟨2, name, col, op, num, slot, cols⟩ := by
  rw [ndO_yes h]
  refine bx ?_
  rw [hX]
  simp [kpT, ndT, ndB]
theorem kpT_len {cols : List Int} (h : ∀ x ∈ cols, 0 ≤ x ∧ x ≤ 63) (hl : cols.length ≤ 6) (j : Nat) : (kpT cols j).length ≤ 176 := by
  have h1 := joinB_len 32 21 (([⟨#[107, 101, 101, 112]⟩, numT (cols.length : Int)] ++ (cols.take j).map numT : List ByteArray).map bl) (fun x hx => by
    obtain ⟨y, hy, rfl⟩ := List.mem_map.1 hx
    rw [bl_len]
    simp only [List.mem_append, List.mem_cons, List.not_mem_nil, or_false, List.mem_map] at hy
    rcases hy with (rfl | rfl) | ⟨z, hz, rfl⟩
    · decide
    · have := numT_size (x := (cols.length : Int)) (by omega) (by omega); omega
    · have := h z (List.mem_of_mem_take hz)
      have := numT_size (x := z) (by omega) (by omega); omega)
  have h2 : (([⟨#[107, 101, 101, 112]⟩, numT (cols.length : Int)] ++ (cols.take j).map numT : List ByteArray).map bl).length ≤ 8 := by simp; omega
  unfold kpT
  omega
end Go.Proofs.YtfpbhedophlnkaaGreatDoor
namespace Go.Proofs.YtfpbhedophlnkaaGreatDoor
open Go.RowKit
set_option linter.unusedSimpArgs false
set_option linter.unusedVariables false

theorem Rd.get {w : World} {k : IntKind} {ao : Option Addr} {l : List Int} {i : Nat} (h : Rd w k ao l) (hi : i < l.length) :
    ∃ b off z, ao = some ⟨b, off, none⟩ ∧ l[i]? = some z ∧ w.cell? ⟨b, off + i, none⟩ = some (.int k z) := by
  rcases h with rfl | ⟨b, off, rfl, hc⟩
  · simp at hi
  · obtain ⟨z, _, h1, h2, _⟩ := Rd.at_ hc hi
    exact ⟨b, off, z, rfl, h1, h2⟩
end Go.Proofs.YtfpbhedophlnkaaGreatDoor
