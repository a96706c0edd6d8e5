/-
  The program's reader of words in a block of its own: contracts of next, last, name; where a word cannot stand there it panics with its place. For every list of words. The program's reader of words: contracts of strings.CutPrefix at one byte, of number, literal and cols. For every list of words that are none of them empty. The program's reader of words: contract of cols. For every list of words that are none of them empty. The program's reader of words: contract of filter. For every list of words that are none of them empty. The program's reader of words: contract of node. For every list of words that are none of them empty.
-/
import Derived.Test.YtfpbhedophlnkaaGreatDoorPrsP
import Derived.Test.YtfpbhedophlnkaaGreatDoorStrs
import Derived.Test.YtfpbhedophlnkaaGreatDoorGrB
import Derived.Test.YtfpbhedophlnkaaGreatDoorWord
import Derived.OneCell
import Derived.BigQuiet
import Derived.Deep.QuietTactic
import Derived.WalkLawsBesides
import Derived.Test.YtfpbhedophlnkaaGreatDoorINumN
import Derived.Test.YtfpbhedophlnkaaGreatDoorIntS
import Derived.Deep.Onto
import Derived.Test.YtfpbhedophlnkaaGreatDoorHN
namespace Go.Proofs.YtfpbhedophlnkaaGreatDoor
open Go.RowKit
set_option linter.unusedSimpArgs false
set_option linter.unusedVariables false

/-- The reader in block R over the words ws, at place p. -/
def Prd (w : World) (R : Nat) (ao : Option Addr) (c : Nat) (ws : List ByteArray) (p : Nat) : Prop :=
  w.heap[R]? = some (.cells #[.slice ao ws.length c, .int .i64 p] 149 (0, 0)) ∧ RdS w ao ws ∧ p ≤ ws.length ∧ (∀ a, ao = some a → ws ≠ [] → a.block ≠ R) ∧ ws.length ≤ 2000
/-- The call returned, and the reader stands at p; nothing else that was there has turned. -/
def TookI6 (v : Value) (R : Nat) (ao : Option Addr) (c : Nat) (ws : List ByteArray) (p : Nat) (w : World) (e : Ending) (w' : World) : Prop :=
  e = .returned v ∧ Prd w' R ao c ws p ∧ w.grownBy w' (some R)
/-- The call panicked with a place; nothing but the reader has turned. -/
def Pnk (q : Nat) (R : Nat) (w : World) (e : Ending) (w' : World) : Prop :=
  e = .panicked [{ v := .iface 146 (.int .i64 q), recovered := false }] ∧ w.grownBy w' (some R)
section
variable {w w1 w' : World} {R c p q : Nat} {ao : Option Addr} {ws : List ByteArray}
theorem rdS_farI (h : RdS w ao ws) (hne : ∀ a, ao = some a → ws ≠ [] → a.block ≠ R) (o : Nat) (v : Value) : RdS (w.setCell ⟨R, o, none⟩ v) ao ws := by
  rcases h with h | ⟨b, off, rfl, hc⟩
  · exact .inl h
  · by_cases hl : ws = []
    · exact .inl hl
    · have hb := hne _ rfl hl
      exact .inr ⟨b, off, rfl, fun i hi => by rw [World.cell?_setCell_other _ _ _ _ (by intro e; simp at e; exact hb e.1.symm)]; exact hc i hi⟩
theorem Prd.lt (h : Prd w R ao c ws p) : R < w.heap.size := (Array.getElem?_eq_some_iff.1 h.1).1
theorem Prd.below (h : Prd w R ao c ws p) (hb : Below w.heap.size w w') : Prd w' R ao c ws p :=
  ⟨(hb.block R h.lt).trans h.1, h.2.1.below hb, h.2.2.1, h.2.2.2.1, h.2.2.2.2⟩
theorem prd_set1 {z : Int} (h : Prd w R ao c ws p) (hz : z = q) (hq : q ≤ ws.length) : Prd (w.setCell ⟨R, 1, none⟩ (.int .i64 z)) R ao c ws q :=
  ⟨by rw [hz]; rw [heap_setCell_same w R 1 _ _ _ h.1]; rfl, rdS_farI h.2.1 h.2.2.2.1 1 _, hq, h.2.2.2.1, h.2.2.2.2⟩
theorem prd_grown (h : w.grownBy w1 (some R)) (o : Nat) (v : Value) : w.grownBy (w1.setCell ⟨R, o, none⟩ v) (some R) :=
  grownBy_trans h ⟨rfl, rfl, rfl, by simp [World.setCell], fun i _ hi => heap_setCell_other w1 ⟨R, o, none⟩ i _ (fun e => hi (by simp [e]))⟩
theorem prd_c1 (h : Prd w R ao c ws p) : w.cell? ⟨R, 1, none⟩ = some (.int .i64 p) := cell_of_row w R 1 _ _ _ h.1
end
theorem w64i {p : Nat} (h : p ≤ 2000) : RowKit.wrap64 ((p : Int) + 1) = ((p + 1 : Nat) : Int) := by
  unfold RowKit.wrap64; push_cast; omega

set_option maxRecDepth 100000 in
theorem next_yes {R c p : Nat} {ao : Option Addr} {ws : List ByteArray} {x : ByteArray} (w : World) (h : Prd w R ao c ws p) (hx : ws[p]? = some x) :
    Calls Tryz.prog 251 #[.pointer (some ⟨R, 0, none⟩)] w (TookI6 (.string x) R ao c ws (p + 1) w) := by
  have HL := Lib.hid h
  have hlt : p < ws.length := (List.getElem?_eq_some_iff.1 hx).1
  obtain ⟨hh, hr, hp, hne, h2⟩ := h
  have h2k : p ≤ 2000 := by omega
  have c0 : w.cell? ⟨R, 0, none⟩ = some (.slice ao ws.length c) := cell_of_row w R 0 _ _ _ hh
  have c1 : w.cell? ⟨R, 1, none⟩ = some (.int .i64 p) := cell_of_row w R 1 _ _ _ hh
  have f1 : w.frozen? ⟨R, 1, none⟩ = false := by simp [World.frozen?, hh]
  obtain ⟨b, off, rfl, hc⟩ : ∃ b off, ao = some ⟨b, off, none⟩ ∧ ∀ i, i < ws.length → w.cell? ⟨b, off + i, none⟩ = some (.string (ws.getD i ByteArray.empty)) := by
    rcases hr with rfl | h
    · simp at hlt
    · exact h
  have hwne : ws ≠ [] := by intro e; rw [e] at hlt; simp at hlt
  have hbR := hne _ rfl hwne
  simp only at hbR
  have hbR' : ¬ R = b := fun e => hbR e.symm
  have hcj := hc p hlt
  rw [List.getD_eq_getElem?_getD, hx, Option.getD_some] at hcj
  have d1 : ((p : Int) == (ws.length : Int)) = false := by simp; omega
  have i1 : (p : Int) < (ws.length : Int) := by omega
  have i0 : (0 : Int) ≤ (p : Int) := by omega
  clear hh hc hp hne h2 hx hwne
  go_enter Tryz.func251, Tryz.ntmps251
  go_wp2_with fail
  go_quiet (fail)
  go_wp2_with fail
  go_quiet (fail)
  go_wp2_with fail
  go_ret
  exact ⟨rfl, (prd_set1 (HL.out.below (below_drewN (Below.refl _ _) _)) (by first | exact w64i h2k | (push_cast; rfl)) hlt).below (below_drewN (Below.refl _ _) _), grownBy_below (prd_grown (grownBy_below (World.grownBy.refl w (some R)) (below_drewN (Below.refl _ _) _)) 1 _) (below_drewN (Below.refl _ _) _)⟩
set_option maxRecDepth 100000 in
theorem next_end {R c p : Nat} {ao : Option Addr} {ws : List ByteArray} (w : World) (h : Prd w R ao c ws p) (hx : ws[p]? = none) :
    Calls Tryz.prog 251 #[.pointer (some ⟨R, 0, none⟩)] w (Pnk p R w) := by
  have HL := Lib.hid h
  have hge : ws.length ≤ p := by
    rcases Nat.lt_or_ge p ws.length with h1 | h1
    · rw [List.getElem?_eq_getElem h1] at hx; cases hx
    · exact h1
  obtain ⟨hh, hr, hp, hne, h2⟩ := h
  have c0 : w.cell? ⟨R, 0, none⟩ = some (.slice ao ws.length c) := cell_of_row w R 0 _ _ _ hh
  have c1 : w.cell? ⟨R, 1, none⟩ = some (.int .i64 p) := cell_of_row w R 1 _ _ _ hh
  have d1 : ((p : Int) == (ws.length : Int)) = true := by simp; omega
  clear hh hr hp hne h2 hx
  go_enter Tryz.func251, Tryz.ntmps251
  go_wp2_with fail
  go_quiet (fail)
  go_wp2_with fail
  exact ⟨rfl, rfl, grownBy_below (World.grownBy.refl w (some R)) (below_drewN (Below.refl _ _) _)⟩
theorem last_any {R c p : Nat} {ao : Option Addr} {ws : List ByteArray} (w : World) (h : Prd w R ao c ws (p + 1)) :
    Calls Tryz.prog 257 #[.pointer (some ⟨R, 0, none⟩)] w fun e w' => e = .returned (.int .i64 p) ∧ w = w' := by
  have c1 := prd_c1 h
  have h2k : p ≤ 2000 := by have := h.2.2.1; have := h.2.2.2.2; omega
  clear h
  go_enter Tryz.func257, Tryz.ntmps257
  go_wp2_with fail
  go_ret
  exact ⟨by first | rfl | (congr 2; omega) | simp, rfl⟩
def nameW (ws : List ByteArray) (p : Nat) : Option ByteArray := match ws[p]? with | none => none | some s => if wordB s.data.toList = true then some s else none
/-- A word that is a name. -/
def NameQ (r : Option ByteArray) (R : Nat) (ao : Option Addr) (c : Nat) (ws : List ByteArray) (p : Nat) (w : World) (e : Ending) (w' : World) : Prop :=
  match r with
  | none => Pnk p R w e w'
  | some x => TookI6 (.string x) R ao c ws (p + 1) w e w'
set_option maxRecDepth 100000 in
theorem name_any {R c p : Nat} {ao : Option Addr} {ws : List ByteArray} (w : World) (hw : ∀ s ∈ ws, s.size ≤ 2000) (h : Prd w R ao c ws p) :
    Calls Tryz.prog 252 #[.pointer (some ⟨R, 0, none⟩)] w (NameQ (nameW ws p) R ao c ws p w) := by
  cases hx : ws[p]? with
  | none =>
    have T := Lib.hid (next_end w h hx)
    rw [show nameW ws p = none by unfold nameW; rw [hx]]
    clear h hx hw
    go_enter Tryz.func252, Tryz.ntmps252
    go_wp2_with fail
    refine T.out.mono ?_
    rintro e w1 ⟨rfl, g1⟩
    go_wp2_with fail
    exact ⟨rfl, rfl, g1⟩
  | some s =>
    have T := Lib.hid (next_yes w h hx)
    have WK := Lib.hid (fun W => implWordOk_any s W (by have := hw s (List.mem_of_getElem? hx); unfold maxLen; omega))
    cases hb : wordB s.data.toList with
    | true =>
      rw [hb] at WK
      rw [show nameW ws p = some s by unfold nameW; rw [hx]; simp [hb]]
      clear h hx hw hb
      go_enter Tryz.func252, Tryz.ntmps252
      go_wp2_with fail
      refine T.out.mono ?_
      rintro e w1 ⟨rfl, h1, g1⟩
      have H1 := Lib.hid h1; have G1 := Lib.hid g1
      clear h1 g1
      go_wp2_with fail
      refine (WK.out _).mono ?_
      rintro e w' ⟨rfl, rfl⟩
      go_wp2_with fail
      go_ret
      exact ⟨rfl, H1.out, G1.out⟩
    | false =>
      rw [hb] at WK
      rw [show nameW ws p = none by unfold nameW; rw [hx]; simp [hb]]
      clear h hx hw hb
      go_enter Tryz.func252, Tryz.ntmps252
      go_wp2_with fail
      refine T.out.mono ?_
      rintro e w1 ⟨rfl, h1, g1⟩
      have LA := Lib.hid (last_any w1 h1)
      have G1 := Lib.hid g1
      clear h1 g1
      go_wp2_with fail
      refine (WK.out _).mono ?_
      rintro e w' ⟨rfl, rfl⟩
      go_wp2_with fail
      refine LA.out.mono ?_
      rintro e w' ⟨rfl, rfl⟩
      go_wp2_with fail
      exact ⟨rfl, rfl, G1.out⟩
end Go.Proofs.YtfpbhedophlnkaaGreatDoor
namespace Go.Proofs.YtfpbhedophlnkaaGreatDoor
open Go.RowKit
set_option linter.unusedSimpArgs false
set_option linter.unusedVariables false

theorem head_ofI {s : ByteArray} (h : 0 < s.size) : s.data.toList.head? = some s[0] := by
  rw [List.head?_eq_getElem?, Array.getElem?_toList, Array.getElem?_eq_getElem (show 0 < s.data.size from h)]; rfl
theorem ext_one {s : ByteArray} (h : 0 < s.size) : s.extract 0 1 = ⟨#[s[0]]⟩ := by
  apply ByteArray.ext
  rw [ByteArray.data_extract]
  apply Array.toList_inj.1
  have h1 := head_ofI h
  cases hl : s.data.toList with
  | nil => rw [hl] at h1; simp at h1
  | cons a r => rw [hl] at h1; simp at h1; simp [Array.toList_extract, List.extract_eq_take_drop, hl, h1]
theorem cutM_yes {s : ByteArray} (h : 0 < s.size) (hc : s[0].toNat = 36) : cutM true s = (s.extract 1 s.size, true) := by
  unfold cutM
  rw [if_pos ⟨rfl, by rw [head_ofI h]; exact congrArg some (UInt8.toNat_inj.1 hc)⟩]
theorem cutM_no {s : ByteArray} (h : 0 < s.size) (hc : ¬ s[0].toNat = 36) : cutM true s = (s, false) := by
  unfold cutM
  rw [if_neg]
  rintro ⟨_, h2⟩
  rw [head_ofI h] at h2
  injection h2 with h2
  exact hc (by rw [h2]; rfl)
theorem has_any (s : ByteArray) (w : World) (h : 0 < s.size) : Calls Tryz.prog 293 #[.string s, .string ⟨#[36]⟩] w fun e w' => e = .returned (.bool (decide (s[0].toNat = 36))) ∧ w = w' := by
  have i0 : (1 : Int) ≤ (s.size : Int) := by omega
  have e1 := ext_one h
  by_cases hc : s[0].toNat = 36
  · have E := Lib.hid (show decide (s[0].toNat = 36) = true by simp [hc])
    have e2 : s.extract 0 1 = ⟨#[36]⟩ := by rw [e1, show s[0] = 36 from UInt8.toNat_inj.1 hc]
    have q := str_same (s.extract 0 1) ⟨#[36]⟩
    have q2 : decide (s.extract 0 1 = ⟨#[36]⟩) = true := by simp [e2]
    rw [q2, show (⟨#[36]⟩ : ByteArray).toList = [36] by rw [ByteArray.toList_eq]] at q
    clear e1 e2 q2 hc
    go_enter Tryz.func293, Tryz.ntmps293
    go_wp2_with fail
    go_ret
    exact ⟨by rw [E.out]; rfl, rfl⟩
  · have E := Lib.hid (show decide (s[0].toNat = 36) = false by simp [hc])
    have e2 : ¬ s.extract 0 1 = ⟨#[36]⟩ := by
      rw [e1]; intro e
      have := congrArg (fun b : ByteArray => b.data.toList) e
      simp at this
      exact hc (by rw [this]; rfl)
    have q := str_same (s.extract 0 1) ⟨#[36]⟩
    have q2 : decide (s.extract 0 1 = ⟨#[36]⟩) = false := by simp [e2]
    rw [q2, show (⟨#[36]⟩ : ByteArray).toList = [36] by rw [ByteArray.toList_eq]] at q
    clear e1 e2 q2 hc
    go_enter Tryz.func293, Tryz.ntmps293
    go_wp2_with fail
    go_ret
    exact ⟨by rw [E.out]; rfl, rfl⟩
theorem cutPre_any (s : ByteArray) (w : World) (h : 0 < s.size) : Calls Tryz.prog 294 #[.string s, .string ⟨#[36]⟩] w fun e w' => e = .returned (.tuple #[.string (cutM true s).1, .bool (cutM true s).2]) ∧ w = w' := by
  have HA := Lib.hid (fun W => has_any s W h)
  have i0 : (1 : Int) ≤ (s.size : Int) := by omega
  by_cases hc : s[0].toNat = 36
  · rw [cutM_yes h hc]
    rw [show decide (s[0].toNat = 36) = true by simp [hc]] at HA
    have I : Hid (∀ W, Calls Tryz.prog 321 #[.string s, .string ⟨#[36]⟩] W fun e w' => e = .returned (.tuple #[.string (s.extract 1 s.size), .bool true]) ∧ W = w') := fun W => by
      clear hc
      go_enter Tryz.func321, Tryz.ntmps321
      go_wp2_with fail
      refine (HA.out _).mono ?_
      rintro e w' ⟨rfl, rfl⟩
      go_wp2_with fail
      go_ret2
      exact ⟨rfl, rfl⟩
    clear hc
    go_enter Tryz.func294, Tryz.ntmps294
    go_wp2_with fail
    refine (I.out _).mono ?_
    rintro e w' ⟨rfl, rfl⟩
    go_wp2_with fail
    go_ret2
    exact ⟨rfl, rfl⟩
  · rw [cutM_no h hc]
    rw [show decide (s[0].toNat = 36) = false by simp [hc]] at HA
    have I : Hid (∀ W, Calls Tryz.prog 321 #[.string s, .string ⟨#[36]⟩] W fun e w' => e = .returned (.tuple #[.string s, .bool false]) ∧ W = w') := fun W => by
      clear hc
      go_enter Tryz.func321, Tryz.ntmps321
      go_wp2_with fail
      refine (HA.out _).mono ?_
      rintro e w' ⟨rfl, rfl⟩
      go_wp2_with fail
      go_ret2
      exact ⟨rfl, rfl⟩
    clear hc
    go_enter Tryz.func294, Tryz.ntmps294
    go_wp2_with fail
    refine (I.out _).mono ?_
    rintro e w' ⟨rfl, rfl⟩
    go_wp2_with fail
    go_ret2
    exact ⟨rfl, rfl⟩
/-- A number out of a text, or none. -/
def NumQ (s : ByteArray) (w : World) (e : Ending) (w' : World) : Prop :=
  ∃ (x : Int) (ok : Bool), e = .returned (.tuple #[.int .i64 x, .bool ok]) ∧ Below w.heap.size w w' ∧ ((ok = true ∧ readN s = some x) ∨ (ok = false ∧ readN s = none))
theorem numQ_any (s : ByteArray) (w : World) (hs : s.size ≤ 1048576) (hg : GlobN w) : Calls Tryz.prog 87 #[.string s] w (NumQ s w) :=
  (numberIn_N s w hs hg).mono fun e w' ⟨hb, h⟩ => by
    rcases h with ⟨x, he, hx, h1, h2⟩ | ⟨he, h⟩
    · exact ⟨x, true, he, hb, .inl ⟨rfl, readN_yes (fun _ _ => numT_inj) hx h1 h2⟩⟩
    · exact ⟨0, false, he, hb, .inr ⟨rfl, readN_no h⟩⟩
def WdsI (ws : List ByteArray) : Prop := ∀ s ∈ ws, 0 < s.size ∧ s.size ≤ 2000
def NumI (r : Option (Int × Bool)) (R : Nat) (ao : Option Addr) (c : Nat) (ws : List ByteArray) (p : Nat) (w : World) (e : Ending) (w' : World) : Prop :=
  match r with
  | none => Pnk p R w e w'
  | some x => TookI6 (.int .i64 x.1) R ao c ws (p + 1) w e w'
def LitI (r : Option (Int × Bool)) (R : Nat) (ao : Option Addr) (c : Nat) (ws : List ByteArray) (p : Nat) (w : World) (e : Ending) (w' : World) : Prop :=
  match r with
  | none => Pnk p R w e w'
  | some x => TookI6 (.tuple #[.int .i64 x.1, .bool x.2]) R ao c ws (p + 1) w e w'
theorem intQ_endI {slot : Bool} {ws : List ByteArray} {p : Nat} (h : ws[p]? = none) : intQ slot ws p = none := by unfold intQ; rw [h]
theorem cutM_false (s : ByteArray) : cutM false s = (s, false) := by unfold cutM; simp
theorem intQ_tail {slot : Bool} {ws : List ByteArray} {p : Nat} {s d : ByteArray} {m : Bool} (hx : ws[p]? = some s) (hc : cutM slot s = (d, m)) : (∀ x, readN d = some x → (m = true ∧ x < 0) → intQ slot ws p = none) ∧ (∀ x, readN d = some x → ¬ (m = true ∧ x < 0) → intQ slot ws p = some (x, m)) ∧ (readN d = none → intQ slot ws p = none) := by
  have e : intQ slot ws p = litQ slot s := by unfold intQ; rw [hx]
  rw [e]
  unfold litQ
  rw [hc]
  refine ⟨fun x hr h => ?_, fun x hr h => ?_, fun hr => ?_⟩
  · simp only [hr]; rw [if_pos h]
  · simp only [hr]; rw [if_neg h]
  · simp only [hr]
/-- The library's variables stay where only the reader and new blocks turn. -/
def GKeep (R : Nat) (w : World) : Prop := ∀ w', w.grownBy w' (some R) → GlobN w'
theorem GKeep.step {R : Nat} {w w1 : World} (h : GKeep R w) (hg : w.grownBy w1 (some R)) : GKeep R w1 := fun w' hg' => h w' (grownBy_trans hg hg')
theorem GKeep.here {R : Nat} {w : World} (h : GKeep R w) : GlobN w := h w (World.grownBy.refl w (some R))

set_option maxRecDepth 100000 in
theorem number_any {R c p : Nat} {ao : Option Addr} {ws : List ByteArray} (w : World) (hw : WdsI ws) (hg : GKeep R w) (h : Prd w R ao c ws p) :
    Calls Tryz.prog 255 #[.pointer (some ⟨R, 0, none⟩)] w (NumI (intQ false ws p) R ao c ws p w) := by
  have G := Lib.hid hg
  obtain ⟨rr, hrr⟩ : ∃ rr, rr = intQ false ws p := ⟨_, rfl⟩
  cases hx : ws[p]? with
  | none =>
    have T := Lib.hid (next_end w h hx)
    rw [intQ_endI hx]
    clear h hx hw hg hrr
    go_enter Tryz.func255, Tryz.ntmps255
    go_wp2_with fail
    refine T.out.mono ?_
    rintro e w1 ⟨rfl, g1⟩
    go_wp2_with fail
    exact ⟨rfl, rfl, g1⟩
  | some s =>
    have T := Lib.hid (next_yes w h hx)
    obtain ⟨_, h2k⟩ := hw s (List.mem_of_getElem? hx)
    obtain ⟨_, t2, t3⟩ := intQ_tail hx (cutM_false s)
    rw [← hrr] at t2 t3 ⊢
    have T2 := Lib.hid t2; have T3 := Lib.hid t3
    have NQ := Lib.hid (fun W g => numQ_any s W (by omega) g)
    clear h hx hw hg hrr t2 t3
    go_enter Tryz.func255, Tryz.ntmps255
    go_wp2_with fail
    refine T.out.mono ?_
    rintro e w1 ⟨rfl, h1, g1⟩
    have H1 := Lib.hid h1; have G1 := Lib.hid g1
    clear h1 g1
    go_wp2_with fail
    refine (NQ.out _ (G.out _ G1.out)).mono ?_
    rintro e w2 ⟨x, ok, rfl, b2, hq⟩
    have H2 := Lib.hid (H1.out.below b2); have G2 := Lib.hid (grownBy_below G1.out b2)
    clear b2
    rcases hq with ⟨rfl, hq⟩ | ⟨rfl, hq⟩
    · have E := Lib.hid (T2.out x hq (by simp))
      clear hq
      go_wp2_with fail
      go_ret
      rw [E.out]
      exact ⟨rfl, H2.out, G2.out⟩
    · have E := Lib.hid (T3.out hq)
      have LA := Lib.hid (last_any w2 H2.out)
      clear hq
      go_wp2_with fail
      refine LA.out.mono ?_
      rintro e w' ⟨rfl, rfl⟩
      go_wp2_with fail
      rw [E.out]
      exact ⟨rfl, rfl, G2.out⟩
set_option maxRecDepth 100000 in
theorem literal_any {R c p : Nat} {ao : Option Addr} {ws : List ByteArray} (w : World) (hw : WdsI ws) (hg : GKeep R w) (h : Prd w R ao c ws p) :
    Calls Tryz.prog 256 #[.pointer (some ⟨R, 0, none⟩)] w (LitI (intQ true ws p) R ao c ws p w) := by
  have G := Lib.hid hg
  obtain ⟨rr, hrr⟩ : ∃ rr, rr = intQ true ws p := ⟨_, rfl⟩
  cases hx : ws[p]? with
  | none =>
    have T := Lib.hid (next_end w h hx)
    rw [intQ_endI hx]
    clear h hx hw hg hrr
    go_enter Tryz.func256, Tryz.ntmps256
    go_wp2_with fail
    refine T.out.mono ?_
    rintro e w1 ⟨rfl, g1⟩
    go_wp2_with fail
    exact ⟨rfl, rfl, g1⟩
  | some s =>
    have T := Lib.hid (next_yes w h hx)
    obtain ⟨hpos, h2k⟩ := hw s (List.mem_of_getElem? hx)
    have CP := Lib.hid (fun W => cutPre_any s W hpos)
    have hds : (cutM true s).1.size ≤ 2000 := by
      unfold cutM; split
      · simp only; rw [ByteArray.size_extract]; omega
      · exact h2k
    obtain ⟨⟨d, m⟩, hdm⟩ : ∃ x, x = cutM true s := ⟨_, rfl⟩
    rw [← hdm] at CP hds
    obtain ⟨t1, t2, t3⟩ := intQ_tail hx hdm.symm
    rw [← hrr] at t1 t2 t3 ⊢
    have T1 := Lib.hid t1; have T2 := Lib.hid t2; have T3 := Lib.hid t3
    simp only at CP hds
    have NQ := Lib.hid (fun W g => numQ_any d W (by omega) g)
    clear h hx hw hg hrr t1 t2 t3 hdm
    go_enter Tryz.func256, Tryz.ntmps256
    go_wp2_with fail
    refine T.out.mono ?_
    rintro e w1 ⟨rfl, h1, g1⟩
    have H1 := Lib.hid h1; have G1 := Lib.hid g1
    clear h1 g1
    go_wp2_with fail
    refine (CP.out _).mono ?_
    rintro e w' ⟨rfl, rfl⟩
    go_wp2_with fail
    refine (NQ.out _ (G.out _ G1.out)).mono ?_
    rintro e w2 ⟨x, ok, rfl, b2, hq⟩
    have H2 := Lib.hid (H1.out.below b2); have G2 := Lib.hid (grownBy_below G1.out b2)
    have LA := Lib.hid (last_any w2 H2.out)
    clear b2
    rcases hq with ⟨rfl, hq⟩ | ⟨rfl, hq⟩
    · by_cases hm : m = true ∧ x < 0
      · have E := Lib.hid (T1.out x hq hm)
        obtain ⟨rfl, hx0⟩ := hm
        have d0 : decide (x < 0) = true := by simpa using hx0
        clear hq
        go_wp2_with fail
        refine LA.out.mono ?_
        rintro e w' ⟨rfl, rfl⟩
        go_wp2_with fail
        rw [E.out]
        exact ⟨rfl, rfl, G2.out⟩
      · have E := Lib.hid (T2.out x hq hm)
        clear hq
        cases m with
        | false =>
          go_wp2_with fail
          go_ret2
          rw [E.out]
          exact ⟨rfl, H2.out, G2.out⟩
        | true =>
          have d0 : decide (x < 0) = false := by simp at hm; simpa using hm
          clear hm
          go_wp2_with fail
          go_ret2
          rw [E.out]
          exact ⟨rfl, H2.out, G2.out⟩
    · have E := Lib.hid (T3.out hq)
      clear hq
      cases m
      all_goals
        go_wp2_with fail
        refine LA.out.mono ?_
        rintro e w' ⟨rfl, rfl⟩
        go_wp2_with fail
        rw [E.out]
        exact ⟨rfl, rfl, G2.out⟩
end Go.Proofs.YtfpbhedophlnkaaGreatDoor
namespace Go.Proofs.YtfpbhedophlnkaaGreatDoor
open Go.RowKit
set_option linter.unusedSimpArgs false
set_option linter.unusedVariables false

theorem grown_belowI {a b c : World} {row : Option Nat} (h : a.grownBy b row) (k : Below a.heap.size b c) : a.grownBy c row :=
  ⟨k.os.trans h.os, k.tape.trans h.tape, k.output.trans h.output, Nat.le_trans h.size k.size, fun i hi hne => (k.block i hi).trans (h.block i hi hne)⟩
theorem Prd.words {w : World} {R c p : Nat} {ao : Option Addr} {ws : List ByteArray} (h : Prd w R ao c ws p) : ∀ a, ao = some a → ws ≠ [] → a.block < w.heap.size := by
  obtain ⟨hh, hr, _⟩ := h
  intro a ha hl
  rcases hr with rfl | ⟨b1, off, rfl, hc⟩
  · exact absurd rfl hl
  · cases ha
    have hpos : 0 < ws.length := Nat.pos_of_ne_zero (fun e => hl (List.eq_nil_of_length_eq_zero e))
    exact World.block_lt_of_cell? w ⟨b1, off + 0, none⟩ (hc 0 hpos)
theorem Prd.belowB {w w' : World} {B R c p : Nat} {ao : Option Addr} {ws : List ByteArray} (h : Prd w R ao c ws p) (hR : R < B) (hB : ∀ a, ao = some a → ws ≠ [] → a.block < B) (hb : Below B w w') : Prd w' R ao c ws p := by
  obtain ⟨hh, hr, hp, hne, h2⟩ := h
  refine ⟨(hb.block R hR).trans hh, ?_, hp, hne, h2⟩
  rcases hr with rfl | ⟨b1, off, rfl, hc⟩
  · exact .inl rfl
  · by_cases hl : ws = []
    · exact .inl hl
    · exact .inr ⟨b1, off, rfl, fun i hi => (hb.cell (p := ⟨b1, off + i, none⟩) (hB ⟨b1, off, none⟩ rfl hl)).trans (hc i hi)⟩
def ColsI (r : Nat ⊕ List Int) (R : Nat) (ao : Option Addr) (c : Nat) (ws : List ByteArray) (p : Nat) (w : World) (e : Ending) (w' : World) : Prop :=
  match r with
  | .inl q => Pnk q R w e w'
  | .inr l => ∃ a cc, e = .returned (.slice a l.length cc) ∧ Own w' w.heap.size 3 .i64 a cc l ∧ Prd w' R ao c ws (p + 1 + l.length) ∧ w.grownBy w' (some R)
/-- How many columns, and each of them. -/
noncomputable def keepQ (ws : List ByteArray) (p : Nat) : Nat ⊕ List Int :=
  match intQ false ws p with
  | none => .inl p
  | some m => if 1 ≤ m.1 ∧ m.1 ≤ 6 then colsQ ws (p + 1) m.1.toNat else .inl p
theorem set_rep (acc : List Int) (k : Nat) (x : Int) : (acc ++ List.replicate (k + 1) 0).set acc.length x = (acc ++ [x]) ++ List.replicate k 0 := by
  rw [List.set_append_right _ _ (Nat.le_refl _), Nat.sub_self, List.replicate_succ]
  simp
def ClRel (w : World) (R : Nat) (ao : Option Addr) (c : Nat) (ws : List ByteArray) (p cnt g : Nat) (wr : World) (i : Value) : Prop :=
  ∃ (j : Nat) (acc : List Int), i = .int .i64 j ∧ j ≤ cnt ∧ colsQ ws (p + 1) j = .inr acc ∧ wr.ownsRow w.heap.size 3 1 (.slice (some ⟨g, 0, none⟩) cnt cnt) cnt ((acc ++ List.replicate (cnt - j) 0).map (Value.int .i64)) ∧ Prd wr R ao c ws (p + 1 + j) ∧ w.grownBy wr (some R)

set_option maxRecDepth 100000 in
set_option maxHeartbeats 1600000 in
theorem cols_any {R c p : Nat} {ao : Option Addr} {ws : List ByteArray} (w : World) (hw : WdsI ws) (hg : GKeep R w) (h : Prd w R ao c ws p) :
    Calls Tryz.prog 254 #[.pointer (some ⟨R, 0, none⟩)] w (ColsI (keepQ ws p) R ao c ws p w) := by
  obtain ⟨i0, hi, hz0, hz1, hz2⟩ := info_parts Tryz.infoI64
  have G := Lib.hid hg
  have HR := h.lt
  have HWD := Lib.hid h.words
  have N1 := Lib.hid (number_any w hw hg h)
  have NN := Lib.hid (fun W q (g : GKeep R W) (h : Prd W R ao c ws q) => number_any W hw g h)
  have K : Hid (keepQ ws p = match intQ false ws p with | none => .inl p | some m => if 1 ≤ m.1 ∧ m.1 ≤ 6 then colsQ ws (p + 1) m.1.toNat else .inl p) := rfl
  obtain ⟨rr, hrr⟩ : ∃ rr, rr = keepQ ws p := ⟨_, rfl⟩
  rw [← hrr] at K ⊢
  obtain ⟨r1, hr1⟩ : ∃ r1, r1 = intQ false ws p := ⟨_, rfl⟩
  rw [← hr1] at K N1
  clear h hw hg hrr hr1
  cases r1 with
  | none =>
    have E : Hid (rr = .inl p) := K.out
    go_enter Tryz.func254, Tryz.ntmps254
    go_wp2_with fail
    refine N1.out.mono ?_
    rintro e w1 ⟨rfl, g1⟩
    go_wp2_with fail
    rw [E.out]
    exact ⟨rfl, rfl, g1⟩
  | some m =>
    obtain ⟨m, mm⟩ := m
    simp only at K
    by_cases hm : 1 ≤ m ∧ m ≤ 6
    · obtain ⟨cnt, rfl⟩ : ∃ cnt : Nat, m = cnt := ⟨m.toNat, by omega⟩
      have E : Hid (rr = colsQ ws (p + 1) cnt) := by show _ = _; rw [K.out, if_pos hm, Int.toNat_natCast]
      have hc6 : cnt ≤ 6 := by omega
      have d1 : decide ((cnt : Int) < 1) = false := by simp; omega
      have d2 : decide ((6 : Int) < (cnt : Int)) = false := by simp; omega
      clear hm K
      go_enter Tryz.func254, Tryz.ntmps254
      go_wp2_with fail
      refine N1.out.mono ?_
      rintro e w1 ⟨rfl, h1, g1⟩
      have H1 := Lib.hid h1; have G1 := Lib.hid g1
      clear h1 g1 N1
      go_wp2_with (at_make; refine wpList_make_full _ rfl (.tmp 17) (.tmp 17) 47 rfl w1.heap.size 3 i0 (.int .i64 0) 1 Tryz.underlying47 hi hz0 hz1 .i64 .i64 _ _ cnt rfl rfl rfl rfl (by rw [hz2]; omega) (by unfold maxLen; omega) (Nat.le_refl _) ?_; intro w2 hown hgrow)
      rw [made_ints] at hown
      have hz := G1.out.size
      have HO := Lib.hid (World.ownsRow.mono hown (show w.heap.size ≤ w1.heap.size from hz))
      have HB := Lib.hid (below_of_grown hgrow (Nat.le_refl _) (by intro g hg; cases hg))
      have H2 := Lib.hid (H1.out.below HB.out); have G2 := Lib.hid (grown_belowI G1.out (HB.out.mono hz))
      clear hgrow hi hz0 hz1 hz2 hown
      go_wp2_with fail
      go_loopw [21] (fun i wr => ClRel w R ao c ws p cnt w1.heap.size wr i) (fun i _ => cnt - (intOf i).toNat)
      case atStart => exact ⟨0, [], rfl, Nat.zero_le _, rfl, by simpa using HO.out, H2.out, G2.out⟩
      case round =>
        obtain ⟨j, acc, rfl, hj, hcq, ho, hp, hgr⟩ := hrel
        have CQ := Lib.hid hcq; have O := Lib.hid ho; have HP := Lib.hid hp; have GR := Lib.hid hgr
        have hal := (colsQ_len hcq).1
        have szr := hgr.size
        clear hcq ho hp hgr
        by_cases hlt : j < cnt
        · have i1 : (j : Int) < (cnt : Int) := by omega
          have N2 := Lib.hid (NN.out wr (p + 1 + j) (G.out.step GR.out) HP.out)
          obtain ⟨r2, hr2⟩ : ∃ r2, r2 = intQ false ws (p + 1 + j) := ⟨_, rfl⟩
          rw [← hr2] at N2
          have HR2 := Lib.hid hr2.symm
          clear hr2
          cases r2 with
          | none =>
            have E2 := Lib.hid (E.out.trans (colsQ_stays (colsQ_no CQ.out HR2.out) cnt (by omega)))
            go_wp2_with fail
            refine N2.out.mono ?_
            rintro e w3 ⟨rfl, g3⟩
            have G3 := Lib.hid (grownBy_trans GR.out g3)
            clear g3
            go_wp2_with fail
            rw [E2.out]
            exact ⟨rfl, rfl, G3.out⟩
          | some x =>
            obtain ⟨x, xm⟩ := x
            have CY := Lib.hid (colsQ_yes CQ.out HR2.out)
            go_wp2_with fail
            refine N2.out.mono ?_
            rintro e w3 ⟨rfl, h3, g3⟩
            simp only
            have O3 := O.out.kept g3 (.inr (by simp [Value.ownBlock]; omega))
            have hl3 : j < ((acc ++ List.replicate (cnt - j) (0 : Int)).map (Value.int IntKind.i64)).length := by simp; omega
            have hcell : ∃ y, w3.cell? ⟨w1.heap.size, j, none⟩ = some y := ⟨_, (O3.cellAt j (by omega)).trans (List.getElem?_eq_getElem hl3)⟩
            obtain ⟨y, hy⟩ := hcell
            have hf := O3.frozenAt j
            have ST := (O3.stored j (.int .i64 x)).1
            rw [map_set_int, show cnt - j = (cnt - (j + 1)) + 1 by omega, ← hal, set_rep, hal] at ST
            have HST := Lib.hid ST
            have BS := Lib.hid ((Below.refl w.heap.size w3).setCell (p := ⟨w1.heap.size, j, none⟩) hz (.int .i64 x))
            have H3 := Lib.hid (h3.belowB HR HWD.out BS.out)
            have G3 := Lib.hid (grown_belowI (grownBy_trans GR.out g3) BS.out)
            clear ST O3 h3 g3 hl3
            go_wp2_with fail
            go_roundw
            case rel => exact ⟨j + 1, acc ++ [x], by go_num, hlt, CY.out, HST.out, H3.out, G3.out⟩
            case measure => simp [intOf]; omega
        · obtain rfl : j = cnt := by omega
          have E2 := Lib.hid (E.out.trans CQ.out)
          have O' := O.out
          rw [Nat.sub_self, List.replicate_zero, List.append_nil] at O'
          have HO' := Lib.hid O'
          clear O'
          go_wp2_with fail
          go_ret
          rw [E2.out]
          exact ⟨_, _, by rw [hal]; rfl, by have := HO'.out; rw [← hal] at this ⊢; exact this, by rw [hal]; exact HP.out, GR.out⟩
    · have E : Hid (rr = .inl p) := by show _ = _; rw [K.out, if_neg hm]
      by_cases h0 : m < 1
      · have d1 : decide (m < 1) = true := by simpa using h0
        clear hm K
        go_enter Tryz.func254, Tryz.ntmps254
        go_wp2_with fail
        refine N1.out.mono ?_
        rintro e w1 ⟨rfl, h1, g1⟩
        have LA := Lib.hid (last_any w1 h1)
        have G1 := Lib.hid g1
        clear h1 g1 N1
        go_wp2_with fail
        refine LA.out.mono ?_
        rintro e w' ⟨rfl, rfl⟩
        go_wp2_with fail
        rw [E.out]
        exact ⟨rfl, rfl, G1.out⟩
      · have d1 : decide (m < 1) = false := by simpa using h0
        have d2 : decide (6 < m) = true := by simp; omega
        clear hm K
        go_enter Tryz.func254, Tryz.ntmps254
        go_wp2_with fail
        refine N1.out.mono ?_
        rintro e w1 ⟨rfl, h1, g1⟩
        have LA := Lib.hid (last_any w1 h1)
        have G1 := Lib.hid g1
        clear h1 g1 N1
        go_wp2_with fail
        refine LA.out.mono ?_
        rintro e w' ⟨rfl, rfl⟩
        go_wp2_with fail
        rw [E.out]
        exact ⟨rfl, rfl, G1.out⟩
end Go.Proofs.YtfpbhedophlnkaaGreatDoor
namespace Go.Proofs.YtfpbhedophlnkaaGreatDoor
open Go.RowKit
set_option linter.unusedSimpArgs false
set_option linter.unusedVariables false

def NodeI (r : Nat ⊕ (Nd × Nat)) (R : Nat) (ao : Option Addr) (c : Nat) (ws : List ByteArray) (w : World) (e : Ending) (w' : World) : Prop :=
  match r with
  | .inl q => Pnk q R w e w'
  | .inr x => ∃ a cc, e = .returned (.agg #[.int .i64 x.1.kind, .string x.1.name, .int .i64 x.1.col, .int .i64 x.1.op, .int .i64 x.1.num, .bool x.1.slot, .slice a x.1.cols.length cc]) ∧ Own w' w.heap.size 3 .i64 a cc x.1.cols ∧ Prd w' R ao c ws x.2 ∧ w.grownBy w' (some R)
theorem rest1 (ws : List ByteArray) (p : Nat) : restQ ws 1 p = (match intQ false ws p with
    | none => .inl p
    | some c => match ws[p + 1]? with
      | none => .inl (p + 1)
      | some o => if findB opsB o = -1 then .inl (p + 1)
        else if findB opsB o = 3 then .inr (⟨1, emptyB, c.1, 3, 0, false, []⟩, p + 2)
        else match intQ true ws (p + 2) with
          | none => .inl (p + 2)
          | some x => .inr (⟨1, emptyB, c.1, findB opsB o, x.1, x.2, []⟩, p + 3)) := by
  unfold restQ; simp only [Int.reduceEq, if_false, if_true]
  rfl
theorem opsB_ways (o : ByteArray) : (o = ⟨#[61]⟩ ∧ findB opsB o = 0) ∨ (o = ⟨#[60]⟩ ∧ findB opsB o = 1) ∨ (o = ⟨#[62]⟩ ∧ findB opsB o = 2) ∨ (o = ⟨#[110, 111, 110, 101]⟩ ∧ findB opsB o = 3) ∨ (findB opsB o = -1 ∧ (o.toList == [61]) = false ∧ (o.toList == [60]) = false ∧ (o.toList == [62]) = false ∧ (o.toList == [110, 111, 110, 101]) = false) := by
  have key : ∀ (l : List UInt8), (o.toList == l) = decide (o = ⟨l.toArray⟩) := fun l => by
    have h := str_same o ⟨l.toArray⟩
    rw [show (⟨l.toArray⟩ : ByteArray).toList = l by rw [ByteArray.toList_eq]] at h
    exact h
  by_cases h0 : o = ⟨#[61]⟩
  · left; subst h0; exact ⟨rfl, by decide⟩
  by_cases h1 : o = ⟨#[60]⟩
  · right; left; subst h1; exact ⟨rfl, by decide⟩
  by_cases h2 : o = ⟨#[62]⟩
  · right; right; left; subst h2; exact ⟨rfl, by decide⟩
  by_cases h3 : o = ⟨#[110, 111, 110, 101]⟩
  · right; right; right; left; subst h3; exact ⟨rfl, by decide⟩
  · right; right; right; right
    refine ⟨?_, by rw [key]; simpa using h0, by rw [key]; simpa using h1, by rw [key]; simpa using h2, by rw [key]; simpa using h3⟩
    simp [opsB, findB, Ne.symm h0, Ne.symm h1, Ne.symm h2, Ne.symm h3]
/-- The seven cells of a block. -/
theorem nd7 {w : World} {X : Nat} {T : TypeId} {v0 v1 v2 v3 v4 v5 v6 : Value} (h : w.heap[X]? = some (.cells #[v0, v1, v2, v3, v4, v5, v6] T (0, 0))) :
    (w.cell? ⟨X, 0, none⟩ = some v0 ∧ w.cell? ⟨X, 1, none⟩ = some v1 ∧ w.cell? ⟨X, 2, none⟩ = some v2 ∧ w.cell? ⟨X, 3, none⟩ = some v3 ∧ w.cell? ⟨X, 4, none⟩ = some v4 ∧ w.cell? ⟨X, 5, none⟩ = some v5 ∧ w.cell? ⟨X, 6, none⟩ = some v6) ∧ ∀ o, w.frozen? ⟨X, o, none⟩ = false :=
  ⟨⟨cell_of_row w X 0 _ _ _ h, cell_of_row w X 1 _ _ _ h, cell_of_row w X 2 _ _ _ h, cell_of_row w X 3 _ _ _ h, cell_of_row w X 4 _ _ _ h, cell_of_row w X 5 _ _ _ h, cell_of_row w X 6 _ _ _ h⟩, fun o => by simp [World.frozen?, h]⟩
theorem blk_keep {w w' : World} {R X : Nat} {o : Obj} (h : w.heap[X]? = some o) (hg : w.grownBy w' (some R)) (hne : X ≠ R) : w'.heap[X]? = some o := by
  rw [hg.block X (Array.getElem?_eq_some_iff.1 h).1 (by simp; exact hne)]; exact h

set_option maxRecDepth 100000 in
set_option maxHeartbeats 3200000 in
theorem filter_any {R c p : Nat} {ao : Option Addr} {ws : List ByteArray} (w : World) (hw : WdsI ws) (hg : GKeep R w) (h : Prd w R ao c ws p) :
    Calls Tryz.prog 253 #[.pointer (some ⟨R, 0, none⟩)] w (NodeI (restQ ws 1 p) R ao c ws w) := by
  have G := Lib.hid hg
  have HR := h.lt
  have HWD := Lib.hid h.words
  have BA := (Below.refl w.heap.size w).alloc (Nat.le_refl _) (.cells #[.int .i64 0, .string ⟨#[]⟩, .int .i64 0, .int .i64 0, .int .i64 0, .bool false, .slice none 0 0] 92)
  have GA : w.grownBy (w.alloc (.cells #[.int .i64 0, .string ⟨#[]⟩, .int .i64 0, .int .i64 0, .int .i64 0, .bool false, .slice none 0 0] 92)) (some R) := World.grownBy_alloc w _ _
  have HGA := Lib.hid GA
  have HZ := Lib.hid (heap_alloc_new w (.cells #[.int .i64 0, .string ⟨#[]⟩, .int .i64 0, .int .i64 0, .int .i64 0, .bool false, .slice none 0 0] 92))
  have N1 := Lib.hid (number_any _ hw (hg.step GA) (h.below BA))
  have NX := Lib.hid (fun W q x (h : Prd W R ao c ws q) (hx : ws[q]? = some x) => next_yes W h hx)
  have NE := Lib.hid (fun W q (h : Prd W R ao c ws q) (hx : ws[q]? = none) => next_end W h hx)
  have LI := Lib.hid (fun W q (g : GKeep R W) (h : Prd W R ao c ws q) => literal_any W hw g h)
  have K := Lib.hid (rest1 ws p)
  obtain ⟨rr, hrr⟩ : ∃ rr, rr = restQ ws 1 p := ⟨_, rfl⟩
  rw [← hrr] at K ⊢
  obtain ⟨r1, hr1⟩ : ∃ r1, r1 = intQ false ws p := ⟨_, rfl⟩
  rw [← hr1] at K N1
  clear h hw hg hrr hr1 GA BA
  cases r1 with
  | none =>
    have E : Hid (rr = .inl p) := K.out
    go_enter Tryz.func253, Tryz.ntmps253
    go_wp2_with fail
    refine N1.out.mono ?_
    rintro e w1 ⟨rfl, g1⟩
    have G1 := Lib.hid (grownBy_trans HGA.out g1)
    clear g1
    go_wp2_with fail
    rw [E.out]
    exact ⟨rfl, rfl, G1.out⟩
  | some m =>
    obtain ⟨m, mm⟩ := m
    simp only at K
    have PB : Hid (∀ (w1 : World), Prd w1 R ao c ws (p + 1) → (w.alloc (.cells #[.int .i64 0, .string ⟨#[]⟩, .int .i64 0, .int .i64 0, .int .i64 0, .bool false, .slice none 0 0] 92)).grownBy w1 (some R) →
        Prd (w1.alloc (.cells #[.int .i64 1, .string ⟨#[]⟩, .int .i64 m, .int .i64 0, .int .i64 0, .bool false, .slice none 0 0] 92)) R ao c ws (p + 1) ∧ w.grownBy (w1.alloc (.cells #[.int .i64 1, .string ⟨#[]⟩, .int .i64 m, .int .i64 0, .int .i64 0, .bool false, .slice none 0 0] 92)) (some R) ∧
        (w1.alloc (.cells #[.int .i64 1, .string ⟨#[]⟩, .int .i64 m, .int .i64 0, .int .i64 0, .bool false, .slice none 0 0] 92)).heap[w.heap.size]? = some (.cells #[.int .i64 0, .string ⟨#[]⟩, .int .i64 0, .int .i64 0, .int .i64 0, .bool false, .slice none 0 0] 92 (0, 0)) ∧
        (w1.alloc (.cells #[.int .i64 1, .string ⟨#[]⟩, .int .i64 m, .int .i64 0, .int .i64 0, .bool false, .slice none 0 0] 92)).heap[w1.heap.size]? = some (.cells #[.int .i64 1, .string ⟨#[]⟩, .int .i64 m, .int .i64 0, .int .i64 0, .bool false, .slice none 0 0] 92 (0, 0)) ∧ w.heap.size < w1.heap.size) := fun w1 h1 g1 => by
      have hz := g1.size
      simp at hz
      have bw := blk_keep HZ.out g1 (by omega)
      refine ⟨h1.below ((Below.refl _ w1).alloc (Nat.le_refl _) _), grownBy_trans (grownBy_trans HGA.out g1) (World.grownBy_alloc w1 _ _), ?_, heap_alloc_new w1 _, hz⟩
      exact ((World.grownBy_alloc w1 _ none).block _ (Array.getElem?_eq_some_iff.1 bw).1 (by simp)).trans bw
    cases hx : ws[p + 1]? with
    | none =>
      rw [hx] at K
      have E : Hid (rr = .inl (p + 1)) := K.out
      have HX := Lib.hid hx
      clear hx K
      go_enter Tryz.func253, Tryz.ntmps253
      go_wp2_with fail
      refine N1.out.mono ?_
      rintro e w1 ⟨rfl, h1, g1⟩
      obtain ⟨p1, p2, p3, p4, p5⟩ := PB.out w1 h1 g1
      have T := Lib.hid (NE.out _ _ p1 HX.out); have GB := Lib.hid p2
      clear h1 g1 p1 p2 p3 p4
      go_wp2_with fail
      refine T.out.mono ?_
      rintro e w2 ⟨rfl, g2⟩
      have G2 := Lib.hid (grownBy_trans GB.out g2)
      clear g2
      go_wp2_with fail
      rw [E.out]
      exact ⟨rfl, rfl, G2.out⟩
    | some o =>
      rw [hx] at K
      simp only at K
      have HX := Lib.hid hx
      clear hx
      rcases opsB_ways o with ⟨rfl, hf⟩ | ⟨rfl, hf⟩ | ⟨rfl, hf⟩ | ⟨rfl, hf⟩ | ⟨hf, q0, q1, q2, q3⟩
      rotate_left 3
      · rw [hf] at K
        have E : Hid (rr = .inr (⟨1, emptyB, m, 3, 0, false, []⟩, p + 2)) := K.out
        clear K hf
        go_enter Tryz.func253, Tryz.ntmps253
        go_wp2_with fail
        refine N1.out.mono ?_
        rintro e w1 ⟨rfl, h1, g1⟩
        obtain ⟨p1, p2, p3, p4, p5⟩ := PB.out w1 h1 g1
        have T := Lib.hid (NX.out _ _ _ p1 HX.out); have GB := Lib.hid p2; have C3 := Lib.hid p3; have C4 := Lib.hid p4
        clear h1 g1 p1 p2 p3 p4
        go_wp2_with fail
        refine T.out.mono ?_
        rintro e w2 ⟨rfl, h2, g2⟩
        have H2 := Lib.hid h2; have G2 := Lib.hid (grownBy_trans GB.out g2)
        obtain ⟨⟨b0, b1, b2, b3, b4, b5, b6⟩, bf⟩ := nd7 (blk_keep C3.out g2 (by omega))
        obtain ⟨⟨x0, x1, x2, x3, x4, x5, x6⟩, xf⟩ := nd7 (blk_keep C4.out g2 (by omega))
        have r0 : ¬ (w1.heap.size = w.heap.size) := by omega
        have r0' : ¬ (w.heap.size = w1.heap.size) := by omega
        clear h2 g2 T GB C3 C4
        go_wp2_with fail
        rw [E.out]
        refine bodyPost_ret (v := .agg #[.int .i64 1, .string ⟨#[]⟩, .int .i64 m, .int .i64 3, .int .i64 0, .bool false, .slice none 0 0]) (by simp [results, Tryz.results253, go_sem, b0, b1, b2, b3, b4, b5, b6]) rfl ⟨none, 0, rfl, Own.none_, H2.out.belowB HR HWD.out ?_, grown_belowI G2.out ?_⟩
        all_goals
          repeat (refine Below.setCell ?_ (by simp; try omega) _)
          exact Below.refl _ _
      · rw [hf] at K
        have E : Hid (rr = .inl (p + 1)) := K.out
        clear K hf
        go_enter Tryz.func253, Tryz.ntmps253
        go_wp2_with fail
        refine N1.out.mono ?_
        rintro e w1 ⟨rfl, h1, g1⟩
        obtain ⟨p1, p2, p3, p4, p5⟩ := PB.out w1 h1 g1
        have T := Lib.hid (NX.out _ _ _ p1 HX.out); have GB := Lib.hid p2
        clear h1 g1 p1 p2 p3 p4
        go_wp2_with fail
        refine T.out.mono ?_
        rintro e w2 ⟨rfl, h2, g2⟩
        have LA := Lib.hid (last_any w2 h2); have G2 := Lib.hid (grownBy_trans GB.out g2)
        clear h2 g2 T GB
        go_wp2_with fail
        refine LA.out.mono ?_
        rintro e w' ⟨rfl, rfl⟩
        go_wp2_with fail
        rw [E.out]
        exact ⟨rfl, rfl, G2.out⟩
      all_goals
        rw [hf] at K
        have K2 := K.out
        simp only [Int.reduceEq, Int.reduceNeg, if_false] at K2
        have K3 := Lib.hid K2
        clear K hf K2
        obtain ⟨r3, hr3⟩ : ∃ r3, r3 = intQ true ws (p + 2) := ⟨_, rfl⟩
        have LI2 := Lib.hid (fun W (g : GKeep R W) (h : Prd W R ao c ws (p + 1 + 1)) => LI.out W (p + 1 + 1) g h)
        have hp2 : intQ true ws (p + 1 + 1) = r3 := hr3.symm
        rw [hp2] at LI2
        rw [← hr3] at K3
        clear hr3 hp2 LI
        go_enter Tryz.func253, Tryz.ntmps253
        go_wp2_with fail
        refine N1.out.mono ?_
        rintro e w1 ⟨rfl, h1, g1⟩
        obtain ⟨p1, p2, p3, p4, p5⟩ := PB.out w1 h1 g1
        have T := Lib.hid (NX.out _ _ _ p1 HX.out); have GB := Lib.hid p2; have C3 := Lib.hid p3; have C4 := Lib.hid p4
        clear h1 g1 p1 p2 p3 p4
        go_wp2_with fail
        refine T.out.mono ?_
        rintro e w2 ⟨rfl, h2, g2⟩
        have H2 := Lib.hid h2; have G2 := Lib.hid (grownBy_trans GB.out g2)
        have B3 := Lib.hid (blk_keep C3.out g2 (by omega)); have X3 := Lib.hid (blk_keep C4.out g2 (by omega))
        have z2 := g2.size
        simp at z2
        obtain ⟨⟨x0, x1, x2, x3, x4, x5, x6⟩, xf⟩ := nd7 X3.out
        have r0 : ¬ (w1.heap.size = w.heap.size) := by omega
        have r0' : ¬ (w.heap.size = w1.heap.size) := by omega
        clear h2 g2 T GB C3 C4
        go_wp2_with fail
        refine Calls.mono (LI2.out _ ?_ ?_) ?_
        · exact G.out.step (grown_belowI G2.out ((Below.refl w.heap.size w2).setCell (p := ⟨w1.heap.size, 3, none⟩) (by simp; omega) _))
        · exact H2.out.belowB HR HWD.out ((Below.refl w.heap.size w2).setCell (p := ⟨w1.heap.size, 3, none⟩) (by simp; omega) _)
        intro e w4 hp4
        cases r3 with
        | none =>
          obtain ⟨rfl, g4⟩ := hp4
          have G4 := Lib.hid (grownBy_trans (grown_belowI G2.out ((Below.refl w.heap.size w2).setCell (p := ⟨w1.heap.size, 3, none⟩) (by simp; omega) _)) g4)
          have E := K3.out
          simp only at E
          have E2 := Lib.hid E
          clear E g4
          go_wp2_with fail
          rw [E2.out]
          exact ⟨rfl, rfl, G4.out⟩
        | some x =>
          obtain ⟨x, xm⟩ := x
          obtain ⟨rfl, h4, g4⟩ := hp4
          have H4 := Lib.hid h4
          have G4 := Lib.hid (grownBy_trans (grown_belowI G2.out ((Below.refl w.heap.size w2).setCell (p := ⟨w1.heap.size, 3, none⟩) (by simp; omega) _)) g4)
          have X4 := blk_keep (heap_setCell_same w2 w1.heap.size 3 _ _ _ X3.out) g4 (by omega)
          have B4 := blk_keep ((heap_setCell_other w2 ⟨w1.heap.size, 3, none⟩ w.heap.size _ (by simp; omega)).trans B3.out) g4 (by omega)
          obtain ⟨⟨b0, b1, b2, b3, b4, b5, b6⟩, bf⟩ := nd7 B4
          obtain ⟨⟨y0, y1, y2, y3, y4, y5, y6⟩, yf⟩ := nd7 X4
          have z4 := g4.size
          simp [World.setCell] at z4
          have E := K3.out
          simp only at E
          have E2 := Lib.hid E
          clear E h4 g4 X4 B4 x0 x1 x2 x3 x4 x5 x6 xf
          go_wp2_with fail
          rw [E2.out]
          refine bodyPost_ret (v := .agg #[.int .i64 1, .string ⟨#[]⟩, .int .i64 m, _, .int .i64 x, .bool xm, .slice none 0 0]) (by simp [results, Tryz.results253, go_sem, b0, b1, b2, b3, b4, b5, b6]) rfl ⟨none, 0, rfl, Own.none_, H4.out.belowB HR HWD.out ?_, grown_belowI G4.out ?_⟩
          all_goals
            repeat (refine Below.setCell ?_ (by simp; try omega) _)
            exact Below.refl _ _
end Go.Proofs.YtfpbhedophlnkaaGreatDoor
namespace Go.Proofs.YtfpbhedophlnkaaGreatDoor
open Go.RowKit
set_option linter.unusedSimpArgs false
set_option linter.unusedVariables false

theorem verbsB_ways (s : ByteArray) : (s = ⟨#[115, 99, 97, 110]⟩ ∧ findB verbsB s = 0) ∨ (s = ⟨#[102, 105, 108, 116, 101, 114]⟩ ∧ findB verbsB s = 1) ∨ (s = ⟨#[107, 101, 101, 112]⟩ ∧ findB verbsB s = 2) ∨ (s = ⟨#[106, 111, 105, 110]⟩ ∧ findB verbsB s = 3) ∨ (s = ⟨#[98, 111, 116, 104]⟩ ∧ findB verbsB s = 4) ∨ (s = ⟨#[115, 111, 114, 116]⟩ ∧ findB verbsB s = 5) ∨ (s = ⟨#[108, 105, 109, 105, 116]⟩ ∧ findB verbsB s = 6) ∨ (s = ⟨#[111, 110, 99, 101]⟩ ∧ findB verbsB s = 7) ∨ (findB verbsB s = -1 ∧ (s.toList == [115, 99, 97, 110]) = false ∧ (s.toList == [102, 105, 108, 116, 101, 114]) = false ∧ (s.toList == [107, 101, 101, 112]) = false ∧ (s.toList == [106, 111, 105, 110]) = false ∧ (s.toList == [98, 111, 116, 104]) = false ∧ (s.toList == [115, 111, 114, 116]) = false ∧ (s.toList == [108, 105, 109, 105, 116]) = false ∧ (s.toList == [111, 110, 99, 101]) = false) := by
  have key : ∀ (l : List UInt8), (s.toList == l) = decide (s = ⟨l.toArray⟩) := fun l => by
    have h := str_same s ⟨l.toArray⟩
    rw [show (⟨l.toArray⟩ : ByteArray).toList = l by rw [ByteArray.toList_eq]] at h
    exact h
  by_cases h0 : s = ⟨#[115, 99, 97, 110]⟩
  · left; subst h0; exact ⟨rfl, by decide⟩
  by_cases h1 : s = ⟨#[102, 105, 108, 116, 101, 114]⟩
  · right; left; subst h1; exact ⟨rfl, by decide⟩
  by_cases h2 : s = ⟨#[107, 101, 101, 112]⟩
  · right; right; left; subst h2; exact ⟨rfl, by decide⟩
  by_cases h3 : s = ⟨#[106, 111, 105, 110]⟩
  · right; right; right; left; subst h3; exact ⟨rfl, by decide⟩
  by_cases h4 : s = ⟨#[98, 111, 116, 104]⟩
  · right; right; right; right; left; subst h4; exact ⟨rfl, by decide⟩
  by_cases h5 : s = ⟨#[115, 111, 114, 116]⟩
  · right; right; right; right; right; left; subst h5; exact ⟨rfl, by decide⟩
  by_cases h6 : s = ⟨#[108, 105, 109, 105, 116]⟩
  · right; right; right; right; right; right; left; subst h6; exact ⟨rfl, by decide⟩
  by_cases h7 : s = ⟨#[111, 110, 99, 101]⟩
  · right; right; right; right; right; right; right; left; subst h7; exact ⟨rfl, by decide⟩
  · right; right; right; right; right; right; right; right
    refine ⟨?_, by rw [key]; simpa using h0, by rw [key]; simpa using h1, by rw [key]; simpa using h2, by rw [key]; simpa using h3, by rw [key]; simpa using h4, by rw [key]; simpa using h5, by rw [key]; simpa using h6, by rw [key]; simpa using h7⟩
    simp [verbsB, findB, Ne.symm h0, Ne.symm h1, Ne.symm h2, Ne.symm h3, Ne.symm h4, Ne.symm h5, Ne.symm h6, Ne.symm h7]
theorem rest0 (ws : List ByteArray) (p : Nat) : restQ ws 0 p = (match nameW ws p with | none => .inl p | some s => .inr (⟨0, s, 0, 0, 0, false, []⟩, p + 1)) := by
  unfold restQ nameW; simp only [if_true]
  cases ws[p]? with
  | none => rfl
  | some s => simp only; split <;> rfl
theorem rest2 (ws : List ByteArray) (p : Nat) : restQ ws 2 p = (match keepQ ws p with | .inl q => .inl q | .inr l => .inr (⟨2, emptyB, 0, 0, 0, false, l⟩, p + 1 + l.length)) := by
  unfold restQ keepQ; simp only [Int.reduceEq, if_false, if_true]
  cases intQ false ws p with
  | none => rfl
  | some m =>
    simp only
    split
    · cases hc : colsQ ws (p + 1) m.1.toNat with
      | inl q => rfl
      | inr l => simp only; rw [(colsQ_len hc).1]
    · rfl
theorem rest3 (ws : List ByteArray) (p : Nat) : restQ ws 3 p = (match intQ false ws p with | none => .inl p | some c => match intQ false ws (p + 1) with | none => .inl (p + 1) | some d => .inr (⟨3, emptyB, c.1, 0, d.1, false, []⟩, p + 2)) := by
  unfold restQ; simp only [Int.reduceEq, if_false, if_true]; rfl
theorem rest5 (ws : List ByteArray) (p : Nat) : restQ ws 5 p = (match intQ false ws p with | none => .inl p | some c => .inr (⟨5, emptyB, c.1, 0, 0, false, []⟩, p + 1)) := by
  unfold restQ; simp only [Int.reduceEq, if_false, if_true]; rfl
theorem rest6 (ws : List ByteArray) (p : Nat) : restQ ws 6 p = (match intQ true ws p with | none => .inl p | some x => .inr (⟨6, emptyB, 0, 0, x.1, x.2, []⟩, p + 1)) := by
  unfold restQ; simp only [Int.reduceEq, if_false, if_true]; rfl
theorem rest4 (ws : List ByteArray) (p : Nat) : restQ ws 4 p = .inr (⟨4, emptyB, 0, 0, 0, false, []⟩, p) := by
  unfold restQ; simp only [Int.reduceEq, if_false]
theorem rest7 (ws : List ByteArray) (p : Nat) : restQ ws 7 p = .inr (⟨7, emptyB, 0, 0, 0, false, []⟩, p) := by
  unfold restQ; simp only [Int.reduceEq, if_false]

set_option maxRecDepth 100000 in
set_option maxHeartbeats 3200000 in
theorem node0 {R c p : Nat} {ao : Option Addr} {ws : List ByteArray} (w : World) (hw : WdsI ws) (hg : GKeep R w) (h : Prd w R ao c ws p) (hx : ws[p]? = some ⟨#[115, 99, 97, 110]⟩) :
    Calls Tryz.prog 208 #[.pointer (some ⟨R, 0, none⟩)] w (NodeI (restQ ws 0 (p + 1)) R ao c ws w) := by
  have G := Lib.hid hg
  have HR := h.lt
  have HWD := Lib.hid h.words
  have HN := Lib.hid hw
  have BA := ((Below.refl w.heap.size w).alloc (Nat.le_refl _) (.cells #[.int .i64 0, .string ⟨#[]⟩, .int .i64 0, .int .i64 0, .int .i64 0, .bool false, .slice none 0 0] 92)).alloc (by simp) (.cells #[.int .i64 0, .string ⟨#[]⟩, .int .i64 0, .int .i64 0, .int .i64 0, .bool false, .slice none 0 0] 92)
  have GA : w.grownBy ((w.alloc (.cells #[.int .i64 0, .string ⟨#[]⟩, .int .i64 0, .int .i64 0, .int .i64 0, .bool false, .slice none 0 0] 92)).alloc (.cells #[.int .i64 0, .string ⟨#[]⟩, .int .i64 0, .int .i64 0, .int .i64 0, .bool false, .slice none 0 0] 92)) (some R) := grownBy_trans (World.grownBy_alloc w _ _) (World.grownBy_alloc _ _ _)
  have HGA := Lib.hid GA
  have HX : Hid (((w.alloc (.cells #[.int .i64 0, .string ⟨#[]⟩, .int .i64 0, .int .i64 0, .int .i64 0, .bool false, .slice none 0 0] 92)).alloc (.cells #[.int .i64 0, .string ⟨#[]⟩, .int .i64 0, .int .i64 0, .int .i64 0, .bool false, .slice none 0 0] 92)).heap[w.heap.size + 1]? = some (.cells #[.int .i64 0, .string ⟨#[]⟩, .int .i64 0, .int .i64 0, .int .i64 0, .bool false, .slice none 0 0] 92 (0, 0))) := by
    show _ = _
    have h1 := heap_alloc_new (w.alloc (.cells #[.int .i64 0, .string ⟨#[]⟩, .int .i64 0, .int .i64 0, .int .i64 0, .bool false, .slice none 0 0] 92)) (.cells #[.int .i64 0, .string ⟨#[]⟩, .int .i64 0, .int .i64 0, .int .i64 0, .bool false, .slice none 0 0] 92)
    simpa using h1
  have HZ : Hid (((w.alloc (.cells #[.int .i64 0, .string ⟨#[]⟩, .int .i64 0, .int .i64 0, .int .i64 0, .bool false, .slice none 0 0] 92)).alloc (.cells #[.int .i64 0, .string ⟨#[]⟩, .int .i64 0, .int .i64 0, .int .i64 0, .bool false, .slice none 0 0] 92)).heap[w.heap.size]? = some (.cells #[.int .i64 0, .string ⟨#[]⟩, .int .i64 0, .int .i64 0, .int .i64 0, .bool false, .slice none 0 0] 92 (0, 0))) := by
    show _ = _
    have h1 := heap_alloc_new w (.cells #[.int .i64 0, .string ⟨#[]⟩, .int .i64 0, .int .i64 0, .int .i64 0, .bool false, .slice none 0 0] 92)
    exact ((World.grownBy_alloc (w.alloc (.cells #[.int .i64 0, .string ⟨#[]⟩, .int .i64 0, .int .i64 0, .int .i64 0, .bool false, .slice none 0 0] 92)) _ none).block _ (Array.getElem?_eq_some_iff.1 h1).1 (by simp)).trans h1
  have T := Lib.hid (next_yes _ (h.below BA) hx)
  have K := Lib.hid (rest0 ws (p + 1))
  obtain ⟨rr, hrr⟩ : ∃ rr, rr = restQ ws 0 (p + 1) := ⟨_, rfl⟩
  rw [← hrr] at K ⊢
  clear h hw hg hrr GA BA hx
  have N2 := Lib.hid (fun W (h : Prd W R ao c ws (p + 1)) (_ : GKeep R W) => name_any W (fun s hs => (HN.out s hs).2) h)
  obtain ⟨r2, hr2⟩ : ∃ r2, r2 = nameW ws (p + 1) := ⟨_, rfl⟩
  rw [← hr2] at K N2
  clear hr2
  go_enter Tryz.func208, Tryz.ntmps208
  go_wp2_with fail
  refine T.out.mono ?_
  rintro e w1 ⟨rfl, h1, g1⟩
  have H1 := Lib.hid h1; have G1 := Lib.hid (grownBy_trans HGA.out g1)
  have z1 := g1.size
  simp at z1
  have B1 := Lib.hid (blk_keep HZ.out g1 (by omega)); have X1 := Lib.hid (blk_keep HX.out g1 (by omega))
  have r0 : ¬ (w.heap.size + 1 = w.heap.size) := by omega
  have r0' : ¬ (w.heap.size = w.heap.size + 1) := by omega
  clear h1 g1 T HGA HX HZ
  go_wp2_with fail
  refine (N2.out _ H1.out (G.out.step G1.out)).mono ?_
  cases r2 with
  | none =>
    have E := Lib.hid K.out
    rintro e w2 ⟨rfl, g2⟩
    have G2 := Lib.hid (grownBy_trans G1.out g2)
    clear g2
    go_wp2_with fail
    rw [E.out]
    exact ⟨rfl, rfl, G2.out⟩
  | some y =>
      have E := Lib.hid K.out
      rintro e w2 ⟨rfl, h2, g2⟩
      have H2 := Lib.hid h2; have G2 := Lib.hid (grownBy_trans G1.out g2)
      obtain ⟨⟨b0, b1, b2, b3, b4, b5, b6⟩, bf⟩ := nd7 (blk_keep B1.out g2 (by omega))
      obtain ⟨⟨x0, x1, x2, x3, x4, x5, x6⟩, xf⟩ := nd7 (blk_keep X1.out g2 (by omega))
      have z2 := g2.size
      clear h2 g2
      go_wp2_with fail
      rw [E.out]
      refine bodyPost_ret (v := .agg #[.int .i64 0, .string y, .int .i64 0, .int .i64 0, .int .i64 0, .bool false, .slice none 0 0]) (by simp [results, Tryz.results208, go_sem, b0, b1, b2, b3, b4, b5, b6]) rfl ⟨none, 0, rfl, Own.none_, H2.out.belowB HR HWD.out ?_, grown_belowI G2.out ?_⟩
      all_goals
        repeat (refine Below.setCell ?_ (by simp; try omega) _)
        exact Below.refl _ _

set_option maxRecDepth 100000 in
set_option maxHeartbeats 3200000 in
theorem node4 {R c p : Nat} {ao : Option Addr} {ws : List ByteArray} (w : World) (hw : WdsI ws) (hg : GKeep R w) (h : Prd w R ao c ws p) (hx : ws[p]? = some ⟨#[98, 111, 116, 104]⟩) :
    Calls Tryz.prog 208 #[.pointer (some ⟨R, 0, none⟩)] w (NodeI (restQ ws 4 (p + 1)) R ao c ws w) := by
  have G := Lib.hid hg
  have HR := h.lt
  have HWD := Lib.hid h.words
  have HN := Lib.hid hw
  have BA := ((Below.refl w.heap.size w).alloc (Nat.le_refl _) (.cells #[.int .i64 0, .string ⟨#[]⟩, .int .i64 0, .int .i64 0, .int .i64 0, .bool false, .slice none 0 0] 92)).alloc (by simp) (.cells #[.int .i64 0, .string ⟨#[]⟩, .int .i64 0, .int .i64 0, .int .i64 0, .bool false, .slice none 0 0] 92)
  have GA : w.grownBy ((w.alloc (.cells #[.int .i64 0, .string ⟨#[]⟩, .int .i64 0, .int .i64 0, .int .i64 0, .bool false, .slice none 0 0] 92)).alloc (.cells #[.int .i64 0, .string ⟨#[]⟩, .int .i64 0, .int .i64 0, .int .i64 0, .bool false, .slice none 0 0] 92)) (some R) := grownBy_trans (World.grownBy_alloc w _ _) (World.grownBy_alloc _ _ _)
  have HGA := Lib.hid GA
  have HX : Hid (((w.alloc (.cells #[.int .i64 0, .string ⟨#[]⟩, .int .i64 0, .int .i64 0, .int .i64 0, .bool false, .slice none 0 0] 92)).alloc (.cells #[.int .i64 0, .string ⟨#[]⟩, .int .i64 0, .int .i64 0, .int .i64 0, .bool false, .slice none 0 0] 92)).heap[w.heap.size + 1]? = some (.cells #[.int .i64 0, .string ⟨#[]⟩, .int .i64 0, .int .i64 0, .int .i64 0, .bool false, .slice none 0 0] 92 (0, 0))) := by
    show _ = _
    have h1 := heap_alloc_new (w.alloc (.cells #[.int .i64 0, .string ⟨#[]⟩, .int .i64 0, .int .i64 0, .int .i64 0, .bool false, .slice none 0 0] 92)) (.cells #[.int .i64 0, .string ⟨#[]⟩, .int .i64 0, .int .i64 0, .int .i64 0, .bool false, .slice none 0 0] 92)
    simpa using h1
  have HZ : Hid (((w.alloc (.cells #[.int .i64 0, .string ⟨#[]⟩, .int .i64 0, .int .i64 0, .int .i64 0, .bool false, .slice none 0 0] 92)).alloc (.cells #[.int .i64 0, .string ⟨#[]⟩, .int .i64 0, .int .i64 0, .int .i64 0, .bool false, .slice none 0 0] 92)).heap[w.heap.size]? = some (.cells #[.int .i64 0, .string ⟨#[]⟩, .int .i64 0, .int .i64 0, .int .i64 0, .bool false, .slice none 0 0] 92 (0, 0))) := by
    show _ = _
    have h1 := heap_alloc_new w (.cells #[.int .i64 0, .string ⟨#[]⟩, .int .i64 0, .int .i64 0, .int .i64 0, .bool false, .slice none 0 0] 92)
    exact ((World.grownBy_alloc (w.alloc (.cells #[.int .i64 0, .string ⟨#[]⟩, .int .i64 0, .int .i64 0, .int .i64 0, .bool false, .slice none 0 0] 92)) _ none).block _ (Array.getElem?_eq_some_iff.1 h1).1 (by simp)).trans h1
  have T := Lib.hid (next_yes _ (h.below BA) hx)
  have K := Lib.hid (rest4 ws (p + 1))
  obtain ⟨rr, hrr⟩ : ∃ rr, rr = restQ ws 4 (p + 1) := ⟨_, rfl⟩
  rw [← hrr] at K ⊢
  clear h hw hg hrr GA BA hx
  go_enter Tryz.func208, Tryz.ntmps208
  go_wp2_with fail
  refine T.out.mono ?_
  rintro e w1 ⟨rfl, h1, g1⟩
  have H1 := Lib.hid h1; have G1 := Lib.hid (grownBy_trans HGA.out g1)
  have z1 := g1.size
  simp at z1
  have B1 := Lib.hid (blk_keep HZ.out g1 (by omega)); have X1 := Lib.hid (blk_keep HX.out g1 (by omega))
  have r0 : ¬ (w.heap.size + 1 = w.heap.size) := by omega
  have r0' : ¬ (w.heap.size = w.heap.size + 1) := by omega
  clear h1 g1 T HGA HX HZ
  have E := Lib.hid K.out
  obtain ⟨⟨b0, b1, b2, b3, b4, b5, b6⟩, bf⟩ := nd7 B1.out
  obtain ⟨⟨x0, x1, x2, x3, x4, x5, x6⟩, xf⟩ := nd7 X1.out
  have G2 := G1
  go_wp2_with fail
  rw [E.out]
  refine bodyPost_ret (v := .agg #[.int .i64 4, .string ⟨#[]⟩, .int .i64 0, .int .i64 0, .int .i64 0, .bool false, .slice none 0 0]) (by simp [results, Tryz.results208, go_sem, b0, b1, b2, b3, b4, b5, b6]) rfl ⟨none, 0, rfl, Own.none_, H1.out.belowB HR HWD.out ?_, grown_belowI G2.out ?_⟩
  all_goals
    repeat (refine Below.setCell ?_ (by simp; try omega) _)
    exact Below.refl _ _

set_option maxRecDepth 100000 in
set_option maxHeartbeats 3200000 in
theorem node7 {R c p : Nat} {ao : Option Addr} {ws : List ByteArray} (w : World) (hw : WdsI ws) (hg : GKeep R w) (h : Prd w R ao c ws p) (hx : ws[p]? = some ⟨#[111, 110, 99, 101]⟩) :
    Calls Tryz.prog 208 #[.pointer (some ⟨R, 0, none⟩)] w (NodeI (restQ ws 7 (p + 1)) R ao c ws w) := by
  have G := Lib.hid hg
  have HR := h.lt
  have HWD := Lib.hid h.words
  have HN := Lib.hid hw
  have BA := ((Below.refl w.heap.size w).alloc (Nat.le_refl _) (.cells #[.int .i64 0, .string ⟨#[]⟩, .int .i64 0, .int .i64 0, .int .i64 0, .bool false, .slice none 0 0] 92)).alloc (by simp) (.cells #[.int .i64 0, .string ⟨#[]⟩, .int .i64 0, .int .i64 0, .int .i64 0, .bool false, .slice none 0 0] 92)
  have GA : w.grownBy ((w.alloc (.cells #[.int .i64 0, .string ⟨#[]⟩, .int .i64 0, .int .i64 0, .int .i64 0, .bool false, .slice none 0 0] 92)).alloc (.cells #[.int .i64 0, .string ⟨#[]⟩, .int .i64 0, .int .i64 0, .int .i64 0, .bool false, .slice none 0 0] 92)) (some R) := grownBy_trans (World.grownBy_alloc w _ _) (World.grownBy_alloc _ _ _)
  have HGA := Lib.hid GA
  have HX : Hid (((w.alloc (.cells #[.int .i64 0, .string ⟨#[]⟩, .int .i64 0, .int .i64 0, .int .i64 0, .bool false, .slice none 0 0] 92)).alloc (.cells #[.int .i64 0, .string ⟨#[]⟩, .int .i64 0, .int .i64 0, .int .i64 0, .bool false, .slice none 0 0] 92)).heap[w.heap.size + 1]? = some (.cells #[.int .i64 0, .string ⟨#[]⟩, .int .i64 0, .int .i64 0, .int .i64 0, .bool false, .slice none 0 0] 92 (0, 0))) := by
    show _ = _
    have h1 := heap_alloc_new (w.alloc (.cells #[.int .i64 0, .string ⟨#[]⟩, .int .i64 0, .int .i64 0, .int .i64 0, .bool false, .slice none 0 0] 92)) (.cells #[.int .i64 0, .string ⟨#[]⟩, .int .i64 0, .int .i64 0, .int .i64 0, .bool false, .slice none 0 0] 92)
    simpa using h1
  have HZ : Hid (((w.alloc (.cells #[.int .i64 0, .string ⟨#[]⟩, .int .i64 0, .int .i64 0, .int .i64 0, .bool false, .slice none 0 0] 92)).alloc (.cells #[.int .i64 0, .string ⟨#[]⟩, .int .i64 0, .int .i64 0, .int .i64 0, .bool false, .slice none 0 0] 92)).heap[w.heap.size]? = some (.cells #[.int .i64 0, .string ⟨#[]⟩, .int .i64 0, .int .i64 0, .int .i64 0, .bool false, .slice none 0 0] 92 (0, 0))) := by
    show _ = _
    have h1 := heap_alloc_new w (.cells #[.int .i64 0, .string ⟨#[]⟩, .int .i64 0, .int .i64 0, .int .i64 0, .bool false, .slice none 0 0] 92)
    exact ((World.grownBy_alloc (w.alloc (.cells #[.int .i64 0, .string ⟨#[]⟩, .int .i64 0, .int .i64 0, .int .i64 0, .bool false, .slice none 0 0] 92)) _ none).block _ (Array.getElem?_eq_some_iff.1 h1).1 (by simp)).trans h1
  have T := Lib.hid (next_yes _ (h.below BA) hx)
  have K := Lib.hid (rest7 ws (p + 1))
  obtain ⟨rr, hrr⟩ : ∃ rr, rr = restQ ws 7 (p + 1) := ⟨_, rfl⟩
  rw [← hrr] at K ⊢
  clear h hw hg hrr GA BA hx
  go_enter Tryz.func208, Tryz.ntmps208
  go_wp2_with fail
  refine T.out.mono ?_
  rintro e w1 ⟨rfl, h1, g1⟩
  have H1 := Lib.hid h1; have G1 := Lib.hid (grownBy_trans HGA.out g1)
  have z1 := g1.size
  simp at z1
  have B1 := Lib.hid (blk_keep HZ.out g1 (by omega)); have X1 := Lib.hid (blk_keep HX.out g1 (by omega))
  have r0 : ¬ (w.heap.size + 1 = w.heap.size) := by omega
  have r0' : ¬ (w.heap.size = w.heap.size + 1) := by omega
  clear h1 g1 T HGA HX HZ
  have E := Lib.hid K.out
  obtain ⟨⟨b0, b1, b2, b3, b4, b5, b6⟩, bf⟩ := nd7 B1.out
  obtain ⟨⟨x0, x1, x2, x3, x4, x5, x6⟩, xf⟩ := nd7 X1.out
  have G2 := G1
  go_wp2_with fail
  rw [E.out]
  refine bodyPost_ret (v := .agg #[.int .i64 7, .string ⟨#[]⟩, .int .i64 0, .int .i64 0, .int .i64 0, .bool false, .slice none 0 0]) (by simp [results, Tryz.results208, go_sem, b0, b1, b2, b3, b4, b5, b6]) rfl ⟨none, 0, rfl, Own.none_, H1.out.belowB HR HWD.out ?_, grown_belowI G2.out ?_⟩
  all_goals
    repeat (refine Below.setCell ?_ (by simp; try omega) _)
    exact Below.refl _ _

set_option maxRecDepth 100000 in
set_option maxHeartbeats 3200000 in
theorem node5 {R c p : Nat} {ao : Option Addr} {ws : List ByteArray} (w : World) (hw : WdsI ws) (hg : GKeep R w) (h : Prd w R ao c ws p) (hx : ws[p]? = some ⟨#[115, 111, 114, 116]⟩) :
    Calls Tryz.prog 208 #[.pointer (some ⟨R, 0, none⟩)] w (NodeI (restQ ws 5 (p + 1)) R ao c ws w) := by
  have G := Lib.hid hg
  have HR := h.lt
  have HWD := Lib.hid h.words
  have HN := Lib.hid hw
  have BA := ((Below.refl w.heap.size w).alloc (Nat.le_refl _) (.cells #[.int .i64 0, .string ⟨#[]⟩, .int .i64 0, .int .i64 0, .int .i64 0, .bool false, .slice none 0 0] 92)).alloc (by simp) (.cells #[.int .i64 0, .string ⟨#[]⟩, .int .i64 0, .int .i64 0, .int .i64 0, .bool false, .slice none 0 0] 92)
  have GA : w.grownBy ((w.alloc (.cells #[.int .i64 0, .string ⟨#[]⟩, .int .i64 0, .int .i64 0, .int .i64 0, .bool false, .slice none 0 0] 92)).alloc (.cells #[.int .i64 0, .string ⟨#[]⟩, .int .i64 0, .int .i64 0, .int .i64 0, .bool false, .slice none 0 0] 92)) (some R) := grownBy_trans (World.grownBy_alloc w _ _) (World.grownBy_alloc _ _ _)
  have HGA := Lib.hid GA
  have HX : Hid (((w.alloc (.cells #[.int .i64 0, .string ⟨#[]⟩, .int .i64 0, .int .i64 0, .int .i64 0, .bool false, .slice none 0 0] 92)).alloc (.cells #[.int .i64 0, .string ⟨#[]⟩, .int .i64 0, .int .i64 0, .int .i64 0, .bool false, .slice none 0 0] 92)).heap[w.heap.size + 1]? = some (.cells #[.int .i64 0, .string ⟨#[]⟩, .int .i64 0, .int .i64 0, .int .i64 0, .bool false, .slice none 0 0] 92 (0, 0))) := by
    show _ = _
    have h1 := heap_alloc_new (w.alloc (.cells #[.int .i64 0, .string ⟨#[]⟩, .int .i64 0, .int .i64 0, .int .i64 0, .bool false, .slice none 0 0] 92)) (.cells #[.int .i64 0, .string ⟨#[]⟩, .int .i64 0, .int .i64 0, .int .i64 0, .bool false, .slice none 0 0] 92)
    simpa using h1
  have HZ : Hid (((w.alloc (.cells #[.int .i64 0, .string ⟨#[]⟩, .int .i64 0, .int .i64 0, .int .i64 0, .bool false, .slice none 0 0] 92)).alloc (.cells #[.int .i64 0, .string ⟨#[]⟩, .int .i64 0, .int .i64 0, .int .i64 0, .bool false, .slice none 0 0] 92)).heap[w.heap.size]? = some (.cells #[.int .i64 0, .string ⟨#[]⟩, .int .i64 0, .int .i64 0, .int .i64 0, .bool false, .slice none 0 0] 92 (0, 0))) := by
    show _ = _
    have h1 := heap_alloc_new w (.cells #[.int .i64 0, .string ⟨#[]⟩, .int .i64 0, .int .i64 0, .int .i64 0, .bool false, .slice none 0 0] 92)
    exact ((World.grownBy_alloc (w.alloc (.cells #[.int .i64 0, .string ⟨#[]⟩, .int .i64 0, .int .i64 0, .int .i64 0, .bool false, .slice none 0 0] 92)) _ none).block _ (Array.getElem?_eq_some_iff.1 h1).1 (by simp)).trans h1
  have T := Lib.hid (next_yes _ (h.below BA) hx)
  have K := Lib.hid (rest5 ws (p + 1))
  obtain ⟨rr, hrr⟩ : ∃ rr, rr = restQ ws 5 (p + 1) := ⟨_, rfl⟩
  rw [← hrr] at K ⊢
  clear h hw hg hrr GA BA hx
  have N2 := Lib.hid (fun W (h : Prd W R ao c ws (p + 1)) g => number_any W HN.out g h)
  obtain ⟨r2, hr2⟩ : ∃ r2, r2 = intQ false ws (p + 1) := ⟨_, rfl⟩
  rw [← hr2] at K N2
  clear hr2
  go_enter Tryz.func208, Tryz.ntmps208
  go_wp2_with fail
  refine T.out.mono ?_
  rintro e w1 ⟨rfl, h1, g1⟩
  have H1 := Lib.hid h1; have G1 := Lib.hid (grownBy_trans HGA.out g1)
  have z1 := g1.size
  simp at z1
  have B1 := Lib.hid (blk_keep HZ.out g1 (by omega)); have X1 := Lib.hid (blk_keep HX.out g1 (by omega))
  have r0 : ¬ (w.heap.size + 1 = w.heap.size) := by omega
  have r0' : ¬ (w.heap.size = w.heap.size + 1) := by omega
  clear h1 g1 T HGA HX HZ
  go_wp2_with fail
  refine (N2.out _ H1.out (G.out.step G1.out)).mono ?_
  cases r2 with
  | none =>
    have E := Lib.hid K.out
    rintro e w2 ⟨rfl, g2⟩
    have G2 := Lib.hid (grownBy_trans G1.out g2)
    clear g2
    go_wp2_with fail
    rw [E.out]
    exact ⟨rfl, rfl, G2.out⟩
  | some y =>
      have E := Lib.hid K.out
      rintro e w2 ⟨rfl, h2, g2⟩
      have H2 := Lib.hid h2; have G2 := Lib.hid (grownBy_trans G1.out g2)
      obtain ⟨⟨b0, b1, b2, b3, b4, b5, b6⟩, bf⟩ := nd7 (blk_keep B1.out g2 (by omega))
      obtain ⟨⟨x0, x1, x2, x3, x4, x5, x6⟩, xf⟩ := nd7 (blk_keep X1.out g2 (by omega))
      have z2 := g2.size
      clear h2 g2
      go_wp2_with fail
      rw [E.out]
      refine bodyPost_ret (v := .agg #[.int .i64 5, .string ⟨#[]⟩, .int .i64 y.1, .int .i64 0, .int .i64 0, .bool false, .slice none 0 0]) (by simp [results, Tryz.results208, go_sem, b0, b1, b2, b3, b4, b5, b6]) rfl ⟨none, 0, rfl, Own.none_, H2.out.belowB HR HWD.out ?_, grown_belowI G2.out ?_⟩
      all_goals
        repeat (refine Below.setCell ?_ (by simp; try omega) _)
        exact Below.refl _ _
end Go.Proofs.YtfpbhedophlnkaaGreatDoor
