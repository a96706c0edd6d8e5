/-
  When a text is a row's. Plain facts; no walk. What is kept where one block alone has turned. No program, no walk. The model's cursor over the bytes of a draw: l01Byte answers a number from 0 to 255 and turns the cursor's own block alone. For every slice of bytes. The model's draws of numbers below a bound, of an element of a list, of a text of a list; the cursor made. For every slice of bytes.
-/
import Derived.Test.YtfpbhedophlnkaaGreatDoorJR24x
import Derived.Test.YtfpbhedophlnkaaGreatDoorJR25x
import Derived.Test.YtfpbhedophlnkaaGreatDoorSRead
import Derived.Test.YtfpbhedophlnkaaGreatDoorJR3x
import Derived.Test.YtfpbhedophlnkaaGreatDoorJR20x
import Derived.WalkKit
import Derived.OneCell
import Derived.Deep.QuietTactic
import Derived.BigQuiet
import Derived.Laws.BitsAllLaws
import Derived.Laws.BitsLemmas
namespace Go.Proofs.YtfpbhedophlnkaaGreatDoor
open Go.RowKit
set_option linter.unusedSimpArgs false
set_option linter.unusedVariables false

/-- A value. -/
def valR (x : Int) : Prop := (-1000000 ≤ x ∧ x ≤ 1000000) ∨ x = -2000000
def Vals (l : List Int) : Prop := (∀ z ∈ l, valR z) ∧ l.length ≤ 64

theorem jc_joinB : ∀ l : List (List UInt8), jc l = joinB 44 l
  | [] => rfl
  | [x] => rfl
  | x :: y :: r => by simp [jc, joinB, jc_joinB (y :: r)]
theorem itoa_ne (x : Int) : Lib.itoa x ≠ [45] := by
  unfold Lib.itoa
  split
  · intro h
    have h1 := congrArg List.length h
    have h2 := dec_pos x.natAbs
    simp only [List.length_cons, List.length_nil] at h1
    omega
  · intro h
    have := dec_digit x.toNat 45 (by rw [h]; simp)
    simp at this
theorem itoa_chars (x : Int) : ∀ c ∈ Lib.itoa x, c = 45 ∨ (48 ≤ c.toNat ∧ c.toNat ≤ 57) := by
  intro c hc
  unfold Lib.itoa at hc
  split at hc
  · rcases List.mem_cons.1 hc with rfl | hc
    · exact .inl rfl
    · exact .inr (dec_digit _ c hc)
  · exact .inr (dec_digit _ c hc)
theorem vL_eq (x : Int) : vL x = if x = -2000000 then [45] else Lib.itoa x := by
  unfold vL vT; split
  · rfl
  · exact numT_list x
theorem vL_chars (x : Int) : ∀ c ∈ vL x, c ≠ 44 ∧ c ≠ 40 := by
  intro c hc
  rw [vL_eq] at hc
  have key : c = 45 ∨ (48 ≤ c.toNat ∧ c.toNat ≤ 57) := by
    split at hc
    · simp at hc; exact .inl hc
    · exact itoa_chars x c hc
  rcases key with rfl | ⟨h1, h2⟩
  · decide
  · constructor <;> (rintro rfl; simp at h1)
theorem vL_inj {x y : Int} (h : vL x = vL y) : x = y := by
  rw [vL_eq, vL_eq] at h
  split at h
  · rename_i hx
    split at h
    · rename_i hy; rw [hx, hy]
    · exact absurd h.symm (itoa_ne y)
  · split at h
    · exact absurd h (itoa_ne x)
    · apply numT_inj
      unfold numT; rw [h]
theorem vL_ne (x : Int) : vL x ≠ [] := by
  rw [vL_eq]; split
  · simp
  · unfold Lib.itoa; split
    · simp
    · intro h; have := dec_pos x.toNat; rw [h] at this; simp at this
theorem rowT_split {l : List Int} (h : l ≠ []) : splitB 44 (rowT l) = l.map vL := by
  unfold rowT
  rw [if_neg h, jc_joinB, split_join _ (by simpa using h) (by
    intro x hx c hc
    obtain ⟨z, _, rfl⟩ := List.mem_map.1 hx
    exact (vL_chars z c hc).1)]
theorem rowT_face {l : List Int} (h : rowT l = [40, 41]) : l = [] := by
  by_cases hl : l = []
  · exact hl
  · exfalso
    have h1 := rowT_split hl
    rw [h] at h1
    have h2 : splitB 44 [40, 41] = [[40, 41]] := by decide
    rw [h2] at h1
    cases l with
    | nil => exact hl rfl
    | cons x r =>
      rw [List.map_cons, List.cons.injEq] at h1
      exact (vL_chars x 40 (by rw [← h1.1]; simp)).2 rfl
theorem rowT_inj {l m : List Int} (h : rowT l = rowT m) : l = m := by
  by_cases hl : l = []
  · subst hl
    exact (rowT_face (by rw [← h]; rfl)).symm
  · by_cases hm : m = []
    · subst hm
      exact rowT_face (by rw [h]; rfl)
    · have h1 := rowT_split hl
      rw [h, rowT_split hm] at h1
      exact ((List.map_inj_right (fun x y => vL_inj)).1 h1).symm
theorem vL_small {x : Int} (h : valR x) : (vL x).length ≤ 8 := by
  rw [vL_eq]; split
  · simp
  · rename_i hx
    rcases h with h | h
    · have := (num_size x h.1 h.2).2
      rw [← size_list, numT_list] at this
      exact this
    · exact absurd h hx
theorem rowT_small {l : List Int} (h : Vals l) : (rowT l).length ≤ 600 := by
  unfold rowT; split
  · simp
  · have key : ∀ m : List Int, (∀ z ∈ m, valR z) → (jc (m.map vL)).length ≤ 9 * m.length := by
      intro m
      induction m with
      | nil => intro _; simp [jc]
      | cons x r ih =>
        intro hm
        have h1 := vL_small (hm x (by simp))
        have h2 := ih (fun z hz => hm z (List.mem_cons_of_mem _ hz))
        cases r with
        | nil => simp [jc]; omega
        | cons y r => simp only [List.map_cons, jc, List.length_append, List.length_cons, List.length_nil] at h2 ⊢; omega
    have := key l h.1
    have := h.2
    omega
/-- The text's parts. -/
abbrev prt (s : ByteArray) : List (List UInt8) := splitB 44 s.data.toList
/-- All parts are values' texts: so is the text a row's. -/
theorem row_yes {s : ByteArray} {out : List Int} (h : prt s = out.map vL) : s.data.toList = rowT out := by
  have hne : out ≠ [] := by
    rintro rfl
    exact splitB_ne 44 s.data.toList h
  unfold rowT
  rw [if_neg hne, jc_joinB, ← h, join_split]
/-- A part that is no value's text: so the text is no row's. -/
theorem row_no {s : ByteArray} {j : Nat} {x : List UInt8} (hf : s.data.toList ≠ [40, 41]) (hx : (prt s)[j]? = some x) (h : ∀ z, valR z → x ≠ vL z) : ∀ l, Vals l → s.data.toList ≠ rowT l := by
  intro l hl he
  by_cases hn : l = []
  · subst hn; exact hf he
  · have h1 := rowT_split hn
    rw [← he] at h1
    unfold prt at hx
    rw [h1, List.getElem?_map] at hx
    cases hz : l[j]? with
    | none => rw [hz] at hx; cases hx
    | some z =>
      rw [hz] at hx; simp at hx
      exact h z (hl.1 z (List.mem_of_getElem? hz)) hx.symm
theorem row_long {s : ByteArray} (hf : s.data.toList ≠ [40, 41]) (h : 64 < (prt s).length) : ∀ l, Vals l → s.data.toList ≠ rowT l := by
  intro l hl he
  by_cases hn : l = []
  · subst hn; exact hf he
  · have h1 := rowT_split hn
    rw [← he] at h1
    unfold prt at h
    rw [h1, List.length_map] at h
    have := hl.2
    omega
theorem row_big {s : ByteArray} (h : 600 < s.size) : ∀ l, Vals l → s.data.toList ≠ rowT l := by
  intro l hl he
  have h1 := rowT_small hl
  rw [← he, size_list] at h1
  omega
/-- What both answer. -/
def RowPost (s : ByteArray) (w : World) (e : Ending) (w' : World) : Prop :=
  (∃ (l : List Int) (ao : Option Addr) (c : Nat), e = .returned (.tuple #[.slice ao l.length c, .bool true]) ∧ Vals l ∧ s.data.toList = rowT l ∧ Own w' w.heap.size 3 .i64 ao c l ∧ Below w.heap.size w w') ∨
  (e = .returned (.tuple #[.slice none 0 0, .bool false]) ∧ Below w.heap.size w w' ∧ ∀ l, Vals l → s.data.toList ≠ rowT l)
/-- A part's text is that of no value. -/
theorem part_no {x : List UInt8} (h1 : x ≠ [45]) (h2 : ∀ y : Int, -1000000 ≤ y → y ≤ 1000000 → mkB x ≠ numT y) : ∀ z, valR z → x ≠ vL z := by
  intro z hz he
  rw [vL_eq] at he
  split at he
  · exact h1 he
  · rename_i hn
    rcases hz with hz | hz
    · apply h2 z hz.1 hz.2
      unfold mkB numT; rw [he]
    · exact hn hz
theorem part_num {x : List UInt8} {y : Int} (h : mkB x = numT y) (h1 : -1000000 ≤ y) (h2 : y ≤ 1000000) : x = vL y := by
  rw [vL_eq, if_neg (by omega)]
  have := congrArg (fun b => b.data.toList) h
  simpa [mkB, numT] using this
theorem part_none : ([45] : List UInt8) = vL (-2000000) := by rw [vL_eq]; simp
end Go.Proofs.YtfpbhedophlnkaaGreatDoor
namespace Go.Proofs.YtfpbhedophlnkaaGreatDoor
open Go.RowKit
set_option linter.unusedSimpArgs false
set_option linter.unusedVariables false

theorem grownBy_trans {a b c : World} {row : Option Nat} (h : a.grownBy b row) (k : b.grownBy c row) : a.grownBy c row :=
  ⟨k.os.trans h.os, k.tape.trans h.tape, k.output.trans h.output, Nat.le_trans h.size k.size, fun i hi hne => (k.block i (Nat.lt_of_lt_of_le hi h.size) hne).trans (h.block i hi hne)⟩
theorem grownBy_below {a b c : World} {row : Option Nat} (h : a.grownBy b row) (k : Below b.heap.size b c) : a.grownBy c row :=
  ⟨k.os.trans h.os, k.tape.trans h.tape, k.output.trans h.output, Nat.le_trans h.size k.size, fun i hi hne => (k.block i (Nat.lt_of_lt_of_le hi h.size)).trans (h.block i hi hne)⟩
theorem Rd.far {w w' : World} {k : IntKind} {ao : Option Addr} {l : List Int} {g : Nat} (h : Rd w k ao l) (hne : ∀ a, ao = some a → l ≠ [] → a.block ≠ g) (hk : ∀ p : Addr, p.block ≠ g → w'.cell? p = w.cell? p) : Rd w' k ao l := by
  rcases h with rfl | ⟨b, off, rfl, hc⟩
  · exact .inl rfl
  · by_cases hl : l = []
    · exact .inl hl
    · exact .inr ⟨b, off, rfl, fun i hi => (hk ⟨b, off + i, none⟩ (hne ⟨b, off, none⟩ rfl hl)).trans (hc i hi)⟩
end Go.Proofs.YtfpbhedophlnkaaGreatDoor
namespace Go.Proofs.YtfpbhedophlnkaaGreatDoor
open Go.RowKit
set_option linter.unusedSimpArgs false
set_option linter.unusedVariables false

theorem and255 (x : Int) : 0 ≤ bits .and .i64 x 255 ∧ bits .and .i64 x 255 ≤ 255 := by
  have h : (BitVec.ofInt 64 x &&& BitVec.ofInt 64 255).toNat ≤ 255 := by
    rw [BitVec.toNat_and]
    exact Nat.and_le_right
  have e : bits .and .i64 x 255 = ((BitVec.ofInt 64 x &&& BitVec.ofInt 64 255).toNat : Int) := by
    show IntKind.i64.wrap ((BitVec.ofInt 64 x &&& BitVec.ofInt 64 255).toNat : Int) = _
    rw [IntKind.wrap_i64]; omega
  rw [e]; omega

/-- The cursor in block g over the bytes 'code'. -/
def Cur (w : World) (g : Nat) (ao : Option Addr) (d : Nat) (code : List Int) : Prop :=
  ∃ i h : Int, w.heap[g]? = some (.cells #[.slice ao code.length d, .int .i64 i, .int .i64 h] 159 (0, 0)) ∧ 0 ≤ i ∧ i ≤ code.length ∧ Rd w .u8 ao code ∧ By code ∧ (∀ a, ao = some a → code ≠ [] → a.block ≠ g)
def ByteP (w : World) (g : Nat) (ao : Option Addr) (d : Nat) (code : List Int) (lo hi : Int) (e : Ending) (w' : World) : Prop :=
  ∃ x, e = .returned (.int .i64 x) ∧ lo ≤ x ∧ x ≤ hi ∧ Cur w' g ao d code ∧ w.grownBy w' (some g)

theorem cur_next {w w' : World} {g : Nat} {ao : Option Addr} {d k : Nat} {code : List Int} {h : Int} (hb : w.heap[g]? = some (.cells #[.slice ao code.length d, .int .i64 k, .int .i64 h] 159 (0, 0)))
    (hr : Rd w .u8 ao code) (hby : By code) (hne : ∀ a, ao = some a → code ≠ [] → a.block ≠ g) (hk : k < code.length) {n : Nat} (e : w' = (w.drewN n).setCell ⟨g, 1, none⟩ (.int .i64 ((k : Int) + 1)) := by rfl) : Cur w' g ao d code := by
  subst e
  refine ⟨(k : Int) + 1, h, ?_, by omega, by omega, ?_, hby, hne⟩
  · have hb' : (w.drewN n).heap[g]? = some (.cells #[.slice ao code.length d, .int .i64 k, .int .i64 h] 159 (0, 0)) := hb
    rw [heap_setCell_same (w.drewN n) g 1 _ _ _ hb']; rfl
  · have hr' : Rd (w.drewN n) .u8 ao code := hr
    exact hr'.far hne fun p hp => World.cell?_setCell_other _ _ _ _ (fun e => by subst e; exact hp rfl)
theorem cur_grown {w w1 w' : World} {g n : Nat} {v : Value} (h : w.grownBy w1 (some g)) (e : w' = (w1.drewN n).setCell ⟨g, 1, none⟩ v := by rfl) : w.grownBy w' (some g) := by
  subst e
  exact grownBy_trans h ⟨rfl, rfl, rfl, by simp [World.setCell], fun i _ hi => heap_setCell_other (w1.drewN n) ⟨g, 1, none⟩ i _ (fun e => hi (by simp [e]))⟩

set_option maxRecDepth 100000 in
set_option maxHeartbeats 1600000 in
theorem l01Byte_any (g : Nat) (ao : Option Addr) (d : Nat) (code : List Int) (w : World) (hc : Cur w g ao d code) (hl : code.length ≤ 1048577) :
    Calls Tryz.prog 159 #[.pointer (some ⟨g, 0, none⟩)] w (ByteP w g ao d code 0 255) := by
  obtain ⟨i, h, hb, hi0, hi1, hr, hby, hne⟩ := hc
  have c0 : w.cell? ⟨g, 0, none⟩ = some (.slice ao code.length d) := cell_of_row w g 0 _ _ _ hb
  have c1 : w.cell? ⟨g, 1, none⟩ = some (.int .i64 i) := cell_of_row w g 1 _ _ _ hb
  have c2 : w.cell? ⟨g, 2, none⟩ = some (.int .i64 h) := cell_of_row w g 2 _ _ _ hb
  have f1 : w.frozen? ⟨g, 1, none⟩ = false := by simp [World.frozen?, hb]
  have f2 : w.frozen? ⟨g, 2, none⟩ = false := by simp [World.frozen?, hb]
  have HB := Lib.hid hb; have HR := Lib.hid hr; have HBY := Lib.hid hby; have HNE := Lib.hid hne
  clear hb hr hby hne
  by_cases hlt : i < code.length
  · obtain ⟨b1, off, rfl, hcc⟩ : ∃ b1 off, ao = some ⟨b1, off, none⟩ ∧ ∀ k, k < code.length → w.cell? ⟨b1, off + k, none⟩ = some (.int .u8 (code.getD k 0)) := by
      rcases HR.out with rfl | h'
      · simp at hlt; omega
      · exact h'
    obtain ⟨k, rfl⟩ : ∃ k : Nat, i = k := ⟨i.toNat, by omega⟩
    have hk : k < code.length := by omega
    obtain ⟨z, hz, _, hcz, _⟩ := Rd.at_ hcc hk
    have zb := HBY.out z hz
    have hbg : b1 ≠ g := HNE.out _ rfl (by intro e; rw [e] at hk; simp at hk)
    go_enter Tryz.func159, Tryz.ntmps159
    go_wp2
    generalize wrap64 (wrap64 (h * 6364136223846793005) + 1442695040888963407) = h2
    generalize wrap64 (h * 6364136223846793005) = h3
    obtain ⟨w1, hw1⟩ : ∃ w1, w1 = w.setCell ⟨g, 2, none⟩ (.int .i64 h2) := ⟨_, rfl⟩
    rw [← hw1]
    have B1 : w1.heap[g]? = some (.cells #[.slice (some ⟨b1, off, none⟩) code.length d, .int .i64 k, .int .i64 h2] 159 (0, 0)) := by rw [hw1, heap_setCell_same w g 2 _ _ _ HB.out]; rfl
    have R1 : Rd w1 .u8 (some ⟨b1, off, none⟩) code := by rw [hw1]; exact HR.out.far HNE.out fun p hp => World.cell?_setCell_other _ _ _ _ (fun e => by subst e; exact hp rfl)
    have G1 : w.grownBy w1 (some g) := by rw [hw1]; exact ⟨rfl, rfl, rfl, by simp, fun i _ hi => heap_setCell_other w ⟨g, 2, none⟩ i _ (fun e => hi (by simp [e]))⟩
    have cz : w1.cell? ⟨b1, off + k, none⟩ = some (.int .u8 z) := by rw [hw1, World.cell?_setCell_other _ _ _ _ (by simp)]; exact hcz
    have HB1 := Lib.hid B1; have HR1 := Lib.hid R1; have HG1 := Lib.hid G1
    clear c0 c1 c2 f1 f2 hcc hcz hw1 B1 R1 G1
    have c0 : w1.cell? ⟨g, 0, none⟩ = some (.slice (some ⟨b1, off, none⟩) code.length d) := cell_of_row w1 g 0 _ _ _ HB1.out
    have c1 : w1.cell? ⟨g, 1, none⟩ = some (.int .i64 k) := cell_of_row w1 g 1 _ _ _ HB1.out
    have c2 : w1.cell? ⟨g, 2, none⟩ = some (.int .i64 h2) := cell_of_row w1 g 2 _ _ _ HB1.out
    have f1 : w1.frozen? ⟨g, 1, none⟩ = false := frozen_of_row w1 g 1 _ _ HB1.out
    go_quiet (fail)
    go_wp2
    go_quiet (fail)
    go_wp2
    go_quiet (fail)
    go_wp2
    go_ret
    exact ⟨_, rfl, (and255 _).1, (and255 _).2, cur_next (w := w1) HB1.out HR1.out HBY.out HNE.out hk, cur_grown (w1 := w1) HG1.out⟩
  · go_enter Tryz.func159, Tryz.ntmps159
    go_wp2
    generalize wrap64 (wrap64 (h * 6364136223846793005) + 1442695040888963407) = h2
    generalize wrap64 (h * 6364136223846793005) = h3
    obtain ⟨w1, hw1⟩ : ∃ w1, w1 = w.setCell ⟨g, 2, none⟩ (.int .i64 h2) := ⟨_, rfl⟩
    rw [← hw1]
    have B1 : w1.heap[g]? = some (.cells #[.slice ao code.length d, .int .i64 i, .int .i64 h2] 159 (0, 0)) := by rw [hw1, heap_setCell_same w g 2 _ _ _ HB.out]; rfl
    have R1 : Rd w1 .u8 ao code := by rw [hw1]; exact HR.out.far HNE.out fun p hp => World.cell?_setCell_other _ _ _ _ (fun e => by subst e; exact hp rfl)
    have G1 : w.grownBy w1 (some g) := by rw [hw1]; exact ⟨rfl, rfl, rfl, by simp, fun i _ hi => heap_setCell_other w ⟨g, 2, none⟩ i _ (fun e => hi (by simp [e]))⟩
    have HB1 := Lib.hid B1; have HR1 := Lib.hid R1; have HG1 := Lib.hid G1
    clear c0 c1 c2 f1 f2 hw1 B1 R1 G1
    have c0 : w1.cell? ⟨g, 0, none⟩ = some (.slice ao code.length d) := cell_of_row w1 g 0 _ _ _ HB1.out
    have c1 : w1.cell? ⟨g, 1, none⟩ = some (.int .i64 i) := cell_of_row w1 g 1 _ _ _ HB1.out
    have c2 : w1.cell? ⟨g, 2, none⟩ = some (.int .i64 h2) := cell_of_row w1 g 2 _ _ _ HB1.out
    go_quiet (fail)
    go_wp2
    go_quiet (fail)
    go_wp2
    go_ret
    exact ⟨_, rfl, (and255 _).1, (and255 _).2, ⟨i, h2, HB1.out, hi0, hi1, HR1.out, HBY.out, HNE.out⟩, ⟨HG1.out.os, HG1.out.tape, HG1.out.output, HG1.out.size, HG1.out.block⟩⟩
end Go.Proofs.YtfpbhedophlnkaaGreatDoor
namespace Go.Proofs.YtfpbhedophlnkaaGreatDoor
open Go.RowKit
set_option linter.unusedSimpArgs false
set_option linter.unusedVariables false

theorem Cur.keepB {w w' : World} {g : Nat} {ao : Option Addr} {d : Nat} {code : List Int} (h : Cur w g ao d code) (hb : Below w.heap.size w w') : Cur w' g ao d code := by
  obtain ⟨i, x, h1, h2, h3, h4, h5, h6⟩ := h
  exact ⟨i, x, (hb.block g (lt_of_block h1)).trans h1, h2, h3, h4.below hb, h5, h6⟩
theorem Cur.lt {w : World} {g : Nat} {ao : Option Addr} {d : Nat} {code : List Int} (h : Cur w g ao d code) : g < w.heap.size := by
  obtain ⟨i, x, h1, _⟩ := h
  exact lt_of_block h1

set_option maxRecDepth 100000 in
theorem l01Below_any (g : Nat) (ao : Option Addr) (d : Nat) (code : List Int) (n : Int) (w : World) (hc : Cur w g ao d code) (hl : code.length ≤ 1048577) (h0 : 1 ≤ n) (h1 : n ≤ 256) :
    Calls Tryz.prog 74 #[.pointer (some ⟨g, 0, none⟩), .int .i64 n] w (ByteP w g ao d code 0 (n - 1)) := by
  have C := Lib.hid (l01Byte_any g ao d code w hc hl)
  clear hc hl
  go_enter Tryz.func74, Tryz.ntmps74
  go_wp2_with fail
  refine C.out.mono ?_
  rintro e w1 ⟨x, rfl, x0, x1, hc1, hg1⟩
  have HC1 := Lib.hid hc1; have HG1 := Lib.hid hg1; clear hc1 hg1
  go_wp2
  go_ret
  have e1 : x % n < n := Int.emod_lt_of_pos _ (by omega)
  have e2 : 0 ≤ x % n := Int.emod_nonneg _ (by omega)
  exact ⟨_, rfl, e2, by omega, HC1.out, HG1.out⟩

def OnceP (w : World) (g : Nat) (ao : Option Addr) (d : Nat) (code : List Int) (e : Ending) (w' : World) : Prop :=
  ∃ b : Bool, e = .returned (.bool b) ∧ Cur w' g ao d code ∧ w.grownBy w' (some g)
set_option maxRecDepth 100000 in
theorem l01Once_any (g : Nat) (ao : Option Addr) (d : Nat) (code : List Int) (n : Int) (w : World) (hc : Cur w g ao d code) (hl : code.length ≤ 1048577) (h0 : 1 ≤ n) (h1 : n ≤ 256) :
    Calls Tryz.prog 100 #[.pointer (some ⟨g, 0, none⟩), .int .i64 n] w (OnceP w g ao d code) := by
  have C := Lib.hid (l01Below_any g ao d code n w hc hl h0 h1)
  clear hc hl
  go_enter Tryz.func100, Tryz.ntmps100
  go_wp2_with fail
  refine C.out.mono ?_
  rintro e w1 ⟨x, rfl, x0, x1, hc1, hg1⟩
  have HC1 := Lib.hid hc1; have HG1 := Lib.hid hg1; clear hc1 hg1
  go_wp2
  go_ret
  exact ⟨_, rfl, HC1.out, HG1.out⟩

def PickP (w : World) (g : Nat) (ao : Option Addr) (d : Nat) (code l : List Int) (e : Ending) (w' : World) : Prop :=
  ∃ z, z ∈ l ∧ e = .returned (.int .i64 z) ∧ Cur w' g ao d code ∧ w.grownBy w' (some g)
set_option maxRecDepth 100000 in
theorem l01PickInt_any (g : Nat) (ao : Option Addr) (d : Nat) (code : List Int) (b off c : Nat) (l : List Int) (w : World) (hc : Cur w g ao d code) (hl : code.length ≤ 1048577)
    (hb : ∀ i, i < l.length → w.cell? ⟨b, off + i, none⟩ = some (.int .i64 (l.getD i 0))) (hbg : b ≠ g) (h0 : 1 ≤ l.length) (h1 : l.length ≤ 256) :
    Calls Tryz.prog 146 #[.pointer (some ⟨g, 0, none⟩), .slice (some ⟨b, off, none⟩) l.length c] w (PickP w g ao d code l) := by
  have C := Lib.hid (l01Below_any g ao d code (l.length : Int) w hc hl (by omega) (by omega))
  have HB := Lib.hid hb
  clear hc hl hb
  go_enter Tryz.func146, Tryz.ntmps146
  go_wp2_with fail
  refine C.out.mono ?_
  rintro e w1 ⟨x, rfl, x0, x1, hc1, hg1⟩
  have HC1 := Lib.hid hc1; have HG1 := Lib.hid hg1; clear hc1 hg1
  obtain ⟨k, rfl⟩ : ∃ k : Nat, x = k := ⟨x.toNat, by omega⟩
  have hk : k < l.length := by omega
  obtain ⟨z, hz, _, hcz, _⟩ := Rd.at_ HB.out hk
  have hcz1 : w1.cell? ⟨b, off + k, none⟩ = some (.int .i64 z) := HG1.out.cell hcz (by simp [hbg])
  have HZ := Lib.hid hz
  clear hz hcz
  go_wp2
  go_ret
  exact ⟨z, HZ.out, rfl, HC1.out, HG1.out⟩

def PickT (w : World) (g : Nat) (ao : Option Addr) (d : Nat) (code : List Int) (e : Ending) (w' : World) : Prop :=
  ∃ s : ByteArray, s.size ≤ 100 ∧ e = .returned (.string s) ∧ Cur w' g ao d code ∧ w.grownBy w' (some g)
set_option maxRecDepth 100000 in
theorem l01PickText_any (g : Nat) (ao : Option Addr) (d : Nat) (code : List Int) (b n c : Nat) (w : World) (hc : Cur w g ao d code) (hl : code.length ≤ 1048577)
    (hb : ∀ i, i < n → ∃ s : ByteArray, s.size ≤ 100 ∧ w.cell? ⟨b, i, none⟩ = some (.string s)) (hbg : b ≠ g) (h0 : 1 ≤ n) (h1 : n ≤ 256) :
    Calls Tryz.prog 147 #[.pointer (some ⟨g, 0, none⟩), .slice (some ⟨b, 0, none⟩) n c] w (PickT w g ao d code) := by
  have C := Lib.hid (l01Below_any g ao d code (n : Int) w hc hl (by omega) (by omega))
  have HB := Lib.hid hb
  clear hc hl hb
  go_enter Tryz.func147, Tryz.ntmps147
  go_wp2_with fail
  refine C.out.mono ?_
  rintro e w1 ⟨x, rfl, x0, x1, hc1, hg1⟩
  have HC1 := Lib.hid hc1; have HG1 := Lib.hid hg1; clear hc1 hg1
  obtain ⟨k, rfl⟩ : ∃ k : Nat, x = k := ⟨x.toNat, by omega⟩
  have hk : k < n := by omega
  obtain ⟨s, hs, hcs⟩ := HB.out k hk
  have hcs1 : w1.cell? ⟨b, k, none⟩ = some (.string s) := HG1.out.cell hcs (by simp [hbg])
  have HS := Lib.hid hs
  clear hcs hs
  go_wp2
  go_ret
  exact ⟨s, HS.out, rfl, HC1.out, HG1.out⟩

set_option maxRecDepth 100000 in
theorem l01Size_any (b : Option Addr) (n c : Nat) (w : World) (hn : n ≤ 1048577) :
    Calls Tryz.prog 99 #[.slice b n c, .int .i64 12] w fun e w' => (∃ x : Int, 2 ≤ x ∧ x ≤ 12 ∧ e = .returned (.int .i64 x)) ∧ w = w' := by
  by_cases h : 12 < 2 + n / 16
  · have h' : (12 : Int) < 2 + (n : Int) / 16 := by omega
    go_enter Tryz.func99, Tryz.ntmps99
    go_wp2
    go_ret
    exact ⟨⟨12, by omega, by omega, rfl⟩, rfl⟩
  · have h' : 2 + (n : Int) / 16 ≤ 12 := by omega
    go_enter Tryz.func99, Tryz.ntmps99
    go_wp2
    go_ret
    exact ⟨⟨2 + (n : Int) / 16, by omega, by omega, rfl⟩, rfl⟩

def NewP (w : World) (ao : Option Addr) (d : Nat) (code : List Int) (e : Ending) (w' : World) : Prop :=
  ∃ g, e = .returned (.pointer (some ⟨g, 0, none⟩)) ∧ w.heap.size ≤ g ∧ Cur w' g ao d code ∧ Below w.heap.size w w'
theorem new_cur {w : World} {ao : Option Addr} {d : Nat} {code : List Int} {h : Int} (hr : Rd w .u8 ao code) (hby : By code) :
    Cur (w.alloc (.cells #[.slice ao code.length d, .int .i64 0, .int .i64 h] 159)) w.heap.size ao d code := by
  refine ⟨0, h, heap_alloc_new w _, by omega, by omega, hr.below ((Below.refl _ _).alloc (Nat.le_refl _) _), hby, ?_⟩
  intro a ha hl e
  rcases hr with rfl | ⟨b, off, hh, hc⟩
  · exact hl rfl
  · rw [ha] at hh
    injection hh with hh
    subst hh
    have := World.block_lt_of_cell? w _ (hc 0 (by cases code with | nil => exact absurd rfl hl | cons _ _ => simp))
    simp only at this e; omega

set_option maxRecDepth 100000 in
set_option maxHeartbeats 1600000 in
theorem l01New_any (ao : Option Addr) (d : Nat) (code : List Int) (w : World) (hr : Rd w .u8 ao code) (hby : By code) (hl : code.length ≤ 1048577) :
    Calls Tryz.prog 67 #[.slice ao code.length d] w (NewP w ao d code) := by
  have HR := Lib.hid hr; have HBY := Lib.hid hby
  have hl' : (code.length : Int) ≤ 1048577 := by omega
  clear hby hl
  rcases hr with rfl | ⟨b1, off, rfl, hc⟩
  · go_enter Tryz.func67, Tryz.ntmps67
    go_wp2
    refine wp_loop_rounds 1 ?_; rw [rounds_succ]; go_wp2
    go_ret
    exact ⟨_, rfl, Nat.le_refl _, new_cur HR.out HBY.out, (Below.refl _ _).alloc (Nat.le_refl _) _⟩
  · have HC := Lib.hid hc; clear hc
    go_enter Tryz.func67, Tryz.ntmps67
    go_wp2
    go_loop [3, 4] (fun h i => ∃ (k : Nat) (x : Int), k ≤ code.length ∧ i = .int .i64 k ∧ h = .int .i64 x) (fun _ i => code.length - (intOf i).toNat)
    case atStart => exact ⟨0, _, Nat.zero_le _, rfl, rfl⟩
    case round =>
      obtain ⟨k, x, hk, rfl, rfl⟩ := hrel
      by_cases hlt : k < code.length
      · have hb1 : decide ((k : Int) < code.length) = true := by simp; omega
        have hb1' : decide (k < code.length) = true := by simpa using hlt
        by_cases h4 : k < 4000
        · obtain ⟨z, hz, _, hcz, _⟩ := Rd.at_ HC.out hlt
          have zb := HBY.out z hz
          have h4' : (k : Int) < 4000 := by omega
          clear hz
          go_wp2
          go_round
          case rel => exact ⟨k + 1, _, by omega, by go_num, rfl⟩
          case measure => simp [intOf]; omega
        · have h4' : (4000 : Int) ≤ k := by omega
          go_wp2
          go_ret
          exact ⟨_, rfl, Nat.le_refl _, new_cur HR.out HBY.out, (Below.refl _ _).alloc (Nat.le_refl _) _⟩
      · have hb1' : decide (k < code.length) = false := by simpa using hlt
        go_wp2
        go_ret
        exact ⟨_, rfl, Nat.le_refl _, new_cur HR.out HBY.out, (Below.refl _ _).alloc (Nat.le_refl _) _⟩
end Go.Proofs.YtfpbhedophlnkaaGreatDoor
