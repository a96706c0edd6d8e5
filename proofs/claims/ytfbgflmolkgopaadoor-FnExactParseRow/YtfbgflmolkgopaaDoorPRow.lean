/-
  When a text is a row's. Plain facts; no walk.
-/
import Derived.Test.YtfbgflmolkgopaaDoorTxtP
import Derived.Test.YtfbgflmolkgopaaDoorSplit
import Derived.Test.YtfbgflmolkgopaaDoorSParts
import Derived.Test.YtfbgflmolkgopaaDoorSRead
namespace Go.Proofs.YtfbgflmolkgopaaDoor
open Go.RowKit
set_option linter.unusedSimpArgs false
set_option linter.unusedVariables false

/-- A value. -/
def valR (x : Int) : Prop := (-1000000 ≤ x ∧ x ≤ 1000000) ∨ x = -2000000
def Vals (l : List Int) : Prop := (∀ z ∈ l, valR z) ∧ l.length ≤ 64

theorem jc_joinB : ∀ l : List (List UInt8), jc l = joinB 44 l
  | [] => rfl
  | [x] => rfl
  | x :: y :: r => by simp [jc, joinB, jc_joinB (y :: r)]
theorem itoa_ne (x : Int) : Lib.itoa x ≠ [45] := by
  unfold Lib.itoa
  split
  · intro h
    have h1 := congrArg List.length h
    have h2 := dec_pos x.natAbs
    simp only [List.length_cons, List.length_nil] at h1
    omega
  · intro h
    have := dec_digit x.toNat 45 (by rw [h]; simp)
    simp at this
theorem itoa_chars (x : Int) : ∀ c ∈ Lib.itoa x, c = 45 ∨ (48 ≤ c.toNat ∧ c.toNat ≤ 57) := by
  intro c hc
  unfold Lib.itoa at hc
  split at hc
  · rcases List.mem_cons.1 hc with rfl | hc
    · exact .inl rfl
    · exact .inr (dec_digit _ c hc)
  · exact .inr (dec_digit _ c hc)
theorem vL_eq (x : Int) : vL x = if x = -2000000 then [45] else Lib.itoa x := by
  unfold vL vT; split
  · rfl
  · exact numT_list x
theorem vL_chars (x : Int) : ∀ c ∈ vL x, c ≠ 44 ∧ c ≠ 40 := by
  intro c hc
  rw [vL_eq] at hc
  have key : c = 45 ∨ (48 ≤ c.toNat ∧ c.toNat ≤ 57) := by
    split at hc
    · simp at hc; exact .inl hc
    · exact itoa_chars x c hc
  rcases key with rfl | ⟨h1, h2⟩
  · decide
  · constructor <;> (rintro rfl; simp at h1)
theorem vL_inj {x y : Int} (h : vL x = vL y) : x = y := by
  rw [vL_eq, vL_eq] at h
  split at h
  · rename_i hx
    split at h
    · rename_i hy; rw [hx, hy]
    · exact absurd h.symm (itoa_ne y)
  · split at h
    · exact absurd h (itoa_ne x)
    · apply numT_inj
      unfold numT; rw [h]
theorem vL_ne (x : Int) : vL x ≠ [] := by
  rw [vL_eq]; split
  · simp
  · unfold Lib.itoa; split
    · simp
    · intro h; have := dec_pos x.toNat; rw [h] at this; simp at this
theorem rowT_split {l : List Int} (h : l ≠ []) : splitB 44 (rowT l) = l.map vL := by
  unfold rowT
  rw [if_neg h, jc_joinB, split_join _ (by simpa using h) (by
    intro x hx c hc
    obtain ⟨z, _, rfl⟩ := List.mem_map.1 hx
    exact (vL_chars z c hc).1)]
theorem rowT_face {l : List Int} (h : rowT l = [40, 41]) : l = [] := by
  by_cases hl : l = []
  · exact hl
  · exfalso
    have h1 := rowT_split hl
    rw [h] at h1
    have h2 : splitB 44 [40, 41] = [[40, 41]] := by decide
    rw [h2] at h1
    cases l with
    | nil => exact hl rfl
    | cons x r =>
      rw [List.map_cons, List.cons.injEq] at h1
      exact (vL_chars x 40 (by rw [← h1.1]; simp)).2 rfl
theorem rowT_inj {l m : List Int} (h : rowT l = rowT m) : l = m := by
  by_cases hl : l = []
  · subst hl
    exact (rowT_face (by rw [← h]; rfl)).symm
  · by_cases hm : m = []
    · subst hm
      exact rowT_face (by rw [h]; rfl)
    · have h1 := rowT_split hl
      rw [h, rowT_split hm] at h1
      exact ((List.map_inj_right (fun x y => vL_inj)).1 h1).symm
theorem vL_small {x : Int} (h : valR x) : (vL x).length ≤ 8 := by
  rw [vL_eq]; split
  · simp
  · rename_i hx
    rcases h with h | h
    · have := (num_size x h.1 h.2).2
      rw [← size_list, numT_list] at this
      exact this
    · exact absurd h hx
theorem rowT_small {l : List Int} (h : Vals l) : (rowT l).length ≤ 600 := by
  unfold rowT; split
  · simp
  · have key : ∀ m : List Int, (∀ z ∈ m, valR z) → (jc (m.map vL)).length ≤ 9 * m.length := by
      intro m
      induction m with
      | nil => intro _; simp [jc]
      | cons x r ih =>
        intro hm
        have h1 := vL_small (hm x (by simp))
        have h2 := ih (fun z hz => hm z (List.mem_cons_of_mem _ hz))
        cases r with
        | nil => simp [jc]; omega
        | cons y r => simp only [List.map_cons, jc, List.length_append, List.length_cons, List.length_nil] at h2 ⊢; omega
    have := key l h.1
    have := h.2
    omega
/-- The text's parts. -/
abbrev prt (s : ByteArray) : List (List UInt8) := splitB 44 s.data.toList
/-- All parts are values' texts: so is the text a row's. -/
theorem row_yes {s : ByteArray} {out : List Int} (h : prt s = out.map vL) : s.data.toList = rowT out := by
  have hne : out ≠ [] := by
    rintro rfl
    exact splitB_ne 44 s.data.toList h
  unfold rowT
  rw [if_neg hne, jc_joinB, ← h, join_split]
/-- A part that is no value's text: so the text is no row's. -/
theorem row_no {s : ByteArray} {j : Nat} {x : List UInt8} (hf : s.data.toList ≠ [40, 41]) (hx : (prt s)[j]? = some x) (h : ∀ z, valR z → x ≠ vL z) : ∀ l, Vals l → s.data.toList ≠ rowT l := by
  intro l hl he
  by_cases hn : l = []
  · subst hn; exact hf he
  · have h1 := rowT_split hn
    rw [← he] at h1
    unfold prt at hx
    rw [h1, List.getElem?_map] at hx
    cases hz : l[j]? with
    | none => rw [hz] at hx; cases hx
    | some z =>
      rw [hz] at hx; simp at hx
      exact h z (hl.1 z (List.mem_of_getElem? hz)) hx.symm
theorem row_long {s : ByteArray} (hf : s.data.toList ≠ [40, 41]) (h : 64 < (prt s).length) : ∀ l, Vals l → s.data.toList ≠ rowT l := by
  intro l hl he
  by_cases hn : l = []
  · subst hn; exact hf he
  · have h1 := rowT_split hn
    rw [← he] at h1
    unfold prt at h
    rw [h1, List.length_map] at h
    have := hl.2
    omega
theorem row_big {s : ByteArray} (h : 600 < s.size) : ∀ l, Vals l → s.data.toList ≠ rowT l := by
  intro l hl he
  have h1 := rowT_small hl
  rw [← he, size_list] at h1
  omega
/-- What both answer. -/
def RowPost (s : ByteArray) (w : World) (e : Ending) (w' : World) : Prop :=
  (∃ (l : List Int) (ao : Option Addr) (c : Nat), e = .returned (.tuple #[.slice ao l.length c, .bool true]) ∧ Vals l ∧ s.data.toList = rowT l ∧ Own w' w.heap.size 3 .i64 ao c l ∧ Below w.heap.size w w') ∨
  (e = .returned (.tuple #[.slice none 0 0, .bool false]) ∧ Below w.heap.size w w' ∧ ∀ l, Vals l → s.data.toList ≠ rowT l)
/-- A part's text is that of no value. -/
theorem part_no {x : List UInt8} (h1 : x ≠ [45]) (h2 : ∀ y : Int, -1000000 ≤ y → y ≤ 1000000 → mkB x ≠ numT y) : ∀ z, valR z → x ≠ vL z := by
  intro z hz he
  rw [vL_eq] at he
  split at he
  · exact h1 he
  · rename_i hn
    rcases hz with hz | hz
    · apply h2 z hz.1 hz.2
      unfold mkB numT; rw [he]
    · exact hn hz
theorem part_num {x : List UInt8} {y : Int} (h : mkB x = numT y) (h1 : -1000000 ≤ y) (h2 : y ≤ 1000000) : x = vL y := by
  rw [vL_eq, if_neg (by omega)]
  have := congrArg (fun b => b.data.toList) h
  simpa [mkB, numT] using this
theorem part_none : ([45] : List UInt8) = vL (-2000000) := by rw [vL_eq]; simp
end Go.Proofs.YtfbgflmolkgopaaDoor
