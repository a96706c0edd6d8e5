/-
  The names of the scans of a list, each once, by their bytes, as the model puts them in. Plain facts; no walk.
-/
import Derived.Test.YtdkiaahcmoafdaaLess
import Derived.Test.YtdkiaahcmoafdaaRead
import Derived.Test.YtdkiaahcmoafdaaNodes
namespace Go.Proofs.Ytdkiaahcmoafdaa
open Go.RowKit
set_option linter.unusedSimpArgs false
set_option linter.unusedVariables false

/-- A name put into its place, if it is not there. -/
def insS (x : ByteArray) : List ByteArray → List ByteArray
  | [] => [x]
  | y :: l => if x = y then y :: l else if lessS x y = true then x :: y :: l else y :: insS x l
/-- One round of the loop that puts it: what is written, and whether it was put. -/
def insR (x : ByteArray) (s : List ByteArray × Bool) (y : ByteArray) : List ByteArray × Bool :=
  if s.2 = true then (s.1 ++ [y], true) else if x = y then (s.1 ++ [y], true) else if lessS x y = true then (s.1 ++ [x] ++ [y], true) else (s.1 ++ [y], false)
theorem insR_put (x : ByteArray) : ∀ (l : List ByteArray) (n : List ByteArray), l.foldl (insR x) (n, true) = (n ++ l, true)
  | [], n => by simp
  | y :: l, n => by
    rw [List.foldl_cons, show insR x (n, true) y = (n ++ [y], true) from rfl, insR_put x l]; simp
theorem insR_ins (x : ByteArray) : ∀ (l : List ByteArray) (n : List ByteArray), (if (l.foldl (insR x) (n, false)).2 = true then (l.foldl (insR x) (n, false)).1 else (l.foldl (insR x) (n, false)).1 ++ [x]) = n ++ insS x l
  | [], n => by simp [insS]
  | y :: l, n => by
    rw [List.foldl_cons]
    by_cases h1 : x = y
    · rw [show insR x (n, false) y = (n ++ [y], true) by simp [insR, h1], insR_put]
      simp [insS, h1]
    · by_cases h2 : lessS x y = true
      · rw [show insR x (n, false) y = (n ++ [x] ++ [y], true) by simp [insR, h1, h2], insR_put]
        simp [insS, h1, h2]
      · rw [show insR x (n, false) y = (n ++ [y], false) by simp [insR, h1, h2], insR_ins x l]
        simp [insS, h1, h2]
/-- The names of the scans of a list. -/
def scans (l : List Nd) : List ByteArray := (l.filter fun n => n.kind == 0).map (·.name)
/-- What the model answers at a plan. -/
def tabsOf (l : List ByteArray) : List ByteArray := l.foldl (fun out x => insS x out) []
theorem insS_len (x : ByteArray) : ∀ l, (insS x l).length ≤ l.length + 1
  | [] => Nat.le_refl _
  | y :: l => by
    have := insS_len x l
    unfold insS; split
    · simp
    · split <;> simp <;> omega
theorem insS_mem (x : ByteArray) : ∀ l z, z ∈ insS x l ↔ z = x ∨ z ∈ l
  | [], z => by simp [insS]
  | y :: l, z => by
    unfold insS
    split
    · rename_i h; subst h; simp
    · split
      · simp
      · rw [List.mem_cons, insS_mem x l z, List.mem_cons]
        constructor
        · rintro (h | h | h) <;> simp [h]
        · rintro (h | h | h) <;> simp [h]

theorem tabsOf_mem (l : List ByteArray) : ∀ (out : List ByteArray) z, z ∈ l.foldl (fun out x => insS x out) out ↔ z ∈ l ∨ z ∈ out := by
  induction l with
  | nil => intro out z; simp
  | cons x l ih =>
    intro out z
    rw [List.foldl_cons, ih, insS_mem, List.mem_cons]
    constructor
    · rintro (h | h | h) <;> simp [h]
    · rintro ((h | h) | h) <;> simp [h]
theorem tabsOf_len (l : List ByteArray) : ∀ (out : List ByteArray), (l.foldl (fun out x => insS x out) out).length ≤ l.length + out.length := by
  induction l with
  | nil => intro out; simp
  | cons x l ih => intro out; have h1 := ih (insS x out); have h2 := insS_len x out; rw [List.foldl_cons, List.length_cons]; omega
theorem scans_take_no {p : List Nd} {j : Nat} {n : Nd} (h : p[j]? = some n) (hk : n.kind ≠ 0) : scans (p.take (j + 1)) = scans (p.take j) := by
  rw [List.take_add_one, h]; simp [scans, hk]
theorem scans_take_yes {p : List Nd} {j : Nat} {n : Nd} (h : p[j]? = some n) (hk : n.kind = 0) : tabsOf (scans (p.take (j + 1))) = insS n.name (tabsOf (scans (p.take j))) := by
  rw [List.take_add_one, h]; simp [scans, hk, tabsOf]
theorem scans_len (l : List Nd) : (scans l).length ≤ l.length := by
  unfold scans; rw [List.length_map]; exact List.length_filter_le _ _
theorem RdN.name {w : World} {ao : Option Addr} {p : List Nd} (h : RdN w ao p) {n : Nd} (hn : n ∈ p) : n.name.size ≤ maxLen := by
  obtain ⟨i, hi, rfl⟩ := List.mem_iff_getElem.1 hn
  obtain ⟨b, off, n', a, c', rfl, hx, hat⟩ := h.at_ (i := i) hi
  rw [List.getElem?_eq_getElem hi] at hx; cases hx
  exact hat.nm
theorem tabs_name {w : World} {ao : Option Addr} {p : List Nd} (h : RdN w ao p) {j : Nat} {z : ByteArray} (hz : z ∈ tabsOf (scans (p.take j))) : z.size ≤ maxLen := by
  rcases (tabsOf_mem _ _ _).1 hz with h1 | h1
  · unfold scans at h1
    obtain ⟨n, hn, rfl⟩ := List.mem_map.1 h1
    exact h.name (List.mem_of_mem_take (List.mem_filter.1 hn).1)
  · cases h1
theorem insR_len (x : ByteArray) : ∀ (l : List ByteArray) (s : List ByteArray × Bool), (l.foldl (insR x) s).1.length ≤ s.1.length + 2 * l.length
  | [], s => by simp
  | y :: l, s => by
    have h1 := insR_len x l (insR x s y)
    have h2 : (insR x s y).1.length ≤ s.1.length + 2 := by
      unfold insR; repeat' split
      all_goals simp
    rw [List.foldl_cons, List.length_cons]; omega
theorem fold_take {x : ByteArray} {out : List ByteArray} {k : Nat} {y : ByteArray} {s : List ByteArray × Bool} (h : out[k]? = some y) (hs : (out.take k).foldl (insR x) ([], false) = s) : (out.take (k + 1)).foldl (insR x) ([], false) = insR x s y := by
  rw [List.take_add_one, h, List.foldl_append, hs]; rfl
theorem str_eq {x y : ByteArray} : x.toList = y.toList ↔ x = y := by
  rw [ByteArray.toList_eq, ByteArray.toList_eq]
  constructor
  · intro h; apply ByteArray.ext; exact Array.toList_inj.1 h
  · rintro rfl; rfl
end Go.Proofs.Ytdkiaahcmoafdaa
