/-
  strconv.Itoa at every number: what it asks of the library's table. No walk. Texts with one byte between them: plain facts. No program, no walk.
-/
import Derived.Test.YtfpbhedophlnkaaGreatDoorJR24x
import Derived.Test.YtfpbhedophlnkaaGreatDoorShelf7
import Derived.Lib.Join
namespace Go.Proofs.YtfpbhedophlnkaaGreatDoor
open Go.RowKit Go.Shelf
set_option linter.unusedSimpArgs false
set_option linter.unusedVariables false

/-- What the walk asks of the library's table. -/
def GTab (w : World) : Prop := Lib.TabIs Tryz.prog w "internal/strconv.uint64pow10" .u64 Lib.pow10Tab
theorem gtab_below {w w' : World} (h : GTab w) (hb : Below w.heap.size w w') : GTab w' := by
  unfold GTab Lib.TabIs at h ⊢
  unfold World.var? at h ⊢
  cases hg : Tryz.prog.globalNamed "internal/strconv.uint64pow10" with
  | none => simp [hg] at h
  | some g =>
    simp only [hg, Option.bind_some] at h ⊢
    by_cases hlt : g < w.heap.size
    · rw [hb.block g hlt]
      exact h
    · have hn : w.heap[g]? = none := Array.getElem?_eq_none (by omega)
      simp [hn] at h
theorem grow_belowT (w : World) (k : Nat) (os : Array Obj) : Below w.heap.size w (Sort.grow (w.drewN k) os) :=
  ⟨rfl, rfl, rfl, by simp [Sort.grow, World.drewN], fun i hi => by show (w.heap ++ os)[i]? = _; rw [Array.getElem?_append_left hi]⟩
theorem itoaT_any (x : Int) (w : World) (h0 : -9223372036854775808 ≤ x) (h1 : x ≤ 9223372036854775807) (hg : GTab w) :
    Calls Tryz.prog 83 #[.int .i64 x] w fun e w' => e = .returned (.string (numT x)) ∧ Below w.heap.size w w' :=
  (Any.strconv_Itoa Tryz.laysT171 x h0 h1 w hg).mono fun e w' ⟨he, k, os, hw⟩ => ⟨he, hw ▸ grow_belowT _ _ _⟩
end Go.Proofs.YtfpbhedophlnkaaGreatDoor
namespace Go.Proofs.YtfpbhedophlnkaaGreatDoor
set_option linter.unusedSimpArgs false
set_option linter.unusedVariables false

theorem joinB_join (b : UInt8) : ∀ l : List (List UInt8), Lib.join l [b] = joinB b l
  | [] => rfl
  | [x] => by simp [Lib.join, joinB, List.intercalate]
  | x :: y :: r => by
    have := joinB_join b (y :: r)
    simp only [Lib.join, List.intercalate, joinB] at this ⊢
    rw [← this]
    simp [List.intersperse]
theorem joinB_snoc (b : UInt8) : ∀ (l : List (List UInt8)) (x : List UInt8), joinB b (l ++ [x]) = if l = [] then x else joinB b l ++ b :: x
  | [], x => by simp [joinB]
  | [y], x => by simp [joinB]
  | y :: z :: r, x => by
    have := joinB_snoc b (z :: r) x
    simp only [List.cons_append, joinB] at this ⊢
    rw [this]
    simp
theorem joinB_len (b : UInt8) (k : Nat) : ∀ (l : List (List UInt8)), (∀ x ∈ l, x.length ≤ k) → (joinB b l).length ≤ (k + 1) * l.length
  | [], _ => by simp [joinB]
  | [x], h => by have := h x (by simp); simp [joinB]; omega
  | x :: y :: r, h => by
    have h1 := h x (by simp)
    have h2 := joinB_len b k (y :: r) (fun z hz => h z (List.mem_cons_of_mem _ hz))
    have e : (k + 1) * (x :: y :: r).length = (k + 1) * (y :: r).length + (k + 1) := by simp [Nat.mul_add]
    rw [e]
    simp only [joinB, List.length_append, List.length_cons] at h2 ⊢
    omega
theorem joinB_take (b : UInt8) {α : Type} (f : α → List UInt8) {l : List α} {j : Nat} {x : α} (h : l[j]? = some x) : joinB b ((l.take (j + 1)).map f) = if j = 0 then f x else joinB b ((l.take j).map f) ++ b :: f x := by
  have hj : j < l.length := (List.getElem?_eq_some_iff.1 h).1
  have e : l[j] = x := by rw [List.getElem?_eq_getElem hj] at h; injection h
  rw [List.take_succ_eq_append_getElem hj, e, List.map_append, List.map_cons, List.map_nil, joinB_snoc]
  have hl : (l.take j).length = j := by simp; omega
  by_cases h0 : j = 0
  · subst h0; simp
  · rw [if_neg (by intro hh; have hz := congrArg List.length hh; rw [List.length_map, hl] at hz; exact h0 hz), if_neg h0]
theorem bx {X : ByteArray} {l : List UInt8} (h : X.data.toList = l) : X = ⟨l.toArray⟩ := by
  apply ByteArray.ext
  rw [← h]
end Go.Proofs.YtfpbhedophlnkaaGreatDoor
