/-
  strconv.Itoa at every number: what it asks of the library's table. No walk.
-/
import Derived.Test.YtfpbhedophlnkaaDoorKX
import Derived.Test.YtfpbhedophlnkaaDoorShelf7
namespace Go.Proofs.YtfpbhedophlnkaaDoor
open Go.RowKit Go.Shelf
set_option linter.unusedSimpArgs false
set_option linter.unusedVariables false

/-- What the walk asks of the library's table. -/
def GTab (w : World) : Prop := Lib.TabIs Tryd.prog w "internal/strconv.uint64pow10" .u64 Lib.pow10Tab
theorem gtab_below {w w' : World} (h : GTab w) (hb : Below w.heap.size w w') : GTab w' := by
  unfold GTab Lib.TabIs at h ⊢
  unfold World.var? at h ⊢
  cases hg : Tryd.prog.globalNamed "internal/strconv.uint64pow10" with
  | none => simp [hg] at h
  | some g =>
    simp only [hg, Option.bind_some] at h ⊢
    by_cases hlt : g < w.heap.size
    · rw [hb.block g hlt]
      exact h
    · have hn : w.heap[g]? = none := Array.getElem?_eq_none (by omega)
      simp [hn] at h
theorem grow_belowT (w : World) (k : Nat) (os : Array Obj) : Below w.heap.size w (Sort.grow (w.drewN k) os) :=
  ⟨rfl, rfl, rfl, by simp [Sort.grow, World.drewN], fun i hi => by show (w.heap ++ os)[i]? = _; rw [Array.getElem?_append_left hi]⟩
theorem itoaT_any (x : Int) (w : World) (h0 : -9223372036854775808 ≤ x) (h1 : x ≤ 9223372036854775807) (hg : GTab w) :
    Calls Tryd.prog 49 #[.int .i64 x] w fun e w' => e = .returned (.string (numT x)) ∧ Below w.heap.size w w' :=
  (Any.strconv_Itoa Tryd.laysT171 x h0 h1 w hg).mono fun e w' ⟨he, k, os, hw⟩ => ⟨he, hw ▸ grow_belowT _ _ _⟩
end Go.Proofs.YtfpbhedophlnkaaDoor
