/-
  strings.Join at slices of the call's own, with one byte between. No walk.
-/
import Derived.Test.YtfpbhedophlnkaaDoorJoinP
import Derived.Test.YtfpbhedophlnkaaDoorAppS
import Derived.Test.YtfpbhedophlnkaaDoorShelf5
namespace Go.Proofs.YtfpbhedophlnkaaDoor
open Go.RowKit Go.Shelf
set_option linter.unusedSimpArgs false
set_option linter.unusedVariables false

theorem Tryd.extra156 : Builder.Extra Tryd.prog Tryd.lays156_ren where
  sizeBuilder := by kernel_rfl
  liesBuilder := by kernel_rfl
  t5 := Tryd.underlying5
  a5 := Tryd.isAgg5
  z5 := Tryd.sizeOf5
  v5 := Tryd.zeroValue5
  infoByte := by kernel_rfl
  cellsByte := by kernel_rfl
  sizeByte := by kernel_rfl
  neB5 := by decide
theorem ownS_capT {w : World} {base : Nat} {ao : Option Addr} {c : Nat} {l : List ByteArray} (h : OwnS w base ao c l) : l.length ≤ c := by
  rcases h.2 with ⟨hv, hn⟩ | ⟨g, cap, cur, hv, _, _, h1, _⟩
  · omega
  · simp only [Value.slice.injEq] at hv; omega
theorem joinI_any (b : UInt8) (base : Nat) (ao : Option Addr) (c n : Nat) (xs : List ByteArray) (hn : n = xs.length) (w : World) (h : OwnS w base ao c xs) (hlen : (joinB b (xs.map (·.data.toList))).length ≤ 140737488355328) (h8 : xs.length ≤ 1048576) :
    Calls Tryd.prog 31 #[.slice ao n c, .string ⟨#[b]⟩] w fun e w' => e = .returned (.string ⟨(joinB b (xs.map (·.data.toList))).toArray⟩) ∧ Below w.heap.size w w' := by
  subst hn
  rcases h.form with ⟨rfl, rfl, rfl⟩ | ⟨g, rfl, _, hg⟩
  · exact (Any.strings_Join_none Tryd.lays156 Tryd.extra156 none 0 ⟨#[b]⟩ w).mono fun e w' ⟨he, hw⟩ => ⟨he, hw ▸ Below.refl _ _⟩
  · have hj := Any.strings_Join Tryd.lays156 Tryd.extra156 g 0 c xs ⟨#[b]⟩ w (fun j x hx => by
      have hl := (List.getElem?_eq_some_iff.1 hx).1
      have := h.cell j hl
      rw [List.getD_eq_getElem?_getD, hx] at this
      rw [Nat.zero_add]; exact this) hg (by omega) (ownS_capT h) (by
        have e := joinB_join b (xs.map (·.data.toList))
        show (Lib.join _ [b]).length ≤ _
        rw [e]; exact hlen)
    have e := joinB_join b (xs.map (·.data.toList))
    have e' : Lib.join (xs.map (·.data.toList)) (ByteArray.mk #[b]).data.toList = joinB b (xs.map (·.data.toList)) := e
    rw [e'] at hj
    exact hj
end Go.Proofs.YtfpbhedophlnkaaDoor
