/-
  A node's text, as the two sides put it together. Plain facts; no program, no walk.
-/
import Derived.Test.YtfpbhedophlnkaaDoorKX
namespace Go.Proofs.YtfpbhedophlnkaaDoor
open Go.RowKit
set_option linter.unusedSimpArgs false
set_option linter.unusedVariables false

theorem ba3 (a b c : ByteArray) : a ++ b ++ c = a ++ (b ++ c) := by apply ByteArray.ext; simp [ByteArray.data_append]
section
variable {name : ByteArray} {col op num : Int} {slot : Bool} {cols : List Int}
theorem nd0_eq (h : nodeB ⟨0, name, col, op, num, slot, cols⟩ = true) : ndO ⟨0, name, col, op, num, slot, cols⟩ = ⟨#[115, 99, 97, 110]⟩ ++ ⟨#[32]⟩ ++ name := by
  rw [ndO_yes h]; exact (bx (by simp [ndT, ndB, bl, joinB, ByteArray.data_append])).symm
theorem nd1n_eq (h : nodeB ⟨1, name, col, op, num, slot, cols⟩ = true) (ho : op = 3) : ndO ⟨1, name, col, op, num, slot, cols⟩ = ⟨#[102, 105, 108, 116, 101, 114]⟩ ++ ⟨#[32]⟩ ++ numT col ++ ⟨#[32]⟩ ++ opB op := by
  rw [ndO_yes h]; exact (bx (by simp [ndT, ndB, bl, joinB, ByteArray.data_append, ho])).symm
theorem nd1_eq (h : nodeB ⟨1, name, col, op, num, slot, cols⟩ = true) (ho : op ≠ 3) : ndO ⟨1, name, col, op, num, slot, cols⟩ = ⟨#[102, 105, 108, 116, 101, 114]⟩ ++ ⟨#[32]⟩ ++ numT col ++ ⟨#[32]⟩ ++ opB op ++ ⟨#[32]⟩ ++ litB slot num := by
  rw [ndO_yes h]; exact (bx (by simp [ndT, ndB, bl, joinB, ByteArray.data_append, ho])).symm
theorem nd3_eq (h : nodeB ⟨3, name, col, op, num, slot, cols⟩ = true) : ndO ⟨3, name, col, op, num, slot, cols⟩ = ⟨#[106, 111, 105, 110]⟩ ++ ⟨#[32]⟩ ++ numT col ++ ⟨#[32]⟩ ++ numT num := by
  rw [ndO_yes h]; exact (bx (by simp [ndT, ndB, bl, joinB, ByteArray.data_append])).symm
theorem nd4_eq (h : nodeB ⟨4, name, col, op, num, slot, cols⟩ = true) : ndO ⟨4, name, col, op, num, slot, cols⟩ = ⟨#[98, 111, 116, 104]⟩ := by
  rw [ndO_yes h]; exact (bx (by simp [ndT, ndB, bl, joinB, ByteArray.data_append])).symm
theorem nd5_eq (h : nodeB ⟨5, name, col, op, num, slot, cols⟩ = true) : ndO ⟨5, name, col, op, num, slot, cols⟩ = ⟨#[115, 111, 114, 116]⟩ ++ ⟨#[32]⟩ ++ numT col := by
  rw [ndO_yes h]; exact (bx (by simp [ndT, ndB, bl, joinB, ByteArray.data_append])).symm
theorem nd6_eq (h : nodeB ⟨6, name, col, op, num, slot, cols⟩ = true) : ndO ⟨6, name, col, op, num, slot, cols⟩ = ⟨#[108, 105, 109, 105, 116]⟩ ++ ⟨#[32]⟩ ++ litB slot num := by
  rw [ndO_yes h]; exact (bx (by simp [ndT, ndB, bl, joinB, ByteArray.data_append])).symm
theorem nd7_eq (h : nodeB ⟨7, name, col, op, num, slot, cols⟩ = true) : ndO ⟨7, name, col, op, num, slot, cols⟩ = ⟨#[111, 110, 99, 101]⟩ := by
  rw [ndO_yes h]; exact (bx (by simp [ndT, ndB, bl, joinB, ByteArray.data_append])).symm
end
/-- A keep's text, as far as j of its columns. -/
def kpT (cols : List Int) (j : Nat) : List UInt8 := joinB 32 (([⟨#[107, 101, 101, 112]⟩, numT (cols.length : Int)] ++ (cols.take j).map numT : List ByteArray).map bl)
theorem kpT_zero (cols : List Int) : (⟨#[107, 101, 101, 112]⟩ ++ ⟨#[32]⟩ ++ numT (cols.length : Int) : ByteArray).data.toList = kpT cols 0 := by
  simp [kpT, bl, joinB, ByteArray.data_append]
theorem kpT_step {cols : List Int} {j : Nat} {x : Int} (h : cols[j]? = some x) {X : ByteArray} (hX : X.data.toList = kpT cols j) : (X ++ ⟨#[32]⟩ ++ numT x).data.toList = kpT cols (j + 1) := by
  unfold kpT
  have e : (([⟨#[107, 101, 101, 112]⟩, numT (cols.length : Int)] ++ (cols.take (j + 1)).map numT : List ByteArray).map bl) = (([⟨#[107, 101, 101, 112]⟩, numT (cols.length : Int)] ++ (cols.take j).map numT : List ByteArray).map bl) ++ [bl (numT x)] := by
    rw [List.take_add_one, h]; simp
  rw [e, joinB_snoc, if_neg (by simp)]
  rw [ByteArray.data_append, ByteArray.data_append, Array.toList_append, Array.toList_append, hX]
  simp [kpT, bl]
theorem kpT_all {name : ByteArray} {col op num : Int} {slot : Bool} {cols : List Int} (h : nodeB ⟨2, name, col, op, num, slot, cols⟩ = true) {X : ByteArray} (hX : X.data.toList = kpT cols cols.length) : X = ndO ⟨2, name, col, op, num, slot, cols⟩ := by
  rw [ndO_yes h]
  refine bx ?_
  rw [hX]
  simp [kpT, ndT, ndB]
theorem kpT_len {cols : List Int} (h : ∀ x ∈ cols, 0 ≤ x ∧ x ≤ 63) (hl : cols.length ≤ 6) (j : Nat) : (kpT cols j).length ≤ 176 := by
  have h1 := joinB_len 32 21 (([⟨#[107, 101, 101, 112]⟩, numT (cols.length : Int)] ++ (cols.take j).map numT : List ByteArray).map bl) (fun x hx => by
    obtain ⟨y, hy, rfl⟩ := List.mem_map.1 hx
    rw [bl_len]
    simp only [List.mem_append, List.mem_cons, List.not_mem_nil, or_false, List.mem_map] at hy
    rcases hy with (rfl | rfl) | ⟨z, hz, rfl⟩
    · decide
    · have := numT_size (x := (cols.length : Int)) (by omega) (by omega); omega
    · have := h z (List.mem_of_mem_take hz)
      have := numT_size (x := z) (by omega) (by omega); omega)
  have h2 : (([⟨#[107, 101, 101, 112]⟩, numT (cols.length : Int)] ++ (cols.take j).map numT : List ByteArray).map bl).length ≤ 8 := by simp; omega
  unfold kpT
  omega
end Go.Proofs.YtfpbhedophlnkaaDoor
