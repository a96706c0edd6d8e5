/-
  What the library's parting of a text at commas gives. Plain facts; no walk.
-/
import Derived.Test.YtfbgflmolkgopaaDoorPRow
import Derived.Lib.Split
import Derived.Lib.IndexMore
import Derived.Lib.IndexBytes
namespace Go.Proofs.YtfbgflmolkgopaaDoor
set_option linter.unusedSimpArgs false
set_option linter.unusedVariables false

theorem ibC_hit {c : UInt8} : ∀ (a d : List UInt8), (∀ x ∈ a, x ≠ c) → Lib.indexByte (a ++ c :: d) c = a.length
  | [], d, _ => by simp [Lib.indexByte]
  | x :: a, d, h => by
    have ih := ibC_hit a d (fun y hy => h y (by simp [hy]))
    rw [List.cons_append]
    unfold Lib.indexByte
    rw [if_neg (by simpa using h x (by simp)), ih, if_neg (by simp)]
    simp
theorem ibC_miss {c : UInt8} : ∀ (a : List UInt8), (∀ x ∈ a, x ≠ c) → Lib.indexByte a c = -1
  | [], _ => rfl
  | x :: a, h => by
    have ih := ibC_miss a (fun y hy => h y (by simp [hy]))
    unfold Lib.indexByte
    rw [if_neg (by simpa using h x (by simp)), ih]
    rfl
theorem mkC_list (x : List UInt8) : (mkB x).data.toList = x := by simp [mkB]
theorem mkC_size (x : List UInt8) : (mkB x).size = x.length := by rw [← size_list, mkC_list]
theorem partC_step (b : UInt8) (x y : List UInt8) (r : List (List UInt8)) (k : Nat) (h : ∀ c ∈ x, c ≠ b) : Lib.splitB ⟨#[b]⟩ 0 (k + 1) (mkB (joinB b (x :: y :: r))) = mkB x :: Lib.splitB ⟨#[b]⟩ 0 k (mkB (joinB b (y :: r))) := by
  have hi : Lib.indexB (mkB (joinB b (x :: y :: r))) ⟨#[b]⟩ = x.length := by
    show Lib.index (mkB _).data.toList [b] = _
    rw [mkC_list, Lib.index_one]
    exact ibC_hit x _ h
  rw [Lib.splitB_hit _ _ _ _ _ hi, ext_mk, ext_mk, mkC_list]
  have e1 : ((joinB b (x :: y :: r)).drop 0).take (x.length + 0 - 0) = x := by simp [joinB]
  have e2 : ((joinB b (x :: y :: r)).drop (x.length + (ByteArray.mk #[b]).size)).take ((mkB (joinB b (x :: y :: r))).size - (x.length + (ByteArray.mk #[b]).size)) = joinB b (y :: r) := by
    have h1 : (ByteArray.mk #[b]).size = 1 := rfl
    rw [h1, mkC_size]
    have h2 : (joinB b (x :: y :: r)).drop (x.length + 1) = joinB b (y :: r) := by
      simp only [joinB]
      rw [← List.drop_drop]
      simp
    rw [h2]
    apply List.take_of_length_le
    simp only [joinB, List.length_append, List.length_cons]
    omega
  rw [e1, e2]
theorem partC_words (b : UInt8) : ∀ (xs : List (List UInt8)) (k : Nat), xs ≠ [] → (∀ x ∈ xs, ∀ c ∈ x, c ≠ b) → xs.length ≤ k + 1 → Lib.splitB ⟨#[b]⟩ 0 k (mkB (joinB b xs)) = xs.map mkB
  | [], k, h, _, _ => absurd rfl h
  | [x], k, _, h, _ => by
    have : Lib.indexB (mkB x) ⟨#[b]⟩ = -1 := by
      show Lib.index (mkB x).data.toList [b] = -1
      rw [mkC_list, Lib.index_one, ibC_miss x (h x (by simp))]
    exact Lib.splitB_miss _ _ _ _ this
  | x :: y :: r, 0, _, _, hk => by simp at hk
  | x :: y :: r, k + 1, _, h, hk => by
    have ih := partC_words b (y :: r) k (by simp) (fun z hz => h z (List.mem_cons_of_mem _ hz)) (by simp at hk ⊢; omega)
    rw [partC_step b x y r k (h x (by simp)), ih]
    rfl
theorem partC_more (b : UInt8) : ∀ (xs : List (List UInt8)) (k : Nat), (∀ x ∈ xs, ∀ c ∈ x, c ≠ b) → k + 1 ≤ xs.length → (Lib.splitB ⟨#[b]⟩ 0 k (mkB (joinB b xs))).length = k + 1
  | [], k, _, hk => by simp at hk
  | [x], 0, _, _ => by simp [Lib.splitB]
  | [x], k + 1, _, hk => by simp at hk
  | x :: y :: r, 0, _, hk => by simp [Lib.splitB]
  | x :: y :: r, k + 1, h, hk => by
    have ih := partC_more b (y :: r) k (fun z hz => h z (List.mem_cons_of_mem _ hz)) (by simp at hk ⊢; omega)
    rw [partC_step b x y r k (h x (by simp)), List.length_cons, ih]
/-- The library's parts of a text, at most 65. -/
abbrev cparts (s : ByteArray) : List ByteArray := Lib.splitB ⟨#[44]⟩ 0 (min 65 (s.size + 1) - 1) s
theorem prt_mk (s : ByteArray) : s = mkB (joinB 44 (prt s)) := by
  apply ByteArray.ext
  apply Array.toList_inj.1
  rw [mkC_list]
  unfold prt
  rw [join_split]
theorem prt_len (s : ByteArray) : (prt s).length ≤ s.size + 1 := by
  have := split_len 44 s.data.toList
  rw [size_list] at this
  exact this
theorem cparts_few {s : ByteArray} (h : (prt s).length ≤ 64) : cparts s = (prt s).map mkB := by
  have hl := prt_len s
  have key := partC_words 44 (prt s) (min 65 (s.size + 1) - 1) (splitB_ne _ _) (fun x hx => split_parts _ x hx) (by omega)
  rw [← prt_mk s] at key
  exact key
theorem cparts_more {s : ByteArray} (h : 64 < (prt s).length) : (cparts s).length = 65 := by
  have hl := prt_len s
  have key := partC_more 44 (prt s) (min 65 (s.size + 1) - 1) (fun x hx => split_parts _ x hx) (by omega)
  rw [← prt_mk s] at key
  show (Lib.splitB ⟨#[44]⟩ 0 (min 65 (s.size + 1) - 1) s).length = 65
  rw [key]; omega
theorem cparts_le {s : ByteArray} (h : (prt s).length ≤ 64) : (cparts s).length ≤ 64 := by
  rw [cparts_few h, List.length_map]; exact h
end Go.Proofs.YtfbgflmolkgopaaDoor
