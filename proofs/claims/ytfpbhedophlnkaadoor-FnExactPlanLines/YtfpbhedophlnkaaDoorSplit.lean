/-
  A text parted at each byte of one kind. Plain facts; no walk.
-/
import Derived.Test.YtfpbhedophlnkaaDoorPure
namespace Go.Proofs.YtfpbhedophlnkaaDoor
set_option linter.unusedSimpArgs false
set_option linter.unusedVariables false

/-- A text parted at each byte of one kind. -/
def splitB (b : UInt8) : List UInt8 → List (List UInt8)
  | [] => [[]]
  | c :: r => if c = b then [] :: splitB b r else
    match splitB b r with
    | [] => [[c]]
    | x :: xs => (c :: x) :: xs
theorem splitB_ne (b : UInt8) : ∀ l, splitB b l ≠ []
  | [] => by simp [splitB]
  | c :: r => by
    unfold splitB
    split
    · simp
    · split <;> simp
theorem split_no {b : UInt8} : ∀ {x : List UInt8}, (∀ c ∈ x, c ≠ b) → splitB b x = [x]
  | [], _ => rfl
  | c :: r, h => by
    unfold splitB
    rw [if_neg (h c (by simp)), split_no (fun d hd => h d (by simp [hd]))]
theorem split_hit {b : UInt8} : ∀ {x : List UInt8} (r : List UInt8), (∀ c ∈ x, c ≠ b) → splitB b (x ++ b :: r) = x :: splitB b r
  | [], r, _ => by simp [splitB]
  | c :: x, r, h => by
    have ih := split_hit (x := x) r (fun d hd => h d (by simp [hd]))
    rw [List.cons_append]
    conv => lhs; unfold splitB
    rw [if_neg (h c (by simp)), ih]
theorem split_len (b : UInt8) : ∀ l, (splitB b l).length ≤ l.length + 1
  | [] => by simp [splitB]
  | c :: r => by
    have ih := split_len b r
    unfold splitB
    split
    · simp; omega
    · split
      · simp
      · rename_i h; rw [h] at ih; simp at ih ⊢; omega
/-- The parts with that byte between them are the text. -/
def joinB (b : UInt8) : List (List UInt8) → List UInt8
  | [] => []
  | [x] => x
  | x :: y :: r => x ++ b :: joinB b (y :: r)
theorem joinB_cons (b c : UInt8) : ∀ (x : List UInt8) (r : List (List UInt8)), joinB b ((c :: x) :: r) = c :: joinB b (x :: r)
  | x, [] => rfl
  | x, y :: r => by simp [joinB]
theorem join_split (b : UInt8) : ∀ l, joinB b (splitB b l) = l
  | [] => rfl
  | c :: r => by
    have ih := join_split b r
    have hne := splitB_ne b r
    unfold splitB
    split
    · rename_i h
      cases hs : splitB b r with
      | nil => exact absurd hs hne
      | cons x xs => rw [hs] at ih; simp only [joinB, List.nil_append]; rw [ih, h]
    · cases hs : splitB b r with
      | nil => exact absurd hs hne
      | cons x xs => simp only; rw [joinB_cons, ← hs, ih]
theorem split_parts {b : UInt8} : ∀ (l x : List UInt8), x ∈ splitB b l → ∀ c ∈ x, c ≠ b
  | [], x, h => by simp [splitB] at h; subst h; simp
  | c :: r, x, h => by
    have ih := split_parts (b := b) r
    unfold splitB at h
    split at h
    · rcases List.mem_cons.1 h with rfl | h
      · simp
      · exact ih x h
    · rename_i hc
      cases hs : splitB b r with
      | nil => rw [hs] at h; simp at h; subst h; intro d hd; simp at hd; subst hd; exact hc
      | cons y ys =>
        rw [hs] at h
        rcases List.mem_cons.1 h with rfl | h
        · intro d hd
          rcases List.mem_cons.1 hd with rfl | hd
          · exact hc
          · exact ih y (by rw [hs]; simp) d hd
        · exact ih x (by rw [hs]; simp [h])
theorem split_part_len (b : UInt8) : ∀ (l x : List UInt8), x ∈ splitB b l → x.length ≤ l.length
  | [], x, h => by simp [splitB] at h; subst h; simp
  | c :: r, x, h => by
    have ih := split_part_len b r
    unfold splitB at h
    split at h
    · rcases List.mem_cons.1 h with rfl | h
      · simp
      · have := ih x h; simp; omega
    · cases hs : splitB b r with
      | nil => rw [hs] at h; simp at h; subst h; simp
      | cons y ys =>
        rw [hs] at h
        rcases List.mem_cons.1 h with rfl | h
        · have := ih y (by rw [hs]; simp); simp; omega
        · have := ih x (by rw [hs]; simp [h]); simp; omega
/-- Parts that do not bear the byte come back. -/
theorem split_join {b : UInt8} : ∀ (l : List (List UInt8)), l ≠ [] → (∀ x ∈ l, ∀ c ∈ x, c ≠ b) → splitB b (joinB b l) = l
  | [], h, _ => absurd rfl h
  | [x], _, h => split_no (h x (by simp))
  | x :: y :: r, _, h => by
    rw [joinB, split_hit _ (h x (by simp)), split_join (y :: r) (by simp) (fun z hz => h z (by simp at hz ⊢; exact Or.inr hz))]
end Go.Proofs.YtfpbhedophlnkaaDoor
