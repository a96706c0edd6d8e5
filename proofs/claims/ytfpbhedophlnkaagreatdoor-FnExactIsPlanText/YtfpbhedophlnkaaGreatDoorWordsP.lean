/-
  A text parted into words by its bytes 32 and 10. Plain facts; no program, no walk.
-/
import Derived.Test.YtfpbhedophlnkaaGreatDoorSplit
namespace Go.Proofs.YtfpbhedophlnkaaGreatDoor
set_option linter.unusedSimpArgs false
set_option linter.unusedVariables false

def blankB (c : UInt8) : Bool := c == 32 || c == 10
/-- The words that are whole, and the one that is begun. -/
def wstep (st : List (List UInt8) × List UInt8) (c : UInt8) : List (List UInt8) × List UInt8 :=
  if blankB c = true then (if st.2 = [] then st.1 else st.1 ++ [st.2], []) else (st.1, st.2 ++ [c])
def wfin (st : List (List UInt8) × List UInt8) : List (List UInt8) := if st.2 = [] then st.1 else st.1 ++ [st.2]
def wrun (l : List UInt8) : List (List UInt8) × List UInt8 := l.foldl wstep ([], [])
def wordsL (l : List UInt8) : List (List UInt8) := wfin (wrun l)
theorem wrun_snoc (l : List UInt8) (c : UInt8) : wrun (l ++ [c]) = wstep (wrun l) c := by simp [wrun]
theorem wrun_app (l m : List UInt8) : wrun (l ++ m) = m.foldl wstep (wrun l) := by simp [wrun]
theorem wrun_take {l : List UInt8} {j : Nat} {c : UInt8} (h : l[j]? = some c) : wrun (l.take (j + 1)) = wstep (wrun (l.take j)) c := by
  rw [List.take_add_one, h, Option.toList_some, wrun_snoc]
theorem wstep_blank {st : List (List UInt8) × List UInt8} {c : UInt8} (h : blankB c = true) : wstep st c = (wfin st, []) := by
  unfold wstep wfin; rw [if_pos h]
theorem wstep_other {st : List (List UInt8) × List UInt8} {c : UInt8} (h : blankB c = false) : wstep st c = (st.1, st.2 ++ [c]) := by
  unfold wstep; rw [if_neg (by rw [h]; simp)]
theorem wfold_other : ∀ (m : List UInt8) (st : List (List UInt8) × List UInt8), (∀ c ∈ m, blankB c = false) → m.foldl wstep st = (st.1, st.2 ++ m)
  | [], st, _ => by simp
  | c :: m, st, h => by
    rw [List.foldl_cons, wstep_other (h c (by simp)), wfold_other m _ (fun d hd => h d (by simp [hd]))]
    simp
/-- Bytes that are no blanks behind what was read. -/
theorem wrun_others {l : List UInt8} {j k : Nat} (hk : j ≤ k) (h : ∀ i, j ≤ i → i < k → ∀ c, l[i]? = some c → blankB c = false) :
    wrun (l.take k) = ((wrun (l.take j)).1, (wrun (l.take j)).2 ++ (l.drop j).take (k - j)) := by
  have e : l.take k = l.take j ++ (l.drop j).take (k - j) := by
    have h1 := List.take_append_drop j (l.take k)
    rw [List.take_take, List.drop_take, Nat.min_eq_left hk] at h1
    exact h1.symm
  rw [e, wrun_app]
  refine wfold_other _ _ (fun c hc => ?_)
  obtain ⟨i, hi⟩ := List.mem_iff_getElem?.1 hc
  rw [List.getElem?_take] at hi
  split at hi
  · rw [List.getElem?_drop] at hi
    exact h (j + i) (by omega) (by omega) c hi
  · cases hi
theorem wrun_len (l : List UInt8) : (wrun l).1.length ≤ l.length ∧ (wrun l).2.length ≤ l.length ∧ (∀ x ∈ (wrun l).1, x.length ≤ l.length ∧ x ≠ []) ∧ ((wrun l).2 ≠ [] → (wrun l).1.length < l.length) := by
  obtain ⟨r, rfl⟩ : ∃ r : List UInt8, l = r.reverse := ⟨l.reverse, by simp⟩
  induction r with
  | nil => simp [wrun]
  | cons c r ih =>
    rw [List.reverse_cons, wrun_snoc]
    obtain ⟨h1, h2, h3, h4⟩ := ih
    simp only [List.length_append, List.length_cons, List.length_nil]
    cases hb : blankB c with
    | true =>
      rw [wstep_blank hb]
      unfold wfin
      by_cases hn : (wrun r.reverse).2 = []
      · rw [if_pos hn]
        refine ⟨by simp only; omega, by simp, fun x hx => ?_, by simp⟩
        have := h3 x hx
        exact ⟨by omega, this.2⟩
      · rw [if_neg hn]
        have := h4 hn
        refine ⟨by simp only [List.length_append, List.length_cons, List.length_nil]; omega, by simp, fun x hx => ?_, by simp⟩
        rcases List.mem_append.1 hx with hx | hx
        · have := h3 x hx
          exact ⟨by omega, this.2⟩
        · simp at hx; subst hx
          exact ⟨by omega, hn⟩
    | false =>
      rw [wstep_other hb]
      refine ⟨by simp only; omega, by simp only [List.length_append, List.length_cons, List.length_nil]; omega, fun x hx => ?_, fun _ => by simp only; omega⟩
      have := h3 x hx
      exact ⟨by omega, this.2⟩
theorem wordsL_len (l : List UInt8) : (wordsL l).length ≤ l.length ∧ ∀ x ∈ wordsL l, x.length ≤ l.length ∧ x ≠ [] := by
  obtain ⟨h1, h2, h3, h4⟩ := wrun_len l
  unfold wordsL wfin
  by_cases hn : (wrun l).2 = []
  · rw [if_pos hn]; exact ⟨h1, h3⟩
  · rw [if_neg hn]
    refine ⟨by simp; have := h4 hn; omega, fun x hx => ?_⟩
    rcases List.mem_append.1 hx with hx | hx
    · exact h3 x hx
    · simp at hx; subst hx; exact ⟨h2, hn⟩
/-- Words with single blanks between are read as they were. -/
theorem wordsL_join : ∀ (ws : List (List UInt8)), (∀ x ∈ ws, x ≠ [] ∧ ∀ c ∈ x, blankB c = false) → wordsL (joinB 32 ws) = ws := by
  have key : ∀ (ws : List (List UInt8)) (acc : List (List UInt8)), (∀ x ∈ ws, x ≠ [] ∧ ∀ c ∈ x, blankB c = false) → wfin ((joinB 32 ws).foldl wstep (acc, [])) = acc ++ ws := by
    intro ws
    induction ws with
    | nil => intro acc _; simp [joinB, wfin]
    | cons x r ih =>
      intro acc h
      obtain ⟨hx, hc⟩ := h x (by simp)
      cases r with
      | nil => simp only [joinB]; rw [wfold_other _ _ hc]; simp [wfin, hx]
      | cons y r =>
        simp only [joinB, List.foldl_append, List.foldl_cons]
        rw [wfold_other _ _ hc, wstep_blank (by decide)]
        simp only [wfin, List.nil_append, if_neg hx]
        rw [show ∀ st : List (List UInt8) × List UInt8, (if st.2 = [] then st.1 else st.1 ++ [st.2]) = wfin st from fun _ => rfl, ih _ (fun z hz => h z (by simp [List.mem_cons.1 hz]))]
        simp
  intro ws h
  have := key ws [] h
  simpa [wordsL, wrun] using this
def mkBs (x : List UInt8) : ByteArray := ⟨x.toArray⟩
theorem mkBs_list (x : List UInt8) : (mkBs x).data.toList = x := by simp [mkBs]
theorem mkBs_size (x : List UInt8) : (mkBs x).size = x.length := by show x.toArray.size = _; simp
/-- WordsOf's answer. -/
def wordsO (s : ByteArray) : List ByteArray := if 2000 < s.size then [] else (wordsL s.data.toList).map mkBs
end Go.Proofs.YtfpbhedophlnkaaGreatDoor
