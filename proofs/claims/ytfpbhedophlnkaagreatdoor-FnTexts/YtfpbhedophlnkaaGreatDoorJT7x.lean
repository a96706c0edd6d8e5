/-
  A plan that is printed is read as it was: plain facts about the text and its words. No program, no walk. A plan that is printed is read as it was; a place that is told is one of the words or behind them. Plain facts; no program, no walk. What is kept where one block alone has turned. No program, no walk.
-/
import Derived.Test.YtfpbhedophlnkaaGreatDoorJT6x
import Derived.Test.YtfpbhedophlnkaaGreatDoorJT3x
namespace Go.Proofs.YtfpbhedophlnkaaGreatDoor
open Go.RowKit
set_option linter.unusedSimpArgs false
set_option linter.unusedVariables false

theorem blank_no {c : UInt8} (h : 33 ≤ c.toNat) : blankB c = false := by
  unfold blankB
  rw [Bool.or_eq_false_iff]
  constructor <;> (rw [beq_eq_false_iff_ne]; intro e; subst e; revert h; decide)
/-- A word that has bytes, none of them blank. -/
def CleanB (x : ByteArray) : Prop := bl x ≠ [] ∧ ∀ c ∈ bl x, blankB c = false
theorem itoa_clean (x : Int) : ∀ c ∈ Lib.itoa x, blankB c = false := by
  intro c hc
  unfold Lib.itoa at hc
  split at hc
  · rcases List.mem_cons.1 hc with rfl | hc
    · decide
    · have := dec_digit _ c hc; exact blank_no (by omega)
  · have := dec_digit _ c hc; exact blank_no (by omega)
theorem itoa_nil (x : Int) : Lib.itoa x ≠ [] := by
  unfold Lib.itoa
  split
  · simp
  · intro h; have := dec_pos x.toNat; rw [h] at this; simp at this
theorem numT_clean (x : Int) : CleanB (numT x) := by
  unfold CleanB bl
  rw [numT_list]; exact ⟨itoa_nil x, itoa_clean x⟩
theorem word_clean {x : ByteArray} (h : wordB x.data.toList = true) : CleanB x := by
  unfold wordB at h
  simp only [Bool.and_eq_true, decide_eq_true_eq] at h
  obtain ⟨⟨⟨h1, _⟩, _⟩, h4⟩ := h
  refine ⟨fun e => by unfold bl at e; rw [e] at h1; simp at h1, fun c hc => ?_⟩
  unfold allB at h4
  rw [List.all_eq_true] at h4
  have := h4 c hc
  exact blank_no (by unfold charB at this; simp at this; omega)
theorem lit_clean (s : Bool) (x : Int) : CleanB (litB s x) := by
  unfold litB
  split
  · have h := numT_clean x
    unfold CleanB bl at h ⊢
    rw [ByteArray.data_append, Array.toList_append]
    refine ⟨by simp, fun c hc => ?_⟩
    rcases List.mem_append.1 hc with hc | hc
    · simp at hc; subst hc; decide
    · exact h.2 c hc
  · exact numT_clean x
theorem clean_mk {l : List UInt8} (h : l ≠ [] ∧ ∀ c ∈ l, blankB c = false) : CleanB ⟨l.toArray⟩ := by
  unfold CleanB bl; simpa using h
theorem op_clean (op : Int) : CleanB (opB op) := by
  unfold opB
  repeat' split
  all_goals exact clean_mk (by decide)
/-- What a node that is one is, kind by kind. -/
theorem node_form {n : Nd} (h : nodeB n = true) :
    (∃ name, wordB name.data.toList = true ∧ n = ⟨0, name, 0, 0, 0, false, []⟩) ∨
    (∃ col op num slot, (0 ≤ col ∧ col ≤ 63) ∧ (0 ≤ op ∧ op ≤ 3) ∧ (-1000000 ≤ num ∧ num ≤ 1000000) ∧ (op = 3 → num = 0 ∧ slot = false) ∧ (slot = true → 0 ≤ num ∧ num ≤ 39) ∧ n = ⟨1, emptyB, col, op, num, slot, []⟩) ∨
    (∃ cols : List Int, 1 ≤ cols.length ∧ cols.length ≤ 6 ∧ (∀ x ∈ cols, 0 ≤ x ∧ x ≤ 63) ∧ n = ⟨2, emptyB, 0, 0, 0, false, cols⟩) ∨
    (∃ col num, (0 ≤ col ∧ col ≤ 63) ∧ (0 ≤ num ∧ num ≤ 63) ∧ n = ⟨3, emptyB, col, 0, num, false, []⟩) ∨
    n = ⟨4, emptyB, 0, 0, 0, false, []⟩ ∨
    (∃ col, (0 ≤ col ∧ col ≤ 63) ∧ n = ⟨5, emptyB, col, 0, 0, false, []⟩) ∨
    (∃ num slot, (0 ≤ num ∧ num ≤ 1000000) ∧ n = ⟨6, emptyB, 0, 0, num, slot, []⟩) ∨
    n = ⟨7, emptyB, 0, 0, 0, false, []⟩ := by
  have hk := kind_of_nodeB h
  obtain ⟨k, name, col, op, num, slot, cols⟩ := n
  simp only at hk
  have hnm : ∀ s : ByteArray, s.data.toList = [] → s = emptyB := fun s hs => by
    obtain ⟨⟨l⟩⟩ := s
    simp only at hs; subst hs; rfl
  have hc : k = 0 ∨ k = 1 ∨ k = 2 ∨ k = 3 ∨ k = 4 ∨ k = 5 ∨ k = 6 ∨ k = 7 := by omega
  rcases hc with rfl | rfl | rfl | rfl | rfl | rfl | rfl | rfl
  all_goals simp only [nodeB, Int.reduceEq, if_false, if_true] at h
  · simp only [Bool.and_eq_true, decide_eq_true_eq] at h
    obtain ⟨hw, rfl, rfl, rfl, rfl, rfl⟩ := h
    exact .inl ⟨name, hw, rfl⟩
  · obtain ⟨hn, h1, h2, h3, h4, h5, rfl⟩ := of_decide_eq_true h
    obtain rfl := hnm _ hn
    exact .inr (.inl ⟨col, op, num, slot, h1, h2, h3, h4, h5, rfl⟩)
  · simp only [Bool.and_eq_true, decide_eq_true_eq, List.all_eq_true, colB_iff] at h
    obtain ⟨⟨hn, rfl, rfl, rfl, rfl, h1, h2⟩, h3⟩ := h
    obtain rfl := hnm _ hn
    exact .inr (.inr (.inl ⟨cols, h1, h2, h3, rfl⟩))
  · obtain ⟨hn, h1, rfl, h3, rfl, rfl⟩ := of_decide_eq_true h
    obtain rfl := hnm _ hn
    exact .inr (.inr (.inr (.inl ⟨col, num, h1, h3, rfl⟩)))
  · obtain ⟨hn, rfl, rfl, rfl, rfl, rfl⟩ := of_decide_eq_true h
    obtain rfl := hnm _ hn
    exact .inr (.inr (.inr (.inr (.inl rfl))))
  · obtain ⟨hn, h1, rfl, rfl, rfl, rfl⟩ := of_decide_eq_true h
    obtain rfl := hnm _ hn
    exact .inr (.inr (.inr (.inr (.inr (.inl ⟨col, h1, rfl⟩)))))
  · obtain ⟨hn, rfl, rfl, h1, _, rfl⟩ := of_decide_eq_true h
    obtain rfl := hnm _ hn
    exact .inr (.inr (.inr (.inr (.inr (.inr (.inl ⟨num, slot, h1, rfl⟩))))))
  · obtain ⟨hn, rfl, rfl, rfl, rfl, rfl⟩ := of_decide_eq_true h
    obtain rfl := hnm _ hn
    exact .inr (.inr (.inr (.inr (.inr (.inr (.inr rfl))))))
theorem ndB_clean {n : Nd} (h : nodeB n = true) : ∀ x ∈ ndB n, CleanB x := by
  rcases node_form h with ⟨name, hw, rfl⟩ | ⟨col, op, num, slot, h1, h2, h3, h4, h5, rfl⟩ | ⟨cols, h1, h2, h3, rfl⟩ | ⟨col, num, h1, h3, rfl⟩ | rfl | ⟨col, h1, rfl⟩ | ⟨num, slot, h1, rfl⟩ | rfl
  all_goals
    intro x hx
    simp only [ndB, Int.reduceEq, if_false, if_true] at hx
  · rcases List.mem_cons.1 hx with rfl | hx
    · exact clean_mk (by decide)
    · simp at hx; subst hx; exact word_clean hw
  · rcases List.mem_append.1 hx with hx | hx
    · simp at hx
      rcases hx with rfl | rfl | rfl
      · exact clean_mk (by decide)
      · exact numT_clean _
      · exact op_clean _
    · split at hx
      · simp at hx
      · simp at hx; subst hx; exact lit_clean _ _
  · rcases List.mem_append.1 hx with hx | hx
    · simp at hx
      rcases hx with rfl | rfl
      · exact clean_mk (by decide)
      · exact numT_clean _
    · obtain ⟨y, _, rfl⟩ := List.mem_map.1 hx
      exact numT_clean _
  · simp at hx
    rcases hx with rfl | rfl | rfl
    · exact clean_mk (by decide)
    · exact numT_clean _
    · exact numT_clean _
  · simp at hx; subst hx; exact clean_mk (by decide)
  · simp at hx
    rcases hx with rfl | rfl
    · exact clean_mk (by decide)
    · exact numT_clean _
  · simp at hx
    rcases hx with rfl | rfl
    · exact clean_mk (by decide)
    · exact lit_clean _ _
  · simp at hx; subst hx; exact clean_mk (by decide)
theorem ndB_ne (n : Nd) : 1 ≤ (ndB n).length := by
  unfold ndB
  repeat' split
  all_goals simp

theorem dec_le {k u : Nat} (hk : 1 ≤ k) (h : u < 10 ^ k) : (Lib.decDigits u).length ≤ k := by
  by_cases h0 : u = 0
  · subst h0; rw [dec_one (by omega)]; simpa using hk
  · have := leftD_len k u h
    unfold leftD at this
    rwa [if_neg h0] at this
theorem bl_num (x : Int) : bl (numT x) = Lib.itoa x := numT_list x
theorem num2 {x : Int} (h0 : 0 ≤ x) (h1 : x ≤ 63) : (bl (numT x)).length ≤ 2 := by
  rw [bl_num]; unfold Lib.itoa; rw [if_neg (by omega)]
  exact dec_le (by omega) (by have : (10 : Nat) ^ 2 = 100 := by decide
                              omega)
theorem num8 {x : Int} (h0 : -1000000 ≤ x) (h1 : x ≤ 1000000) : (bl (numT x)).length ≤ 8 := by
  rw [bl_num]; unfold Lib.itoa
  split
  · have := dec_len (u := x.natAbs) (by omega); simp only [List.length_cons]; omega
  · have := dec_len (u := x.toNat) (by omega); omega
theorem lit9 (s : Bool) {x : Int} (h0 : -1000000 ≤ x) (h1 : x ≤ 1000000) : (bl (litB s x)).length ≤ 9 := by
  have := num8 h0 h1
  unfold litB
  split
  · unfold bl at this ⊢
    rw [ByteArray.data_append, Array.toList_append, List.length_append]
    simp only [List.length_cons, List.length_nil] at this ⊢; omega
  · omega
theorem op4 (op : Int) : (bl (opB op)).length ≤ 4 := by
  unfold opB
  repeat' split
  all_goals decide
theorem ndT_few {n : Nd} (m : Nat) (hm : ∀ x ∈ ndB n, (bl x).length ≤ m) : (ndT n).length ≤ (m + 1) * (ndB n).length := by
  have h1 := joinB_len 32 m ((ndB n).map bl) (fun x hx => by
    obtain ⟨y, hy, rfl⟩ := List.mem_map.1 hx
    exact hm y hy)
  unfold ndT
  rwa [List.length_map] at h1
/-- A node's text has at most 49 bytes. -/
theorem ndT_49 {n : Nd} (h : nodeB n = true) : (ndT n).length ≤ 49 := by
  have key : ∀ m c, (∀ x ∈ ndB n, (bl x).length ≤ m) → (ndB n).length ≤ c → (m + 1) * c ≤ 49 → (ndT n).length ≤ 49 := fun m c h1 h2 h3 => by
    have h4 := ndT_few m h1
    have h5 := Nat.mul_le_mul_left (m + 1) h2
    omega
  rcases node_form h with ⟨name, hw, rfl⟩ | ⟨col, op, num, slot, h1, h2, h3, h4, h5, rfl⟩ | ⟨cols, h1, h2, h3, rfl⟩ | ⟨col, num, h1, h3, rfl⟩ | rfl | ⟨col, h1, rfl⟩ | ⟨num, slot, h1, rfl⟩ | rfl
  · refine key 12 2 (fun x hx => ?_) (by simp [ndB]) (by decide)
    simp [ndB] at hx
    rcases hx with rfl | rfl
    · decide
    · unfold wordB at hw; simp at hw; unfold bl; rw [Array.length_toList]; exact hw.1.1.2
  · refine key 9 4 (fun x hx => ?_) (by simp only [ndB, Int.reduceEq, if_false, if_true]; split <;> simp) (by decide)
    simp only [ndB, Int.reduceEq, if_false, if_true] at hx
    rcases List.mem_append.1 hx with hx | hx
    · simp at hx
      rcases hx with rfl | rfl | rfl
      · decide
      · have := num2 h1.1 h1.2; omega
      · have := op4 op; omega
    · split at hx
      · simp at hx
      · simp at hx; subst hx; exact lit9 _ h3.1 h3.2
  · refine key 4 8 (fun x hx => ?_) (by simp only [ndB, Int.reduceEq, if_false, if_true]; simp; omega) (by decide)
    simp only [ndB, Int.reduceEq, if_false, if_true] at hx
    rcases List.mem_append.1 hx with hx | hx
    · simp at hx
      rcases hx with rfl | rfl
      · decide
      · have := num2 (x := (cols.length : Int)) (by omega) (by omega); omega
    · obtain ⟨y, hy, rfl⟩ := List.mem_map.1 hx
      have := h3 y hy
      have := num2 this.1 this.2; omega
  · refine key 4 3 (fun x hx => ?_) (by simp [ndB]) (by decide)
    simp [ndB] at hx
    have n1 := num2 h1.1 h1.2
    have n2 := num2 h3.1 h3.2
    rcases hx with rfl | rfl | rfl
    · decide
    · omega
    · omega
  · refine key 4 1 (fun x hx => ?_) (by simp [ndB]) (by decide)
    simp [ndB] at hx; subst hx; decide
  · refine key 4 2 (fun x hx => ?_) (by simp [ndB]) (by decide)
    simp [ndB] at hx
    have n1 := num2 h1.1 h1.2
    rcases hx with rfl | rfl
    · decide
    · omega
  · refine key 9 2 (fun x hx => ?_) (by simp [ndB]) (by decide)
    simp [ndB] at hx
    rcases hx with rfl | rfl
    · decide
    · exact lit9 _ (by omega) h1.2
  · refine key 4 1 (fun x hx => ?_) (by simp [ndB]) (by decide)
    simp [ndB] at hx; subst hx; decide
theorem plan_2000 {p : List Nd} (h : ∀ n ∈ p, nodeB n = true) (h40 : p.length ≤ 40) : (planT p).length ≤ 2000 := by
  have h1 := joinB_len 32 49 (p.map ndT) (fun x hx => by
    obtain ⟨n, hn, rfl⟩ := List.mem_map.1 hx
    exact ndT_49 (h n hn))
  rw [List.length_map] at h1
  unfold planT
  omega

theorem joinB_two (b : UInt8) : ∀ (xs ys : List (List UInt8)), xs ≠ [] → ys ≠ [] → joinB b (xs ++ ys) = joinB b xs ++ b :: joinB b ys
  | [], _, h, _ => absurd rfl h
  | [x], y :: ys, _, _ => rfl
  | [x], [], _, h => absurd rfl h
  | x :: x' :: xs, ys, _, h => by
    have := joinB_two b (x' :: xs) ys (by simp) h
    show x ++ b :: joinB b (x' :: xs ++ ys) = (x ++ b :: joinB b (x' :: xs)) ++ b :: joinB b ys
    rw [this]; simp
theorem joinB_flat (b : UInt8) {α : Type} (f : α → List (List UInt8)) (hf : ∀ a, f a ≠ []) : ∀ l : List α, joinB b (l.map fun a => joinB b (f a)) = joinB b (l.flatMap f)
  | [] => rfl
  | [a] => by simp [joinB]
  | a :: c :: r => by
    have ih := joinB_flat b f hf (c :: r)
    show joinB b (f a) ++ b :: joinB b ((c :: r).map fun a => joinB b (f a)) = _
    rw [ih, List.flatMap_cons]
    refine (joinB_two b (f a) _ (hf a) ?_).symm
    intro h
    exact hf c (List.append_eq_nil_iff.1 h).1
theorem mkBs_bl (x : ByteArray) : mkBs (bl x) = x := by
  obtain ⟨⟨l⟩⟩ := x; rfl
/-- The words of a plan's text are its nodes' words. -/
theorem words_plan {p : List Nd} (h : ∀ n ∈ p, nodeB n = true) (h40 : p.length ≤ 40) : wordsO ⟨(planT p).toArray⟩ = p.flatMap ndB := by
  have hs : (⟨(planT p).toArray⟩ : ByteArray).size = (planT p).length := by show (planT p).toArray.size = _; simp
  have h2 := plan_2000 h h40
  unfold wordsO
  rw [if_neg (by omega)]
  show (wordsL (planT p)).map mkBs = _
  have e : planT p = joinB 32 (p.flatMap fun n => (ndB n).map bl) := by
    unfold planT
    have := joinB_flat 32 (fun n => (ndB n).map bl) (fun n hn => by
      have h1 := ndB_ne n
      have h3 := congrArg List.length hn
      simp at h3
      rw [h3] at h1; simp at h1) p
    exact this
  rw [e, wordsL_join]
  · rw [List.map_flatMap]
    congr 1
    funext n
    rw [List.map_map]
    conv => rhs; rw [← List.map_id (ndB n)]
    exact List.map_congr_left fun x _ => mkBs_bl x
  · intro x hx
    obtain ⟨n, hn, hx⟩ := List.mem_flatMap.1 hx
    obtain ⟨y, hy, rfl⟩ := List.mem_map.1 hx
    exact ndB_clean (h n hn) y hy
end Go.Proofs.YtfpbhedophlnkaaGreatDoor
namespace Go.Proofs.YtfpbhedophlnkaaGreatDoor
open Go.RowKit
set_option linter.unusedSimpArgs false
set_option linter.unusedVariables false

theorem at_pre {α : Type} (a b : List α) (i : Nat) : (a ++ b)[a.length + i]? = b[i]? := by
  rw [List.getElem?_append_right (by omega), Nat.add_sub_cancel_left]
theorem readN_num {x : Int} (h0 : -1000000 ≤ x) (h1 : x ≤ 1000000) : readN (numT x) = some x := readN_yes (fun _ _ => numT_inj) rfl h0 h1
theorem intQ_num {ws : List ByteArray} {p : Nat} {x : Int} (h : ws[p]? = some (numT x)) (h0 : -1000000 ≤ x) (h1 : x ≤ 1000000) : intQ false ws p = some (x, false) := by
  unfold intQ
  rw [h]
  simp only [litQ, cutM, Bool.false_eq_true, false_and, if_false]
  rw [readN_num h0 h1]
theorem itoa_head (x : Int) : (Lib.itoa x).head? ≠ some 36 := by
  intro h
  have hm : (36 : UInt8) ∈ Lib.itoa x := List.mem_of_mem_head? h
  unfold Lib.itoa at hm
  split at hm
  · rcases List.mem_cons.1 hm with hm | hm
    · exact absurd hm (by decide)
    · have := dec_digit _ _ hm; exact absurd this.1 (by decide)
  · have := dec_digit _ _ hm; exact absurd this.1 (by decide)
theorem cut_mark (y : ByteArray) : ((⟨#[36]⟩ : ByteArray) ++ y).extract 1 ((⟨#[36]⟩ : ByteArray) ++ y).size = y := by
  obtain ⟨⟨l⟩⟩ := y
  apply ByteArray.ext
  simp [ByteArray.data_extract, ByteArray.data_append, ByteArray.size_append]
  have e : ({ data := #[36] } : ByteArray).size + ({ data := { toList := l } } : ByteArray).size - 1 = l.length := by
    show 1 + l.length - 1 = l.length
    omega
  rw [e, List.take_length]
theorem intQ_lit {ws : List ByteArray} {p : Nat} {slot : Bool} {x : Int} (h : ws[p]? = some (litB slot x)) (h0 : -1000000 ≤ x) (h1 : x ≤ 1000000) (hs : slot = true → 0 ≤ x) : intQ true ws p = some (x, slot) := by
  unfold intQ
  rw [h]
  cases slot with
  | true =>
    have e : (litB true x).data.toList.head? = some 36 := by
      unfold litB; rw [if_pos rfl, ByteArray.data_append, Array.toList_append]; rfl
    have ec : cutM true (litB true x) = (numT x, true) := by
      unfold cutM; rw [if_pos ⟨rfl, e⟩]
      unfold litB; rw [if_pos rfl, cut_mark]
    simp only [litQ, ec]
    rw [readN_num h0 h1]
    simp only
    rw [if_neg (by have := hs rfl; omega)]
  | false =>
    have e : litB false x = numT x := rfl
    have ec : cutM true (litB false x) = (numT x, false) := by
      unfold cutM
      rw [if_neg (by rw [e, numT_list]; exact fun hh => itoa_head x hh.2), e]
    simp only [litQ, ec]
    rw [readN_num h0 h1]
    simp
theorem colsQ_all {ws : List ByteArray} {p : Nat} {l : List Int} (h : ∀ i x, l[i]? = some x → ws[p + i]? = some (numT x)) (hb : ∀ x ∈ l, 0 ≤ x ∧ x ≤ 63) : ∀ k, k ≤ l.length → colsQ ws p k = .inr (l.take k)
  | 0, _ => by simp [colsQ]
  | k + 1, hk => by
    have hx : l[k]? = some l[k] := List.getElem?_eq_getElem (by omega)
    have hm := hb l[k] (List.getElem_mem _)
    have h1 := intQ_num (h k _ hx) (by omega) (by omega)
    rw [colsQ_yes (colsQ_all h hb k (by omega)) h1, List.take_add_one, hx]; rfl
theorem find_op {op : Int} (h0 : 0 ≤ op) (h1 : op ≤ 3) : findB opsB (opB op) = op := by
  have : op = 0 ∨ op = 1 ∨ op = 2 ∨ op = 3 := by omega
  rcases this with rfl | rfl | rfl | rfl <;> decide
theorem nodeQ_of {ws : List ByteArray} {p : Nat} {s : ByteArray} {k : Int} (h : ws[p]? = some s) (hf : findB verbsB s = k) (hk : 0 ≤ k) : nodeQ ws p = restQ ws k (p + 1) := by
  unfold nodeQ
  rw [h]
  simp only
  rw [hf, if_neg (by omega)]
/-- A node's words, wherever they stand, are read as that node. -/
theorem nodeQ_at {n : Nd} (h : nodeB n = true) (pre post : List ByteArray) : nodeQ (pre ++ (ndB n ++ post)) pre.length = .inr (n, pre.length + (ndB n).length) := by
  obtain ⟨ws, hws⟩ : ∃ ws, ws = pre ++ (ndB n ++ post) := ⟨_, rfl⟩
  have hat : ∀ i x, (ndB n)[i]? = some x → ws[pre.length + i]? = some x := fun i x hx => by
    rw [hws, at_pre, List.getElem?_append_left (List.getElem?_eq_some_iff.1 hx).1]; exact hx
  rw [← hws]
  clear hws
  generalize pre.length = q at hat ⊢
  have hat0 : ∀ x, (ndB n)[0]? = some x → ws[q]? = some x := fun x hx => hat 0 x hx
  rcases node_form h with ⟨name, hw, rfl⟩ | ⟨col, op, num, slot, h1, h2, h3, h4, h5, rfl⟩ | ⟨cols, h1, h2, h3, rfl⟩ | ⟨col, num, h1, h3, rfl⟩ | rfl | ⟨col, h1, rfl⟩ | ⟨num, slot, h1, rfl⟩ | rfl
  · rw [nodeQ_of (hat0 _ rfl) (k := 0) (by decide) (by omega)]
    have a1 := hat 1 name rfl
    simp only [restQ, if_true, a1, hw]
    rfl
  · rw [nodeQ_of (hat0 _ rfl) (k := 1) (by decide) (by omega)]
    have a1 := hat 1 (numT col) rfl
    have a2 := hat 2 (opB op) rfl
    have i1 := intQ_num a1 (by omega) (by omega)
    have f2 := find_op h2.1 h2.2
    simp only [restQ, Int.reduceEq, if_false, if_true, i1]
    rw [show q + 1 + 1 = q + 2 from rfl, a2]
    simp only [f2]
    rw [if_neg (by omega)]
    by_cases ho : op = 3
    · obtain ⟨rfl, rfl⟩ := h4 ho
      subst ho
      simp [ndB]
    · have a3 := hat 3 (litB slot num) (by simp [ndB, ho])
      have i3 := intQ_lit a3 h3.1 h3.2 (fun hs => (h5 hs).1)
      rw [if_neg ho, show q + 1 + 2 = q + 3 from rfl, i3]
      simp [ndB, ho]
  · rw [nodeQ_of (hat0 _ rfl) (k := 2) (by decide) (by omega)]
    have a1 := hat 1 (numT (cols.length : Int)) rfl
    have i1 := intQ_num a1 (by omega) (by omega)
    have hc := colsQ_all (ws := ws) (p := q + 2) (l := cols) (fun i x hx => by
      rw [show q + 2 + i = q + (2 + i) by omega]
      refine hat (2 + i) _ ?_
      simp only [ndB, Int.reduceEq, if_false, if_true]
      rw [List.getElem?_append_right (by simp)]
      simp [hx]) h3 cols.length (Nat.le_refl _)
    simp only [restQ, Int.reduceEq, if_false, if_true, i1]
    rw [if_pos (by omega), show q + 1 + 1 = q + 2 from rfl, Int.toNat_natCast, hc, List.take_length]
    simp [ndB]; omega
  · rw [nodeQ_of (hat0 _ rfl) (k := 3) (by decide) (by omega)]
    have i1 := intQ_num (hat 1 (numT col) rfl) (by omega) (by omega)
    have i2 := intQ_num (hat 2 (numT num) rfl) (by omega) (by omega)
    simp only [restQ, Int.reduceEq, if_false, if_true, i1]
    rw [show q + 1 + 1 = q + 2 from rfl, i2]
    rfl
  · rw [nodeQ_of (hat0 _ rfl) (k := 4) (by decide) (by omega)]
    rfl
  · rw [nodeQ_of (hat0 _ rfl) (k := 5) (by decide) (by omega)]
    have i1 := intQ_num (hat 1 (numT col) rfl) (by omega) (by omega)
    simp only [restQ, Int.reduceEq, if_false, if_true, i1]
    rfl
  · rw [nodeQ_of (hat0 _ rfl) (k := 6) (by decide) (by omega)]
    have i1 := intQ_lit (hat 1 (litB slot num) rfl) (by omega) (by omega) (fun _ => h1.1)
    simp only [restQ, Int.reduceEq, if_false, if_true, i1]
    rfl
  · rw [nodeQ_of (hat0 _ rfl) (k := 7) (by decide) (by omega)]
    rfl

/-- Where the words of the node at a place begin. -/
def posW (p : List Nd) (j : Nat) : Nat := ((p.take j).flatMap ndB).length
theorem arI_arity {n : Nd} (h : nodeB n = true) : arI n.kind = arity n.kind := by
  have hk := kind_of_nodeB h
  have hc : n.kind = 0 ∨ n.kind = 1 ∨ n.kind = 2 ∨ n.kind = 3 ∨ n.kind = 4 ∨ n.kind = 5 ∨ n.kind = 6 ∨ n.kind = 7 := by omega
  rcases hc with h | h | h | h | h | h | h | h <;> rw [h] <;> decide
theorem goQ_step {p : List Nd} {j : Nat} {n : Nd} (hn : p[j]? = some n) (hb : nodeB n = true) (g : Nat) (need : Int) (h1 : 1 ≤ need) :
    goQ (p.flatMap ndB) (g + 1) (p.take j) need (posW p j) = goQ (p.flatMap ndB) g (p.take (j + 1)) (need + arity n.kind - 1) (posW p (j + 1)) := by
  have hj := (List.getElem?_eq_some_iff.1 hn).1
  have hx : p[j] = n := (List.getElem?_eq_some_iff.1 hn).2
  have e : p.flatMap ndB = (p.take j).flatMap ndB ++ (ndB n ++ (p.drop (j + 1)).flatMap ndB) := by
    conv => lhs; rw [← List.take_append_drop j p, List.drop_eq_getElem_cons hj]
    rw [List.flatMap_append, List.flatMap_cons, hx]
  have hq := nodeQ_at hb ((p.take j).flatMap ndB) ((p.drop (j + 1)).flatMap ndB)
  rw [← e] at hq
  have et : p.take (j + 1) = p.take j ++ [n] := by rw [List.take_add_one, hn]; rfl
  have ep : posW p (j + 1) = ((p.take j).flatMap ndB).length + (ndB n).length := by unfold posW; rw [et, List.flatMap_append, List.length_append]; simp
  show (if need ≤ 0 then _ else _) = _
  rw [if_neg (by omega)]
  show (match nodeQ (p.flatMap ndB) ((p.take j).flatMap ndB).length with | .inl q => _ | .inr x => _) = _
  rw [hq]
  simp only
  rw [arI_arity hb, ← et, ← ep]
theorem goQ_grow {p : List Nd} (hall : ∀ n ∈ p, nodeB n = true) : ∀ (f j : Nat) (T : Tr), growT p f j = some T → ∀ (g : Nat) (need : Int), 1 ≤ need →
    goQ (p.flatMap ndB) (g + (T.en - j)) (p.take j) need (posW p j) = goQ (p.flatMap ndB) g (p.take T.en) (need - 1) (posW p T.en) := by
  intro f
  induction f with
  | zero => intro j T h; cases h
  | succ f ih =>
    intro j T h g need hneed
    simp only [growT] at h
    cases hp : p[j]? with
    | none => rw [hp] at h; cases h
    | some n =>
      rw [hp] at h
      simp only at h
      have hn : nodeB n = true := hall n (List.mem_of_getElem? hp)
      rw [hn] at h
      simp only [Bool.true_eq_false, if_false] at h
      split at h
      · rename_i ha
        cases hc : growT p f (j + 1) with
        | none => rw [hc] at h; cases h
        | some c =>
          rw [hc] at h; simp only [Option.some.injEq] at h; subst h
          have hs := growT_sound p _ _ _ hc
          simp only [Tr.en1]
          rw [show g + (c.en - j) = (g + (c.en - (j + 1))) + 1 by omega, goQ_step hp hn _ _ hneed, ha, ih _ _ hc _ _ (by omega)]
          congr 1; omega
      · split at h
        · rename_i ha
          cases hc : growT p f (j + 1) with
          | none => rw [hc] at h; cases h
          | some c =>
            rw [hc] at h; simp only at h
            cases hd : growT p f c.en with
            | none => rw [hd] at h; cases h
            | some e =>
              rw [hd] at h; simp only [Option.some.injEq] at h; subst h
              have hs := growT_sound p _ _ _ hc
              have hs' := growT_sound p _ _ _ hd
              simp only [Tr.en2]
              rw [show g + (e.en - j) = (g + (e.en - c.en) + (c.en - (j + 1))) + 1 by omega, goQ_step hp hn _ _ hneed, ha, ih _ _ hc _ _ (by omega), ih _ _ hd _ _ (by omega)]
              congr 1; omega
        · simp only [Option.some.injEq] at h; subst h
          rename_i ha hb
          have h0 : arity n.kind = 0 := by have := arity_of_nodeB hn; omega
          simp only [Tr.en0]
          rw [show g + (j + 1 - j) = g + 1 by omega, goQ_step hp hn _ _ hneed, h0]
          congr 1; omega
theorem words_ge (p : List Nd) : p.length ≤ (p.flatMap ndB).length := by
  induction p with
  | nil => simp
  | cons n r ih =>
    have := ndB_ne n
    rw [List.flatMap_cons, List.length_append, List.length_cons]; omega
/-- A plan that is printed is read as it was. -/
theorem parse_print {p : List Nd} (h : planB p = true) : parseO (planO p) = (p, -1) := by
  have h40 := planB_40 h
  have hall := planB_nodes h
  obtain ⟨T, hT⟩ : ∃ T, treeN p = some T := by
    cases ht : treeN p with
    | none => simp [planB, ht] at h
    | some T => exact ⟨T, rfl⟩
  obtain ⟨_, hg, he, _⟩ := treeN_some hT
  have hs : (⟨(planT p).toArray⟩ : ByteArray).size = (planT p).length := by show (planT p).toArray.size = _; simp
  have h2 := plan_2000 hall h40
  unfold parseO
  rw [planO_yes h, if_neg (by omega), words_plan hall h40]
  have hw := words_ge p
  have key := goQ_grow hall _ 0 T hg ((p.flatMap ndB).length + 2 - p.length) 1 (by omega)
  rw [he, List.take_length, Nat.sub_zero, show (p.flatMap ndB).length + 2 - p.length + p.length = (p.flatMap ndB).length + 2 by omega] at key
  have ee : posW p p.length = (p.flatMap ndB).length := by unfold posW; rw [List.take_length]
  have e0 : posW p 0 = 0 := rfl
  rw [ee, e0, List.take_zero] at key
  have last : goQ (p.flatMap ndB) ((p.flatMap ndB).length + 2 - p.length) p (1 - 1) (p.flatMap ndB).length = .inr (p, (p.flatMap ndB).length) := by
    rw [show (p.flatMap ndB).length + 2 - p.length = ((p.flatMap ndB).length + 1 - p.length) + 1 by omega]
    show (if (1 - 1 : Int) ≤ 0 then _ else _) = _
    rw [if_pos (by omega)]
  unfold parseQ
  rw [key, last]
  simp only
  rw [if_neg (by omega), if_pos h]
theorem parse_plan {s : ByteArray} (h : (parseO s).2 = -1) : planB (parseO s).1 = true := by
  by_cases hs : 2000 < s.size
  · exfalso
    unfold parseO at h
    rw [if_pos hs] at h
    simp at h
  · have e : parseO s = parseQ (wordsO s) := by unfold parseO; rw [if_neg hs]
    rw [e] at h ⊢
    cases hg : goQ (wordsO s) ((wordsO s).length + 2) [] 1 0 with
    | inl q =>
      exfalso
      unfold parseQ at h
      rw [hg] at h
      simp only at h; omega
    | inr x =>
      unfold parseQ at h ⊢
      rw [hg] at h ⊢
      simp only at h ⊢
      by_cases hlt : x.2 < (wordsO s).length
      · exfalso
        rw [if_pos hlt] at h; simp only at h; omega
      · rw [if_neg hlt] at h ⊢
        by_cases hb : planB x.1 = true
        · rw [if_pos hb]; exact hb
        · exfalso
          rw [if_neg hb] at h; simp only at h; omega
theorem colsQ_le {ws : List ByteArray} {p q : Nat} : ∀ {k : Nat}, colsQ ws p k = .inl q → p ≤ ws.length → q ≤ ws.length
  | 0, h, _ => by simp [colsQ] at h
  | k + 1, h, hp => by
    cases hk : colsQ ws p k with
    | inl q' => simp only [colsQ, hk, Sum.inl.injEq] at h; subst h; exact colsQ_le hk hp
    | inr l =>
      have := colsQ_len hk
      cases hi : intQ false ws (p + k) with
      | none => rw [colsQ_no hk hi] at h; simp only [Sum.inl.injEq] at h; omega
      | some x => rw [colsQ_yes hk hi] at h; cases h
theorem restQ_le {ws : List ByteArray} {k : Int} {p q : Nat} (hp : p ≤ ws.length) (h : restQ ws k p = .inl q) : q ≤ ws.length := by
  unfold restQ at h
  split at h
  · split at h
    · simp at h; omega
    · split at h
      · cases h
      · simp at h; omega
  split at h
  · split at h
    · simp at h; omega
    · rename_i hi
      have := intQ_lt hi
      split at h
      · simp at h; omega
      · rename_i hs
        have hl := (List.getElem?_eq_some_iff.1 hs).1
        split at h
        · simp at h; omega
        · split at h
          · cases h
          · split at h
            · simp at h; omega
            · cases h
  split at h
  · split at h
    · simp at h; omega
    · rename_i hi
      have := intQ_lt hi
      split at h
      · split at h
        · rename_i hc
          simp only [Sum.inl.injEq] at h
          have := colsQ_le hc (by omega)
          omega
        · cases h
      · simp at h; omega
  split at h
  · split at h
    · simp at h; omega
    · rename_i hi
      have := intQ_lt hi
      split at h
      · simp at h; omega
      · cases h
  split at h
  · split at h
    · simp at h; omega
    · cases h
  split at h
  · split at h
    · simp at h; omega
    · cases h
  · cases h
theorem nodeQ_le {ws : List ByteArray} {p q : Nat} (hp : p ≤ ws.length) (h : nodeQ ws p = .inl q) : q ≤ ws.length := by
  unfold nodeQ at h
  cases hw : ws[p]? with
  | none => rw [hw] at h; simp at h; omega
  | some s =>
    have hl := (List.getElem?_eq_some_iff.1 hw).1
    rw [hw] at h
    simp only at h
    split at h
    · simp at h; omega
    · exact restQ_le (by omega) h
theorem goQ_le {ws : List ByteArray} : ∀ (f : Nat) (acc : List Nd) (need : Int) (p q : Nat), p ≤ ws.length → goQ ws f acc need p = .inl q → q ≤ ws.length
  | 0, _, _, p, q, hp, h => by simp [goQ] at h; omega
  | f + 1, acc, need, p, q, hp, h => by
    unfold goQ at h
    split at h
    · cases h
    · split at h
      · rename_i hn
        simp only [Sum.inl.injEq] at h
        have := nodeQ_le hp hn; omega
      · rename_i x hn
        obtain ⟨n, q'⟩ := x
        have := nodeQ_bd hn
        exact goQ_le f _ _ _ _ this.2.1 h
theorem goQ_ri {ws : List ByteArray} : ∀ (f : Nat) (acc : List Nd) (need : Int) (p : Nat) (l : List Nd) (q : Nat), p ≤ ws.length → goQ ws f acc need p = .inr (l, q) → q ≤ ws.length
  | 0, _, _, p, l, q, hp, h => by simp [goQ] at h
  | f + 1, acc, need, p, l, q, hp, h => by
    unfold goQ at h
    split at h
    · simp at h; omega
    · split at h
      · cases h
      · rename_i x hn
        obtain ⟨n, q'⟩ := x
        have := nodeQ_bd hn
        exact goQ_ri f _ _ _ _ _ this.2.1 h
/-- A place that is told is one of the words or behind them. -/
theorem parse_place (s : ByteArray) (h : s.size ≤ 2000) : (parseO s).2 ≤ (wordsO s).length := by
  unfold parseO
  rw [if_neg (by omega)]
  unfold parseQ
  cases hg : goQ (wordsO s) ((wordsO s).length + 2) [] 1 0 with
  | inl q =>
    have := goQ_le _ _ _ _ _ (by omega) hg
    simp only; omega
  | inr x =>
    obtain ⟨l, q⟩ := x
    have := goQ_ri _ _ _ _ _ _ (by omega) hg
    simp only
    split
    · simp only; omega
    · split
      · simp only; omega
      · simp only; omega
end Go.Proofs.YtfpbhedophlnkaaGreatDoor
namespace Go.Proofs.YtfpbhedophlnkaaGreatDoor
open Go.RowKit
set_option linter.unusedSimpArgs false
set_option linter.unusedVariables false

theorem grownBy_trans {a b c : World} {row : Option Nat} (h : a.grownBy b row) (k : b.grownBy c row) : a.grownBy c row :=
  ⟨k.os.trans h.os, k.tape.trans h.tape, k.output.trans h.output, Nat.le_trans h.size k.size, fun i hi hne => (k.block i (Nat.lt_of_lt_of_le hi h.size) hne).trans (h.block i hi hne)⟩
theorem grownBy_below {a b c : World} {row : Option Nat} (h : a.grownBy b row) (k : Below b.heap.size b c) : a.grownBy c row :=
  ⟨k.os.trans h.os, k.tape.trans h.tape, k.output.trans h.output, Nat.le_trans h.size k.size, fun i hi hne => (k.block i (Nat.lt_of_lt_of_le hi h.size)).trans (h.block i hi hne)⟩
theorem Rd.far {w w' : World} {k : IntKind} {ao : Option Addr} {l : List Int} {g : Nat} (h : Rd w k ao l) (hne : ∀ a, ao = some a → l ≠ [] → a.block ≠ g) (hk : ∀ p : Addr, p.block ≠ g → w'.cell? p = w.cell? p) : Rd w' k ao l := by
  rcases h with rfl | ⟨b, off, rfl, hc⟩
  · exact .inl rfl
  · by_cases hl : l = []
    · exact .inl hl
    · exact .inr ⟨b, off, rfl, fun i hi => (hk ⟨b, off + i, none⟩ (hne ⟨b, off, none⟩ rfl hl)).trans (hc i hi)⟩
end Go.Proofs.YtfpbhedophlnkaaGreatDoor
