/-
  A node, a plan as text: its words, with single blanks between. Plain facts; no program, no walk. A plan's text, as far as j nodes. Plain facts; no program, no walk. Reading a plan's words, as plain functions: what is read and the place behind it, or the place of the first word that cannot stand there. No program, no walk. Digits and what they are worth. Plain facts; no walk.
-/
import Derived.Test.YtfpbhedophlnkaaGreatDoorJT3x
import Derived.Test.YtfpbhedophlnkaaGreatDoorJT4x
import Derived.Test.YtfpbhedophlnkaaGreatDoorJT5x
namespace Go.Proofs.YtfpbhedophlnkaaGreatDoor
open Go.RowKit
set_option linter.unusedSimpArgs false
set_option linter.unusedVariables false

def opB (op : Int) : ByteArray := if op = 0 then ⟨#[61]⟩ else if op = 1 then ⟨#[60]⟩ else if op = 2 then ⟨#[62]⟩ else ⟨#[110, 111, 110, 101]⟩
def litB (slot : Bool) (num : Int) : ByteArray := if slot then ⟨#[36]⟩ ++ numT num else numT num
/-- A node's words. -/
def ndB (n : Nd) : List ByteArray :=
  if n.kind = 0 then [⟨#[115, 99, 97, 110]⟩, n.name]
  else if n.kind = 1 then [⟨#[102, 105, 108, 116, 101, 114]⟩, numT n.col, opB n.op] ++ (if n.op = 3 then [] else [litB n.slot n.num])
  else if n.kind = 2 then [⟨#[107, 101, 101, 112]⟩, numT (n.cols.length : Int)] ++ n.cols.map numT
  else if n.kind = 3 then [⟨#[106, 111, 105, 110]⟩, numT n.col, numT n.num]
  else if n.kind = 4 then [⟨#[98, 111, 116, 104]⟩]
  else if n.kind = 5 then [⟨#[115, 111, 114, 116]⟩, numT n.col]
  else if n.kind = 6 then [⟨#[108, 105, 109, 105, 116]⟩, litB n.slot n.num]
  else [⟨#[111, 110, 99, 101]⟩]
def bl (x : ByteArray) : List UInt8 := x.data.toList
def ndT (n : Nd) : List UInt8 := joinB 32 ((ndB n).map bl)
/-- NodeText's answer. -/
def ndO (n : Nd) : ByteArray := if nodeB n = true then ⟨(ndT n).toArray⟩ else ⟨#[]⟩
def planT (p : List Nd) : List UInt8 := joinB 32 (p.map ndT)
/-- PrintPlan's answer. -/
def planO (p : List Nd) : ByteArray := if planB p = true then ⟨(planT p).toArray⟩ else ⟨#[]⟩

theorem bl_len (x : ByteArray) : (bl x).length = x.size := by unfold bl; rw [Array.length_toList]; rfl
theorem ndO_yes {n : Nd} (h : nodeB n = true) : ndO n = ⟨(ndT n).toArray⟩ := by unfold ndO; rw [if_pos h]
theorem ndO_no {n : Nd} (h : nodeB n = false) : ndO n = ⟨#[]⟩ := by unfold ndO; rw [if_neg (by rw [h]; simp)]
theorem ndO_list {n : Nd} (h : nodeB n = true) : (ndO n).data.toList = ndT n := by rw [ndO_yes h]
/-- The numbers of a node that is one are all small. -/
theorem nums_of_nodeB {n : Nd} (h : nodeB n = true) : (0 ≤ n.kind ∧ n.kind ≤ 7) ∧ n.name.size ≤ 12 ∧ (0 ≤ n.col ∧ n.col ≤ 63) ∧ (0 ≤ n.op ∧ n.op ≤ 3) ∧ (-1000000 ≤ n.num ∧ n.num ≤ 1000000) ∧ (n.cols.length ≤ 6 ∧ ∀ x ∈ n.cols, 0 ≤ x ∧ x ≤ 63) := by
  have hk := kind_of_nodeB h
  obtain ⟨k, name, col, op, num, slot, cols⟩ := n
  simp only at hk ⊢
  have hnm : ∀ s : ByteArray, s.data.toList = [] → s.size ≤ 12 := fun s hs => by
    have : s.data.toList.length = s.size := by rw [Array.length_toList]; rfl
    rw [← this, hs]; simp
  have hc : k = 0 ∨ k = 1 ∨ k = 2 ∨ k = 3 ∨ k = 4 ∨ k = 5 ∨ k = 6 ∨ k = 7 := by omega
  rcases hc with rfl | rfl | rfl | rfl | rfl | rfl | rfl | rfl
  all_goals
    simp only [nodeB, Int.reduceEq, if_false, if_true] at h
    first
    | (simp only [Bool.and_eq_true, decide_eq_true_eq] at h
       obtain ⟨hw, rfl, rfl, rfl, rfl, rfl⟩ := h
       refine ⟨by omega, ?_, by omega, by omega, by omega, by simp, by simp⟩
       have : name.data.toList.length = name.size := by rw [Array.length_toList]; rfl
       unfold wordB at hw
       simp at hw
       have h12 := hw.1
       omega)
    | (have h' := of_decide_eq_true h
       obtain ⟨hn, h'⟩ := h'
       refine ⟨by omega, hnm _ hn, ?_⟩
       clear hnm hn
       simp_all <;> omega)
    | (have h' := of_decide_eq_true h
       obtain ⟨hn, h'⟩ := h'
       refine ⟨by omega, hnm _ hn, ?_⟩
       clear hnm hn
       simp_all)
    | (simp only [Bool.and_eq_true, decide_eq_true_eq, List.all_eq_true, colB_iff] at h
       obtain ⟨⟨hn, rfl, rfl, rfl, rfl, h1, h2⟩, h3⟩ := h
       exact ⟨by omega, hnm _ hn, by omega, by omega, by omega, h2, h3⟩)
theorem opB_size (op : Int) : (opB op).size ≤ 4 := by unfold opB; repeat' split
                                                      all_goals decide
theorem litB_size {s : Bool} {x : Int} (h0 : -1000000 ≤ x) (h1 : x ≤ 1000000) : (litB s x).size ≤ 21 := by
  have := numT_size (x := x) (by omega) (by omega)
  unfold litB; split
  · rw [ByteArray.size_append]; have : (⟨#[36]⟩ : ByteArray).size = 1 := rfl
    omega
  · omega
theorem ndB_size {n : Nd} (h : nodeB n = true) : ∀ x ∈ ndB n, x.size ≤ 21 := by
  obtain ⟨hk, hnm, hcol, hop, hnum, hcl, hcs⟩ := nums_of_nodeB h
  have n1 := numT_size (x := n.col) (by omega) (by omega)
  have n2 := numT_size (x := n.num) (by omega) (by omega)
  have n3 := numT_size (x := (n.cols.length : Int)) (by omega) (by omega)
  have n4 := opB_size n.op
  have n5 := litB_size (s := n.slot) hnum.1 hnum.2
  intro x hx
  unfold ndB at hx
  repeat' split at hx
  all_goals
    simp only [List.mem_cons, List.mem_append, List.mem_map, List.not_mem_nil, or_false] at hx
    first
    | (rcases hx with rfl | rfl | rfl
       all_goals first | omega | decide)
    | (rcases hx with rfl | rfl
       all_goals first | omega | decide)
    | (subst hx; decide)
    | (rcases hx with (rfl | rfl | rfl) | rfl
       all_goals first | omega | decide)
    | (rcases hx with (rfl | rfl) | ⟨y, hy, rfl⟩
       · decide
       · omega
       · have := hcs y hy
         have := numT_size (x := y) (by omega) (by omega)
         omega)
theorem ndB_count {n : Nd} (h : nodeB n = true) : (ndB n).length ≤ 8 := by
  obtain ⟨hk, hnm, hcol, hop, hnum, hcl, hcs⟩ := nums_of_nodeB h
  unfold ndB
  repeat' split
  all_goals simp
  all_goals omega
theorem ndT_len {n : Nd} (h : nodeB n = true) : (ndT n).length ≤ 176 := by
  have h1 := joinB_len 32 21 ((ndB n).map bl) (fun x hx => by
    obtain ⟨y, hy, rfl⟩ := List.mem_map.1 hx
    rw [bl_len]; exact ndB_size h y hy)
  have h2 := ndB_count h
  unfold ndT
  rw [List.length_map] at h1
  omega
theorem ndO_size (n : Nd) : (ndO n).size ≤ 176 := by
  cases h : nodeB n with
  | true => rw [ndO_yes h]; have := ndT_len h; have e : (⟨(ndT n).toArray⟩ : ByteArray).size = (ndT n).length := by show (ndT n).toArray.size = _; simp
            omega
  | false => rw [ndO_no h]; decide
end Go.Proofs.YtfpbhedophlnkaaGreatDoor
namespace Go.Proofs.YtfpbhedophlnkaaGreatDoor
open Go.RowKit
set_option linter.unusedSimpArgs false
set_option linter.unusedVariables false

theorem planB_40 {p : List Nd} (h : planB p = true) : p.length ≤ 40 := by
  cases ht : treeN p with
  | none => simp [planB, ht] at h
  | some T => exact (treeN_some ht).1
theorem planB_nodes {p : List Nd} (h : planB p = true) : ∀ n ∈ p, nodeB n = true := by
  cases ht : treeN p with
  | none => simp [planB, ht] at h
  | some T => exact treeN_all ht
theorem planO_yes {p : List Nd} (h : planB p = true) : planO p = ⟨(planT p).toArray⟩ := by unfold planO; rw [if_pos h]
theorem planO_no {p : List Nd} (h : planB p = false) : planO p = ⟨#[]⟩ := by unfold planO; rw [if_neg (by rw [h]; simp)]
/-- The texts of a plan's nodes. -/
theorem ndO_map {p : List Nd} (h : ∀ n ∈ p, nodeB n = true) : (p.map ndO).map (·.data.toList) = p.map ndT := by
  rw [List.map_map]
  exact List.map_congr_left fun n hn => ndO_list (h n hn)
theorem planT_len {p : List Nd} (h : ∀ n ∈ p, nodeB n = true) : (joinB 32 (p.map ndT)).length ≤ 177 * p.length := by
  have h1 := joinB_len 32 176 (p.map ndT) (fun x hx => by
    obtain ⟨n, hn, rfl⟩ := List.mem_map.1 hx
    exact ndT_len (h n hn))
  rwa [List.length_map] at h1
end Go.Proofs.YtfpbhedophlnkaaGreatDoor
namespace Go.Proofs.YtfpbhedophlnkaaGreatDoor
open Go.RowKit
set_option linter.unusedSimpArgs false
set_option linter.unusedVariables false

open Classical in
/-- The number that a text is, if it is one. -/
noncomputable def readN (s : ByteArray) : Option Int := if h : ∃ y : Int, (-1000000 ≤ y ∧ y ≤ 1000000) ∧ s = numT y then some (Classical.choose h) else none
theorem readN_yes {s : ByteArray} {x : Int} (inj : ∀ a b : Int, numT a = numT b → a = b) (h : s = numT x) (h0 : -1000000 ≤ x) (h1 : x ≤ 1000000) : readN s = some x := by
  have hex : ∃ y : Int, (-1000000 ≤ y ∧ y ≤ 1000000) ∧ s = numT y := ⟨x, ⟨h0, h1⟩, h⟩
  unfold readN
  rw [dif_pos hex]
  have hs := Classical.choose_spec hex
  exact congrArg some (inj _ _ (hs.2.symm.trans h))
theorem readN_no {s : ByteArray} (h : ∀ y : Int, -1000000 ≤ y → y ≤ 1000000 → s ≠ numT y) : readN s = none := by
  unfold readN
  rw [dif_neg]
  rintro ⟨y, ⟨h0, h1⟩, hy⟩
  exact h y h0 h1 hy
theorem readN_bd {s : ByteArray} {x : Int} (h : readN s = some x) : -1000000 ≤ x ∧ x ≤ 1000000 ∧ s = numT x := by
  unfold readN at h
  split at h
  · rename_i hex
    have hs := Classical.choose_spec hex
    injection h with h
    rw [← h]; exact ⟨hs.1.1, hs.1.2, hs.2⟩
  · cases h
/-- A word without its mark, where one may stand; and whether it had one. -/
def cutM (slot : Bool) (s : ByteArray) : ByteArray × Bool := if slot = true ∧ s.data.toList.head? = some 36 then (s.extract 1 s.size, true) else (s, false)
noncomputable def litQ (slot : Bool) (s : ByteArray) : Option (Int × Bool) :=
  match readN (cutM slot s).1 with
  | none => none
  | some x => if (cutM slot s).2 = true ∧ x < 0 then none else some (x, (cutM slot s).2)
noncomputable def intQ (slot : Bool) (ws : List ByteArray) (p : Nat) : Option (Int × Bool) :=
  match ws[p]? with
  | none => none
  | some s => litQ slot s
def findB : List ByteArray → ByteArray → Int
  | [], _ => -1
  | x :: r, s => if x = s then 0 else if findB r s = -1 then -1 else findB r s + 1
def verbsB : List ByteArray := [⟨#[115, 99, 97, 110]⟩, ⟨#[102, 105, 108, 116, 101, 114]⟩, ⟨#[107, 101, 101, 112]⟩, ⟨#[106, 111, 105, 110]⟩, ⟨#[98, 111, 116, 104]⟩, ⟨#[115, 111, 114, 116]⟩, ⟨#[108, 105, 109, 105, 116]⟩, ⟨#[111, 110, 99, 101]⟩]
def opsB : List ByteArray := [⟨#[61]⟩, ⟨#[60]⟩, ⟨#[62]⟩, ⟨#[110, 111, 110, 101]⟩]
/-- So many numbers, one behind the other. -/
noncomputable def colsQ (ws : List ByteArray) (p : Nat) : Nat → Nat ⊕ List Int
  | 0 => .inr []
  | k + 1 => match colsQ ws p k with
    | .inl q => .inl q
    | .inr l => match intQ false ws (p + k) with
      | none => .inl (p + k)
      | some x => .inr (l ++ [x.1])
def emptyB : ByteArray := ⟨#[]⟩
/-- What stands behind a node's first word. -/
noncomputable def restQ (ws : List ByteArray) (k : Int) (p : Nat) : Nat ⊕ (Nd × Nat) :=
  if k = 0 then match ws[p]? with
    | none => .inl p
    | some s => if wordB s.data.toList = true then .inr (⟨0, s, 0, 0, 0, false, []⟩, p + 1) else .inl p
  else if k = 1 then match intQ false ws p with
    | none => .inl p
    | some c => match ws[p + 1]? with
      | none => .inl (p + 1)
      | some o => if findB opsB o = -1 then .inl (p + 1)
        else if findB opsB o = 3 then .inr (⟨1, emptyB, c.1, 3, 0, false, []⟩, p + 2)
        else match intQ true ws (p + 2) with
          | none => .inl (p + 2)
          | some x => .inr (⟨1, emptyB, c.1, findB opsB o, x.1, x.2, []⟩, p + 3)
  else if k = 2 then match intQ false ws p with
    | none => .inl p
    | some m => if 1 ≤ m.1 ∧ m.1 ≤ 6 then match colsQ ws (p + 1) m.1.toNat with
        | .inl q => .inl q
        | .inr l => .inr (⟨2, emptyB, 0, 0, 0, false, l⟩, p + 1 + m.1.toNat)
      else .inl p
  else if k = 3 then match intQ false ws p with
    | none => .inl p
    | some c => match intQ false ws (p + 1) with
      | none => .inl (p + 1)
      | some d => .inr (⟨3, emptyB, c.1, 0, d.1, false, []⟩, p + 2)
  else if k = 5 then match intQ false ws p with
    | none => .inl p
    | some c => .inr (⟨5, emptyB, c.1, 0, 0, false, []⟩, p + 1)
  else if k = 6 then match intQ true ws p with
    | none => .inl p
    | some x => .inr (⟨6, emptyB, 0, 0, x.1, x.2, []⟩, p + 1)
  else .inr (⟨k, emptyB, 0, 0, 0, false, []⟩, p)
noncomputable def nodeQ (ws : List ByteArray) (p : Nat) : Nat ⊕ (Nd × Nat) :=
  match ws[p]? with
  | none => .inl p
  | some s => if findB verbsB s = -1 then .inl p else restQ ws (findB verbsB s) (p + 1)
def arI (k : Int) : Int := if k = 0 then 0 else if k = 3 ∨ k = 4 then 2 else 1
/-- Node behind node, as long as one is wanted. -/
noncomputable def goQ (ws : List ByteArray) : Nat → List Nd → Int → Nat → Nat ⊕ (List Nd × Nat)
  | 0, _, _, p => .inl p
  | f + 1, acc, need, p => if need ≤ 0 then .inr (acc, p) else match nodeQ ws p with
    | .inl q => .inl q
    | .inr x => goQ ws f (acc ++ [x.1]) (need + arI x.1.kind - 1) x.2
/-- ParsePlan's answer. -/
noncomputable def parseQ (ws : List ByteArray) : List Nd × Int :=
  match goQ ws (ws.length + 2) [] 1 0 with
  | .inl q => ([], q)
  | .inr x => if x.2 < ws.length then ([], x.2) else if planB x.1 = true then (x.1, -1) else ([], ws.length)
noncomputable def parseO (s : ByteArray) : List Nd × Int := if 2000 < s.size then ([], 0) else parseQ (wordsO s)

theorem findB_bd (l : List ByteArray) (s : ByteArray) : findB l s = -1 ∨ (0 ≤ findB l s ∧ findB l s < l.length) := by
  induction l with
  | nil => left; rfl
  | cons x r ih =>
    unfold findB
    split
    · right; simp only [List.length_cons]; omega
    · split
      · left; rfl
      · right; simp only [List.length_cons]; omega
theorem colsQ_len {ws : List ByteArray} {p : Nat} : ∀ {k : Nat} {l : List Int}, colsQ ws p k = .inr l → l.length = k ∧ p + k ≤ max p ws.length := by
  intro k
  induction k with
  | zero => intro l h; simp only [colsQ, Sum.inr.injEq] at h; subst h; exact ⟨rfl, by omega⟩
  | succ k ih =>
    intro l h
    simp only [colsQ] at h
    cases hk : colsQ ws p k with
    | inl q => rw [hk] at h; cases h
    | inr a =>
      rw [hk] at h
      simp only at h
      cases hi : intQ false ws (p + k) with
      | none => rw [hi] at h; cases h
      | some x =>
        rw [hi] at h
        simp only [Sum.inr.injEq] at h
        subst h
        have hlt : p + k < ws.length := by
          unfold intQ at hi
          cases hw : ws[p + k]? with
          | none => rw [hw] at hi; cases hi
          | some y => exact (List.getElem?_eq_some_iff.1 hw).1
        exact ⟨by simp [(ih hk).1], by omega⟩
theorem colsQ_stays {ws : List ByteArray} {p q : Nat} {k : Nat} (h : colsQ ws p k = .inl q) : ∀ m, k ≤ m → colsQ ws p m = .inl q := by
  intro m hm
  induction m with
  | zero => obtain rfl : k = 0 := by omega
            exact h
  | succ m ih =>
    rcases Nat.lt_or_ge k (m + 1) with h1 | h1
    · simp only [colsQ, ih (by omega)]
    · obtain rfl : k = m + 1 := by omega
      exact h
theorem colsQ_no {ws : List ByteArray} {p k : Nat} {l : List Int} (h : colsQ ws p k = .inr l) (hi : intQ false ws (p + k) = none) : colsQ ws p (k + 1) = .inl (p + k) := by
  simp only [colsQ, h, hi]
theorem colsQ_yes {ws : List ByteArray} {p k : Nat} {l : List Int} {x : Int × Bool} (h : colsQ ws p k = .inr l) (hi : intQ false ws (p + k) = some x) : colsQ ws p (k + 1) = .inr (l ++ [x.1]) := by
  simp only [colsQ, h, hi]
theorem intQ_lt {slot : Bool} {ws : List ByteArray} {p : Nat} {x : Int × Bool} (h : intQ slot ws p = some x) : p < ws.length := by
  unfold intQ at h
  cases hw : ws[p]? with
  | none => rw [hw] at h; cases h
  | some y => exact (List.getElem?_eq_some_iff.1 hw).1
/-- A node that is read takes at least its first word; its place is one of the words or behind them; it has at most six columns. -/
theorem restQ_bd {ws : List ByteArray} {k : Int} {p q : Nat} {n : Nd} (hp : p ≤ ws.length) (h : restQ ws k p = .inr (n, q)) : p ≤ q ∧ q ≤ ws.length ∧ n.cols.length ≤ 6 ∧ n.kind = k ∧ n.name.size ≤ 12 := by
  unfold restQ at h
  have h12 : ∀ s : ByteArray, wordB s.data.toList = true → s.size ≤ 12 := fun s hs => by
    have : s.data.toList.length = s.size := by rw [Array.length_toList]; rfl
    unfold wordB at hs
    simp at hs
    have := hs.1
    omega
  have he : emptyB.size ≤ 12 := by decide
  split at h
  · rename_i hk0
    split at h
    · cases h
    · rename_i s hs
      have hl := (List.getElem?_eq_some_iff.1 hs).1
      split at h
      · rename_i hw
        simp only [Sum.inr.injEq, Prod.mk.injEq] at h
        obtain ⟨rfl, rfl⟩ := h
        exact ⟨by omega, by omega, by simp, hk0.symm, h12 s hw⟩
      · cases h
  split at h
  · rename_i _ hk0
    split at h
    · cases h
    · split at h
      · cases h
      · rename_i hs
        have hl := (List.getElem?_eq_some_iff.1 hs).1
        split at h
        · cases h
        · split at h
          · simp only [Sum.inr.injEq, Prod.mk.injEq] at h
            obtain ⟨rfl, rfl⟩ := h
            exact ⟨by omega, by omega, by simp, hk0.symm, he⟩
          · split at h
            · cases h
            · rename_i hi
              have := intQ_lt hi
              simp only [Sum.inr.injEq, Prod.mk.injEq] at h
              obtain ⟨rfl, rfl⟩ := h
              exact ⟨by omega, by omega, by simp, hk0.symm, he⟩
  split at h
  · rename_i _ _ hk0
    split at h
    · cases h
    · rename_i hi
      have := intQ_lt hi
      split at h
      · split at h
        · cases h
        · rename_i hc
          have := colsQ_len hc
          simp only [Sum.inr.injEq, Prod.mk.injEq] at h
          obtain ⟨rfl, rfl⟩ := h
          exact ⟨by omega, by omega, by simp only; omega, hk0.symm, he⟩
      · cases h
  split at h
  · rename_i _ _ _ hk0
    split at h
    · cases h
    · split at h
      · cases h
      · rename_i hi
        have := intQ_lt hi
        simp only [Sum.inr.injEq, Prod.mk.injEq] at h
        obtain ⟨rfl, rfl⟩ := h
        exact ⟨by omega, by omega, by simp, hk0.symm, he⟩
  split at h
  · rename_i _ _ _ _ hk0
    split at h
    · cases h
    · rename_i hi
      have := intQ_lt hi
      simp only [Sum.inr.injEq, Prod.mk.injEq] at h
      obtain ⟨rfl, rfl⟩ := h
      exact ⟨by omega, by omega, by simp, hk0.symm, he⟩
  split at h
  · rename_i _ _ _ _ _ hk0
    split at h
    · cases h
    · rename_i hi
      have := intQ_lt hi
      simp only [Sum.inr.injEq, Prod.mk.injEq] at h
      obtain ⟨rfl, rfl⟩ := h
      exact ⟨by omega, by omega, by simp, hk0.symm, he⟩
  · simp only [Sum.inr.injEq, Prod.mk.injEq] at h
    obtain ⟨rfl, rfl⟩ := h
    exact ⟨Nat.le_refl _, hp, by simp, rfl, he⟩
theorem nodeQ_bd {ws : List ByteArray} {p q : Nat} {n : Nd} (h : nodeQ ws p = .inr (n, q)) : p < q ∧ q ≤ ws.length ∧ n.cols.length ≤ 6 ∧ (0 ≤ n.kind ∧ n.kind ≤ 7) ∧ n.name.size ≤ 12 := by
  unfold nodeQ at h
  cases hw : ws[p]? with
  | none => rw [hw] at h; cases h
  | some s =>
    have hl := (List.getElem?_eq_some_iff.1 hw).1
    rw [hw] at h
    simp only at h
    split at h
    · cases h
    · rename_i hf
      have hb := findB_bd verbsB s
      have h8 : (verbsB.length : Int) = 8 := rfl
      have := restQ_bd (by omega) h
      exact ⟨by omega, this.2.1, this.2.2.1, by omega, this.2.2.2.2⟩
end Go.Proofs.YtfpbhedophlnkaaGreatDoor
namespace Go.Proofs.YtfpbhedophlnkaaGreatDoor
set_option linter.unusedSimpArgs false
set_option linter.unusedVariables false

/-- What some digits are worth. -/
def valD (l : List UInt8) : Nat := l.foldl (fun a c => 10 * a + (c.toNat - 48)) 0
theorem valD_snoc (l : List UInt8) (c : UInt8) : valD (l ++ [c]) = 10 * valD l + (c.toNat - 48) := by simp [valD]
theorem dig_toNat (u : Nat) : (UInt8.ofNat (48 + u % 10)).toNat = 48 + u % 10 := by rw [UInt8.toNat_ofNat']; omega
theorem valD_dec (u : Nat) : valD (Lib.decDigits u) = u := by
  induction u using Nat.strongRecOn with
  | _ u ih =>
    by_cases h : u < 10
    · rw [dec_one h]
      have := dig_toNat u
      rw [Nat.mod_eq_of_lt h] at this
      show 10 * 0 + ((UInt8.ofNat (48 + u)).toNat - 48) = u
      rw [this]; omega
    · rw [dec_ten (by omega), valD_snoc, ih (u / 10) (by omega), dig_toNat]; omega
theorem dec_digit (u : Nat) : ∀ c ∈ Lib.decDigits u, 48 ≤ c.toNat ∧ c.toNat ≤ 57 := by
  induction u using Nat.strongRecOn with
  | _ u ih =>
    by_cases h : u < 10
    · rw [dec_one h]
      have := dig_toNat u
      rw [Nat.mod_eq_of_lt h] at this
      intro c hc
      rw [List.mem_singleton] at hc
      subst hc; omega
    · rw [dec_ten (by omega)]
      intro c hc
      rcases List.mem_append.1 hc with hc | hc
      · exact ih (u / 10) (by omega) c hc
      · rw [List.mem_singleton] at hc
        subst hc; rw [dig_toNat]; omega
theorem dec_pos (u : Nat) : 1 ≤ (Lib.decDigits u).length := by
  by_cases h : u < 10
  · rw [dec_one h]; simp
  · rw [dec_ten (by omega)]; simp
theorem dec_len {u : Nat} (h : u ≤ 1000000) : (Lib.decDigits u).length ≤ 7 := by
  by_cases h0 : u = 0
  · subst h0; rw [dec_one (by omega)]; simp
  · have := leftD_len 7 u (by have : (10 : Nat) ^ 7 = 10000000 := by decide
                              omega)
    unfold leftD at this
    rwa [if_neg h0] at this
theorem valD_acc : ∀ (l : List UInt8) (a : Nat), (∀ c ∈ l, 48 ≤ c.toNat ∧ c.toNat ≤ 57) → l.foldl (fun a c => 10 * a + (c.toNat - 48)) a < (a + 1) * 10 ^ l.length
  | [], a, _ => by simp
  | c :: r, a, h => by
    have h1 := valD_acc r (10 * a + (c.toNat - 48)) (fun d hd => h d (by simp [hd]))
    have h2 := h c (by simp)
    rw [List.foldl_cons, List.length_cons, Nat.pow_succ]
    have h3 : (10 * a + (c.toNat - 48) + 1) * 10 ^ r.length ≤ (10 * (a + 1)) * 10 ^ r.length := Nat.mul_le_mul_right _ (by omega)
    have h4 : (10 * (a + 1)) * 10 ^ r.length = (a + 1) * (10 ^ r.length * 10) := by rw [Nat.mul_comm 10 (a + 1), Nat.mul_assoc, Nat.mul_comm 10]
    omega
theorem valD_lt {l : List UInt8} (h : ∀ c ∈ l, 48 ≤ c.toNat ∧ c.toNat ≤ 57) : valD l < 10 ^ l.length := by
  have := valD_acc l 0 h
  simpa [valD] using this
theorem numT_list (x : Int) : (numT x).data.toList = Lib.itoa x := by simp [numT]
theorem numT_inj {x y : Int} (h : numT x = numT y) : x = y := by
  have h1 : Lib.itoa x = Lib.itoa y := by rw [← numT_list, ← numT_list, h]
  unfold Lib.itoa at h1
  have key : ∀ (u v : Nat), Lib.decDigits u ≠ 45 :: Lib.decDigits v := fun u v hh => by
    have := dec_digit u 45 (by rw [hh]; simp)
    simp at this
  split at h1 <;> split at h1
  · have h2 := congrArg valD (List.cons.inj h1).2
    rw [valD_dec, valD_dec] at h2; omega
  · exact absurd h1.symm (key _ _)
  · exact absurd h1 (key _ _)
  · have h2 := congrArg valD h1
    rw [valD_dec, valD_dec] at h2; omega
end Go.Proofs.YtfpbhedophlnkaaGreatDoor
