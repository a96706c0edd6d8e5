/-
  A plan's text, as far as j nodes. Plain facts; no program, no walk. A plan's lines: what the program writes by its tree and what the model writes place by place are one text. Plain facts; no program, no walk.
-/
import Derived.Test.YtfpbhedophlnkaaDoorKX
namespace Go.Proofs.YtfpbhedophlnkaaDoor
open Go.RowKit
set_option linter.unusedSimpArgs false
set_option linter.unusedVariables false

theorem planB_40 {p : List Nd} (h : planB p = true) : p.length ≤ 40 := by
  cases ht : treeN p with
  | none => simp [planB, ht] at h
  | some T => exact (treeN_some ht).1
theorem planB_nodes {p : List Nd} (h : planB p = true) : ∀ n ∈ p, nodeB n = true := by
  cases ht : treeN p with
  | none => simp [planB, ht] at h
  | some T => exact treeN_all ht
theorem planO_yes {p : List Nd} (h : planB p = true) : planO p = ⟨(planT p).toArray⟩ := by unfold planO; rw [if_pos h]
theorem planO_no {p : List Nd} (h : planB p = false) : planO p = ⟨#[]⟩ := by unfold planO; rw [if_neg (by rw [h]; simp)]
/-- The texts of a plan's nodes. -/
theorem ndO_map {p : List Nd} (h : ∀ n ∈ p, nodeB n = true) : (p.map ndO).map (·.data.toList) = p.map ndT := by
  rw [List.map_map]
  exact List.map_congr_left fun n hn => ndO_list (h n hn)
theorem planT_len {p : List Nd} (h : ∀ n ∈ p, nodeB n = true) : (joinB 32 (p.map ndT)).length ≤ 177 * p.length := by
  have h1 := joinB_len 32 176 (p.map ndT) (fun x hx => by
    obtain ⟨n, hn, rfl⟩ := List.mem_map.1 hx
    exact ndT_len (h n hn))
  rwa [List.length_map] at h1
end Go.Proofs.YtfpbhedophlnkaaDoor
namespace Go.Proofs.YtfpbhedophlnkaaDoor
open Go.RowKit
set_option linter.unusedSimpArgs false
set_option linter.unusedVariables false

def padL : Nat → List UInt8
  | 0 => []
  | d + 1 => padL d ++ [32, 32]
/-- A node's line, so many nodes standing above it. -/
def lineT (d : Nat) (n : Nd) : List UInt8 := padL d ++ ndT n ++ [10]
def linT : Nat → Tr → List UInt8
  | d, .t0 n _ _ => lineT d n
  | d, .t1 n _ _ c => lineT d n ++ linT (d + 1) c
  | d, .t2 n _ _ c e => lineT d n ++ linT (d + 1) c ++ linT (d + 1) e
def lineAt (p : List Nd) (d k : Nat) : List UInt8 :=
  match p[k]? with
  | some n => lineT d n
  | none => []
/-- Where the tree at a place ends, 0 where there is none. -/
def en10 (p : List Nd) (i : Nat) : Nat :=
  match endN p 10 i with
  | some (e, _) => e
  | none => 0
/-- How many of the m places from j on end behind k. -/
def cntE (p : List Nd) (k j : Nat) : Nat → Nat
  | 0 => 0
  | m + 1 => cntE p k j m + if k < en10 p (j + m) then 1 else 0
def aboveN (p : List Nd) (k : Nat) : Nat := cntE p k 0 k
def rngL (f : Nat → List UInt8) (j : Nat) : Nat → List UInt8
  | 0 => []
  | m + 1 => rngL f j m ++ f (j + m)
def linsT (p : List Nd) (m : Nat) : List UInt8 := rngL (fun k => lineAt p (aboveN p k) k) 0 m
/-- A plan's lines; no text where it is no plan. -/
def linO (p : List Nd) : ByteArray := if planB p then ⟨(linsT p p.length).toArray⟩ else ⟨#[]⟩
theorem linO_yes {p : List Nd} (h : planB p = true) : linO p = ⟨(linsT p p.length).toArray⟩ := by unfold linO; rw [if_pos h]
theorem linO_no {p : List Nd} (h : planB p = false) : linO p = ⟨#[]⟩ := by unfold linO; rw [if_neg (by rw [h]; simp)]

theorem planO_size (p : List Nd) : (planO p).size ≤ 9223372036854775807 := by
  cases hb : planB p with
  | false => rw [planO_no hb]; decide
  | true =>
    rw [planO_yes hb]
    have h1 := planT_len (planB_nodes hb)
    have h2 := planB_40 hb
    have e1 : (⟨(planT p).toArray⟩ : ByteArray).size = (planT p).length := by show (planT p).toArray.size = _; simp
    have e2 : planT p = joinB 32 (p.map ndT) := rfl
    rw [e1, e2]; omega
theorem padL_len : ∀ d, (padL d).length = 2 * d
  | 0 => rfl
  | d + 1 => by simp only [padL, List.length_append, padL_len d, List.length_cons, List.length_nil]; omega
theorem rngL_add (f : Nat → List UInt8) (j a : Nat) : ∀ b, rngL f j (a + b) = rngL f j a ++ rngL f (j + a) b
  | 0 => by simp [rngL]
  | b + 1 => by
    show rngL f j (a + b) ++ f (j + (a + b)) = rngL f j a ++ (rngL f (j + a) b ++ f (j + a + b))
    rw [rngL_add f j a b, List.append_assoc, Nat.add_assoc]
theorem rngL_congr {f g : Nat → List UInt8} (j : Nat) : ∀ m, (∀ k, j ≤ k → k < j + m → f k = g k) → rngL f j m = rngL g j m
  | 0, _ => rfl
  | m + 1, h => by
    show rngL f j m ++ f (j + m) = rngL g j m ++ g (j + m)
    rw [rngL_congr j m (fun k h1 h2 => h k h1 (by omega)), h (j + m) (by omega) (by omega)]
theorem cntE_add (p : List Nd) (k j a : Nat) : ∀ b, cntE p k j (a + b) = cntE p k j a + cntE p k (j + a) b
  | 0 => rfl
  | b + 1 => by
    show cntE p k j (a + b) + (if k < en10 p (j + (a + b)) then 1 else 0) = cntE p k j a + (cntE p k (j + a) b + (if k < en10 p (j + a + b) then 1 else 0))
    rw [cntE_add p k j a b, Nat.add_assoc, Nat.add_assoc]
theorem cntE_none (p : List Nd) (k j : Nat) : ∀ m, (∀ i, j ≤ i → i < j + m → en10 p i ≤ k) → cntE p k j m = 0
  | 0, _ => rfl
  | m + 1, h => by
    show cntE p k j m + _ = 0
    rw [cntE_none p k j m (fun i h1 h2 => h i h1 (by omega)), if_neg (by have := h (j + m) (by omega) (by omega); omega)]
theorem cntE_le (p : List Nd) (k j : Nat) : ∀ m, cntE p k j m ≤ m
  | 0 => Nat.le_refl _
  | m + 1 => by
    show cntE p k j m + _ ≤ m + 1
    have := cntE_le p k j m
    split <;> omega
theorem aboveN_le (p : List Nd) (k : Nat) : aboveN p k ≤ k := cntE_le p k 0 k
theorem lineT_len (d : Nat) {n : Nd} (h : nodeB n = true) : (lineT d n).length ≤ 2 * d + 177 := by
  have := ndT_len h
  simp only [lineT, List.length_append, padL_len, List.length_cons, List.length_nil]; omega
theorem lineAt_len {p : List Nd} (h : ∀ n ∈ p, nodeB n = true) (d k : Nat) : (lineAt p d k).length ≤ 2 * d + 177 := by
  unfold lineAt
  cases hn : p[k]? with
  | none => simp
  | some n => exact lineT_len d (h n (List.mem_of_getElem? hn))
theorem linsT_len {p : List Nd} (h : ∀ n ∈ p, nodeB n = true) (h40 : p.length ≤ 40) : ∀ m, m ≤ 40 → (linsT p m).length ≤ 257 * m
  | 0, _ => Nat.zero_le _
  | m + 1, hm => by
    show (rngL _ 0 m ++ lineAt p (aboveN p (0 + m)) (0 + m)).length ≤ _
    have h1 := linsT_len h h40 m (by omega)
    unfold linsT at h1
    have h2 := lineAt_len h (aboveN p (0 + m)) (0 + m)
    have h3 := aboveN_le p (0 + m)
    rw [List.length_append]; omega
theorem linsT_succ (p : List Nd) (m : Nat) : linsT p (m + 1) = linsT p m ++ lineAt p (aboveN p m) m := by
  show rngL _ 0 m ++ lineAt p (aboveN p (0 + m)) (0 + m) = _
  rw [Nat.zero_add]; rfl
theorem lineAt_some {p : List Nd} {d k : Nat} {n : Nd} (h : p[k]? = some n) : lineAt p d k = lineT d n := by unfold lineAt; rw [h]

theorem growT_up (p : List Nd) (k : Nat) (T : Tr) (f : Nat) (h : growT p f k = some T) : ∀ g, growT p (f + g) k = some T
  | 0 => h
  | g + 1 => growT_more p (f + g) k T (growT_up p k T f h g)
theorem en10_grow {p : List Nd} (hall : ∀ n ∈ p, nodeB n = true) {f i : Nat} {S : Tr} (h : growT p f i = some S) (hd : S.depth ≤ 10) : en10 p i = S.en := by
  unfold en10
  rw [endN_grow p hall (f + p.length) 10 i (by omega), growT_up p i S f h p.length]
  simp only
  rw [if_pos hd]
theorem lin_grow {p : List Nd} (hall : ∀ n ∈ p, nodeB n = true) : ∀ (f j d : Nat) (T : Tr), growT p f j = some T → T.depth ≤ 10 →
    linT d T = rngL (fun k => lineAt p (d + cntE p k j (k - j)) k) j (T.en - j) := by
  intro f
  induction f with
  | zero => intro j d T h; cases h
  | succ f ih =>
    intro j d T h hdep
    have hfull := h
    simp only [growT] at h
    cases hp : p[j]? with
    | none => rw [hp] at h; cases h
    | some n =>
      rw [hp] at h
      simp only at h
      have hn : nodeB n = true := hall n (List.mem_of_getElem? hp)
      rw [hn] at h
      simp only [Bool.true_eq_false, if_false] at h
      have he := en10_grow hall hfull hdep
      have hone : rngL (fun k => lineAt p (d + cntE p k j (k - j)) k) j 1 = lineT d n := by
        show [] ++ lineAt p (d + cntE p (j + 0) j (j + 0 - j)) (j + 0) = _
        rw [Nat.add_zero, Nat.sub_self, lineAt_some hp]; rfl
      split at h
      · cases hc : growT p f (j + 1) with
        | none => rw [hc] at h; cases h
        | some c =>
          rw [hc] at h; simp only [Option.some.injEq] at h; subst h
          have hs := growT_sound p _ _ _ hc
          have hcd : c.depth ≤ 10 := by simp only [Tr.depth] at hdep; omega
          have hI := ih (j + 1) (d + 1) c hc hcd
          simp only [Tr.en1] at he ⊢
          rw [show c.en - j = 1 + (c.en - (j + 1)) by omega, rngL_add, hone]
          show lineT d n ++ linT (d + 1) c = _
          rw [hI]
          congr 1
          refine rngL_congr _ _ fun k h1 h2 => ?_
          have e1 : cntE p k j (k - j) = 1 + cntE p k (j + 1) (k - (j + 1)) := by
            rw [show k - j = 1 + (k - (j + 1)) by omega, cntE_add]
            congr 1
            show 0 + (if k < en10 p (j + 0) then 1 else 0) = 1
            rw [Nat.add_zero, if_pos (by omega)]
          show lineAt p _ k = lineAt p _ k
          rw [e1, Nat.add_assoc]
      · split at h
        · cases hc : growT p f (j + 1) with
          | none => rw [hc] at h; cases h
          | some c =>
            rw [hc] at h; simp only at h
            cases hd : growT p f c.en with
            | none => rw [hd] at h; cases h
            | some e =>
              rw [hd] at h; simp only [Option.some.injEq] at h; subst h
              have hs := growT_sound p _ _ _ hc
              have hs' := growT_sound p _ _ _ hd
              have hcd : c.depth ≤ 10 := by simp only [Tr.depth] at hdep; omega
              have hed : e.depth ≤ 10 := by simp only [Tr.depth] at hdep; omega
              have hI := ih (j + 1) (d + 1) c hc hcd
              have hJ := ih c.en (d + 1) e hd hed
              simp only [Tr.en2] at he ⊢
              rw [show e.en - j = 1 + ((c.en - (j + 1)) + (e.en - c.en)) by omega, rngL_add, rngL_add, hone]
              show lineT d n ++ linT (d + 1) c ++ linT (d + 1) e = _
              rw [hI, hJ, List.append_assoc]
              have e0 : ∀ k, j + 1 ≤ k → k < e.en → cntE p k j (k - j) = 1 + cntE p k (j + 1) (k - (j + 1)) := fun k h1 h2 => by
                rw [show k - j = 1 + (k - (j + 1)) by omega, cntE_add]
                congr 1
                show 0 + (if k < en10 p (j + 0) then 1 else 0) = 1
                rw [Nat.add_zero, if_pos (by omega)]
              congr 1
              congr 1
              · refine rngL_congr _ _ fun k h1 h2 => ?_
                show lineAt p _ k = lineAt p _ k
                rw [e0 k h1 (by omega), Nat.add_assoc]
              · rw [show j + 1 + (c.en - (j + 1)) = c.en by omega]
                refine rngL_congr _ _ fun k h1 h2 => ?_
                show lineAt p _ k = lineAt p _ k
                have e2 : cntE p k (j + 1) (k - (j + 1)) = cntE p k c.en (k - c.en) := by
                  rw [show k - (j + 1) = (c.en - (j + 1)) + (k - c.en) by omega, cntE_add, show j + 1 + (c.en - (j + 1)) = c.en by omega]
                  rw [cntE_none p k (j + 1) (c.en - (j + 1)) fun i i1 i2 => ?_, Nat.zero_add]
                  obtain ⟨S, _, hS, hSd, hSe⟩ := find_grow p f (j + 1) i c hc i1 (by omega)
                  rw [en10_grow hall hS (by omega)]; omega
                rw [e0 k (by omega) (by omega), e2, Nat.add_assoc]
        · simp only [Option.some.injEq] at h; subst h
          simp only [Tr.en0]
          rw [show j + 1 - j = 1 by omega, hone]; rfl
theorem lin_tree {p : List Nd} {T : Tr} (h : treeN p = some T) : linT 0 T = linsT p p.length := by
  have hall := treeN_all h
  obtain ⟨_, hg, he, hd⟩ := treeN_some h
  rw [lin_grow hall _ 0 0 T hg hd, he]
  unfold linsT
  refine rngL_congr _ _ fun k _ _ => ?_
  show lineAt p _ k = lineAt p _ k
  rw [Nat.zero_add]; rfl
theorem linT_len {p : List Nd} {T : Tr} (h : treeN p = some T) : (linT 0 T).length ≤ 10280 := by
  have h40 := (treeN_some h).1
  have := linsT_len (treeN_all h) h40 p.length h40
  rw [lin_tree h]; omega
end Go.Proofs.YtfpbhedophlnkaaDoor
