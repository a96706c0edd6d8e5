/-
  A node, a plan as text: its words, with single blanks between. Plain facts; no program, no walk.
-/
import Derived.Test.YtfpbhedophlnkaaDoorJoinP
import Derived.Test.YtfpbhedophlnkaaDoorNodes
import Derived.Test.YtfpbhedophlnkaaDoorTxtN
namespace Go.Proofs.YtfpbhedophlnkaaDoor
open Go.RowKit
set_option linter.unusedSimpArgs false
set_option linter.unusedVariables false

def opB (op : Int) : ByteArray := if op = 0 then ⟨#[61]⟩ else if op = 1 then ⟨#[60]⟩ else if op = 2 then ⟨#[62]⟩ else ⟨#[110, 111, 110, 101]⟩
def litB (slot : Bool) (num : Int) : ByteArray := if slot then ⟨#[36]⟩ ++ numT num else numT num
/-- A node's words. -/
def ndB (n : Nd) : List ByteArray :=
  if n.kind = 0 then [⟨#[115, 99, 97, 110]⟩, n.name]
  else if n.kind = 1 then [⟨#[102, 105, 108, 116, 101, 114]⟩, numT n.col, opB n.op] ++ (if n.op = 3 then [] else [litB n.slot n.num])
  else if n.kind = 2 then [⟨#[107, 101, 101, 112]⟩, numT (n.cols.length : Int)] ++ n.cols.map numT
  else if n.kind = 3 then [⟨#[106, 111, 105, 110]⟩, numT n.col, numT n.num]
  else if n.kind = 4 then [⟨#[98, 111, 116, 104]⟩]
  else if n.kind = 5 then [⟨#[115, 111, 114, 116]⟩, numT n.col]
  else if n.kind = 6 then [⟨#[108, 105, 109, 105, 116]⟩, litB n.slot n.num]
  else [⟨#[111, 110, 99, 101]⟩]
def bl (x : ByteArray) : List UInt8 := x.data.toList
def ndT (n : Nd) : List UInt8 := joinB 32 ((ndB n).map bl)
/-- NodeText's answer. -/
def ndO (n : Nd) : ByteArray := if nodeB n = true then ⟨(ndT n).toArray⟩ else ⟨#[]⟩
def planT (p : List Nd) : List UInt8 := joinB 32 (p.map ndT)
/-- PrintPlan's answer. -/
def planO (p : List Nd) : ByteArray := if planB p = true then ⟨(planT p).toArray⟩ else ⟨#[]⟩

theorem bl_len (x : ByteArray) : (bl x).length = x.size := by unfold bl; rw [Array.length_toList]; rfl
theorem ndO_yes {n : Nd} (h : nodeB n = true) : ndO n = ⟨(ndT n).toArray⟩ := by unfold ndO; rw [if_pos h]
theorem ndO_no {n : Nd} (h : nodeB n = false) : ndO n = ⟨#[]⟩ := by unfold ndO; rw [if_neg (by rw [h]; simp)]
theorem ndO_list {n : Nd} (h : nodeB n = true) : (ndO n).data.toList = ndT n := by rw [ndO_yes h]
/-- The numbers of a node that is one are all small. -/
theorem nums_of_nodeB {n : Nd} (h : nodeB n = true) : (0 ≤ n.kind ∧ n.kind ≤ 7) ∧ n.name.size ≤ 12 ∧ (0 ≤ n.col ∧ n.col ≤ 63) ∧ (0 ≤ n.op ∧ n.op ≤ 3) ∧ (-1000000 ≤ n.num ∧ n.num ≤ 1000000) ∧ (n.cols.length ≤ 6 ∧ ∀ x ∈ n.cols, 0 ≤ x ∧ x ≤ 63) := by
  have hk := kind_of_nodeB h
  obtain ⟨k, name, col, op, num, slot, cols⟩ := n
  simp only at hk ⊢
  have hnm : ∀ s : ByteArray, s.data.toList = [] → s.size ≤ 12 := fun s hs => by
    have : s.data.toList.length = s.size := by rw [Array.length_toList]; rfl
    rw [← this, hs]; simp
  have hc : k = 0 ∨ k = 1 ∨ k = 2 ∨ k = 3 ∨ k = 4 ∨ k = 5 ∨ k = 6 ∨ k = 7 := by omega
  rcases hc with rfl | rfl | rfl | rfl | rfl | rfl | rfl | rfl
  all_goals
    simp only [nodeB, Int.reduceEq, if_false, if_true] at h
    first
    | (simp only [Bool.and_eq_true, decide_eq_true_eq] at h
       obtain ⟨hw, rfl, rfl, rfl, rfl, rfl⟩ := h
       refine ⟨by omega, ?_, by omega, by omega, by omega, by simp, by simp⟩
       have : name.data.toList.length = name.size := by rw [Array.length_toList]; rfl
       unfold wordB at hw
       simp at hw
       have h12 := hw.1
       omega)
    | (have h' := of_decide_eq_true h
       obtain ⟨hn, h'⟩ := h'
       refine ⟨by omega, hnm _ hn, ?_⟩
       clear hnm hn
       simp_all <;> omega)
    | (have h' := of_decide_eq_true h
       obtain ⟨hn, h'⟩ := h'
       refine ⟨by omega, hnm _ hn, ?_⟩
       clear hnm hn
       simp_all)
    | (simp only [Bool.and_eq_true, decide_eq_true_eq, List.all_eq_true, colB_iff] at h
       obtain ⟨⟨hn, rfl, rfl, rfl, rfl, h1, h2⟩, h3⟩ := h
       exact ⟨by omega, hnm _ hn, by omega, by omega, by omega, h2, h3⟩)
theorem opB_size (op : Int) : (opB op).size ≤ 4 := by unfold opB; repeat' split
                                                      all_goals decide
theorem litB_size {s : Bool} {x : Int} (h0 : -1000000 ≤ x) (h1 : x ≤ 1000000) : (litB s x).size ≤ 21 := by
  have := numT_size (x := x) (by omega) (by omega)
  unfold litB; split
  · rw [ByteArray.size_append]; have : (⟨#[36]⟩ : ByteArray).size = 1 := rfl
    omega
  · omega
theorem ndB_size {n : Nd} (h : nodeB n = true) : ∀ x ∈ ndB n, x.size ≤ 21 := by
  obtain ⟨hk, hnm, hcol, hop, hnum, hcl, hcs⟩ := nums_of_nodeB h
  have n1 := numT_size (x := n.col) (by omega) (by omega)
  have n2 := numT_size (x := n.num) (by omega) (by omega)
  have n3 := numT_size (x := (n.cols.length : Int)) (by omega) (by omega)
  have n4 := opB_size n.op
  have n5 := litB_size (s := n.slot) hnum.1 hnum.2
  intro x hx
  unfold ndB at hx
  repeat' split at hx
  all_goals
    simp only [List.mem_cons, List.mem_append, List.mem_map, List.not_mem_nil, or_false] at hx
    first
    | (rcases hx with rfl | rfl | rfl
       all_goals first | omega | decide)
    | (rcases hx with rfl | rfl
       all_goals first | omega | decide)
    | (subst hx; decide)
    | (rcases hx with (rfl | rfl | rfl) | rfl
       all_goals first | omega | decide)
    | (rcases hx with (rfl | rfl) | ⟨y, hy, rfl⟩
       · decide
       · omega
       · have := hcs y hy
         have := numT_size (x := y) (by omega) (by omega)
         omega)
theorem ndB_count {n : Nd} (h : nodeB n = true) : (ndB n).length ≤ 8 := by
  obtain ⟨hk, hnm, hcol, hop, hnum, hcl, hcs⟩ := nums_of_nodeB h
  unfold ndB
  repeat' split
  all_goals simp
  all_goals omega
theorem ndT_len {n : Nd} (h : nodeB n = true) : (ndT n).length ≤ 176 := by
  have h1 := joinB_len 32 21 ((ndB n).map bl) (fun x hx => by
    obtain ⟨y, hy, rfl⟩ := List.mem_map.1 hx
    rw [bl_len]; exact ndB_size h y hy)
  have h2 := ndB_count h
  unfold ndT
  rw [List.length_map] at h1
  omega
theorem ndO_size (n : Nd) : (ndO n).size ≤ 176 := by
  cases h : nodeB n with
  | true => rw [ndO_yes h]; have := ndT_len h; have e : (⟨(ndT n).toArray⟩ : ByteArray).size = (ndT n).length := by show (ndT n).toArray.size = _; simp
            omega
  | false => rw [ndO_no h]; decide
end Go.Proofs.YtfpbhedophlnkaaDoor
