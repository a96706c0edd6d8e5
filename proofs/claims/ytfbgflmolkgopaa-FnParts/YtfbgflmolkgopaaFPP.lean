/-
  What FnParts asks of a plan. Plain facts; no walk.
-/
import Derived.Test.YtfbgflmolkgopaaPuts
import Derived.Test.YtfbgflmolkgopaaK5
import Derived.Test.YtfbgflmolkgopaaShift
import Derived.Test.YtfbgflmolkgopaaTabsI
namespace Go.Proofs.Ytfbgflmolkgopaa
open Go.RowKit
set_option linter.unusedSimpArgs false
set_option linter.unusedVariables false

theorem plan_tree {l : List Nd} (h : planB l = true) : ∃ T, treeN l = some T := by
  cases ht : treeN l with
  | none => simp [planB, ht] at h
  | some T => exact ⟨T, rfl⟩
theorem plan_good {l : List Nd} {k : Nat} (h : planB l = true) (hk : k < l.length) : goodB l k = true := by
  simp only [goodB, h, Bool.true_and, Bool.and_eq_true, decide_eq_true_eq]; omega
/-- What lies at a place of a plan. -/
theorem place {l : List Nd} {k : Nat} (h : planB l = true) (hk : k < l.length) : ∃ T S, treeN l = some T ∧ fnd k T = some S ∧ S.pl = k ∧ S.en ≤ l.length ∧ k < S.en ∧ S.depth ≤ 10 ∧ growT l l.length k = some S ∧ endOfN l k = S.en ∧ partN l k = (l.drop k).take (S.en - k) ∧ treeN (partN l k) = some (S.shift k) ∧ (partN l k).length = S.en - k := by
  have hg := plan_good h hk
  obtain ⟨T, S, ht, hf, hpl, hen, hlt, hd, _, _, _, hgr⟩ := good_some hg
  have he : endOfN l k = S.en := by unfold endOfN; rw [ht]; simp only; rw [hf]
  have hp : partN l k = (l.drop k).take (S.en - k) := by unfold partN; rw [if_pos hg, he]; simp
  simp only [Int.toNat_natCast] at hpl hlt hgr
  refine ⟨T, S, ht, hf, hpl, hen, hlt, hd, hgr, he, hp, ?_, ?_⟩
  · rw [hp]; exact treeN_part ht hgr hd
  · rw [hp]; simp; omega
theorem grow_kids {p : List Nd} {k : Nat} {S : Tr} (h : growT p p.length k = some S) : ∃ n, p[k]? = some n ∧
    ((S = .t0 n k (k + 1) ∧ arity n.kind = 0) ∨ (∃ c, S = .t1 n k c.en c ∧ arity n.kind = 1 ∧ growT p p.length (k + 1) = some c) ∨
     (∃ c d, S = .t2 n k d.en c d ∧ arity n.kind = 2 ∧ growT p p.length (k + 1) = some c ∧ growT p p.length c.en = some d)) := by
  cases hl : p.length with
  | zero => rw [hl] at h; cases h
  | succ f =>
    rw [hl] at h
    simp only [growT] at h
    cases hp : p[k]? with
    | none => rw [hp] at h; cases h
    | some n =>
      rw [hp] at h; simp only at h
      refine ⟨n, rfl, ?_⟩
      cases hn : nodeB n with
      | false => rw [hn, if_pos rfl] at h; cases h
      | true =>
        rw [hn] at h
        simp only [Bool.true_eq_false, if_false] at h
        split at h
        · rename_i h1
          cases hc : growT p f (k + 1) with
          | none => rw [hc] at h; cases h
          | some c =>
            rw [hc] at h; simp only [Option.some.injEq] at h; subst h
            refine .inr (.inl ⟨c, rfl, h1, ?_⟩)
            rw [← hc]; exact growT_fuel p _ _ _ (by omega) (by omega)
        · split at h
          · rename_i h1 h2
            cases hc : growT p f (k + 1) with
            | none => rw [hc] at h; cases h
            | some c =>
              rw [hc] at h; simp only at h
              cases hd : growT p f c.en with
              | none => rw [hd] at h; cases h
              | some d =>
                rw [hd] at h; simp only [Option.some.injEq] at h; subst h
                have hs := growT_sound p _ _ _ hc
                refine .inr (.inr ⟨c, d, rfl, h2, ?_, ?_⟩)
                · rw [← hc]; exact growT_fuel p _ _ _ (by omega) (by omega)
                · rw [← hd]; exact growT_fuel p _ _ _ (by omega) (by omega)
          · rename_i h1 h2
            simp only [Option.some.injEq] at h; subst h
            refine .inl ⟨rfl, ?_⟩
            rcases arity_of_nodeB hn with h3 | h3 | h3
            · exact h3
            · exact absurd h3 h1
            · exact absurd h3 h2
theorem place_of {l : List Nd} {k : Nat} {S : Tr} (h : planB l = true) (hS : growT l l.length k = some S) : k < l.length ∧ endOfN l k = S.en ∧ depthN (partN l k) = S.depth ∧ S.pl = k := by
  have hs := growT_sound l _ _ _ hS
  have hk : k < l.length := by omega
  obtain ⟨T, S', _, _, _, _, _, _, hgr, he, _, ht, _⟩ := place h hk
  rw [hS] at hgr; cases hgr
  refine ⟨hk, he, ?_, hs.1⟩
  unfold depthN; rw [ht]; simp only [Tr.shift_depth]
/-- The children of a place, where they end, how deep they are. -/
def KidsF (l : List Nd) (k : Nat) (n : Nd) : Prop :=
  (kidsN l k = [] ∧ arity n.kind = 0 ∧ endOfN l k = (k : Int) + 1 ∧ depthN (partN l k) = 1) ∨
  (kidsN l k = [(k : Int) + 1] ∧ arity n.kind = 1 ∧ endOfN l ((k : Int) + 1) = endOfN l k ∧ 1 ≤ depthN (partN l ((k : Int) + 1)) ∧ depthN (partN l k) = depthN (partN l ((k : Int) + 1)) + 1) ∨
  (∃ m : Int, kidsN l k = [(k : Int) + 1, m] ∧ arity n.kind = 2 ∧ endOfN l ((k : Int) + 1) = m ∧ endOfN l m = endOfN l k ∧ 1 ≤ depthN (partN l ((k : Int) + 1)) ∧ depthN (partN l k) = max (depthN (partN l ((k : Int) + 1))) (depthN (partN l m)) + 1)
theorem place_kids {l : List Nd} {k : Nat} (h : planB l = true) (hk : k < l.length) : ∃ n, l[k]? = some n ∧ KidsF l k n ∧ arity n.kind = (kidsN l k).length := by
  obtain ⟨T, S, ht, hf, _, _, _, _, hgr, he, _, htp, _⟩ := place h hk
  have hkids : kidsN l k = S.kids.map fun c => (c.pl : Int) := by unfold kidsN; rw [ht]; simp only; rw [hf]
  have hdp : depthN (partN l k) = S.depth := by unfold depthN; rw [htp]; simp only [Tr.shift_depth]
  obtain ⟨n, hn, hc⟩ := grow_kids hgr
  refine ⟨n, hn, ?_⟩
  rcases hc with ⟨rfl, ha⟩ | ⟨c, rfl, ha, hc⟩ | ⟨c, d, rfl, ha, hc, hd⟩
  · refine ⟨.inl ⟨by rw [hkids]; rfl, ha, by rw [he]; simp [Tr.en], by rw [hdp]; rfl⟩, by rw [hkids, ha]; rfl⟩
  · obtain ⟨h1, h2, h3, h4⟩ := place_of h hc
    have hp := depth_pos c
    refine ⟨.inr (.inl ⟨by rw [hkids]; simp [Tr.kids, h4], ha, ?_, ?_, ?_⟩), by rw [hkids, ha]; rfl⟩
    · rw [he]; push_cast at h2; rw [h2]; rfl
    · push_cast at h3; rw [h3]; omega
    · push_cast at h3; rw [hdp, h3]; simp [Tr.depth]
  · obtain ⟨h1, h2, h3, h4⟩ := place_of h hc
    obtain ⟨g1, g2, g3, g4⟩ := place_of h hd
    have hp := depth_pos c
    refine ⟨.inr (.inr ⟨c.en, by rw [hkids]; simp [Tr.kids, h4, g4], ha, ?_, ?_, ?_, ?_⟩), by rw [hkids, ha]; rfl⟩
    · push_cast at h2; exact h2
    · rw [he, g2]; rfl
    · push_cast at h3; rw [h3]; omega
    · push_cast at h3; rw [hdp, h3, g3]; simp [Tr.depth]; omega
theorem join_self {l : List Nd} {k : Nat} (h : planB l = true) (hk : k < l.length) : joinN l k (partN l k) = l := by
  obtain ⟨T, S, _, _, _, hen, hlt, _, _, he, hp, _, _⟩ := place h hk
  unfold joinN
  rw [he, hp]
  simp only [Int.toNat_natCast]
  have e1 : l.take k ++ (l.drop k).take (S.en - k) = l.take S.en := by
    rw [show S.en = k + (S.en - k) by omega, List.take_add]; simp
  rw [e1, List.take_append_drop]
/-- All that the law asks of one place. -/
structure PlaceF (l : List Nd) (k : Nat) : Prop where
  en : endOfN l k = (k : Int) + (partN l k).length
  plan : planB (partN l k) = true
  ok : putB l k (partN l k) = true
  put : putN l k (partN l k) = l
  len : 1 ≤ (partN l k).length ∧ (partN l k).length ≤ 40
theorem placeF {l : List Nd} {k : Nat} (h : planB l = true) (hk : k < l.length) : PlaceF l k := by
  obtain ⟨T, S, ht, _, _, hen, hlt, _, _, he, hp, htp, hl⟩ := place h hk
  have hpl : planB (partN l k) = true := by simp [planB, htp]
  have hj := join_self h hk
  have hy := put_yes (plan_good h hk) hpl (by rw [hj]; exact h)
  have h40 := (treeN_some ht).1
  exact ⟨by rw [he, hl]; omega, hpl, hy.1, by rw [hy.2, hj], by omega, by omega⟩
theorem partN_mem {l : List Nd} {k : Int} {n : Nd} (h : n ∈ partN l k) : n ∈ l := by
  unfold partN at h
  split at h
  · exact List.mem_of_mem_drop (List.mem_of_mem_take h)
  · cases h
theorem partN_small {l : List Nd} (h : Small l) (k : Int) : Small (partN l k) := by
  refine ⟨?_, fun n hn => h.2 n (partN_mem hn)⟩
  have := h.1
  unfold partN
  split
  · simp; omega
  · simp
def sumK (l : List Nd) : Nat → Int
  | 0 => 0
  | j + 1 => sumK l j + cnt (j : Int) l
theorem cnt_cons (k : Int) (n : Nd) (l : List Nd) : cnt k (n :: l) = (if n.kind = k then 1 else 0) + cnt k l := by
  unfold cnt
  rw [List.filter_cons]
  by_cases h : n.kind = k
  · simp [h]; omega
  · simp [h]
theorem sum_all : ∀ l : List Nd, (∀ n ∈ l, 0 ≤ n.kind ∧ n.kind ≤ 7) → sumK l 8 = l.length
  | [], _ => by simp [sumK, cnt]
  | n :: l, h => by
    have ih := sum_all l (fun m hm => h m (List.mem_cons_of_mem _ hm))
    have hn := h n (by simp)
    simp only [sumK, cnt_cons] at ih ⊢
    have hc : n.kind = 0 ∨ n.kind = 1 ∨ n.kind = 2 ∨ n.kind = 3 ∨ n.kind = 4 ∨ n.kind = 5 ∨ n.kind = 6 ∨ n.kind = 7 := by omega
    rcases hc with h | h | h | h | h | h | h | h <;> simp [h] at ih ⊢ <;> omega
theorem sum_plan {l : List Nd} (h : planB l = true) : sumK l 8 = l.length := by
  obtain ⟨T, ht⟩ := plan_tree h
  exact sum_all l (fun n hn => kind_of_nodeB (treeN_all ht n hn))
theorem sumK_bd (l : List Nd) : ∀ j, 0 ≤ sumK l j ∧ sumK l j ≤ j * l.length
  | 0 => by simp [sumK]
  | j + 1 => by
    have := sumK_bd l j
    have := cnt_bd (j : Int) l
    simp only [sumK]
    have e : ((j + 1 : Nat) : Int) * (l.length : Int) = (j : Int) * (l.length : Int) + (l.length : Int) := by rw [Int.natCast_add, Int.add_mul]; simp
    rw [e]; omega
theorem depthN_bd (p : List Nd) : 0 ≤ depthN p ∧ depthN p ≤ 10 := by
  unfold depthN
  cases ht : treeN p with
  | none => simp
  | some T => have := (treeN_some ht).2.2.2; simp only; omega
theorem kid_at {w : World} {kb : Nat} {ks : List Int} {i : Nat} {z : Int} (h : Rd w .i64 (some ⟨kb, 0, none⟩) ks) (hz : ks[i]? = some z) : w.cell? ⟨kb, i, none⟩ = some (.int .i64 z) := by
  have hl := (List.getElem?_eq_some_iff.1 hz).1
  rcases h with h | ⟨b, off, he, hc⟩
  · rw [h] at hl; simp at hl
  · simp only [Option.some.injEq, Addr.mk.injEq, and_true] at he
    obtain ⟨rfl, rfl⟩ := he
    have := hc i hl
    rw [Nat.zero_add, List.getD_eq_getElem?_getD, hz] at this
    exact this
theorem count_plan {l : List Nd} (h : planB l = true) (k : Int) : countN l k = cnt k l := by unfold countN; rw [if_pos h]
theorem tabs_few (l : List Nd) : ((tabsOf (scans l)).length : Int) ≤ cnt 0 l := by
  have := tabsOf_le (scans l)
  have e : (scans l).length = (l.filter fun n => n.kind == 0).length := by unfold scans; rw [List.length_map]
  unfold cnt; omega
theorem end_none {l : List Nd} (h : planB l = false) : endOfN l 0 = -1 := by
  apply endOfN_no
  simp [goodB, h]
end Go.Proofs.Ytfbgflmolkgopaa
