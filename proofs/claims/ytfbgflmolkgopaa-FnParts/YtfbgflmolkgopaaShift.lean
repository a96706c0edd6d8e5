/-
  The part of a plan is a plan: its tree is the tree at that place, moved. Plain facts; no walk.
-/
import Derived.Test.YtfbgflmolkgopaaK1
namespace Go.Proofs.Ytfbgflmolkgopaa
set_option linter.unusedSimpArgs false
set_option linter.unusedVariables false

/-- A tree, moved to the front by k. -/
def Tr.shift (k : Nat) : Tr → Tr
  | t0 n p e => t0 n (p - k) (e - k)
  | t1 n p e c => t1 n (p - k) (e - k) (c.shift k)
  | t2 n p e c d => t2 n (p - k) (e - k) (c.shift k) (d.shift k)
theorem Tr.shift_en (k : Nat) (T : Tr) : (T.shift k).en = T.en - k := by cases T <;> rfl
theorem Tr.shift_pl (k : Nat) (T : Tr) : (T.shift k).pl = T.pl - k := by cases T <;> rfl
theorem Tr.shift_nd (k : Nat) (T : Tr) : (T.shift k).nd = T.nd := by cases T <;> rfl
theorem Tr.shift_depth (k : Nat) (T : Tr) : (T.shift k).depth = T.depth := by
  induction T with
  | t0 n p e => rfl
  | t1 n p e c ih => simp only [Tr.shift, Tr.depth, ih]
  | t2 n p e c d ih1 ih2 => simp only [Tr.shift, Tr.depth, ih1, ih2]

theorem part_get {p : List Nd} {k m j : Nat} (h : j < m) : ((p.drop k).take m)[j]? = p[k + j]? := by
  rw [List.getElem?_take_of_lt h, List.getElem?_drop]

theorem growT_part (p : List Nd) (k m : Nat) : ∀ (f j : Nat) (T : Tr), growT p f (k + j) = some T → T.en ≤ k + m → growT ((p.drop k).take m) f j = some (T.shift k) := by
  intro f
  induction f with
  | zero => intro j T h; cases h
  | succ f ih =>
    intro j T h hm
    have hs := growT_sound p _ _ _ h
    have hj : j < m := by omega
    simp only [growT] at h ⊢
    rw [part_get hj]
    cases hp : p[k + j]? with
    | none => rw [hp] at h; cases h
    | some n =>
      rw [hp] at h
      simp only at h ⊢
      cases hn : nodeB n with
      | false => rw [hn, if_pos rfl] at h; cases h
      | true =>
        rw [hn] at h
        simp only [Bool.true_eq_false, if_false] at h ⊢
        split at h
        · rename_i h1
          rw [if_pos h1]
          cases hc : growT p f (k + j + 1) with
          | none => rw [hc] at h; cases h
          | some c =>
            rw [hc] at h; simp only [Option.some.injEq] at h; subst h
            have hcs := growT_sound p _ _ _ hc
            simp only [Tr.en1] at hm
            rw [ih (j + 1) c (by rw [← Nat.add_assoc]; exact hc) hm]
            simp only [Tr.shift_en, Tr.shift]
            congr 2; omega
        · rename_i h1
          rw [if_neg h1]
          split at h
          · rename_i h2
            rw [if_pos h2]
            cases hc : growT p f (k + j + 1) with
            | none => rw [hc] at h; cases h
            | some c =>
              rw [hc] at h; simp only at h
              cases hd : growT p f c.en with
              | none => rw [hd] at h; cases h
              | some d =>
                rw [hd] at h; simp only [Option.some.injEq] at h; subst h
                have hcs := growT_sound p _ _ _ hc
                have hds := growT_sound p _ _ _ hd
                simp only [Tr.en2] at hm
                rw [ih (j + 1) c (by rw [← Nat.add_assoc]; exact hc) (by omega)]
                simp only [Tr.shift_en]
                rw [ih (c.en - k) d (by rw [show k + (c.en - k) = c.en by omega]; exact hd) hm]
                simp only [Tr.shift_en, Tr.shift]
                congr 2; omega
          · rename_i h2
            rw [if_neg h2]
            simp only [Option.some.injEq] at h; subst h
            simp only [Tr.shift]
            congr 2 <;> omega

/-- The part at a place is a plan, its tree is the one that is found there. -/
theorem treeN_part {p : List Nd} {k : Nat} {T S : Tr} (ht : treeN p = some T) (hS : growT p p.length k = some S) (hd : S.depth ≤ 10) : treeN ((p.drop k).take (S.en - k)) = some (S.shift k) := by
  have h40 := (treeN_some ht).1
  have hs := growT_sound p _ _ _ hS
  have hl : ((p.drop k).take (S.en - k)).length = S.en - k := by simp; omega
  have hg := growT_part p k (S.en - k) p.length 0 S (by rw [Nat.add_zero]; exact hS) (by omega)
  rw [growT_fuel _ p.length ((p.drop k).take (S.en - k)).length 0 (by rw [hl]; omega) (by omega)] at hg
  unfold treeN
  rw [if_pos (by rw [hl]; omega), hg]
  simp only
  rw [if_pos ⟨by rw [Tr.shift_en, hl], by rw [Tr.shift_depth]; exact hd⟩]
end Go.Proofs.Ytfbgflmolkgopaa
