/-
  Contracts of PartOf, of the model and of the program. For every slice of nodes and every number.
-/
import Derived.Test.YtfbgflmolkgopaaCopyS
import Derived.Test.YtfbgflmolkgopaaCopyI
import Derived.Deep.RegionWith
namespace Go.Proofs.Ytfbgflmolkgopaa
open Go.RowKit
set_option linter.unusedSimpArgs false
set_option linter.unusedVariables false

theorem OwnN.cap {w : World} {base : Nat} {ao : Option Addr} {c : Nat} {l : List Nd} (h : OwnN w base ao c l) : l = [] ∨ (l.length ≤ c ∧ c ≤ maxLen) := by
  rcases h with h | ⟨g, xs, A, C, _, hp⟩
  · exact .inl h
  · right
    rcases hp.own.2 with ⟨hv, _⟩ | ⟨g', cap, cur, hv, _, _, h1, h2, _⟩
    · simp at hv
    · simp only [Value.slice.injEq] at hv
      rw [hv.2.2]; exact ⟨h1, h2⟩

/-- The part that begins at a place. -/
def partN (p : List Nd) (k : Int) : List Nd := if goodB p k = true then (p.drop k.toNat).take ((endOfN p k).toNat - k.toNat) else []

/-- What is known of a good place. -/
theorem part_good {p : List Nd} {k : Int} (h : goodB p k = true) : ∃ T S, treeN p = some T ∧ fnd k T = some S ∧ S.pl = k.toNat ∧ endOfN p k = S.en ∧ k.toNat < S.en ∧ S.en ≤ p.length ∧ 0 ≤ k ∧ partN p k = (p.drop k.toNat).take (S.en - k.toNat) ∧ (partN p k).length = S.en - k.toNat := by
  obtain ⟨T, S, ht, hf, hpl, hen, hlt, _, _, h0, h1, _⟩ := good_some h
  have he : endOfN p k = S.en := by unfold endOfN; rw [ht]; simp only; rw [hf]
  have hp : partN p k = (p.drop k.toNat).take (S.en - k.toNat) := by unfold partN; rw [if_pos h, he]; simp
  refine ⟨T, S, ht, hf, hpl, he, hlt, hen, h0, hp, ?_⟩
  rw [hp]; simp; omega
theorem part_mem {p : List Nd} {k : Int} {n : Nd} (h : n ∈ partN p k) : n ∈ p := by
  unfold partN at h
  split at h
  · exact List.mem_of_mem_drop (List.mem_of_mem_take h)
  · cases h
theorem partN_no {p : List Nd} {k : Int} (h : goodB p k = false) : partN p k = [] := by unfold partN; rw [if_neg (by simp [h])]

set_option maxRecDepth 100000 in
set_option maxHeartbeats 1600000 in
theorem implPartOf_any (ao : Option Addr) (c : Nat) (p : List Nd) (hp : Small p) (k : Int) (w : World) (h : RdN w ao p) (hcm : p = [] ∨ (p.length ≤ c ∧ c ≤ maxLen)) :
    Calls Try.prog 13 #[.slice ao p.length c, .int .i64 k] w (MadeN w (partN p k)) := by
  have H := Lib.hid h; clear h
  have hpl := hp.1
  have SM := Lib.hid hp; clear hp
  have HCM := Lib.hid hcm; clear hcm
  cases hg : goodB p k with
  | false =>
    have GN := Lib.hid (good_none hg)
    rw [partN_no hg]; clear hg
    go_enter Try.func13, Try.ntmps13
    go_wp2_with fail
    refine (treeOf_any ao c p SM.out _ H.out).mono ?_
    intro e w1 hpost
    rcases GN.out with ht | ⟨T, ht, hf⟩
    · rw [ht] at hpost
      obtain ⟨rfl, b1⟩ := hpost
      clear ht
      go_wp2_with fail
      refine (findNil_any _ _).mono ?_
      rintro e w' ⟨rfl, rfl⟩
      go_wp2_with fail
      go_ret
      exact ⟨none, 0, rfl, .inl rfl, b1⟩
    · rw [ht] at hpost
      obtain ⟨b, rfl, tr, b1⟩ := hpost
      have TR := Lib.hid tr; have B1 := Lib.hid b1; have HF := Lib.hid hf
      clear ht tr b1 hf
      go_wp2_with fail
      refine (find_any k T _ _ _ b TR.out).mono ?_
      rw [HF.out]
      rintro e w' ⟨rfl, rfl⟩
      go_wp2_with fail
      go_ret
      exact ⟨none, 0, rfl, .inl rfl, B1.out⟩
  | true =>
    obtain ⟨T, S, ht, hf, hSp, _, hlt, hen, h0, hpart, hplen⟩ := part_good hg
    obtain ⟨hc, hm⟩ : p.length ≤ c ∧ c ≤ maxLen := by
      rcases HCM.out with hh | hh
      · subst hh; simp at hen; omega
      · exact hh
    unfold maxLen at hm
    have HPA := Lib.hid hpart; have HPL := Lib.hid hplen; have HT := Lib.hid ht; have HF := Lib.hid hf; have HSP := Lib.hid hSp
    clear hg hpart hplen ht hf hSp
    obtain ⟨b, off, rfl⟩ : ∃ b off, ao = some ⟨b, off, none⟩ := by
      obtain ⟨b, off, _, _, _, rfl, _⟩ := H.out.at_ (i := k.toNat) (by omega); exact ⟨b, off, rfl⟩
    have k1 : S.pl < S.en := by have := HSP.out; omega
    have k2 : (S.en : Int) ≤ (c : Int) := by omega
    have k3 : (S.pl : Int) ≤ (c : Int) := by omega
    have k4 : (S.pl : Int) ≤ (S.en : Int) := by omega
    have hcne : ¬ (c = S.pl) := by omega
    go_enter Try.func13, Try.ntmps13
    go_wp2_with fail
    refine (treeOf_any _ c p SM.out _ H.out).mono ?_
    rw [HT.out]
    rintro e w1 ⟨bt, rfl, tr, b1⟩
    have TR := Lib.hid tr; have B1 := Lib.hid b1
    clear tr b1
    go_wp2_with fail
    refine (find_any k T _ _ _ bt TR.out).mono ?_
    rw [HF.out]
    rintro e w' ⟨bs, rfl, ts, rfl⟩
    obtain ⟨v, _, _, a, c', c0, c1, c2, c3⟩ := ts.head
    clear ts
    have LC := copyNodes_any (some ⟨b, off + S.pl * 7, none⟩) (c - S.pl) (partN p k) w1.drew (by rw [HPA.out, ← HSP.out]; exact (show RdN w1.drew _ p from H.out.below B1.out.drew).part _ _) (by intro hh; have := HPL.out; rw [hh] at this; simp at this; omega) (by rw [HPL.out]; omega) (fun n hn => SM.out.2 n (part_mem hn))
    rw [HPL.out, ← HSP.out] at LC
    have LC' := Lib.hid LC; clear LC
    go_wp2_with fail
    first | go_region_with (go_at_call 37; (try rw [if_neg hcne]); refine LC'.out.mono ?_; rintro e w3 ⟨a3, c3', rfl, o3, b3⟩; have O3 := Lib.hid (o3.base_le B1.out.drew.size); have B3 := Lib.hid (below_step B1.out.drew (Nat.le_refl _) b3); clear o3 b3) | fail
    all_goals
      go_wp2_with fail
      go_ret
      exact ⟨a3, c3', rfl, O3.out, B3.out⟩
end Go.Proofs.Ytfbgflmolkgopaa
