/-
  What is asked of places, depths and kinds of plans, as plain functions. No program, no walk. Contracts of EndOf, DepthOf and CountKind, of the model and of the program. For every slice of nodes. Contracts of ChildrenOf, of the model and of the program. For every slice of nodes and every number. Contract of toNodeS. For every slice of nodes.
-/
import Derived.Test.YtfbgflmolkgopaaSPlan
import Derived.Test.YtfbgflmolkgopaaITree
import Derived.Test.YtfbgflmolkgopaaK1
namespace Go.Proofs.Ytfbgflmolkgopaa
open Go.RowKit
set_option linter.unusedSimpArgs false
set_option linter.unusedVariables false

theorem good_some {p : List Nd} {k : Int} (h : goodB p k = true) : ∃ T S, treeN p = some T ∧ fnd k T = some S ∧ S.pl = k.toNat ∧ S.en ≤ p.length ∧ k.toNat < S.en ∧ S.depth ≤ 10 ∧ endN p 10 k.toNat = some (S.en, S.depth) ∧ 0 ≤ k ∧ k < p.length ∧ growT p p.length k.toNat = some S := by
  simp only [goodB, Bool.and_eq_true, decide_eq_true_eq] at h
  obtain ⟨hb, h0, h1⟩ := h
  cases ht : treeN p with
  | none => simp [planB, ht] at hb
  | some T =>
    obtain ⟨_, hg, he, hd⟩ := treeN_some ht
    obtain ⟨S, hf, hgS, hdS, heS⟩ := find_grow p _ 0 k.toNat T hg (Nat.zero_le _) (by omega)
    have hs := growT_sound p _ _ _ hgS
    refine ⟨T, S, rfl, ?_, hs.1, hs.2.2.1, hs.2.1, by omega, ?_, h0, by omega, hgS⟩
    · unfold fnd; rw [if_neg (by omega)]; exact hf
    · rw [endN_grow p (treeN_all ht) p.length 10 k.toNat (by omega), hgS]
      simp only
      rw [if_pos (by omega)]
theorem good_none {p : List Nd} {k : Int} (h : goodB p k = false) : treeN p = none ∨ ∃ T, treeN p = some T ∧ fnd k T = none := by
  cases ht : treeN p with
  | none => exact .inl rfl
  | some T =>
    right
    refine ⟨T, rfl, fnd_out ?_⟩
    obtain ⟨_, hg, he, _⟩ := treeN_some ht
    have hs := growT_sound p _ _ _ hg
    have hb : planB p = true := by simp [planB, ht]
    simp only [goodB, hb, Bool.true_and, Bool.and_eq_false_iff, decide_eq_false_iff_not] at h
    have : T.pl = 0 := hs.1
    omega

/-- Where the node at a place ends, -1 where there is none. -/
def endOfN (p : List Nd) (k : Int) : Int :=
  match treeN p with
  | none => -1
  | some T =>
    match fnd k T with
    | none => -1
    | some S => S.en
theorem endOfN_no {p : List Nd} {k : Int} (h : goodB p k = false) : endOfN p k = -1 := by
  unfold endOfN
  rcases good_none h with ht | ⟨T, ht, hf⟩
  · rw [ht]
  · rw [ht]; simp only; rw [hf]
/-- How deep a plan is, 0 where it is none. -/
def depthN (p : List Nd) : Int :=
  match treeN p with
  | none => 0
  | some T => T.depth
def cnt (kind : Int) (l : List Nd) : Int := ((l.filter fun n => n.kind == kind).length : Nat)
/-- How many nodes of a kind a plan has, -1 where it is none. -/
def countN (p : List Nd) (kind : Int) : Int := if planB p = true then cnt kind p else -1
theorem cnt_bd (kind : Int) (l : List Nd) : 0 ≤ cnt kind l ∧ cnt kind l ≤ l.length := by
  unfold cnt; have := List.length_filter_le (fun n : Nd => n.kind == kind) l; omega
theorem cnt_take {kind : Int} {l : List Nd} {k : Nat} {n : Nd} (h : l[k]? = some n) : cnt kind (l.take (k + 1)) = cnt kind (l.take k) + if n.kind = kind then 1 else 0 := by
  have hk : k < l.length := by
    rcases Nat.lt_or_ge k l.length with h1 | h1
    · exact h1
    · rw [List.getElem?_eq_none h1] at h; cases h
  rw [List.take_succ_eq_append_getElem hk]
  have : l[k] = n := by rw [List.getElem?_eq_getElem hk] at h; injection h
  rw [this]
  unfold cnt
  rw [List.filter_append]
  by_cases hh : n.kind = kind <;> simp [hh]
end Go.Proofs.Ytfbgflmolkgopaa
namespace Go.Proofs.Ytfbgflmolkgopaa
open Go.RowKit
set_option linter.unusedSimpArgs false
set_option linter.unusedVariables false

theorem specDepthOf_any (ao : Option Addr) (c : Nat) (p : List Nd) (w : World) (h : RdN w ao p) (hp : p.length ≤ 1048576) :
    Calls Try.prog 11 #[.slice ao p.length c] w fun e w' => e = .returned (.int .i64 (depthN p)) ∧ Below w.heap.size w w' := by
  have H := Lib.hid h; clear h
  cases ht : treeN p with
  | none =>
    have HB := Lib.hid (show planB p = false by simp [planB, ht])
    have E := Lib.hid (show depthN p = 0 by unfold depthN; rw [ht])
    clear ht
    go_enter Try.func11, Try.ntmps11
    go_wp2_with fail
    refine (specPlanOk_any ao c p _ H.out hp).mono ?_
    rintro e w1 ⟨rfl, b1⟩
    rw [HB.out]
    go_wp2_with fail
    go_ret
    exact ⟨ret_int E.out.symm, b1⟩
  | some T =>
    have HB := Lib.hid (show planB p = true by simp [planB, ht])
    have E := Lib.hid (show depthN p = T.depth by unfold depthN; rw [ht])
    obtain ⟨_, hg, he, hd⟩ := treeN_some ht
    have HE := Lib.hid (show endN p 10 (0 : Int).toNat = some (T.en, T.depth) by
      show endN p 10 0 = _
      rw [endN_grow p (treeN_all ht) p.length 10 0 (by omega), hg]; simp only; rw [if_pos hd])
    clear ht hg he hd
    go_enter Try.func11, Try.ntmps11
    go_wp2_with fail
    refine (specPlanOk_any ao c p _ H.out hp).mono ?_
    rintro e w1 ⟨rfl, b1⟩
    rw [HB.out]
    have R1 := Lib.hid (H.out.below b1)
    have B1 := Lib.hid b1; clear b1
    go_wp2_with fail
    refine (specEnd_any ao c p hp 10 0 10 _ R1.out (by omega) (by omega) (by omega) (by omega) (by omega)).mono ?_
    rintro e w' ⟨rfl, rfl⟩
    rw [HE.out]
    simp only [endV]
    go_wp2_with fail
    go_ret
    exact ⟨ret_int E.out.symm, B1.out⟩

theorem implEndOf_any (ao : Option Addr) (c : Nat) (p : List Nd) (hp : Small p) (k : Int) (w : World) (h : RdN w ao p) :
    Calls Try.prog 12 #[.slice ao p.length c, .int .i64 k] w fun e w' => e = .returned (.int .i64 (endOfN p k)) ∧ Below w.heap.size w w' := by
  have H := Lib.hid h; clear h
  go_enter Try.func12, Try.ntmps12
  go_wp2_with fail
  refine (treeOf_any ao c p hp _ H.out).mono ?_
  intro e w1 hpost
  cases ht : treeN p with
  | none =>
    rw [ht] at hpost
    obtain ⟨rfl, b1⟩ := hpost
    have E := Lib.hid (show endOfN p k = -1 by unfold endOfN; rw [ht])
    clear ht
    go_wp2_with fail
    refine (findNil_any _ _).mono ?_
    rintro e w' ⟨rfl, rfl⟩
    go_wp2_with fail
    go_ret
    exact ⟨ret_int E.out.symm, b1⟩
  | some T =>
    rw [ht] at hpost
    obtain ⟨b, rfl, tr, b1⟩ := hpost
    have TR := Lib.hid tr; have B1 := Lib.hid b1; have HT := Lib.hid ht
    clear tr b1 ht
    go_wp2_with fail
    refine (find_any k T _ _ _ b TR.out).mono ?_
    intro e w' hpost
    cases hf : fnd k T with
    | none =>
      rw [hf] at hpost
      obtain ⟨rfl, rfl⟩ := hpost
      have E := Lib.hid (show endOfN p k = -1 by unfold endOfN; rw [HT.out]; simp only; rw [hf])
      clear hf
      go_wp2_with fail
      go_ret
      exact ⟨ret_int E.out.symm, B1.out⟩
    | some S =>
      rw [hf] at hpost
      obtain ⟨bs, rfl, ts, rfl⟩ := hpost
      have E := Lib.hid (show endOfN p k = S.en by unfold endOfN; rw [HT.out]; simp only; rw [hf])
      clear hf
      obtain ⟨v, _, _, a, c', c0, c1, c2, c3⟩ := ts.head
      clear ts
      go_wp2_with fail
      go_ret
      exact ⟨ret_int E.out.symm, B1.out⟩

theorem implDepthOf_any (ao : Option Addr) (c : Nat) (p : List Nd) (hp : Small p) (w : World) (h : RdN w ao p) :
    Calls Try.prog 10 #[.slice ao p.length c] w fun e w' => e = .returned (.int .i64 (depthN p)) ∧ Below w.heap.size w w' := by
  have H := Lib.hid h; clear h
  go_enter Try.func10, Try.ntmps10
  go_wp2_with fail
  refine (treeOf_any ao c p hp _ H.out).mono ?_
  intro e w1 hpost
  cases ht : treeN p with
  | none =>
    rw [ht] at hpost
    obtain ⟨rfl, b1⟩ := hpost
    have E := Lib.hid (show depthN p = 0 by unfold depthN; rw [ht])
    clear ht
    go_wp2_with fail
    refine (depthNil_any _).mono ?_
    rintro e w' ⟨rfl, rfl⟩
    go_wp2_with fail
    go_ret
    exact ⟨ret_int E.out.symm, b1⟩
  | some T =>
    rw [ht] at hpost
    obtain ⟨b, rfl, tr, b1⟩ := hpost
    have E := Lib.hid (show depthN p = T.depth by unfold depthN; rw [ht])
    have hd := (treeN_some ht).2.2.2
    have TR := Lib.hid tr; have B1 := Lib.hid b1
    clear tr b1 ht
    go_wp2_with fail
    refine (depth_any T _ _ _ b TR.out (by omega)).mono ?_
    rintro e w' ⟨rfl, rfl⟩
    go_wp2_with fail
    go_ret
    exact ⟨ret_int E.out.symm, B1.out⟩

set_option maxHeartbeats 1600000 in
theorem implCountKind_any (ao : Option Addr) (c : Nat) (p : List Nd) (hp : Small p) (kind : Int) (w : World) (h : RdN w ao p) :
    Calls Try.prog 18 #[.slice ao p.length c, .int .i64 kind] w fun e w' => e = .returned (.int .i64 (countN p kind)) ∧ Below w.heap.size w w' := by
  have H := Lib.hid h; clear h
  have hpl := hp.1
  have SM := Lib.hid hp; clear hp
  cases hb : planB p with
  | false =>
    have HB := Lib.hid hb
    have E := Lib.hid (show countN p kind = -1 by simp [countN, hb])
    clear hb
    go_enter Try.func18, Try.ntmps18
    go_wp2_with fail
    refine (implPlanOk_any ao c p SM.out _ H.out).mono ?_
    rintro e w1 ⟨rfl, b1⟩
    rw [HB.out]
    go_wp2_with fail
    go_ret
    exact ⟨ret_int E.out.symm, b1⟩
  | true =>
    have HB := Lib.hid hb
    have E := Lib.hid (show countN p kind = cnt kind p by simp [countN, hb])
    clear hb
    go_enter Try.func18, Try.ntmps18
    go_wp2_with fail
    refine (implPlanOk_any ao c p SM.out _ H.out).mono ?_
    rintro e w1 ⟨rfl, b1⟩
    rw [HB.out]
    have B1 := Lib.hid b1; clear b1
    go_wp2_with fail
    go_loopw [5, 13] (fun q i wr => ∃ j : Nat, j ≤ p.length ∧ i = .int .i64 j ∧ q = .int .i64 (cnt kind (p.take j)) ∧ Below w.heap.size w wr) (fun _ i _ => p.length - (intOf i).toNat)
    case atStart => exact ⟨0, Nat.zero_le _, rfl, rfl, B1.out⟩
    case round =>
      obtain ⟨j, hj, rfl, rfl, hb⟩ := hrel
      have hbd := cnt_bd kind (p.take j)
      have hlen : (p.take j).length ≤ j := List.length_take_le _ _
      have HW := Lib.hid hb
      by_cases hlt : j < p.length
      · obtain ⟨b, off, n, a, c', rfl, hn, hat⟩ := (H.out.below hb).at_ hlt
        obtain ⟨c0, c1, c2, c3, c4, c5, c6, _⟩ := hat
        have S := Lib.hid (cnt_take (kind := kind) hn)
        clear hn hb
        by_cases hk : n.kind = kind
        · have hk' : (n.kind == kind) = true := beq_iff_eq.2 hk
          have S2 := Lib.hid (show cnt kind (p.take (j + 1)) = cnt kind (p.take j) + 1 by rw [S.out, if_pos hk])
          clear hk S
          go_wp2_with fail
          go_roundw
          case rel => exact ⟨j + 1, by omega, by go_num, by rw [S2.out], HW.out.alloc HW.out.size _⟩
          case measure => simp [intOf]; omega
        · have hk' : (n.kind == kind) = false := beq_eq_false_iff_ne.2 hk
          have S2 := Lib.hid (show cnt kind (p.take (j + 1)) = cnt kind (p.take j) by rw [S.out, if_neg hk]; omega)
          clear hk S
          go_wp2_with fail
          go_roundw
          case rel => exact ⟨j + 1, by omega, by go_num, by rw [S2.out], HW.out.alloc HW.out.size _⟩
          case measure => simp [intOf]; omega
      · obtain rfl : j = p.length := by omega
        clear hb
        go_wp2_with fail
        go_ret
        exact ⟨ret_int (by first | exact E.out.symm | rw [E.out, List.take_length]), HW.out⟩
end Go.Proofs.Ytfbgflmolkgopaa
namespace Go.Proofs.Ytfbgflmolkgopaa
open Go.RowKit
set_option linter.unusedSimpArgs false
set_option linter.unusedVariables false

/-- The places of a node's children. -/
def kidsN (p : List Nd) (k : Int) : List Int :=
  match treeN p with
  | none => []
  | some T =>
    match fnd k T with
    | none => []
    | some S => S.kids.map fun c => (c.pl : Int)
theorem kidsN_no {p : List Nd} {k : Int} (h : goodB p k = false) : kidsN p k = [] := by
  unfold kidsN
  rcases good_none h with ht | ⟨T, ht, hf⟩
  · rw [ht]
  · rw [ht]; simp only; rw [hf]

/-- A tree is made of the trees that begin where its children do. -/
theorem grow_inv {p : List Nd} {f k : Nat} {S : Tr} (h : growT p f k = some S) : ∃ n, p[k]? = some n ∧ nodeB n = true ∧
    ((S = .t0 n k (k + 1) ∧ arity n.kind = 0) ∨ (∃ c, S = .t1 n k c.en c ∧ arity n.kind = 1 ∧ growT p f (k + 1) = some c) ∨ (∃ c d, S = .t2 n k d.en c d ∧ arity n.kind = 2 ∧ growT p f (k + 1) = some c ∧ growT p f c.en = some d)) := by
  cases f with
  | zero => cases h
  | succ f =>
    cases hn : p[k]? with
    | none => simp [growT, hn] at h
    | some n =>
      cases hb : nodeB n with
      | false => rw [growT_no hn hb] at h; cases h
      | true =>
        refine ⟨n, rfl, hb, ?_⟩
        rcases arity_of_nodeB hb with ha | ha | ha
        · rw [growT_0 hn hb (by omega) (by omega)] at h; cases h; exact .inl ⟨rfl, ha⟩
        · cases hc : growT p f (k + 1) with
          | none => rw [growT_1n hn ha hc] at h; cases h
          | some c => rw [growT_1s hn hb ha hc] at h; cases h; exact .inr (.inl ⟨c, rfl, ha, growT_more p _ _ _ hc⟩)
        · cases hc : growT p f (k + 1) with
          | none => rw [growT_2n hn ha hc] at h; cases h
          | some c =>
            cases hd : growT p f c.en with
            | none => rw [growT_2sn hn ha hc hd] at h; cases h
            | some d => rw [growT_2ss hn hb ha hc hd] at h; cases h; exact .inr (.inr ⟨c, d, rfl, ha, growT_more p _ _ _ hc, growT_more p _ _ _ hd⟩)
theorem endN_of_grow {p : List Nd} {T c : Tr} {k : Nat} (ht : treeN p = some T) (hg : growT p p.length k = some c) (hd : c.depth ≤ 10) : endN p 10 k = some (c.en, c.depth) := by
  rw [endN_grow p (treeN_all ht) p.length 10 k (by omega), hg]
  simp only
  rw [if_pos hd]

/-- What l02Kids answers, at a good place. -/
def KidsOk (p : List Nd) (k : Nat) (l : List Int) : Prop :=
  ∃ n, p[k]? = some n ∧ ((arity n.kind = 0 ∧ l = []) ∨ (arity n.kind = 1 ∧ l = [(k : Int) + 1] ∧ ∃ e d, endN p 10 (k + 1) = some (e, d)) ∨
    (arity n.kind = 2 ∧ ∃ e d e' d', endN p 10 (k + 1) = some (e, d) ∧ endN p 10 e = some (e', d') ∧ l = [(k : Int) + 1, (e : Int)]))
theorem kids_ok {p : List Nd} {k : Int} (h : goodB p k = true) : KidsOk p k.toNat (kidsN p k) := by
  obtain ⟨T, S, ht, hf, _, _, _, hd, _, h0, _, hg⟩ := good_some h
  have hk : kidsN p k = S.kids.map fun c => (c.pl : Int) := by unfold kidsN; rw [ht]; simp only; rw [hf]
  rw [hk]
  obtain ⟨n, hn, _, hS | ⟨c, rfl, ha, hc⟩ | ⟨c, d, rfl, ha, hc, hdd⟩⟩ := grow_inv hg
  · obtain ⟨rfl, ha⟩ := hS
    exact ⟨n, hn, .inl ⟨ha, rfl⟩⟩
  · have hpl := (growT_sound p _ _ _ hc).1
    refine ⟨n, hn, .inr (.inl ⟨ha, ?_, _, _, endN_of_grow ht hc (by simp only [Tr.depth] at hd; omega)⟩)⟩
    simp [Tr.kids, hpl]
  · have hpl := (growT_sound p _ _ _ hc).1
    have hpl' := (growT_sound p _ _ _ hdd).1
    simp only [Tr.depth] at hd
    refine ⟨n, hn, .inr (.inr ⟨ha, _, _, _, _, endN_of_grow ht hc (by omega), endN_of_grow ht hdd (by omega), ?_⟩)⟩
    simp [Tr.kids, hpl, hpl']


end Go.Proofs.Ytfbgflmolkgopaa
namespace Go.Proofs.Ytfbgflmolkgopaa
open Go.RowKit
set_option linter.unusedSimpArgs false
set_option linter.unusedVariables false

theorem Try.infoNode : (Try.prog.info? 37).map (fun i => (i.zero, i.size, i.bytes)) = some (some (.agg #[.int .i64 0, .string ⟨#[]⟩, .int .i64 0, .int .i64 0, .int .i64 0, .bool false, .slice none 0 0]), 7, 80) := by kernel_rfl

end Go.Proofs.Ytfbgflmolkgopaa
