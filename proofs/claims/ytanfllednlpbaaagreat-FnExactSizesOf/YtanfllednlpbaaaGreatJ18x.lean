/-
  Contracts of the tree's depth and find, and of impl.treeOf, impl.PlanOk, impl.EndOf, impl.DepthOf. For every slice of nodes. What is asked of places, depths and kinds of plans, as plain functions. No program, no walk. Contracts of EndOf, DepthOf and CountKind, of the model and of the program. For every slice of nodes. Contracts of ChildrenOf, of the model and of the program. For every slice of nodes and every number. The width of a tree under a map of names to widths. Plain facts; no walk.
-/
import Derived.Test.YtanfllednlpbaaaGreatJ17x
import Derived.Test.YtanfllednlpbaaaGreatJ12x
import Derived.Test.YtanfllednlpbaaaGreatJ6x
import Derived.Test.YtanfllednlpbaaaGreatJ2x
namespace Go.Proofs.YtanfllednlpbaaaGreat
open Go.RowKit
set_option linter.unusedSimpArgs false
set_option linter.unusedVariables false

theorem depthNil_any (w : World) : Calls Tryz.prog 98 #[.pointer none] w fun e w' => e = .returned (.int .i64 0) ∧ w = w' := by
  go_enter Tryz.func98, Tryz.ntmps98
  go_wp2_with fail
  go_ret
  exact ⟨rfl, rfl⟩

set_option maxHeartbeats 1600000 in
theorem depth_any : ∀ (T : Tr) (w : World) (lo hi b : Nat), TrAt w lo hi T b → T.depth ≤ 1048576 →
    Calls Tryz.prog 98 #[.pointer (some ⟨b, 0, none⟩)] w fun e w' => e = .returned (.int .i64 T.depth) ∧ w = w' := by
  intro T
  induction T with
  | t0 n pl en =>
    intro w lo hi b h hd
    obtain ⟨_, _, a, c, c0, c1, c2, c3⟩ := h
    go_enter Tryz.func98, Tryz.ntmps98
    go_wp2_with fail
    refine wp_loop_rounds 1 ?_; rw [rounds_succ]
    go_wp2_with fail
    go_ret
    exact ⟨rfl, rfl⟩
  | t1 n pl en c ih =>
    intro w lo hi b h hd
    have e1 := Lib.hid (show (Tr.t1 n pl en c).depth = c.depth + 1 from rfl)
    have hd' : c.depth ≤ 1048576 := by have := e1.out; omega
    obtain ⟨g, cap, bc, ⟨_, _, a, cc, c0, c1, c2, c3⟩, hg, g0, tc⟩ := h
    have IH := Lib.hid (ih w lo hi bc tc hd')
    clear ih tc hd
    go_enter Tryz.func98, Tryz.ntmps98
    go_wp2_with fail
    refine wp_loop_rounds 2 ?_; rw [rounds_succ]
    go_wp2_with (go_at_call 98; refine IH.out.mono ?_; rintro e w' ⟨rfl, rfl⟩)
    rw [rounds_succ]
    go_wp2_with fail
    go_ret
    exact ⟨ret_int (by have := e1.out; omega), rfl⟩
  | t2 n pl en c d ihc ihd =>
    intro w lo hi b h hd
    have e1 := Lib.hid (show (Tr.t2 n pl en c d).depth = max c.depth d.depth + 1 from rfl)
    have hd1 : c.depth ≤ 1048576 := by have := e1.out; omega
    have hd2 : d.depth ≤ 1048576 := by have := e1.out; omega
    obtain ⟨g, cap, bc, bd, ⟨_, _, a, cc, c0, c1, c2, c3⟩, hg, g0, g1, tc, td⟩ := h
    have IC := Lib.hid (ihc w lo hi bc tc hd1)
    have ID := Lib.hid (ihd w lo hi bd td hd2)
    clear ihc ihd tc td hd
    by_cases hm : (c.depth : Int) ≤ d.depth
    all_goals
      go_enter Tryz.func98, Tryz.ntmps98
      go_wp2_with fail
      refine wp_loop_rounds 3 ?_; rw [rounds_succ]
      go_wp2_with fail
      refine IC.out.mono ?_
      rintro e w' ⟨rfl, rfl⟩
      go_wp2_with fail
      rw [rounds_succ]
      go_wp2_with fail
      refine ID.out.mono ?_
      rintro e w' ⟨rfl, rfl⟩
      go_wp2_with fail
      rw [rounds_succ]
      go_wp2_with fail
      go_ret
      exact ⟨ret_int (by have := e1.out; omega), rfl⟩

/-- What is found at a place, which may be below 0. -/
def fnd (k : Int) (T : Tr) : Option Tr := if k < 0 then none else T.find k.toNat
/-- What find answers. -/
def FindPost (w : World) (lo hi : Nat) : Option Tr → Ending → World → Prop
  | none, e, w' => e = .returned (.pointer none) ∧ w = w'
  | some S, e, w' => ∃ b, e = .returned (.pointer (some ⟨b, 0, none⟩)) ∧ TrAt w lo hi S b ∧ w = w'
theorem fnd_out {k : Int} {T : Tr} (h : k < T.pl ∨ (T.en : Int) ≤ k) : fnd k T = none := by
  unfold fnd
  by_cases hk : k < 0
  · rw [if_pos hk]
  · rw [if_neg hk]
    cases T <;> simp only [Tr.find, Tr.pl, Tr.en] at h ⊢ <;> rw [if_pos (by omega)]
theorem fnd_0 {k : Int} {n : Nd} {pl en : Nat} (h1 : (pl : Int) ≤ k) (h2 : k < en) : fnd k (.t0 n pl en) = some (.t0 n pl en) := by
  unfold fnd; rw [if_neg (by omega)]; simp only [Tr.find]; rw [if_neg (by omega)]
theorem fnd_1s {k : Int} {n : Nd} {pl en : Nat} {c s : Tr} (h1 : (pl : Int) ≤ k) (h2 : k < en) (hc : fnd k c = some s) : fnd k (.t1 n pl en c) = some s := by
  unfold fnd at hc ⊢; rw [if_neg (by omega)] at hc ⊢; simp only [Tr.find]; rw [if_neg (by omega), hc]
theorem fnd_1n {k : Int} {n : Nd} {pl en : Nat} {c : Tr} (h1 : (pl : Int) ≤ k) (h2 : k < en) (hc : fnd k c = none) : fnd k (.t1 n pl en c) = some (.t1 n pl en c) := by
  unfold fnd at hc ⊢; rw [if_neg (by omega)] at hc ⊢; simp only [Tr.find]; rw [if_neg (by omega), hc]
theorem fnd_2s {k : Int} {n : Nd} {pl en : Nat} {c d s : Tr} (h1 : (pl : Int) ≤ k) (h2 : k < en) (hc : fnd k c = some s) : fnd k (.t2 n pl en c d) = some s := by
  unfold fnd at hc ⊢; rw [if_neg (by omega)] at hc ⊢; simp only [Tr.find]; rw [if_neg (by omega), hc]
theorem fnd_2ns {k : Int} {n : Nd} {pl en : Nat} {c d s : Tr} (h1 : (pl : Int) ≤ k) (h2 : k < en) (hc : fnd k c = none) (hd : fnd k d = some s) : fnd k (.t2 n pl en c d) = some s := by
  unfold fnd at hc hd ⊢; rw [if_neg (by omega)] at hc hd ⊢; simp only [Tr.find]; rw [if_neg (by omega), hc]; simp only; rw [hd]
theorem fnd_2nn {k : Int} {n : Nd} {pl en : Nat} {c d : Tr} (h1 : (pl : Int) ≤ k) (h2 : k < en) (hc : fnd k c = none) (hd : fnd k d = none) : fnd k (.t2 n pl en c d) = some (.t2 n pl en c d) := by
  unfold fnd at hc hd ⊢; rw [if_neg (by omega)] at hc hd ⊢; simp only [Tr.find]; rw [if_neg (by omega), hc]; simp only; rw [hd]

theorem depth_le (p : List Nd) : ∀ (f k : Nat) (T : Tr), growT p f k = some T → T.depth ≤ f := by
  intro f
  induction f with
  | zero => intro k T h; cases h
  | succ f ih =>
    intro k T h
    cases hn : p[k]? with
    | none => simp [growT, hn] at h
    | some n =>
      cases hb : nodeB n with
      | false => rw [growT_no hn hb] at h; cases h
      | true =>
        by_cases h1 : arity n.kind = 1
        · cases hc : growT p f (k + 1) with
          | none => rw [growT_1n hn h1 hc] at h; cases h
          | some c => rw [growT_1s hn hb h1 hc] at h; cases h; have := ih _ _ hc; simp only [Tr.depth]; omega
        · by_cases h2 : arity n.kind = 2
          · cases hc : growT p f (k + 1) with
            | none => rw [growT_2n hn h2 hc] at h; cases h
            | some c =>
              cases hd : growT p f c.en with
              | none => rw [growT_2sn hn h2 hc hd] at h; cases h
              | some d => rw [growT_2ss hn hb h2 hc hd] at h; cases h; have := ih _ _ hc; have := ih _ _ hd; simp only [Tr.depth]; omega
          · rw [growT_0 hn hb h1 h2] at h; cases h; simp only [Tr.depth]; omega

set_option maxHeartbeats 1600000 in
theorem treeOf_any (ao : Option Addr) (c : Nat) (p : List Nd) (hp : Small p) (w : World) (h : RdN w ao p) :
    Calls Tryz.prog 52 #[.slice ao p.length c] w (GrowPost w (treeN p)) := by
  have H := Lib.hid h; clear h
  have hpl := hp.1
  have SM := Lib.hid hp; clear hp
  by_cases h40 : 40 < p.length
  · have E : treeN p = none := by unfold treeN; rw [if_neg (by omega)]
    rw [E]
    have h4 : (40 : Int) < p.length := by omega
    go_enter Tryz.func52, Tryz.ntmps52
    go_wp2_with fail
    go_ret
    exact ⟨rfl, Below.refl _ _⟩
  · have h4 : (p.length : Int) ≤ 40 := by omega
    generalize hres : treeN p = res
    have RES := Lib.hid hres; clear hres
    go_enter Tryz.func52, Tryz.ntmps52
    go_wp2_with fail
    refine (grow_any ao c p SM.out p.length 0 _ H.out (by omega) (by omega) (by omega)).mono ?_
    rw [show (0 : Int).toNat = 0 from rfl]
    intro e w1 hpost
    cases hg : growT p p.length 0 with
    | none =>
      rw [hg] at hpost
      obtain ⟨rfl, b1⟩ := hpost
      have E := Lib.hid (RES.out.symm.trans (show treeN p = none by unfold treeN; rw [if_pos (by omega), hg]))
      clear hg
      go_wp2_with fail
      go_ret
      rw [E.out]
      exact ⟨rfl, b1⟩
    | some T =>
      rw [hg] at hpost
      obtain ⟨b, rfl, tr, b1⟩ := hpost
      have TR := Lib.hid tr
      have DE := Lib.hid (depth_any T w1 _ _ b tr (by have := depth_le p _ _ _ hg; omega))
      obtain ⟨v, _, _, a, c', c0, c1, c2, c3⟩ := tr.head
      have B1 := Lib.hid b1
      clear tr b1
      have HG := Lib.hid hg; clear hg
      by_cases he : T.en = p.length
      · have he1 : ((T.en : Int) != (p.length : Int)) = false := by simp [he]
        by_cases hd : T.depth ≤ 10
        · have hd1 : (T.depth : Int) ≤ 10 := by omega
          have E := Lib.hid (RES.out.symm.trans (show treeN p = some T by unfold treeN; rw [if_pos (by omega), HG.out]; simp only; rw [if_pos ⟨he, hd⟩]))
          clear he hd
          go_wp2_with (go_at_call 98; refine DE.out.mono ?_; rintro e w' ⟨rfl, rfl⟩)
          go_ret
          rw [E.out]
          exact ⟨b, rfl, TR.out, B1.out⟩
        · have hd1 : (10 : Int) < T.depth := by omega
          have E := Lib.hid (RES.out.symm.trans (show treeN p = none by unfold treeN; rw [if_pos (by omega), HG.out]; simp only; rw [if_neg (by omega)]))
          clear he hd
          go_wp2_with (go_at_call 98; refine DE.out.mono ?_; rintro e w' ⟨rfl, rfl⟩)
          go_ret
          rw [E.out]
          exact ⟨rfl, B1.out⟩
      · have he1 : ((T.en : Int) != (p.length : Int)) = true := by simp; omega
        have E := Lib.hid (RES.out.symm.trans (show treeN p = none by unfold treeN; rw [if_pos (by omega), HG.out]; simp only; rw [if_neg (by omega)]))
        clear he
        go_wp2_with fail
        go_ret
        rw [E.out]
        exact ⟨rfl, B1.out⟩

end Go.Proofs.YtanfllednlpbaaaGreat
namespace Go.Proofs.YtanfllednlpbaaaGreat
open Go.RowKit
set_option linter.unusedSimpArgs false
set_option linter.unusedVariables false

theorem good_some {p : List Nd} {k : Int} (h : goodB p k = true) : ∃ T S, treeN p = some T ∧ fnd k T = some S ∧ S.pl = k.toNat ∧ S.en ≤ p.length ∧ k.toNat < S.en ∧ S.depth ≤ 10 ∧ endN p 10 k.toNat = some (S.en, S.depth) ∧ 0 ≤ k ∧ k < p.length ∧ growT p p.length k.toNat = some S := by
  simp only [goodB, Bool.and_eq_true, decide_eq_true_eq] at h
  obtain ⟨hb, h0, h1⟩ := h
  cases ht : treeN p with
  | none => simp [planB, ht] at hb
  | some T =>
    obtain ⟨_, hg, he, hd⟩ := treeN_some ht
    obtain ⟨S, hf, hgS, hdS, heS⟩ := find_grow p _ 0 k.toNat T hg (Nat.zero_le _) (by omega)
    have hs := growT_sound p _ _ _ hgS
    refine ⟨T, S, rfl, ?_, hs.1, hs.2.2.1, hs.2.1, by omega, ?_, h0, by omega, hgS⟩
    · unfold fnd; rw [if_neg (by omega)]; exact hf
    · rw [endN_grow p (treeN_all ht) p.length 10 k.toNat (by omega), hgS]
      simp only
      rw [if_pos (by omega)]
theorem good_none {p : List Nd} {k : Int} (h : goodB p k = false) : treeN p = none ∨ ∃ T, treeN p = some T ∧ fnd k T = none := by
  cases ht : treeN p with
  | none => exact .inl rfl
  | some T =>
    right
    refine ⟨T, rfl, fnd_out ?_⟩
    obtain ⟨_, hg, he, _⟩ := treeN_some ht
    have hs := growT_sound p _ _ _ hg
    have hb : planB p = true := by simp [planB, ht]
    simp only [goodB, hb, Bool.true_and, Bool.and_eq_false_iff, decide_eq_false_iff_not] at h
    have : T.pl = 0 := hs.1
    omega

/-- Where the node at a place ends, -1 where there is none. -/
def endOfN (p : List Nd) (k : Int) : Int :=
  match treeN p with
  | none => -1
  | some T =>
    match fnd k T with
    | none => -1
    | some S => S.en
theorem endOfN_no {p : List Nd} {k : Int} (h : goodB p k = false) : endOfN p k = -1 := by
  unfold endOfN
  rcases good_none h with ht | ⟨T, ht, hf⟩
  · rw [ht]
  · rw [ht]; simp only; rw [hf]
/-- How deep a plan is, 0 where it is none. -/
def depthN (p : List Nd) : Int :=
  match treeN p with
  | none => 0
  | some T => T.depth
def cnt (kind : Int) (l : List Nd) : Int := ((l.filter fun n => n.kind == kind).length : Nat)
/-- How many nodes of a kind a plan has, -1 where it is none. -/
def countN (p : List Nd) (kind : Int) : Int := if planB p = true then cnt kind p else -1
theorem cnt_bd (kind : Int) (l : List Nd) : 0 ≤ cnt kind l ∧ cnt kind l ≤ l.length := by
  unfold cnt; have := List.length_filter_le (fun n : Nd => n.kind == kind) l; omega
theorem cnt_take {kind : Int} {l : List Nd} {k : Nat} {n : Nd} (h : l[k]? = some n) : cnt kind (l.take (k + 1)) = cnt kind (l.take k) + if n.kind = kind then 1 else 0 := by
  have hk : k < l.length := by
    rcases Nat.lt_or_ge k l.length with h1 | h1
    · exact h1
    · rw [List.getElem?_eq_none h1] at h; cases h
  rw [List.take_succ_eq_append_getElem hk]
  have : l[k] = n := by rw [List.getElem?_eq_getElem hk] at h; injection h
  rw [this]
  unfold cnt
  rw [List.filter_append]
  by_cases hh : n.kind = kind <;> simp [hh]
end Go.Proofs.YtanfllednlpbaaaGreat
namespace Go.Proofs.YtanfllednlpbaaaGreat
open Go.RowKit
set_option linter.unusedSimpArgs false
set_option linter.unusedVariables false

end Go.Proofs.YtanfllednlpbaaaGreat
namespace Go.Proofs.YtanfllednlpbaaaGreat
open Go.RowKit
set_option linter.unusedSimpArgs false
set_option linter.unusedVariables false

/-- The places of a node's children. -/
def kidsN (p : List Nd) (k : Int) : List Int :=
  match treeN p with
  | none => []
  | some T =>
    match fnd k T with
    | none => []
    | some S => S.kids.map fun c => (c.pl : Int)
theorem kidsN_no {p : List Nd} {k : Int} (h : goodB p k = false) : kidsN p k = [] := by
  unfold kidsN
  rcases good_none h with ht | ⟨T, ht, hf⟩
  · rw [ht]
  · rw [ht]; simp only; rw [hf]

/-- A tree is made of the trees that begin where its children do. -/
theorem grow_inv {p : List Nd} {f k : Nat} {S : Tr} (h : growT p f k = some S) : ∃ n, p[k]? = some n ∧ nodeB n = true ∧
    ((S = .t0 n k (k + 1) ∧ arity n.kind = 0) ∨ (∃ c, S = .t1 n k c.en c ∧ arity n.kind = 1 ∧ growT p f (k + 1) = some c) ∨ (∃ c d, S = .t2 n k d.en c d ∧ arity n.kind = 2 ∧ growT p f (k + 1) = some c ∧ growT p f c.en = some d)) := by
  cases f with
  | zero => cases h
  | succ f =>
    cases hn : p[k]? with
    | none => simp [growT, hn] at h
    | some n =>
      cases hb : nodeB n with
      | false => rw [growT_no hn hb] at h; cases h
      | true =>
        refine ⟨n, rfl, hb, ?_⟩
        rcases arity_of_nodeB hb with ha | ha | ha
        · rw [growT_0 hn hb (by omega) (by omega)] at h; cases h; exact .inl ⟨rfl, ha⟩
        · cases hc : growT p f (k + 1) with
          | none => rw [growT_1n hn ha hc] at h; cases h
          | some c => rw [growT_1s hn hb ha hc] at h; cases h; exact .inr (.inl ⟨c, rfl, ha, growT_more p _ _ _ hc⟩)
        · cases hc : growT p f (k + 1) with
          | none => rw [growT_2n hn ha hc] at h; cases h
          | some c =>
            cases hd : growT p f c.en with
            | none => rw [growT_2sn hn ha hc hd] at h; cases h
            | some d => rw [growT_2ss hn hb ha hc hd] at h; cases h; exact .inr (.inr ⟨c, d, rfl, ha, growT_more p _ _ _ hc, growT_more p _ _ _ hd⟩)
theorem endN_of_grow {p : List Nd} {T c : Tr} {k : Nat} (ht : treeN p = some T) (hg : growT p p.length k = some c) (hd : c.depth ≤ 10) : endN p 10 k = some (c.en, c.depth) := by
  rw [endN_grow p (treeN_all ht) p.length 10 k (by omega), hg]
  simp only
  rw [if_pos hd]

/-- What l02Kids answers, at a good place. -/
def KidsOk (p : List Nd) (k : Nat) (l : List Int) : Prop :=
  ∃ n, p[k]? = some n ∧ ((arity n.kind = 0 ∧ l = []) ∨ (arity n.kind = 1 ∧ l = [(k : Int) + 1] ∧ ∃ e d, endN p 10 (k + 1) = some (e, d)) ∨
    (arity n.kind = 2 ∧ ∃ e d e' d', endN p 10 (k + 1) = some (e, d) ∧ endN p 10 e = some (e', d') ∧ l = [(k : Int) + 1, (e : Int)]))
theorem kids_ok {p : List Nd} {k : Int} (h : goodB p k = true) : KidsOk p k.toNat (kidsN p k) := by
  obtain ⟨T, S, ht, hf, _, _, _, hd, _, h0, _, hg⟩ := good_some h
  have hk : kidsN p k = S.kids.map fun c => (c.pl : Int) := by unfold kidsN; rw [ht]; simp only; rw [hf]
  rw [hk]
  obtain ⟨n, hn, _, hS | ⟨c, rfl, ha, hc⟩ | ⟨c, d, rfl, ha, hc, hdd⟩⟩ := grow_inv hg
  · obtain ⟨rfl, ha⟩ := hS
    exact ⟨n, hn, .inl ⟨ha, rfl⟩⟩
  · have hpl := (growT_sound p _ _ _ hc).1
    refine ⟨n, hn, .inr (.inl ⟨ha, ?_, _, _, endN_of_grow ht hc (by simp only [Tr.depth] at hd; omega)⟩)⟩
    simp [Tr.kids, hpl]
  · have hpl := (growT_sound p _ _ _ hc).1
    have hpl' := (growT_sound p _ _ _ hdd).1
    simp only [Tr.depth] at hd
    refine ⟨n, hn, .inr (.inr ⟨ha, _, _, _, _, endN_of_grow ht hc (by omega), endN_of_grow ht hdd (by omega), ?_⟩)⟩
    simp [Tr.kids, hpl, hpl']


set_option maxRecDepth 100000 in
set_option maxHeartbeats 4000000 in
theorem specKids_any (ao : Option Addr) (c : Nat) (p : List Nd) (k : Int) (l : List Int) (w : World) (h : RdN w ao p) (hp : p.length ≤ 1048576) (h0 : 0 ≤ k) (h1 : k < p.length) (hok : KidsOk p k.toNat l) :
    Calls Tryz.prog 55 #[.slice ao p.length c, .int .i64 k] w (Made w 3 .i64 l) := by
  obtain ⟨n, hn, hc⟩ := hok
  obtain ⟨b, off, n', a, c', rfl, hn', hat⟩ := h.at_ (i := k.toNat) (by omega)
  rw [hn] at hn'; cases hn'
  have H := Lib.hid h; clear h
  have c0 := hat.c0
  have hbl := hat.lt
  clear hat hn
  have AR := Lib.hid (fun w => specArity_any n.kind w)
  have EN := Lib.hid (fun kk W (hw : RdN W (some ⟨b, off, none⟩) p) (q0 : 0 ≤ kk) (q1 : kk ≤ 1048576) => specEnd_any (some ⟨b, off, none⟩) c p hp 10 kk 10 W hw q0 q1 (by omega) (by omega) (by omega))
  have W0 : w.heap.size ≤ (w.alloc (.cells #[] 3)).heap.size := by simp
  rcases hc with ⟨ha, rfl⟩ | ⟨ha, rfl, e, d, he⟩ | ⟨ha, e, d, e', d', he, he', rfl⟩
  · have HA := Lib.hid ha; clear ha
    go_enter Tryz.func55, Tryz.ntmps55
    go_wp2_with fail
    refine wp_loop_rounds 1 ?_; rw [rounds_succ]
    go_wp2_with (go_at_call 102; refine (AR.out _).mono ?_; rintro e w' ⟨rfl, rfl⟩; rw [HA.out])
    go_ret
    exact ⟨_, _, rfl, own_empty (Nat.le_refl _), (Below.refl _ _).alloc (Nat.le_refl _) _⟩
  · obtain ⟨q1, q2, q3, q4⟩ := endN_bd _ _ _ _ _ he
    have HE := Lib.hid he; clear he
    have O0 := Lib.hid (own_empty (w := w) (base := w.heap.size) (e := 3) (k := .i64) (Nat.le_refl _))
    have B0 := Lib.hid ((Below.refl w.heap.size w).alloc (Nat.le_refl _) (.cells #[] 3))
    have HA := Lib.hid ha; clear ha
    have kt : (k.toNat : Int) = k := Int.toNat_of_nonneg h0
    have KT := Lib.hid kt; clear kt
    go_enter Tryz.func55, Tryz.ntmps55
    go_wp2_with fail
    refine wp_loop_rounds 2 ?_; rw [rounds_succ]
    go_wp2_with (first | (go_at_call 102; refine (AR.out _).mono ?_; rintro e w' ⟨rfl, rfl⟩; rw [HA.out]) | (at_builtin; refine wpList_appendI _ rfl (.tmp 21) (.tmp 23) 34 rfl w.heap.size 3 Tryz.underlying34 Tryz.infoInt (some ⟨w.heap.size, 0, none⟩) 0 0 [] rfl rfl (O0.out.alloc _) (w.heap.size + 1) 1 (k + 1) rfl (by simp) (by simp) (by simp; omega) ?_; intro ao2 c2 w2 o2 g2; have b2 := below_app B0.out O0.out g2; have hc2 := (b2.cell (p := ⟨b, off + k.toNat * 7, none⟩) hbl).trans c0; have O2 := Lib.hid o2; have B2 := Lib.hid b2; have R2 := Lib.hid (H.out.below b2); clear o2 g2 b2))
    refine (EN.out _ _ R2.out (by omega) (by omega)).mono ?_
    rintro ee w' ⟨rfl, rfl⟩
    rw [show (k + 1).toNat = k.toNat + 1 from by omega, HE.out]
    simp only [endV]
    go_wp2_with fail
    rw [rounds_succ]
    go_wp2_with (go_at_call 102; refine (AR.out _).mono ?_; rintro e w' ⟨rfl, rfl⟩; rw [HA.out])
    go_ret
    refine ⟨ao2, c2, rfl, ?_, B2.out⟩
    rw [KT.out]; exact O2.out
  · obtain ⟨q1, q2, q3, q4⟩ := endN_bd _ _ _ _ _ he
    obtain ⟨q5, q6, q7, q8⟩ := endN_bd _ _ _ _ _ he'
    have HE := Lib.hid he; have HE' := Lib.hid he'; clear he he'
    generalize e = e1 at *
    have O0 := Lib.hid (own_empty (w := w) (base := w.heap.size) (e := 3) (k := .i64) (Nat.le_refl _))
    have B0 := Lib.hid ((Below.refl w.heap.size w).alloc (Nat.le_refl _) (.cells #[] 3))
    have HA := Lib.hid ha; clear ha
    have kt : (k.toNat : Int) = k := Int.toNat_of_nonneg h0
    have KT := Lib.hid kt; clear kt
    go_enter Tryz.func55, Tryz.ntmps55
    go_wp2_with fail
    refine wp_loop_rounds 3 ?_; rw [rounds_succ]
    go_wp2_with (first | (go_at_call 102; refine (AR.out _).mono ?_; rintro e w' ⟨rfl, rfl⟩; rw [HA.out]) | (at_builtin; refine wpList_appendI _ rfl (.tmp 21) (.tmp 23) 34 rfl w.heap.size 3 Tryz.underlying34 Tryz.infoInt (some ⟨w.heap.size, 0, none⟩) 0 0 [] rfl rfl (O0.out.alloc _) (w.heap.size + 1) 1 (k + 1) rfl (by simp) (by simp) (by simp; omega) ?_; intro ao2 c2 w2 o2 g2; have b2 := below_app B0.out O0.out g2; have hc2 := (b2.cell (p := ⟨b, off + k.toNat * 7, none⟩) hbl).trans c0; have O2 := Lib.hid o2; have B2 := Lib.hid b2; have R2 := Lib.hid (H.out.below b2); clear o2 g2 b2))
    refine (EN.out _ _ R2.out (by omega) (by omega)).mono ?_
    rintro ee w' ⟨rfl, rfl⟩
    rw [show (k + 1).toNat = k.toNat + 1 from by omega, HE.out]
    simp only [endV]
    go_wp2_with fail
    rw [rounds_succ]
    go_wp2_with (first | (go_at_call 102; refine (AR.out _).mono ?_; rintro e w' ⟨rfl, rfl⟩; rw [HA.out]) | (at_builtin; refine wpList_appendI _ rfl (.tmp 21) (.tmp 23) 34 rfl w.heap.size 3 Tryz.underlying34 Tryz.infoInt ao2 c2 1 [k + 1] rfl rfl (O2.out.alloc _) w2.heap.size 1 (e1 : Int) rfl (cell_one _ _ _) (by simp) (by have := B2.out.size; simp; omega) ?_; intro ao3 c3 w3 o3 g3; have b3 := below_app B2.out O2.out g3; have hc3 := (b3.cell (p := ⟨b, off + k.toNat * 7, none⟩) hbl).trans c0; have O3 := Lib.hid o3; have B3 := Lib.hid b3; have R3 := Lib.hid (H.out.below b3); clear o3 g3 b3))
    refine (EN.out _ _ R3.out (by omega) (by omega)).mono ?_
    rintro ee w' ⟨rfl, rfl⟩
    rw [Int.toNat_natCast, HE'.out]
    simp only [endV]
    go_wp2_with fail
    rw [rounds_succ]
    go_wp2_with (go_at_call 102; refine (AR.out _).mono ?_; rintro e w' ⟨rfl, rfl⟩; rw [HA.out])
    go_ret
    refine ⟨ao3, c3, rfl, ?_, B3.out⟩
    rw [KT.out]; exact O3.out
end Go.Proofs.YtanfllednlpbaaaGreat
namespace Go.Proofs.YtanfllednlpbaaaGreat
set_option linter.unusedSimpArgs false
set_option linter.unusedVariables false

/-- What a node of one child gives over a child of width w. -/
def over1 (n : Nd) (w : Int) : Int :=
  if n.kind = 1 ∨ n.kind = 5 then (if w ≤ n.col then -1 else w)
  else if n.kind = 2 then (if n.cols.all (fun x => decide (x < w)) = true then (n.cols.length : Int) else -1)
  else w
/-- What a node of two children gives. -/
def over2 (n : Nd) (w v : Int) : Int :=
  if n.kind = 3 then (if w ≤ n.col ∨ v ≤ n.num ∨ 64 < w + v then -1 else w + v)
  else (if w = v then w else -1)
def widT (f : Fn) : Tr → Int
  | .t0 n _ _ => (f n.name.data.toList).getD (-1)
  | .t1 n _ _ c => if widT f c = -1 then -1 else over1 n (widT f c)
  | .t2 n _ _ c d => if widT f c = -1 then -1 else if widT f d = -1 then -1 else over2 n (widT f c) (widT f d)
/-- The widths of a schema's tables may be. -/
def FnOk (f : Fn) : Prop := ∀ k v, f k = some v → 1 ≤ v ∧ v ≤ 6
theorem fnOk_schema {l : List Tb} (h : schemaB l = true) : FnOk (fnOf l) := by
  obtain ⟨_, h2, h3⟩ := schemaB_iff.1 h
  intro k v hv
  obtain ⟨t, ht, _, rfl⟩ := ((told_self l h3).2 k v).1 hv
  have := h2 t ht
  unfold tableB at this
  rw [Bool.and_eq_true, decide_eq_true_eq] at this
  exact this.2
/-- All its nodes are nodes. -/
def Tr.nodes : Tr → Prop
  | t0 n _ _ => nodeB n = true ∧ n.kind = 0
  | t1 n _ _ c => (nodeB n = true ∧ arity n.kind = 1) ∧ c.nodes
  | t2 n _ _ c d => (nodeB n = true ∧ arity n.kind = 2) ∧ c.nodes ∧ d.nodes
theorem cols_of_nodeB {n : Nd} (h : nodeB n = true) (hk : n.kind = 2) : 1 ≤ n.cols.length ∧ n.cols.length ≤ 6 := by
  unfold nodeB at h
  rw [if_neg (by omega), if_neg (by omega), if_pos hk, Bool.and_eq_true, decide_eq_true_eq] at h
  exact ⟨h.1.2.2.2.2.2.1, h.1.2.2.2.2.2.2⟩
theorem over1_wide {n : Nd} {w : Int} (h : nodeB n = true) (h1 : 1 ≤ w) (h2 : w ≤ 64) : over1 n w = -1 ∨ (1 ≤ over1 n w ∧ over1 n w ≤ 64) := by
  unfold over1
  split
  · split
    · exact .inl rfl
    · exact .inr ⟨h1, h2⟩
  · split
    · rename_i hk
      have := cols_of_nodeB h hk
      split
      · right; omega
      · exact .inl rfl
    · exact .inr ⟨h1, h2⟩
theorem over2_wide {n : Nd} {w v : Int} (h1 : 1 ≤ w) (h2 : w ≤ 64) (h3 : 1 ≤ v) : over2 n w v = -1 ∨ (1 ≤ over2 n w v ∧ over2 n w v ≤ 64) := by
  unfold over2
  split
  · split
    · exact .inl rfl
    · right; omega
  · split
    · exact .inr ⟨h1, h2⟩
    · exact .inl rfl
theorem widT_wide {f : Fn} (hf : FnOk f) : ∀ T : Tr, T.nodes → widT f T = -1 ∨ (1 ≤ widT f T ∧ widT f T ≤ 64) := by
  intro T
  induction T with
  | t0 n pl en =>
    intro _
    unfold widT
    cases hv : f n.name.data.toList with
    | none => exact .inl rfl
    | some v => have := hf _ _ hv; right; simp only [Option.getD_some]; omega
  | t1 n pl en c ih =>
    intro h
    unfold widT
    split
    · exact .inl rfl
    · rename_i hc
      rcases ih h.2 with h1 | ⟨h1, h2⟩
      · exact absurd h1 hc
      · exact over1_wide h.1.1 h1 h2
  | t2 n pl en c d ihc ihd =>
    intro h
    unfold widT
    split
    · exact .inl rfl
    · rename_i hc
      split
      · exact .inl rfl
      · rename_i hd
        rcases ihc h.2.1 with h1 | ⟨h1, h2⟩
        · exact absurd h1 hc
        rcases ihd h.2.2 with h3 | ⟨h3, h4⟩
        · exact absurd h3 hd
        exact over2_wide h1 h2 h3
end Go.Proofs.YtanfllednlpbaaaGreat
