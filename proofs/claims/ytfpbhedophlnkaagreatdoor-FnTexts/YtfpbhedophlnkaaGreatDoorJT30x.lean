/-
  Contracts of the tree's depth and find, and of impl.treeOf, impl.PlanOk, impl.EndOf, impl.DepthOf. For every slice of nodes. Contract of impl.ParsePlan. For every text that is not too long.
-/
import Derived.Test.YtfpbhedophlnkaaGreatDoorGrow
import Derived.Test.YtfpbhedophlnkaaGreatDoorJT23x
namespace Go.Proofs.YtfpbhedophlnkaaGreatDoor
open Go.RowKit
set_option linter.unusedSimpArgs false
set_option linter.unusedVariables false

theorem depthNil_any (w : World) : Calls Tryz.prog 154 #[.pointer none] w fun e w' => e = .returned (.int .i64 0) ∧ w = w' := by
  go_enter Tryz.func154, Tryz.ntmps154
  go_wp2_with fail
  go_ret
  exact ⟨rfl, rfl⟩

set_option maxHeartbeats 1600000 in
theorem depth_any : ∀ (T : Tr) (w : World) (lo hi b : Nat), TrAt w lo hi T b → T.depth ≤ 1048576 →
    Calls Tryz.prog 154 #[.pointer (some ⟨b, 0, none⟩)] w fun e w' => e = .returned (.int .i64 T.depth) ∧ w = w' := by
  intro T
  induction T with
  | t0 n pl en =>
    intro w lo hi b h hd
    obtain ⟨_, _, a, c, c0, c1, c2, c3⟩ := h
    go_enter Tryz.func154, Tryz.ntmps154
    go_wp2_with fail
    refine wp_loop_rounds 1 ?_; rw [rounds_succ]
    go_wp2_with fail
    go_ret
    exact ⟨rfl, rfl⟩
  | t1 n pl en c ih =>
    intro w lo hi b h hd
    have e1 := Lib.hid (show (Tr.t1 n pl en c).depth = c.depth + 1 from rfl)
    have hd' : c.depth ≤ 1048576 := by have := e1.out; omega
    obtain ⟨g, cap, bc, ⟨_, _, a, cc, c0, c1, c2, c3⟩, hg, g0, tc⟩ := h
    have IH := Lib.hid (ih w lo hi bc tc hd')
    clear ih tc hd
    go_enter Tryz.func154, Tryz.ntmps154
    go_wp2_with fail
    refine wp_loop_rounds 2 ?_; rw [rounds_succ]
    go_wp2_with (go_at_call 154; refine IH.out.mono ?_; rintro e w' ⟨rfl, rfl⟩)
    rw [rounds_succ]
    go_wp2_with fail
    go_ret
    exact ⟨ret_int (by have := e1.out; omega), rfl⟩
  | t2 n pl en c d ihc ihd =>
    intro w lo hi b h hd
    have e1 := Lib.hid (show (Tr.t2 n pl en c d).depth = max c.depth d.depth + 1 from rfl)
    have hd1 : c.depth ≤ 1048576 := by have := e1.out; omega
    have hd2 : d.depth ≤ 1048576 := by have := e1.out; omega
    obtain ⟨g, cap, bc, bd, ⟨_, _, a, cc, c0, c1, c2, c3⟩, hg, g0, g1, tc, td⟩ := h
    have IC := Lib.hid (ihc w lo hi bc tc hd1)
    have ID := Lib.hid (ihd w lo hi bd td hd2)
    clear ihc ihd tc td hd
    by_cases hm : (c.depth : Int) ≤ d.depth
    all_goals
      go_enter Tryz.func154, Tryz.ntmps154
      go_wp2_with fail
      refine wp_loop_rounds 3 ?_; rw [rounds_succ]
      go_wp2_with fail
      refine IC.out.mono ?_
      rintro e w' ⟨rfl, rfl⟩
      go_wp2_with fail
      rw [rounds_succ]
      go_wp2_with fail
      refine ID.out.mono ?_
      rintro e w' ⟨rfl, rfl⟩
      go_wp2_with fail
      rw [rounds_succ]
      go_wp2_with fail
      go_ret
      exact ⟨ret_int (by have := e1.out; omega), rfl⟩

theorem findNil_any (k : Int) (w : World) : Calls Tryz.prog 78 #[.pointer none, .int .i64 k] w fun e w' => e = .returned (.pointer none) ∧ w = w' := by
  go_enter Tryz.func78, Tryz.ntmps78
  go_wp2_with fail
  go_ret
  exact ⟨rfl, rfl⟩

/-- What is found at a place, which may be below 0. -/
def fnd (k : Int) (T : Tr) : Option Tr := if k < 0 then none else T.find k.toNat
/-- What find answers. -/
def FindPost (w : World) (lo hi : Nat) : Option Tr → Ending → World → Prop
  | none, e, w' => e = .returned (.pointer none) ∧ w = w'
  | some S, e, w' => ∃ b, e = .returned (.pointer (some ⟨b, 0, none⟩)) ∧ TrAt w lo hi S b ∧ w = w'
theorem fnd_out {k : Int} {T : Tr} (h : k < T.pl ∨ (T.en : Int) ≤ k) : fnd k T = none := by
  unfold fnd
  by_cases hk : k < 0
  · rw [if_pos hk]
  · rw [if_neg hk]
    cases T <;> simp only [Tr.find, Tr.pl, Tr.en] at h ⊢ <;> rw [if_pos (by omega)]
theorem fnd_0 {k : Int} {n : Nd} {pl en : Nat} (h1 : (pl : Int) ≤ k) (h2 : k < en) : fnd k (.t0 n pl en) = some (.t0 n pl en) := by
  unfold fnd; rw [if_neg (by omega)]; simp only [Tr.find]; rw [if_neg (by omega)]
theorem fnd_1s {k : Int} {n : Nd} {pl en : Nat} {c s : Tr} (h1 : (pl : Int) ≤ k) (h2 : k < en) (hc : fnd k c = some s) : fnd k (.t1 n pl en c) = some s := by
  unfold fnd at hc ⊢; rw [if_neg (by omega)] at hc ⊢; simp only [Tr.find]; rw [if_neg (by omega), hc]
theorem fnd_1n {k : Int} {n : Nd} {pl en : Nat} {c : Tr} (h1 : (pl : Int) ≤ k) (h2 : k < en) (hc : fnd k c = none) : fnd k (.t1 n pl en c) = some (.t1 n pl en c) := by
  unfold fnd at hc ⊢; rw [if_neg (by omega)] at hc ⊢; simp only [Tr.find]; rw [if_neg (by omega), hc]
theorem fnd_2s {k : Int} {n : Nd} {pl en : Nat} {c d s : Tr} (h1 : (pl : Int) ≤ k) (h2 : k < en) (hc : fnd k c = some s) : fnd k (.t2 n pl en c d) = some s := by
  unfold fnd at hc ⊢; rw [if_neg (by omega)] at hc ⊢; simp only [Tr.find]; rw [if_neg (by omega), hc]
theorem fnd_2ns {k : Int} {n : Nd} {pl en : Nat} {c d s : Tr} (h1 : (pl : Int) ≤ k) (h2 : k < en) (hc : fnd k c = none) (hd : fnd k d = some s) : fnd k (.t2 n pl en c d) = some s := by
  unfold fnd at hc hd ⊢; rw [if_neg (by omega)] at hc hd ⊢; simp only [Tr.find]; rw [if_neg (by omega), hc]; simp only; rw [hd]
theorem fnd_2nn {k : Int} {n : Nd} {pl en : Nat} {c d : Tr} (h1 : (pl : Int) ≤ k) (h2 : k < en) (hc : fnd k c = none) (hd : fnd k d = none) : fnd k (.t2 n pl en c d) = some (.t2 n pl en c d) := by
  unfold fnd at hc hd ⊢; rw [if_neg (by omega)] at hc hd ⊢; simp only [Tr.find]; rw [if_neg (by omega), hc]; simp only; rw [hd]

theorem findOut_any (T : Tr) (k : Int) (w : World) (lo hi b : Nat) (h : TrAt w lo hi T b) (hk : k < T.pl ∨ (T.en : Int) ≤ k) :
    Calls Tryz.prog 78 #[.pointer (some ⟨b, 0, none⟩), .int .i64 k] w fun e w' => e = .returned (.pointer none) ∧ w = w' := by
  obtain ⟨v, _, _, a, c, c0, c1, c2, c3⟩ := h.head
  clear h
  by_cases h1 : k < (T.pl : Int)
  · go_enter Tryz.func78, Tryz.ntmps78
    go_wp2_with fail
    go_ret
    exact ⟨rfl, rfl⟩
  · have h2 : (T.pl : Int) ≤ k := by omega
    have h3 : (T.en : Int) ≤ k := by omega
    clear hk
    go_enter Tryz.func78, Tryz.ntmps78
    go_wp2_with fail
    go_ret
    exact ⟨rfl, rfl⟩

set_option maxHeartbeats 1600000 in
theorem find_any (k : Int) : ∀ (T : Tr) (w : World) (lo hi b : Nat), TrAt w lo hi T b →
    Calls Tryz.prog 78 #[.pointer (some ⟨b, 0, none⟩), .int .i64 k] w (FindPost w lo hi (fnd k T)) := by
  intro T
  induction T with
  | t0 n pl en =>
    intro w lo hi b h
    by_cases hk : k < pl ∨ (en : Int) ≤ k
    · rw [fnd_out hk]; exact findOut_any _ k w lo hi b h hk
    have h1 : (pl : Int) ≤ k := by omega
    have h2 : k < en := by omega
    rw [fnd_0 h1 h2]
    have H := Lib.hid h
    obtain ⟨_, _, a, c, c0, c1, c2, c3⟩ := h
    clear hk
    go_enter Tryz.func78, Tryz.ntmps78
    go_wp2_with fail
    refine wp_loop_rounds 1 ?_; rw [rounds_succ]
    go_wp2_with fail
    go_ret
    exact ⟨b, rfl, H.out, rfl⟩
  | t1 n pl en c ih =>
    intro w lo hi b h
    by_cases hk : k < pl ∨ (en : Int) ≤ k
    · rw [fnd_out hk]; exact findOut_any _ k w lo hi b h hk
    have h1 : (pl : Int) ≤ k := by omega
    have h2 : k < en := by omega
    clear hk
    have H := Lib.hid h
    obtain ⟨g, cap, bc, ⟨_, _, a, cc, c0, c1, c2, c3⟩, hg, g0, tc⟩ := h
    have IH := Lib.hid (ih w lo hi bc tc)
    clear ih tc
    generalize hres : fnd k (.t1 n pl en c) = res
    go_enter Tryz.func78, Tryz.ntmps78
    go_wp2_with fail
    refine wp_loop_rounds 2 ?_; rw [rounds_succ]
    go_wp2_with fail
    refine IH.out.mono ?_
    intro e w' hpost
    cases hc : fnd k c with
    | some s =>
      rw [hc] at hpost
      obtain ⟨bs, rfl, ts, rfl⟩ := hpost
      have E := Lib.hid (hres.symm.trans (fnd_1s h1 h2 hc))
      clear hres hc
      have TS := Lib.hid ts; clear ts
      go_wp2_with fail
      go_ret
      rw [E.out]
      exact ⟨bs, rfl, TS.out, rfl⟩
    | none =>
      rw [hc] at hpost
      obtain ⟨rfl, rfl⟩ := hpost
      have E := Lib.hid (hres.symm.trans (fnd_1n h1 h2 hc))
      clear hres hc
      go_wp2_with fail
      rw [rounds_succ]
      go_wp2_with fail
      go_ret
      rw [E.out]
      exact ⟨b, rfl, H.out, rfl⟩
  | t2 n pl en c d ihc ihd =>
    intro w lo hi b h
    by_cases hk : k < pl ∨ (en : Int) ≤ k
    · rw [fnd_out hk]; exact findOut_any _ k w lo hi b h hk
    have h1 : (pl : Int) ≤ k := by omega
    have h2 : k < en := by omega
    clear hk
    have H := Lib.hid h
    obtain ⟨g, cap, bc, bd, ⟨_, _, a, cc, c0, c1, c2, c3⟩, hg, g0, g1, tc, td⟩ := h
    have IC := Lib.hid (ihc w lo hi bc tc)
    have ID := Lib.hid (ihd w lo hi bd td)
    clear ihc ihd tc td
    generalize hres : fnd k (.t2 n pl en c d) = res
    have RES := Lib.hid hres; clear hres
    go_enter Tryz.func78, Tryz.ntmps78
    go_wp2_with fail
    refine wp_loop_rounds 3 ?_; rw [rounds_succ]
    go_wp2_with fail
    refine IC.out.mono ?_
    intro e w' hpost
    cases hc : fnd k c with
    | some s =>
      rw [hc] at hpost
      obtain ⟨bs, rfl, ts, rfl⟩ := hpost
      have E := Lib.hid (RES.out.symm.trans (fnd_2s h1 h2 hc))
      clear hc
      have TS := Lib.hid ts; clear ts
      go_wp2_with fail
      go_ret
      rw [E.out]
      exact ⟨bs, rfl, TS.out, rfl⟩
    | none =>
      rw [hc] at hpost
      obtain ⟨rfl, rfl⟩ := hpost
      have HC := Lib.hid hc; clear hc
      go_wp2_with fail
      rw [rounds_succ]
      go_wp2_with fail
      refine ID.out.mono ?_
      intro e w' hpost
      cases hd : fnd k d with
      | some s =>
        rw [hd] at hpost
        obtain ⟨bs, rfl, ts, rfl⟩ := hpost
        have E := Lib.hid (RES.out.symm.trans (fnd_2ns h1 h2 HC.out hd))
        clear hd
        have TS := Lib.hid ts; clear ts
        go_wp2_with fail
        go_ret
        rw [E.out]
        exact ⟨bs, rfl, TS.out, rfl⟩
      | none =>
        rw [hd] at hpost
        obtain ⟨rfl, rfl⟩ := hpost
        have E := Lib.hid (RES.out.symm.trans (fnd_2nn h1 h2 HC.out hd))
        clear hd
        go_wp2_with fail
        rw [rounds_succ]
        go_wp2_with fail
        go_ret
        rw [E.out]
        exact ⟨b, rfl, H.out, rfl⟩

theorem depth_le (p : List Nd) : ∀ (f k : Nat) (T : Tr), growT p f k = some T → T.depth ≤ f := by
  intro f
  induction f with
  | zero => intro k T h; cases h
  | succ f ih =>
    intro k T h
    cases hn : p[k]? with
    | none => simp [growT, hn] at h
    | some n =>
      cases hb : nodeB n with
      | false => rw [growT_no hn hb] at h; cases h
      | true =>
        by_cases h1 : arity n.kind = 1
        · cases hc : growT p f (k + 1) with
          | none => rw [growT_1n hn h1 hc] at h; cases h
          | some c => rw [growT_1s hn hb h1 hc] at h; cases h; have := ih _ _ hc; simp only [Tr.depth]; omega
        · by_cases h2 : arity n.kind = 2
          · cases hc : growT p f (k + 1) with
            | none => rw [growT_2n hn h2 hc] at h; cases h
            | some c =>
              cases hd : growT p f c.en with
              | none => rw [growT_2sn hn h2 hc hd] at h; cases h
              | some d => rw [growT_2ss hn hb h2 hc hd] at h; cases h; have := ih _ _ hc; have := ih _ _ hd; simp only [Tr.depth]; omega
          · rw [growT_0 hn hb h1 h2] at h; cases h; simp only [Tr.depth]; omega

set_option maxHeartbeats 1600000 in
theorem treeOf_any (ao : Option Addr) (c : Nat) (p : List Nd) (hp : Small p) (w : World) (h : RdN w ao p) :
    Calls Tryz.prog 71 #[.slice ao p.length c] w (GrowPost w (treeN p)) := by
  have H := Lib.hid h; clear h
  have hpl := hp.1
  have SM := Lib.hid hp; clear hp
  by_cases h40 : 40 < p.length
  · have E : treeN p = none := by unfold treeN; rw [if_neg (by omega)]
    rw [E]
    have h4 : (40 : Int) < p.length := by omega
    go_enter Tryz.func71, Tryz.ntmps71
    go_wp2_with fail
    go_ret
    exact ⟨rfl, Below.refl _ _⟩
  · have h4 : (p.length : Int) ≤ 40 := by omega
    generalize hres : treeN p = res
    have RES := Lib.hid hres; clear hres
    go_enter Tryz.func71, Tryz.ntmps71
    go_wp2_with fail
    refine (grow_any ao c p SM.out p.length 0 _ H.out (by omega) (by omega) (by omega)).mono ?_
    rw [show (0 : Int).toNat = 0 from rfl]
    intro e w1 hpost
    cases hg : growT p p.length 0 with
    | none =>
      rw [hg] at hpost
      obtain ⟨rfl, b1⟩ := hpost
      have E := Lib.hid (RES.out.symm.trans (show treeN p = none by unfold treeN; rw [if_pos (by omega), hg]))
      clear hg
      go_wp2_with fail
      go_ret
      rw [E.out]
      exact ⟨rfl, b1⟩
    | some T =>
      rw [hg] at hpost
      obtain ⟨b, rfl, tr, b1⟩ := hpost
      have TR := Lib.hid tr
      have DE := Lib.hid (depth_any T w1 _ _ b tr (by have := depth_le p _ _ _ hg; omega))
      obtain ⟨v, _, _, a, c', c0, c1, c2, c3⟩ := tr.head
      have B1 := Lib.hid b1
      clear tr b1
      have HG := Lib.hid hg; clear hg
      by_cases he : T.en = p.length
      · have he1 : ((T.en : Int) != (p.length : Int)) = false := by simp [he]
        by_cases hd : T.depth ≤ 10
        · have hd1 : (T.depth : Int) ≤ 10 := by omega
          have E := Lib.hid (RES.out.symm.trans (show treeN p = some T by unfold treeN; rw [if_pos (by omega), HG.out]; simp only; rw [if_pos ⟨he, hd⟩]))
          clear he hd
          go_wp2_with (go_at_call 154; refine DE.out.mono ?_; rintro e w' ⟨rfl, rfl⟩)
          go_ret
          rw [E.out]
          exact ⟨b, rfl, TR.out, B1.out⟩
        · have hd1 : (10 : Int) < T.depth := by omega
          have E := Lib.hid (RES.out.symm.trans (show treeN p = none by unfold treeN; rw [if_pos (by omega), HG.out]; simp only; rw [if_neg (by omega)]))
          clear he hd
          go_wp2_with (go_at_call 154; refine DE.out.mono ?_; rintro e w' ⟨rfl, rfl⟩)
          go_ret
          rw [E.out]
          exact ⟨rfl, B1.out⟩
      · have he1 : ((T.en : Int) != (p.length : Int)) = true := by simp; omega
        have E := Lib.hid (RES.out.symm.trans (show treeN p = none by unfold treeN; rw [if_pos (by omega), HG.out]; simp only; rw [if_neg (by omega)]))
        clear he
        go_wp2_with fail
        go_ret
        rw [E.out]
        exact ⟨rfl, B1.out⟩

theorem implPlanOk_any (ao : Option Addr) (c : Nat) (p : List Nd) (hp : Small p) (w : World) (h : RdN w ao p) :
    Calls Tryz.prog 79 #[.slice ao p.length c] w fun e w' => e = .returned (.bool (planB p)) ∧ Below w.heap.size w w' := by
  have H := Lib.hid h; clear h
  go_enter Tryz.func79, Tryz.ntmps79
  go_wp2_with fail
  refine (treeOf_any ao c p hp _ H.out).mono ?_
  intro e w1 hpost
  cases ht : treeN p with
  | none =>
    rw [ht] at hpost
    obtain ⟨rfl, b1⟩ := hpost
    have E := Lib.hid (show planB p = false by simp [planB, ht])
    clear ht
    go_wp2_with fail
    go_ret
    exact ⟨ret_bool E.out.symm, b1⟩
  | some T =>
    rw [ht] at hpost
    obtain ⟨b, rfl, tr, b1⟩ := hpost
    have E := Lib.hid (show planB p = true by simp [planB, ht])
    clear ht tr
    go_wp2_with fail
    go_ret
    exact ⟨ret_bool E.out.symm, b1⟩
end Go.Proofs.YtfpbhedophlnkaaGreatDoor
namespace Go.Proofs.YtfpbhedophlnkaaGreatDoor
open Go.RowKit
set_option linter.unusedSimpArgs false
set_option linter.unusedVariables false

theorem goQ_bd {ws : List ByteArray} : ∀ (f : Nat) (acc : List Nd) (need : Int) (p : Nat) (l : List Nd) (q : Nat), goQ ws f acc need p = .inr (l, q) → acc.length ≤ p → p ≤ ws.length → (∀ n ∈ acc, n.cols.length ≤ 6) → l.length ≤ q ∧ q ≤ ws.length ∧ ∀ n ∈ l, n.cols.length ≤ 6
  | 0, acc, need, p, l, q, h, _, _, _ => by simp [goQ] at h
  | f + 1, acc, need, p, l, q, h, h1, h2, h3 => by
    unfold goQ at h
    split at h
    · simp at h; obtain ⟨rfl, rfl⟩ := h; exact ⟨h1, h2, h3⟩
    · split at h
      · simp at h
      · rename_i x hx
        obtain ⟨nd, q'⟩ := x
        have hb := nodeQ_bd hx
        refine goQ_bd f _ _ _ l q h ?_ hb.2.1 ?_
        · simp; omega
        · intro n hn
          rcases List.mem_append.1 hn with hn | hn
          · exact h3 n hn
          · simp at hn; subst hn; exact hb.2.2.1
theorem gkeep_new {n R : Nat} {w w1 : World} (h : GlobN w) (hn : n = w.heap.size) (hb : Below n w w1) (hR : n ≤ R) : GKeep R w1 := by
  intro w' hg
  subst hn
  exact h.below (hb.grown hg hb.size (fun k hk => by cases hk; exact hR))
theorem prd_box {w : World} {ao : Option Addr} {c base : Nat} {ws : List ByteArray} (h : OwnS w base ao c ws) (h2 : ws.length ≤ 2000) : Prd (w.alloc (.cells #[.slice ao ws.length c, .int .i64 0] 149)) w.heap.size ao c ws 0 := by
  refine ⟨heap_alloc_new w _, h.rd.below ((Below.refl _ w).alloc (Nat.le_refl _) _), Nat.zero_le _, ?_, h2⟩
  intro a ha hne
  rcases h.form with ⟨_, hl, rfl⟩ | ⟨g, rfl, hg⟩
  · exact absurd rfl hne
  · cases ha
    exact Nat.ne_of_lt hg.2
/-- ParsePlan's answer, of the reader's. -/
def pickQ (ws : List ByteArray) (r : Nat ⊕ (List Nd × Nat)) : List Nd × Int :=
  match r with
  | .inl q => ([], q)
  | .inr x => if x.2 < ws.length then ([], x.2) else if planB x.1 = true then (x.1, -1) else ([], ws.length)
theorem parseQ_pick (ws : List ByteArray) : parseQ ws = pickQ ws (goQ ws (ws.length + 2) [] 1 0) := rfl
theorem cell_drew (w : World) (a : Addr) : w.drew.cell? a = w.cell? a := rfl
/-- The two results' cells as the reader leaves them. -/
theorem cells_two {w : World} {n : Nat} {v1 v2 : Value} {t1 t2 : TypeId} (x y : Value) (h1 : w.heap[n]? = some (.cells #[v1] t1 (0, 0))) (h2 : w.heap[n + 1]? = some (.cells #[v2] t2 (0, 0))) :
    ((w.setCell ⟨n, 0, none⟩ x).setCell ⟨n + 1, 0, none⟩ y).cell? ⟨n, 0, none⟩ = some x ∧ ((w.setCell ⟨n, 0, none⟩ x).setCell ⟨n + 1, 0, none⟩ y).cell? ⟨n + 1, 0, none⟩ = some y := by
  have h1' : (w.setCell ⟨n, 0, none⟩ x).heap[n]? = some (.cells #[x] t1 (0, 0)) := by rw [heap_setCell_same w n 0 _ _ _ h1]; rfl
  have h2' : (w.setCell ⟨n, 0, none⟩ x).heap[n + 1]? = some (.cells #[v2] t2 (0, 0)) := by rw [heap_setCell_other _ _ _ _ (by simp)]; exact h2
  constructor
  · rw [World.cell?_setCell_other _ _ _ _ (show (⟨n + 1, 0, none⟩ : Addr) ≠ ⟨n, 0, none⟩ from fun e => by have := congrArg Addr.block e; simp at this)]
    exact cell_of_row _ n 0 _ _ _ h1'
  · refine cell_of_row _ (n + 1) 0 #[y] t2 (0, 0) ?_
    rw [heap_setCell_same _ (n + 1) 0 _ _ _ h2']; rfl
set_option maxRecDepth 100000 in
theorem leaves_two {tmps : Array Value} {R : Ending → World → Prop} {w : World} {n : Nat} {x y : Value} (h1 : w.cell? ⟨n, 0, none⟩ = some x) (h2 : w.cell? ⟨n + 1, 0, none⟩ = some y) (t2 : tmps[2]? = some (.pointer (some ⟨n, 0, none⟩))) (t3 : tmps[3]? = some (.pointer (some ⟨n + 1, 0, none⟩))) (hR : R (.returned (.tuple #[x, y])) w) :
    Leaves Tryz.prog Tryz.f53 tmps R [] .returning w := by
  simp [Leaves, results, Tryz.results53, go_sem, h1, h2, t2, t3, hR]
theorem own_grownN {w w' : World} {base c : Nat} {ao : Option Addr} {l : List Nd} {row : Option Nat} (h : OwnN w base ao c l) (hg : w.grownBy w' row) (hr : ∀ r, row = some r → r < base) : OwnN w' base ao c l := by
  rcases h with h | ⟨g, xs, A, C, he, hp⟩
  · exact .inl h
  · have hb := owns_block hp.own
    refine .inr ⟨g, xs, A, C, he, owns_keep hp.own (hg.block g hb.2 (fun e => by have := hr g e.symm; have := hb.1; omega)), hp.cells, fun i n hi hn => (hp.cols i n hi hn).grown hg ?_, hp.name, hp.row, hp.apart⟩
    intro x hx e
    have := ((hp.cols i n hi hn).lt x hx).1
    have := hr _ e.symm
    omega
theorem own_two {w : World} {n c : Nat} {ao : Option Addr} {l : List Nd} {x y : Value} (h : OwnN w (n + 2) ao c l) : OwnN ((w.setCell ⟨n, 0, none⟩ x).setCell ⟨n + 1, 0, none⟩ y) n ao c l :=
  (own_grownN (own_grownN h (prd_grown (World.grownBy.refl w (some n)) 0 x) (fun r hr => by cases hr; omega)) (prd_grown (World.grownBy.refl _ (some (n + 1))) 0 y) (fun r hr => by cases hr; omega)).base_le (by omega)
set_option maxRecDepth 100000 in
set_option maxHeartbeats 1600000 in
theorem implParsePlan_any (s : ByteArray) (w : World) (hg : GlobN w) (hs : s.size ≤ 9223372036854775807) :
    Calls Tryz.prog 53 #[.string s] w (MadeN2 (parseO s) w) := by
  have hmf : ∀ (fn : Go.Fn) (first cap : Array Value) (w : World), (Instr.makeFunc fn first cap).run Tryz.prog w = .ok (.func fn first cap) w := fun _ _ _ _ => rfl
  by_cases h2 : 2000 < s.size
  · have E : parseO s = ([], 0) := by unfold parseO; rw [if_pos h2]
    go_enter_defers Tryz.func53, Tryz.ntmps53
    go_wp2_with fail
    refine leaves_two (n := w.heap.size) (x := .slice none 0 0) (y := .int .i64 0) ?_ ?_ rfl rfl ?_
    · simp [go_sem]
    · simp [go_sem]
    · exact madeN2_no E (((Below.refl _ w).alloc (Nat.le_refl _) _).alloc (by simp) _)
  · have h3 : s.size ≤ 2000 := by omega
    have E := Lib.hid (show parseO s = parseQ ((wordsL s.data.toList).map mkBs) by unfold parseO wordsO; rw [if_neg h2, if_neg h2])
    have WI := Lib.hid (fun W => wordsIn_any s W h3)
    obtain ⟨ws, hws⟩ : ∃ ws, ws = (wordsL s.data.toList).map mkBs := ⟨_, rfl⟩
    have WL := Lib.hid (wordsL_acc h3)
    have WN : Hid (WdsI ws) := by
      rw [hws]
      intro x hx
      obtain ⟨l, hl, rfl⟩ := List.mem_map.1 hx
      have h := (wordsL_len s.data.toList).2 l hl
      rw [size_listW] at h
      rw [mkBs_size]
      have := List.length_pos_iff.2 h.2
      omega
    rw [← hws] at WI E WL
    clear hws
    go_enter_defers Tryz.func53, Tryz.ntmps53
    go_wp2_with fail
    refine (WI.out _).mono ?_
    rintro e w1 ⟨ao, c, rfl, o1, b1⟩
    have hz1 := b1.size
    simp at hz1
    have b1' := below_step (((Below.refl w.heap.size w).alloc (Nat.le_refl _) (.cells #[.slice none 0 0] 25)).alloc (by simp) (.cells #[.int .i64 0] 3)) (by simp) b1
    have H1 : w1.heap[w.heap.size]? = some (.cells #[.slice none 0 0] 25 (0, 0)) := by
      rw [b1.block _ (by simp; omega), Below.heap_alloc _ _ _ (by simp)]
      exact heap_alloc_new w _
    have H2 : w1.heap[w.heap.size + 1]? = some (.cells #[.int .i64 0] 3 (0, 0)) := by
      rw [b1.block _ (by simp)]
      have h := heap_alloc_new (w.alloc (.cells #[.slice none 0 0] 25)) (.cells #[.int .i64 0] 3)
      simpa using h
    have O1 := Lib.hid (o1.base_le (base' := w.heap.size) (by simp; omega))
    have B1 := Lib.hid b1'
    clear WI o1 b1 b1'
    have RB := Lib.hid (prd_box O1.out WL.out)
    have GK := Lib.hid (gkeep_new hg rfl (B1.out.alloc (by omega) (.cells #[.slice ao ws.length c, .int .i64 0] 149)) (R := w1.heap.size) (by omega))
    have HR1 := Lib.hid ((Below.heap_alloc w1 (.cells #[.slice ao ws.length c, .int .i64 0] 149) w.heap.size (by omega)).trans H1)
    have HR2 := Lib.hid ((Below.heap_alloc w1 (.cells #[.slice ao ws.length c, .int .i64 0] 149) (w.heap.size + 1) (by omega)).trans H2)
    have BB := Lib.hid (B1.out.alloc (by omega) (.cells #[.slice ao ws.length c, .int .i64 0] 149))
    have ND := Lib.hid (nodes_any (w1.alloc (.cells #[.slice ao ws.length c, .int .i64 0] 149)) WN.out GK.out RB.out)
    obtain ⟨r, hr⟩ : ∃ r, r = goQ ws (ws.length + 2) [] 1 0 := ⟨_, rfl⟩
    rw [← hr] at ND
    have E2 := Lib.hid (E.out.trans (parseQ_pick ws))
    rw [← hr] at E2
    have GB := Lib.hid (fun l q (h : r = .inr (l, q)) => goQ_bd _ _ _ _ l q (hr.symm.trans h) (by simp) (by simp) (by simp))
    clear H1 H2 E hr
    go_wp2_with fail
    refine ND.out.mono ?_
    rintro e w2 hp
    cases r with
    | inl q =>
      obtain ⟨rfl, g2⟩ := hp
      have hE : parseO s = ([], (q : Int)) := E2.out
      have K1 := (g2.block w.heap.size (by simp; omega) (by simp; omega)).trans HR1.out
      have K2 := (g2.block (w.heap.size + 1) (by simp; omega) (by simp; omega)).trans HR2.out
      have B2 := BB.out.grown g2 BB.out.size (by intro g hg; cases hg; omega)
      clear E2 ND GK
      go_wp2_with fail
      refine leaves_cons (f := 134) (args := #[.pointer (some ⟨w.heap.size, 0, none⟩), .pointer (some ⟨w.heap.size + 1, 0, none⟩)]) (by simp) (by simp [go_sem]) ?_
      refine (catchB w.heap.size (w.heap.size + 1) q _ _ _ _ [] _ K1 K2 (by omega)).mono ?_
      rintro e u' w3 ⟨rfl, rfl, rfl⟩
      have hc := cells_two (.slice none 0 0) (.int .i64 q) K1 K2
      refine leaves_two (n := w.heap.size) hc.1 hc.2 rfl rfl ?_
      exact madeN2_no rfl ((B2.setCell (Nat.le_refl _) _).setCell (by simp) _)
    | inr x =>
      obtain ⟨l, q⟩ := x
      unfold NodesI at hp
      simp only at hp
      by_cases hq : q < ws.length
      · rw [if_pos hq] at hp
        obtain ⟨rfl, g2⟩ := hp
        have hE : parseO s = ([], (q : Int)) := by rw [E2.out]; unfold pickQ; simp only [if_pos hq]
        have K1 := (g2.block w.heap.size (by simp; omega) (by simp; omega)).trans HR1.out
        have K2 := (g2.block (w.heap.size + 1) (by simp; omega) (by simp; omega)).trans HR2.out
        have B2 := BB.out.grown g2 BB.out.size (by intro g hg; cases hg; omega)
        clear E2 ND GK
        go_wp2_with fail
        refine leaves_cons (f := 134) (args := #[.pointer (some ⟨w.heap.size, 0, none⟩), .pointer (some ⟨w.heap.size + 1, 0, none⟩)]) (by simp) (by simp [go_sem]) ?_
        refine (catchB w.heap.size (w.heap.size + 1) q _ _ _ _ [] _ K1 K2 (by omega)).mono ?_
        rintro e u' w3 ⟨rfl, rfl, rfl⟩
        have hc := cells_two (.slice none 0 0) (.int .i64 q) K1 K2
        refine leaves_two (n := w.heap.size) hc.1 hc.2 rfl rfl ?_
        exact madeN2_no rfl ((B2.setCell (Nat.le_refl _) _).setCell (by simp) _)
      · rw [if_neg hq] at hp
        obtain ⟨a2, c2, rfl, o2, r2, g2⟩ := hp
        simp only at o2 r2 ⊢
        have hb := GB.out l q rfl
        have WLL := WL.out
        have SM := Lib.hid (show Small l from ⟨by omega, fun n hn => by have := hb.2.2 n hn; omega⟩)
        have K1 := (g2.block w.heap.size (by simp; omega) (by simp; omega)).trans HR1.out
        have K2 := (g2.block (w.heap.size + 1) (by simp; omega) (by simp; omega)).trans HR2.out
        have B2 := Lib.hid (BB.out.grown g2 BB.out.size (by intro g hg; cases hg; omega))
        have hz2 := g2.size
        simp at hz2
        have O2 := Lib.hid o2
        have R2 := Lib.hid r2
        have E3 : Hid (parseO s = if planB l = true then (l, -1) else ([], (ws.length : Int))) := by
          show _ = _
          rw [E2.out]; unfold pickQ; simp only [if_neg hq]
        have K1' := Lib.hid K1
        have K2' := Lib.hid K2
        clear K1 K2 HR1 HR2 o2 r2 g2 hb E2 ND GK BB
        go_wp2_with fail
        refine (implPlanOk_any a2 c2 l SM.out w2 O2.out.rd).mono ?_
        rintro e w3 ⟨rfl, b3⟩
        have R3 := Lib.hid (R2.out.below b3)
        have O3 := Lib.hid ((O2.out.below b3).base_le (base' := w.heap.size + 2) (by simp; omega))
        have B3 := Lib.hid (below_step B2.out (Nat.le_refl _) b3)
        have K1 : w3.heap[w.heap.size]? = some (.cells #[.slice none 0 0] 25 (0, 0)) := (b3.block _ (by omega)).trans K1'.out
        have K2 : w3.heap[w.heap.size + 1]? = some (.cells #[.int .i64 0] 3 (0, 0)) := (b3.block _ (by omega)).trans K2'.out
        have cc1 : w3.cell? ⟨w.heap.size, 0, none⟩ = some (.slice none 0 0) := cell_of_row _ _ 0 _ _ _ K1
        have cc2 : w3.cell? ⟨w.heap.size + 1, 0, none⟩ = some (.int .i64 0) := cell_of_row _ _ 0 _ _ _ K2
        have f1 : w3.frozen? ⟨w.heap.size, 0, none⟩ = false := by simp [World.frozen?, K1]
        have f2 : w3.frozen? ⟨w.heap.size + 1, 0, none⟩ = false := by simp [World.frozen?, K2]
        have cw : w3.cell? ⟨w1.heap.size, 0, none⟩ = some (.slice ao ws.length c) := cell_of_row _ _ 0 _ _ _ R3.out.1
        have KK1 := Lib.hid K1
        have KK2 := Lib.hid K2
        clear K1 K2 b3
        cases hs : planB l with
        | true =>
          have E4 : Hid (parseO s = (l, -1)) := by show _ = _; rw [E3.out, if_pos hs]
          go_wp2_with fail
          refine leaves_cons (f := 134) (args := #[.pointer (some ⟨w.heap.size, 0, none⟩), .pointer (some ⟨w.heap.size + 1, 0, none⟩)]) (by simp) (by simp [go_sem]) ?_
          refine (catchN w.heap.size (w.heap.size + 1) _).mono ?_
          rintro e u' w4 ⟨rfl, rfl, rfl⟩
          have hc := cells_two (.slice a2 l.length c2) (.int .i64 (-1)) KK1.out KK2.out
          refine leaves_two (n := w.heap.size) hc.1 hc.2 rfl rfl ?_
          exact madeN2_yes E4.out rfl (own_two O3.out) ((B3.out.setCell (Nat.le_refl _) _).setCell (by simp) _)
        | false =>
          have E4 : Hid (parseO s = ([], (ws.length : Int))) := by show _ = _; rw [E3.out, if_neg (by rw [hs]; simp)]
          have hn1 : ¬ w1.heap.size = w.heap.size := by omega
          have hn2 : ¬ w1.heap.size = w.heap.size + 1 := by omega
          have hn3 : ¬ w.heap.size = w1.heap.size := by omega
          have hn4 : ¬ w.heap.size + 1 = w1.heap.size := by omega
          go_wp2_with fail
          go_region
          go_wp2_with fail
          refine leaves_cons (f := 134) (args := #[.pointer (some ⟨w.heap.size, 0, none⟩), .pointer (some ⟨w.heap.size + 1, 0, none⟩)]) (by simp) (by simp [go_sem]) ?_
          refine (catchN w.heap.size (w.heap.size + 1) _).mono ?_
          rintro e u' w4 ⟨rfl, rfl, rfl⟩
          have hc := cells_two (.slice none 0 0) (.int .i64 ws.length) KK1.out KK2.out
          refine leaves_two (n := w.heap.size) ((cell_drew _ _).trans hc.1) ((cell_drew _ _).trans hc.2) rfl rfl ?_
          exact madeN2_no E4.out ((B3.out.setCell (Nat.le_refl _) _).setCell (by simp) _).drew
end Go.Proofs.YtfpbhedophlnkaaGreatDoor
