/-
  Contracts of ChildrenOf, of the model and of the program. For every slice of nodes and every number.
-/
import Derived.Test.YtaaiedgmpgoonaaEnds
namespace Go.Proofs.Ytaaiedgmpgoonaa
open Go.RowKit
set_option linter.unusedSimpArgs false
set_option linter.unusedVariables false

theorem own_of_V {w : World} {base : Nat} {e : TypeId} {k : IntKind} {ao : Option Addr} {c : Nat} {l : List Int} (h : OwnV w base e ao c (l.map (Value.int k))) : Own w base e k ao c l := by
  unfold OwnV at h; unfold Own; rw [List.length_map] at h; exact h
theorem V_of_own {w : World} {base : Nat} {e : TypeId} {k : IntKind} {ao : Option Addr} {c : Nat} {l : List Int} (h : Own w base e k ao c l) : OwnV w base e ao c (l.map (Value.int k)) := by
  unfold Own at h; unfold OwnV; rw [List.length_map]; exact h
/-- 'append(xs, z)' at a slice of int of the call's own. -/
theorem wpList_appendI {P : Program} (w : World) {ops : Array Oper} {rest : List Oper} {o : Oper} {a : Act} {Q : Exit → Act → World → Prop} (hgd : o.guard = none) (s x : Operand) (t : TypeId)
    (ho : o.op = .call { callee := .builtin .append, args := #[s, x], argTypes := #[t, t] }) (base : Nat) (e : TypeId) (ht : P.underlying t = some (.slice e))
    (hi : (P.info? e).map (fun i => (i.zero, i.size, i.bytes)) = some (some (.int .i64 0), 1, 8))
    (ao : Option Addr) (c n : Nat) (l : List Int) (hs : a.eval s = .slice ao n c) (hn : n = l.length) (hown : Own w base e .i64 ao c l)
    (bl cx : Nat) (z : Int) (hx : a.eval x = .slice (some ⟨bl, 0, none⟩) 1 cx) (hv : w.cell? ⟨bl, 0, none⟩ = some (.int .i64 z))
    (hby : l.length ≤ 1048576) (hbase : base ≤ w.heap.size)
    (h : ∀ ao' c' w', Own w' base e .i64 ao' c' (l ++ [z]) → w.grownBy w' (ao.map (·.block)) → wpList P ops Q rest (a.put o.dst (.slice ao' (l.length + 1) c')) w') :
    wpList P ops Q (o :: rest) a w := by
  refine wpList_appendV w hgd s x t ho base e (.int .i64 0) 8 ht hi rfl ao c n (l.map (Value.int .i64)) hs (by simpa using hn) (V_of_own hown) bl cx (.int .i64 z) hx hv rfl (by simp [maxLen]; omega) (by simp; omega) hbase ?_
  intro ao' c' w' ho' hg' _
  have := h ao' c' w' (own_of_V (by rw [List.map_append]; exact ho')) hg'
  simpa using this
theorem below_app {w wr w1 : World} {e : TypeId} {ao : Option Addr} {c : Nat} {l : List Int} {o : Obj} (hb : Below w.heap.size w wr) (ho : Own wr w.heap.size e .i64 ao c l) (hg : (wr.alloc o).grownBy w1 (ao.map (·.block))) : Below w.heap.size w w1 := by
  refine (hb.alloc hb.size o).grown hg (by have := hb.size; simp; omega) ?_
  intro g hg'
  rcases ao with _ | a
  · cases hg'
  · simp at hg'; subst hg'; exact (ho.lt a rfl).1
theorem Own.alloc {w : World} {base : Nat} {e : TypeId} {k : IntKind} {ao : Option Addr} {c : Nat} {l : List Int} (h : Own w base e k ao c l) (o : Obj) : Own (w.alloc o) base e k ao c l :=
  h.below ((Below.refl _ _).alloc (Nat.le_refl _) o)

theorem own_empty {w : World} {base : Nat} {e : TypeId} {k : IntKind} (h : base ≤ w.heap.size) : Own (w.alloc (.cells #[] e)) base e k (some ⟨w.heap.size, 0, none⟩) 0 [] :=
  ⟨rfl, .inr ⟨w.heap.size, 0, #[], rfl, h, heap_alloc_new w _, Nat.le_refl _, Nat.zero_le _, rfl, rfl⟩⟩

/-- The places of a node's children. -/
def kidsN (p : List Nd) (k : Int) : List Int :=
  match treeN p with
  | none => []
  | some T =>
    match fnd k T with
    | none => []
    | some S => S.kids.map fun c => (c.pl : Int)
theorem kidsN_no {p : List Nd} {k : Int} (h : goodB p k = false) : kidsN p k = [] := by
  unfold kidsN
  rcases good_none h with ht | ⟨T, ht, hf⟩
  · rw [ht]
  · rw [ht]; simp only; rw [hf]

/-- A tree is made of the trees that begin where its children do. -/
theorem grow_inv {p : List Nd} {f k : Nat} {S : Tr} (h : growT p f k = some S) : ∃ n, p[k]? = some n ∧ nodeB n = true ∧
    ((S = .t0 n k (k + 1) ∧ arity n.kind = 0) ∨ (∃ c, S = .t1 n k c.en c ∧ arity n.kind = 1 ∧ growT p f (k + 1) = some c) ∨ (∃ c d, S = .t2 n k d.en c d ∧ arity n.kind = 2 ∧ growT p f (k + 1) = some c ∧ growT p f c.en = some d)) := by
  cases f with
  | zero => cases h
  | succ f =>
    cases hn : p[k]? with
    | none => simp [growT, hn] at h
    | some n =>
      cases hb : nodeB n with
      | false => rw [growT_no hn hb] at h; cases h
      | true =>
        refine ⟨n, rfl, hb, ?_⟩
        rcases arity_of_nodeB hb with ha | ha | ha
        · rw [growT_0 hn hb (by omega) (by omega)] at h; cases h; exact .inl ⟨rfl, ha⟩
        · cases hc : growT p f (k + 1) with
          | none => rw [growT_1n hn ha hc] at h; cases h
          | some c => rw [growT_1s hn hb ha hc] at h; cases h; exact .inr (.inl ⟨c, rfl, ha, growT_more p _ _ _ hc⟩)
        · cases hc : growT p f (k + 1) with
          | none => rw [growT_2n hn ha hc] at h; cases h
          | some c =>
            cases hd : growT p f c.en with
            | none => rw [growT_2sn hn ha hc hd] at h; cases h
            | some d => rw [growT_2ss hn hb ha hc hd] at h; cases h; exact .inr (.inr ⟨c, d, rfl, ha, growT_more p _ _ _ hc, growT_more p _ _ _ hd⟩)
theorem endN_of_grow {p : List Nd} {T c : Tr} {k : Nat} (ht : treeN p = some T) (hg : growT p p.length k = some c) (hd : c.depth ≤ 10) : endN p 10 k = some (c.en, c.depth) := by
  rw [endN_grow p (treeN_all ht) p.length 10 k (by omega), hg]
  simp only
  rw [if_pos hd]

/-- What l02Kids answers, at a good place. -/
def KidsOk (p : List Nd) (k : Nat) (l : List Int) : Prop :=
  ∃ n, p[k]? = some n ∧ ((arity n.kind = 0 ∧ l = []) ∨ (arity n.kind = 1 ∧ l = [(k : Int) + 1] ∧ ∃ e d, endN p 10 (k + 1) = some (e, d)) ∨
    (arity n.kind = 2 ∧ ∃ e d e' d', endN p 10 (k + 1) = some (e, d) ∧ endN p 10 e = some (e', d') ∧ l = [(k : Int) + 1, (e : Int)]))
theorem kids_ok {p : List Nd} {k : Int} (h : goodB p k = true) : KidsOk p k.toNat (kidsN p k) := by
  obtain ⟨T, S, ht, hf, _, _, _, hd, _, h0, _, hg⟩ := good_some h
  have hk : kidsN p k = S.kids.map fun c => (c.pl : Int) := by unfold kidsN; rw [ht]; simp only; rw [hf]
  rw [hk]
  obtain ⟨n, hn, _, hS | ⟨c, rfl, ha, hc⟩ | ⟨c, d, rfl, ha, hc, hdd⟩⟩ := grow_inv hg
  · obtain ⟨rfl, ha⟩ := hS
    exact ⟨n, hn, .inl ⟨ha, rfl⟩⟩
  · have hpl := (growT_sound p _ _ _ hc).1
    refine ⟨n, hn, .inr (.inl ⟨ha, ?_, _, _, endN_of_grow ht hc (by simp only [Tr.depth] at hd; omega)⟩)⟩
    simp [Tr.kids, hpl]
  · have hpl := (growT_sound p _ _ _ hc).1
    have hpl' := (growT_sound p _ _ _ hdd).1
    simp only [Tr.depth] at hd
    refine ⟨n, hn, .inr (.inr ⟨ha, _, _, _, _, endN_of_grow ht hc (by omega), endN_of_grow ht hdd (by omega), ?_⟩)⟩
    simp [Tr.kids, hpl, hpl']

theorem Try.infoInt : (Try.prog.info? 3).map (fun i => (i.zero, i.size, i.bytes)) = some (some (.int .i64 0), 1, 8) := by kernel_rfl

end Go.Proofs.Ytaaiedgmpgoonaa
