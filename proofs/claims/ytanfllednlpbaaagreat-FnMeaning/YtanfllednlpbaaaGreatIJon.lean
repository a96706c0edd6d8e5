/-
  Contract of the iterator of impl.joinedOn: two sequences of rows joined where two columns are the same.
-/
import Derived.Test.YtanfllednlpbaaaGreatM27x
import Derived.Test.YtanfllednlpbaaaGreatM29x
namespace Go.Proofs.YtanfllednlpbaaaGreat
open Go.RowKit Go.Shelf
set_option linter.unusedSimpArgs false
set_option linter.unusedVariables false

attribute [local go_sem] Oper.semAt_some

/-- Beside the rows that were made, the box of the left row. -/
def jnFo (f : Nat → Prop) (s : Nat) (es : List El) (B : Nat) : Nat → Prop := fun k => rwFo f s es k ∨ k = B
structure JnSt (W : World) (fo fJ : Nat → Prop) (l : Nat) (es : List El) (B : Nat) (v : Value) (X : World) : Prop where
  r : RwSt W fo fJ l es X
  b : Boxed X B 34 v
  nJ : ¬ fJ B
  nE : ¬ blkE es B
  lo : W.heap.size < B
theorem low_jn {n m s B : Nat} {f : Nat → Prop} {es : List El} {X Y : World} (ab : Abide (lowF n (jnFo f s es B)) X Y) (h : m ≤ n) : Abide (lowF m (rwFo f s es)) X Y :=
  ab.mono fun k hk => Or.elim hk (fun hk => .inl (.inl hk)) (fun hk => .inr (Nat.lt_of_lt_of_le hk h))
theorem JnSt.abide {n : Nat} {W X Y : World} {fo fJ : Nat → Prop} {l : Nat} {es : List El} {B : Nat} {v : Value} (h : JnSt W fo fJ l es B v X) (ab : Abide (lowF n (jnFo fJ W.heap.size es B)) X Y) (hn : W.heap.size ≤ n) : JnSt W fo fJ l es B v Y :=
  ⟨h.r.abide (low_jn ab (Nat.le_refl _)) hn, boxed_ab h.b (.inr rfl) ab, h.nJ, h.nE, h.lo⟩
theorem JnSt.lt {W X : World} {fo fJ : Nat → Prop} {l : Nat} {es : List El} {B : Nat} {v : Value} (h : JnSt W fo fJ l es B v X) : ∀ j, jnFo fJ W.heap.size es B j → j < X.heap.size := by
  rintro j (hj | rfl)
  · exact h.r.lt j hj
  · exact h.b.lt
theorem JnSt.turn {W X Y : World} {fo fJ f' : Nat → Prop} {l : Nat} {es : List El} {B : Nat} {v : Value} (h : JnSt W fo fJ l es B v X) (t : Turn fJ f' X Y) : JnSt W fo f' l es B v Y :=
  ⟨h.r.turn t, (t.block _ h.b.lt h.nJ).trans h.b, t.out h.b.lt h.nJ, h.nE, h.lo⟩
theorem JnSt.snoc {W X : World} {fo fJ : Nat → Prop} {l : Nat} {es : List El} {B : Nat} {v : Value} {e : El} (h : JnSt W fo fJ l es B v X) (hg : Good X e) (hn : ∀ a, e.a = some a → W.heap.size < a.block ∧ a.block < X.heap.size ∧ ¬ fJ a.block ∧ a.block ≠ B) : JnSt W fo fJ l (es ++ [e]) B v X :=
  ⟨h.r.snoc hg (fun a ha => ⟨(hn a ha).1, (hn a ha).2.1, (hn a ha).2.2.1⟩), h.b, h.nJ, by
    rintro ⟨x, hx, a, ha, hk⟩
    rcases List.mem_append.1 hx with hx | hx
    · exact h.nE ⟨x, hx, a, ha, hk⟩
    · rw [List.mem_singleton] at hx; subst hx; exact (hn a ha).2.2.2 hk, h.lo⟩
theorem turn_jn {W X Y : World} {fo fJ f' : Nat → Prop} {l : Nat} {es es' : List El} {B : Nat} {v : Value} (h : JnSt W fo fJ l es B v X) (t : Turn fJ f' X Y) (he : ∀ k, blkE es' k → (blkE es k ∨ X.heap.size ≤ k) ∧ k < Y.heap.size) : Turn (jnFo fJ W.heap.size es B) (jnFo f' W.heap.size es' B) X Y := by
  have t1 := turn_rw h.r t he
  refine ⟨t.os, t.tape, t.output, t.size, fun k hk hn => t1.block k hk (fun h => hn (.inl h)), fun k hk => ?_⟩
  rcases hk with hk | rfl
  · obtain ⟨h1, h2⟩ := t1.own k hk
    exact ⟨h1.elim (fun h => .inl (.inl h)) .inr, h2⟩
  · exact ⟨.inl (.inr rfl), Nat.lt_of_lt_of_le h.b.lt t.size⟩
/-- The box is let go. -/
theorem turn_drop {f g : Nat → Prop} {s B : Nat} {es : List El} {X Y : World} (t : Turn f (jnFo g s es B) X Y) : Turn f (rwFo g s es) X Y :=
  ⟨t.os, t.tape, t.output, t.size, t.block, fun k hk => t.own k (.inl hk)⟩

theorem joinL_snoc (n : Nd) (l m : RowsL) (r : List Int) : joinL n (l ++ [r]) m = joinL n l m ++ joinRow n r m := by unfold joinL; simp
theorem joinRow_y {n : Nd} {a : List Int} {m : RowsL} {r : List Int} (hb : meetB n a r = true) : joinRow n a (m ++ [r]) = joinRow n a m ++ [a ++ r] := by unfold joinRow; simp [List.filter_append, hb]
theorem joinRow_n {n : Nd} {a : List Int} {m : RowsL} {r : List Int} (hb : meetB n a r = false) : joinRow n a (m ++ [r]) = joinRow n a m := by unfold joinRow; simp [List.filter_append, hb]
theorem joinRow_none {n : Nd} {a : List Int} {m : RowsL} (h : cellV a n.col = -2000000) : joinRow n a m = [] := by
  unfold joinRow
  have : m.filter (meetB n a) = [] := List.filter_eq_nil_iff.2 fun r _ => by unfold meetB; simp [h]
  rw [this]; rfl
theorem joinL_pre {n : Nd} {l l' m : RowsL} (h : l <+: l') : joinL n l m <+: joinL n l' m := by
  obtain ⟨t, rfl⟩ := h
  unfold joinL; rw [List.flatMap_append]; exact List.prefix_append _ _
theorem joinRow_pre {n : Nd} {a : List Int} {m m' : RowsL} (h : m <+: m') : joinRow n a m <+: joinRow n a m' := by
  unfold joinRow; exact (h.filter _).map _

theorem lt18 : ∀ i : Nat, i < 18 → (i = 0 ∨ i = 1 ∨ i = 2 ∨ i = 3 ∨ i = 4 ∨ i = 5 ∨ i = 6 ∨ i = 7 ∨ i = 8 ∨ i = 9 ∨ i = 10 ∨ i = 11 ∨ i = 12 ∨ i = 13 ∨ i = 14 ∨ i = 15 ∨ i = 16 ∨ i = 17) := by decide
/-- What has come up has behind it what it waits for. -/
structure JC (b0 b1 b2 b3 b4 b5 b6 b7 b8 b9 b10 b11 b12 b13 b14 b15 b16 b17 : Bool) : Prop where
  c2 : b2 = true → b0 = true ∧ b1 = true
  c3 : b3 = true → b2 = true
  c6 : b6 = true → b4 = true ∧ b5 = true
  c7 : b7 = true → b6 = true
  c8 : b8 = true → b3 = true ∧ b7 = true
  c9 : b9 = true → b8 = true
  c10 : b10 = true → b9 = true
  c11 : b11 = true → b9 = true
  c12 : b12 = true → b9 = true
  c13 : b13 = true → b11 = true ∧ b12 = true
  c14 : b14 = true → b13 = true
  c15 : b15 = true → b10 = true ∧ b14 = true
  c16 : b16 = true → b15 = true
  c17 : b17 = true → b16 = true
theorem JC.set0 {b0 b1 b2 b3 b4 b5 b6 b7 b8 b9 b10 b11 b12 b13 b14 b15 b16 b17 : Bool} (h : JC b0 b1 b2 b3 b4 b5 b6 b7 b8 b9 b10 b11 b12 b13 b14 b15 b16 b17) : JC true b1 b2 b3 b4 b5 b6 b7 b8 b9 b10 b11 b12 b13 b14 b15 b16 b17 := ⟨fun e => ⟨rfl, (h.c2 e).2⟩, fun e => h.c3 e, fun e => ⟨(h.c6 e).1, (h.c6 e).2⟩, fun e => h.c7 e, fun e => ⟨(h.c8 e).1, (h.c8 e).2⟩, fun e => h.c9 e, fun e => h.c10 e, fun e => h.c11 e, fun e => h.c12 e, fun e => ⟨(h.c13 e).1, (h.c13 e).2⟩, fun e => h.c14 e, fun e => ⟨(h.c15 e).1, (h.c15 e).2⟩, fun e => h.c16 e, fun e => h.c17 e⟩
theorem JC.set1 {b0 b1 b2 b3 b4 b5 b6 b7 b8 b9 b10 b11 b12 b13 b14 b15 b16 b17 : Bool} (h : JC b0 b1 b2 b3 b4 b5 b6 b7 b8 b9 b10 b11 b12 b13 b14 b15 b16 b17) : JC b0 true b2 b3 b4 b5 b6 b7 b8 b9 b10 b11 b12 b13 b14 b15 b16 b17 := ⟨fun e => ⟨(h.c2 e).1, rfl⟩, fun e => h.c3 e, fun e => ⟨(h.c6 e).1, (h.c6 e).2⟩, fun e => h.c7 e, fun e => ⟨(h.c8 e).1, (h.c8 e).2⟩, fun e => h.c9 e, fun e => h.c10 e, fun e => h.c11 e, fun e => h.c12 e, fun e => ⟨(h.c13 e).1, (h.c13 e).2⟩, fun e => h.c14 e, fun e => ⟨(h.c15 e).1, (h.c15 e).2⟩, fun e => h.c16 e, fun e => h.c17 e⟩
theorem JC.set2 {b2 b3 b4 b5 b6 b7 b8 b9 b10 b11 b12 b13 b14 b15 b16 b17 : Bool} (h : JC true true b2 b3 b4 b5 b6 b7 b8 b9 b10 b11 b12 b13 b14 b15 b16 b17) : JC true true true b3 b4 b5 b6 b7 b8 b9 b10 b11 b12 b13 b14 b15 b16 b17 := ⟨fun _ => ⟨rfl, rfl⟩, fun e => rfl, fun e => ⟨(h.c6 e).1, (h.c6 e).2⟩, fun e => h.c7 e, fun e => ⟨(h.c8 e).1, (h.c8 e).2⟩, fun e => h.c9 e, fun e => h.c10 e, fun e => h.c11 e, fun e => h.c12 e, fun e => ⟨(h.c13 e).1, (h.c13 e).2⟩, fun e => h.c14 e, fun e => ⟨(h.c15 e).1, (h.c15 e).2⟩, fun e => h.c16 e, fun e => h.c17 e⟩
theorem JC.set3 {b0 b1 b3 b4 b5 b6 b7 b8 b9 b10 b11 b12 b13 b14 b15 b16 b17 : Bool} (h : JC b0 b1 true b3 b4 b5 b6 b7 b8 b9 b10 b11 b12 b13 b14 b15 b16 b17) : JC b0 b1 true true b4 b5 b6 b7 b8 b9 b10 b11 b12 b13 b14 b15 b16 b17 := ⟨fun e => ⟨(h.c2 e).1, (h.c2 e).2⟩, fun _ => rfl, fun e => ⟨(h.c6 e).1, (h.c6 e).2⟩, fun e => h.c7 e, fun e => ⟨rfl, (h.c8 e).2⟩, fun e => h.c9 e, fun e => h.c10 e, fun e => h.c11 e, fun e => h.c12 e, fun e => ⟨(h.c13 e).1, (h.c13 e).2⟩, fun e => h.c14 e, fun e => ⟨(h.c15 e).1, (h.c15 e).2⟩, fun e => h.c16 e, fun e => h.c17 e⟩
theorem JC.set4 {b0 b1 b2 b3 b4 b5 b6 b7 b8 b9 b10 b11 b12 b13 b14 b15 b16 b17 : Bool} (h : JC b0 b1 b2 b3 b4 b5 b6 b7 b8 b9 b10 b11 b12 b13 b14 b15 b16 b17) : JC b0 b1 b2 b3 true b5 b6 b7 b8 b9 b10 b11 b12 b13 b14 b15 b16 b17 := ⟨fun e => ⟨(h.c2 e).1, (h.c2 e).2⟩, fun e => h.c3 e, fun e => ⟨rfl, (h.c6 e).2⟩, fun e => h.c7 e, fun e => ⟨(h.c8 e).1, (h.c8 e).2⟩, fun e => h.c9 e, fun e => h.c10 e, fun e => h.c11 e, fun e => h.c12 e, fun e => ⟨(h.c13 e).1, (h.c13 e).2⟩, fun e => h.c14 e, fun e => ⟨(h.c15 e).1, (h.c15 e).2⟩, fun e => h.c16 e, fun e => h.c17 e⟩
theorem JC.set5 {b0 b1 b2 b3 b4 b5 b6 b7 b8 b9 b10 b11 b12 b13 b14 b15 b16 b17 : Bool} (h : JC b0 b1 b2 b3 b4 b5 b6 b7 b8 b9 b10 b11 b12 b13 b14 b15 b16 b17) : JC b0 b1 b2 b3 b4 true b6 b7 b8 b9 b10 b11 b12 b13 b14 b15 b16 b17 := ⟨fun e => ⟨(h.c2 e).1, (h.c2 e).2⟩, fun e => h.c3 e, fun e => ⟨(h.c6 e).1, rfl⟩, fun e => h.c7 e, fun e => ⟨(h.c8 e).1, (h.c8 e).2⟩, fun e => h.c9 e, fun e => h.c10 e, fun e => h.c11 e, fun e => h.c12 e, fun e => ⟨(h.c13 e).1, (h.c13 e).2⟩, fun e => h.c14 e, fun e => ⟨(h.c15 e).1, (h.c15 e).2⟩, fun e => h.c16 e, fun e => h.c17 e⟩
theorem JC.set6 {b0 b1 b2 b3 b6 b7 b8 b9 b10 b11 b12 b13 b14 b15 b16 b17 : Bool} (h : JC b0 b1 b2 b3 true true b6 b7 b8 b9 b10 b11 b12 b13 b14 b15 b16 b17) : JC b0 b1 b2 b3 true true true b7 b8 b9 b10 b11 b12 b13 b14 b15 b16 b17 := ⟨fun e => ⟨(h.c2 e).1, (h.c2 e).2⟩, fun e => h.c3 e, fun _ => ⟨rfl, rfl⟩, fun e => rfl, fun e => ⟨(h.c8 e).1, (h.c8 e).2⟩, fun e => h.c9 e, fun e => h.c10 e, fun e => h.c11 e, fun e => h.c12 e, fun e => ⟨(h.c13 e).1, (h.c13 e).2⟩, fun e => h.c14 e, fun e => ⟨(h.c15 e).1, (h.c15 e).2⟩, fun e => h.c16 e, fun e => h.c17 e⟩
theorem JC.set7 {b0 b1 b2 b3 b4 b5 b7 b8 b9 b10 b11 b12 b13 b14 b15 b16 b17 : Bool} (h : JC b0 b1 b2 b3 b4 b5 true b7 b8 b9 b10 b11 b12 b13 b14 b15 b16 b17) : JC b0 b1 b2 b3 b4 b5 true true b8 b9 b10 b11 b12 b13 b14 b15 b16 b17 := ⟨fun e => ⟨(h.c2 e).1, (h.c2 e).2⟩, fun e => h.c3 e, fun e => ⟨(h.c6 e).1, (h.c6 e).2⟩, fun _ => rfl, fun e => ⟨(h.c8 e).1, rfl⟩, fun e => h.c9 e, fun e => h.c10 e, fun e => h.c11 e, fun e => h.c12 e, fun e => ⟨(h.c13 e).1, (h.c13 e).2⟩, fun e => h.c14 e, fun e => ⟨(h.c15 e).1, (h.c15 e).2⟩, fun e => h.c16 e, fun e => h.c17 e⟩
theorem JC.set8 {b0 b1 b2 b4 b5 b6 b8 b9 b10 b11 b12 b13 b14 b15 b16 b17 : Bool} (h : JC b0 b1 b2 true b4 b5 b6 true b8 b9 b10 b11 b12 b13 b14 b15 b16 b17) : JC b0 b1 b2 true b4 b5 b6 true true b9 b10 b11 b12 b13 b14 b15 b16 b17 := ⟨fun e => ⟨(h.c2 e).1, (h.c2 e).2⟩, fun e => h.c3 e, fun e => ⟨(h.c6 e).1, (h.c6 e).2⟩, fun e => h.c7 e, fun _ => ⟨rfl, rfl⟩, fun e => rfl, fun e => h.c10 e, fun e => h.c11 e, fun e => h.c12 e, fun e => ⟨(h.c13 e).1, (h.c13 e).2⟩, fun e => h.c14 e, fun e => ⟨(h.c15 e).1, (h.c15 e).2⟩, fun e => h.c16 e, fun e => h.c17 e⟩
theorem JC.set9 {b0 b1 b2 b3 b4 b5 b6 b7 b9 b10 b11 b12 b13 b14 b15 b16 b17 : Bool} (h : JC b0 b1 b2 b3 b4 b5 b6 b7 true b9 b10 b11 b12 b13 b14 b15 b16 b17) : JC b0 b1 b2 b3 b4 b5 b6 b7 true true b10 b11 b12 b13 b14 b15 b16 b17 := ⟨fun e => ⟨(h.c2 e).1, (h.c2 e).2⟩, fun e => h.c3 e, fun e => ⟨(h.c6 e).1, (h.c6 e).2⟩, fun e => h.c7 e, fun e => ⟨(h.c8 e).1, (h.c8 e).2⟩, fun _ => rfl, fun e => rfl, fun e => rfl, fun e => rfl, fun e => ⟨(h.c13 e).1, (h.c13 e).2⟩, fun e => h.c14 e, fun e => ⟨(h.c15 e).1, (h.c15 e).2⟩, fun e => h.c16 e, fun e => h.c17 e⟩
theorem JC.set10 {b0 b1 b2 b3 b4 b5 b6 b7 b8 b10 b11 b12 b13 b14 b15 b16 b17 : Bool} (h : JC b0 b1 b2 b3 b4 b5 b6 b7 b8 true b10 b11 b12 b13 b14 b15 b16 b17) : JC b0 b1 b2 b3 b4 b5 b6 b7 b8 true true b11 b12 b13 b14 b15 b16 b17 := ⟨fun e => ⟨(h.c2 e).1, (h.c2 e).2⟩, fun e => h.c3 e, fun e => ⟨(h.c6 e).1, (h.c6 e).2⟩, fun e => h.c7 e, fun e => ⟨(h.c8 e).1, (h.c8 e).2⟩, fun e => h.c9 e, fun _ => rfl, fun e => h.c11 e, fun e => h.c12 e, fun e => ⟨(h.c13 e).1, (h.c13 e).2⟩, fun e => h.c14 e, fun e => ⟨rfl, (h.c15 e).2⟩, fun e => h.c16 e, fun e => h.c17 e⟩
theorem JC.set11 {b0 b1 b2 b3 b4 b5 b6 b7 b8 b10 b11 b12 b13 b14 b15 b16 b17 : Bool} (h : JC b0 b1 b2 b3 b4 b5 b6 b7 b8 true b10 b11 b12 b13 b14 b15 b16 b17) : JC b0 b1 b2 b3 b4 b5 b6 b7 b8 true b10 true b12 b13 b14 b15 b16 b17 := ⟨fun e => ⟨(h.c2 e).1, (h.c2 e).2⟩, fun e => h.c3 e, fun e => ⟨(h.c6 e).1, (h.c6 e).2⟩, fun e => h.c7 e, fun e => ⟨(h.c8 e).1, (h.c8 e).2⟩, fun e => h.c9 e, fun e => h.c10 e, fun _ => rfl, fun e => h.c12 e, fun e => ⟨rfl, (h.c13 e).2⟩, fun e => h.c14 e, fun e => ⟨(h.c15 e).1, (h.c15 e).2⟩, fun e => h.c16 e, fun e => h.c17 e⟩
theorem JC.set12 {b0 b1 b2 b3 b4 b5 b6 b7 b8 b10 b11 b12 b13 b14 b15 b16 b17 : Bool} (h : JC b0 b1 b2 b3 b4 b5 b6 b7 b8 true b10 b11 b12 b13 b14 b15 b16 b17) : JC b0 b1 b2 b3 b4 b5 b6 b7 b8 true b10 b11 true b13 b14 b15 b16 b17 := ⟨fun e => ⟨(h.c2 e).1, (h.c2 e).2⟩, fun e => h.c3 e, fun e => ⟨(h.c6 e).1, (h.c6 e).2⟩, fun e => h.c7 e, fun e => ⟨(h.c8 e).1, (h.c8 e).2⟩, fun e => h.c9 e, fun e => h.c10 e, fun e => h.c11 e, fun _ => rfl, fun e => ⟨(h.c13 e).1, rfl⟩, fun e => h.c14 e, fun e => ⟨(h.c15 e).1, (h.c15 e).2⟩, fun e => h.c16 e, fun e => h.c17 e⟩
theorem JC.set13 {b0 b1 b2 b3 b4 b5 b6 b7 b8 b9 b10 b13 b14 b15 b16 b17 : Bool} (h : JC b0 b1 b2 b3 b4 b5 b6 b7 b8 b9 b10 true true b13 b14 b15 b16 b17) : JC b0 b1 b2 b3 b4 b5 b6 b7 b8 b9 b10 true true true b14 b15 b16 b17 := ⟨fun e => ⟨(h.c2 e).1, (h.c2 e).2⟩, fun e => h.c3 e, fun e => ⟨(h.c6 e).1, (h.c6 e).2⟩, fun e => h.c7 e, fun e => ⟨(h.c8 e).1, (h.c8 e).2⟩, fun e => h.c9 e, fun e => h.c10 e, fun e => h.c11 e, fun e => h.c12 e, fun _ => ⟨rfl, rfl⟩, fun e => rfl, fun e => ⟨(h.c15 e).1, (h.c15 e).2⟩, fun e => h.c16 e, fun e => h.c17 e⟩
theorem JC.set14 {b0 b1 b2 b3 b4 b5 b6 b7 b8 b9 b10 b11 b12 b14 b15 b16 b17 : Bool} (h : JC b0 b1 b2 b3 b4 b5 b6 b7 b8 b9 b10 b11 b12 true b14 b15 b16 b17) : JC b0 b1 b2 b3 b4 b5 b6 b7 b8 b9 b10 b11 b12 true true b15 b16 b17 := ⟨fun e => ⟨(h.c2 e).1, (h.c2 e).2⟩, fun e => h.c3 e, fun e => ⟨(h.c6 e).1, (h.c6 e).2⟩, fun e => h.c7 e, fun e => ⟨(h.c8 e).1, (h.c8 e).2⟩, fun e => h.c9 e, fun e => h.c10 e, fun e => h.c11 e, fun e => h.c12 e, fun e => ⟨(h.c13 e).1, (h.c13 e).2⟩, fun _ => rfl, fun e => ⟨(h.c15 e).1, rfl⟩, fun e => h.c16 e, fun e => h.c17 e⟩
theorem JC.set15 {b0 b1 b2 b3 b4 b5 b6 b7 b8 b9 b11 b12 b13 b15 b16 b17 : Bool} (h : JC b0 b1 b2 b3 b4 b5 b6 b7 b8 b9 true b11 b12 b13 true b15 b16 b17) : JC b0 b1 b2 b3 b4 b5 b6 b7 b8 b9 true b11 b12 b13 true true b16 b17 := ⟨fun e => ⟨(h.c2 e).1, (h.c2 e).2⟩, fun e => h.c3 e, fun e => ⟨(h.c6 e).1, (h.c6 e).2⟩, fun e => h.c7 e, fun e => ⟨(h.c8 e).1, (h.c8 e).2⟩, fun e => h.c9 e, fun e => h.c10 e, fun e => h.c11 e, fun e => h.c12 e, fun e => ⟨(h.c13 e).1, (h.c13 e).2⟩, fun e => h.c14 e, fun _ => ⟨rfl, rfl⟩, fun e => rfl, fun e => h.c17 e⟩
theorem JC.set16 {b0 b1 b2 b3 b4 b5 b6 b7 b8 b9 b10 b11 b12 b13 b14 b16 b17 : Bool} (h : JC b0 b1 b2 b3 b4 b5 b6 b7 b8 b9 b10 b11 b12 b13 b14 true b16 b17) : JC b0 b1 b2 b3 b4 b5 b6 b7 b8 b9 b10 b11 b12 b13 b14 true true b17 := ⟨fun e => ⟨(h.c2 e).1, (h.c2 e).2⟩, fun e => h.c3 e, fun e => ⟨(h.c6 e).1, (h.c6 e).2⟩, fun e => h.c7 e, fun e => ⟨(h.c8 e).1, (h.c8 e).2⟩, fun e => h.c9 e, fun e => h.c10 e, fun e => h.c11 e, fun e => h.c12 e, fun e => ⟨(h.c13 e).1, (h.c13 e).2⟩, fun e => h.c14 e, fun e => ⟨(h.c15 e).1, (h.c15 e).2⟩, fun _ => rfl, fun e => rfl⟩
theorem JC.set17 {b0 b1 b2 b3 b4 b5 b6 b7 b8 b9 b10 b11 b12 b13 b14 b15 b17 : Bool} (h : JC b0 b1 b2 b3 b4 b5 b6 b7 b8 b9 b10 b11 b12 b13 b14 b15 true b17) : JC b0 b1 b2 b3 b4 b5 b6 b7 b8 b9 b10 b11 b12 b13 b14 b15 true true := ⟨fun e => ⟨(h.c2 e).1, (h.c2 e).2⟩, fun e => h.c3 e, fun e => ⟨(h.c6 e).1, (h.c6 e).2⟩, fun e => h.c7 e, fun e => ⟨(h.c8 e).1, (h.c8 e).2⟩, fun e => h.c9 e, fun e => h.c10 e, fun e => h.c11 e, fun e => h.c12 e, fun e => ⟨(h.c13 e).1, (h.c13 e).2⟩, fun e => h.c14 e, fun e => ⟨(h.c15 e).1, (h.c15 e).2⟩, fun e => h.c16 e, fun _ => rfl⟩
theorem JC.all15 {b0 b1 b2 b3 b4 b5 b6 b7 b8 b9 b10 b11 b12 b13 b14 b15 b16 b17 : Bool} (h : JC b0 b1 b2 b3 b4 b5 b6 b7 b8 b9 b10 b11 b12 b13 b14 b15 b16 b17) (hk : b15 = true) : b0 = true ∧ b1 = true ∧ b2 = true ∧ b3 = true ∧ b4 = true ∧ b5 = true ∧ b6 = true ∧ b7 = true ∧ b8 = true ∧ b9 = true ∧ b10 = true ∧ b11 = true ∧ b12 = true ∧ b13 = true ∧ b14 = true := by
  obtain ⟨e10, e14⟩ := h.c15 hk
  have e13 := h.c14 e14
  obtain ⟨e11, e12⟩ := h.c13 e13
  have e9 := h.c10 e10
  have e8 := h.c9 e9
  obtain ⟨e3, e7⟩ := h.c8 e8
  have e2 := h.c3 e3
  obtain ⟨e0, e1⟩ := h.c2 e2
  have e6 := h.c7 e7
  obtain ⟨e4, e5⟩ := h.c6 e6
  exact ⟨e0, e1, e2, e3, e4, e5, e6, e7, e8, e9, e10, e11, e12, e13, e14⟩
theorem JC.no0 {b0 b1 b2 b3 b4 b5 b6 b7 b8 b9 b10 b11 b12 b13 b14 b15 b16 b17 : Bool} (h : JC b0 b1 b2 b3 b4 b5 b6 b7 b8 b9 b10 b11 b12 b13 b14 b15 b16 b17) (hk : b0 = false) : b15 = false := by
  cases e : b15 with
  | false => rfl
  | true => exact absurd ((h.all15 e).1) (by rw [hk]; simp)
theorem JC.no1 {b0 b1 b2 b3 b4 b5 b6 b7 b8 b9 b10 b11 b12 b13 b14 b15 b16 b17 : Bool} (h : JC b0 b1 b2 b3 b4 b5 b6 b7 b8 b9 b10 b11 b12 b13 b14 b15 b16 b17) (hk : b1 = false) : b15 = false := by
  cases e : b15 with
  | false => rfl
  | true => exact absurd ((h.all15 e).2.1) (by rw [hk]; simp)
theorem JC.no2 {b0 b1 b2 b3 b4 b5 b6 b7 b8 b9 b10 b11 b12 b13 b14 b15 b16 b17 : Bool} (h : JC b0 b1 b2 b3 b4 b5 b6 b7 b8 b9 b10 b11 b12 b13 b14 b15 b16 b17) (hk : b2 = false) : b15 = false := by
  cases e : b15 with
  | false => rfl
  | true => exact absurd ((h.all15 e).2.2.1) (by rw [hk]; simp)
theorem JC.no3 {b0 b1 b2 b3 b4 b5 b6 b7 b8 b9 b10 b11 b12 b13 b14 b15 b16 b17 : Bool} (h : JC b0 b1 b2 b3 b4 b5 b6 b7 b8 b9 b10 b11 b12 b13 b14 b15 b16 b17) (hk : b3 = false) : b15 = false := by
  cases e : b15 with
  | false => rfl
  | true => exact absurd ((h.all15 e).2.2.2.1) (by rw [hk]; simp)
theorem JC.no4 {b0 b1 b2 b3 b4 b5 b6 b7 b8 b9 b10 b11 b12 b13 b14 b15 b16 b17 : Bool} (h : JC b0 b1 b2 b3 b4 b5 b6 b7 b8 b9 b10 b11 b12 b13 b14 b15 b16 b17) (hk : b4 = false) : b15 = false := by
  cases e : b15 with
  | false => rfl
  | true => exact absurd ((h.all15 e).2.2.2.2.1) (by rw [hk]; simp)
theorem JC.no5 {b0 b1 b2 b3 b4 b5 b6 b7 b8 b9 b10 b11 b12 b13 b14 b15 b16 b17 : Bool} (h : JC b0 b1 b2 b3 b4 b5 b6 b7 b8 b9 b10 b11 b12 b13 b14 b15 b16 b17) (hk : b5 = false) : b15 = false := by
  cases e : b15 with
  | false => rfl
  | true => exact absurd ((h.all15 e).2.2.2.2.2.1) (by rw [hk]; simp)
theorem JC.no6 {b0 b1 b2 b3 b4 b5 b6 b7 b8 b9 b10 b11 b12 b13 b14 b15 b16 b17 : Bool} (h : JC b0 b1 b2 b3 b4 b5 b6 b7 b8 b9 b10 b11 b12 b13 b14 b15 b16 b17) (hk : b6 = false) : b15 = false := by
  cases e : b15 with
  | false => rfl
  | true => exact absurd ((h.all15 e).2.2.2.2.2.2.1) (by rw [hk]; simp)
theorem JC.no7 {b0 b1 b2 b3 b4 b5 b6 b7 b8 b9 b10 b11 b12 b13 b14 b15 b16 b17 : Bool} (h : JC b0 b1 b2 b3 b4 b5 b6 b7 b8 b9 b10 b11 b12 b13 b14 b15 b16 b17) (hk : b7 = false) : b15 = false := by
  cases e : b15 with
  | false => rfl
  | true => exact absurd ((h.all15 e).2.2.2.2.2.2.2.1) (by rw [hk]; simp)
theorem JC.no8 {b0 b1 b2 b3 b4 b5 b6 b7 b8 b9 b10 b11 b12 b13 b14 b15 b16 b17 : Bool} (h : JC b0 b1 b2 b3 b4 b5 b6 b7 b8 b9 b10 b11 b12 b13 b14 b15 b16 b17) (hk : b8 = false) : b15 = false := by
  cases e : b15 with
  | false => rfl
  | true => exact absurd ((h.all15 e).2.2.2.2.2.2.2.2.1) (by rw [hk]; simp)
theorem JC.no9 {b0 b1 b2 b3 b4 b5 b6 b7 b8 b9 b10 b11 b12 b13 b14 b15 b16 b17 : Bool} (h : JC b0 b1 b2 b3 b4 b5 b6 b7 b8 b9 b10 b11 b12 b13 b14 b15 b16 b17) (hk : b9 = false) : b15 = false := by
  cases e : b15 with
  | false => rfl
  | true => exact absurd ((h.all15 e).2.2.2.2.2.2.2.2.2.1) (by rw [hk]; simp)
theorem JC.no10 {b0 b1 b2 b3 b4 b5 b6 b7 b8 b9 b10 b11 b12 b13 b14 b15 b16 b17 : Bool} (h : JC b0 b1 b2 b3 b4 b5 b6 b7 b8 b9 b10 b11 b12 b13 b14 b15 b16 b17) (hk : b10 = false) : b15 = false := by
  cases e : b15 with
  | false => rfl
  | true => exact absurd ((h.all15 e).2.2.2.2.2.2.2.2.2.2.1) (by rw [hk]; simp)
theorem JC.no11 {b0 b1 b2 b3 b4 b5 b6 b7 b8 b9 b10 b11 b12 b13 b14 b15 b16 b17 : Bool} (h : JC b0 b1 b2 b3 b4 b5 b6 b7 b8 b9 b10 b11 b12 b13 b14 b15 b16 b17) (hk : b11 = false) : b15 = false := by
  cases e : b15 with
  | false => rfl
  | true => exact absurd ((h.all15 e).2.2.2.2.2.2.2.2.2.2.2.1) (by rw [hk]; simp)
theorem JC.no12 {b0 b1 b2 b3 b4 b5 b6 b7 b8 b9 b10 b11 b12 b13 b14 b15 b16 b17 : Bool} (h : JC b0 b1 b2 b3 b4 b5 b6 b7 b8 b9 b10 b11 b12 b13 b14 b15 b16 b17) (hk : b12 = false) : b15 = false := by
  cases e : b15 with
  | false => rfl
  | true => exact absurd ((h.all15 e).2.2.2.2.2.2.2.2.2.2.2.2.1) (by rw [hk]; simp)
theorem JC.no13 {b0 b1 b2 b3 b4 b5 b6 b7 b8 b9 b10 b11 b12 b13 b14 b15 b16 b17 : Bool} (h : JC b0 b1 b2 b3 b4 b5 b6 b7 b8 b9 b10 b11 b12 b13 b14 b15 b16 b17) (hk : b13 = false) : b15 = false := by
  cases e : b15 with
  | false => rfl
  | true => exact absurd ((h.all15 e).2.2.2.2.2.2.2.2.2.2.2.2.2.1) (by rw [hk]; simp)
theorem JC.no14 {b0 b1 b2 b3 b4 b5 b6 b7 b8 b9 b10 b11 b12 b13 b14 b15 b16 b17 : Bool} (h : JC b0 b1 b2 b3 b4 b5 b6 b7 b8 b9 b10 b11 b12 b13 b14 b15 b16 b17) (hk : b14 = false) : b15 = false := by
  cases e : b15 with
  | false => rfl
  | true => exact absurd ((h.all15 e).2.2.2.2.2.2.2.2.2.2.2.2.2.2) (by rw [hk]; simp)

set_option maxRecDepth 100000 in
set_option maxHeartbeats 8000000 in
theorem joinedOn_sep (F : Fence) (rm : Nat) (h3 : F.fn 162) (h4 : F.fn 163) (hro : F.round = none) (hd : F.depth = none) (hn : 4 ≤ rm) (g g2 : Nat) (lb lb2 : Array Value) (hg : F.fn g) (eg : ∀ args w, (callFunc g args).run Tryz.prog w = .ok (.enter g args) w) (hg2 : F.fn g2) (eg2 : ∀ args w, (callFunc g2 args).run Tryz.prog w = .ok (.enter g2 args) w)
    {wb : World} (zs ys : List (Els wb)) (B1 B2 B3 B4 : Nat) (n : Nd) (cl cr : Nat) (hcl : n.col = (cl : Int)) (hcr : n.num = (cr : Int)) (w : World) (hwb : Below wb.heap.size wb w)
    (hseq : SeqSep F (rm - 1) Tryz.prog g lb (fun x : Els wb => #[encE x]) (fun xs _ => xs = zs) (fun pre => pre <+: zs) w) (hseq2 : SeqSep F (rm - 1 - 1 - 1) Tryz.prog g2 lb2 (fun x : Els wb => #[encE x]) (fun xs _ => xs = ys) (fun pre => pre <+: ys) w)
    (hB1 : w.cell? ⟨B1, 0, none⟩ = some (.func (.func g) #[] lb)) (hB2 : w.cell? ⟨B2, 0, none⟩ = some (.func (.func g2) #[] lb2)) (hB3 : w.cell? ⟨B3, 0, none⟩ = some (.int .i64 cl)) (hB4 : w.cell? ⟨B4, 0, none⟩ = some (.int .i64 cr))
    (hfit : ∀ x ∈ zs, cl < x.1.r.length ∧ x.1.r.length ≤ 1048576) (hfit2 : ∀ x ∈ ys, cr < x.1.r.length ∧ x.1.r.length ≤ 1048576)
    (hC : ∀ (m : Nat) (X : World) (bv b0 o0 c0 b1 o1 c1 : Nat) (l0 l1 : List Int), (∀ i, i < l0.length → X.cell? ⟨b0, o0 + i, none⟩ = some (.int .i64 (l0.getD i 0))) → (∀ i, i < l1.length → X.cell? ⟨b1, o1 + i, none⟩ = some (.int .i64 (l1.getD i 0))) →
      X.cell? ⟨bv, 0, none⟩ = some (.slice (some ⟨b0, o0, none⟩) l0.length c0) → X.cell? ⟨bv, 1, none⟩ = some (.slice (some ⟨b1, o1, none⟩) l1.length c1) → 0 < l0.length → 0 < l1.length → l0.length ≤ 1048576 → l1.length ≤ 1048576 →
      CallsIn F m Tryz.prog 163 #[.slice (some ⟨bv, 0, none⟩) 2 2] X (CatI X (l0 ++ l1))) :
    SeqSep F rm Tryz.prog 162 #[.pointer (some ⟨B1, 0, none⟩), .pointer (some ⟨B2, 0, none⟩), .pointer (some ⟨B3, 0, none⟩), .pointer (some ⟨B4, 0, none⟩)] (fun e : El => #[e.val]) (fun xs W => rowsV xs = joinL n (rowsE zs) (rowsE ys) ∧ AllG W xs ∧ ∀ e ∈ xs, ∀ a, e.a = some a → w.heap.size ≤ a.block) (fun pre => rowsV pre <+: joinL n (rowsE zs) (rowsE ys)) w := by
  intro l J Jx W fo hW hfo hJ hJx hY h0
  have h1 : 1 ≤ rm := by omega
  have hl1 : B1 < w.heap.size := World.block_lt_of_cell? w _ hB1
  have hl2 : B2 < w.heap.size := World.block_lt_of_cell? w _ hB2
  have hl3 : B3 < w.heap.size := World.block_lt_of_cell? w _ hB3
  have hl4 : B4 < w.heap.size := World.block_lt_of_cell? w _ hB4
  have hs := hW.size
  have hb1 := (hW.cell (p := ⟨B1, 0, none⟩) hl1).trans hB1
  have hb2 := (hW.cell (p := ⟨B2, 0, none⟩) hl2).trans hB2
  have hb3 := (hW.cell (p := ⟨B3, 0, none⟩) hl3).trans hB3
  have hb4 := (hW.cell (p := ⟨B4, 0, none⟩) hl4).trans hB4
  have hl1' : B1 < W.heap.size := by omega
  have hl2' : B2 < W.heap.size := by omega
  have hl3' : B3 < W.heap.size := by omega
  have hl4' : B4 < W.heap.size := by omega
  have nf : ∀ k, k < w.heap.size → ¬ fo k := fun k hk hf => by have := (hfo k hf).1; omega
  suffices H : CallsIn F rm Tryz.prog 162 #[.func (.yield l) #[] #[], .pointer (some ⟨B1, 0, none⟩), .pointer (some ⟨B2, 0, none⟩), .pointer (some ⟨B3, 0, none⟩), .pointer (some ⟨B4, 0, none⟩)] W fun e W' => (∃ v, e = .returned v) ∧ ∃ f', Turn fo f' W W' ∧ ((∃ xs, (rowsV xs = joinL n (rowsE zs) (rowsE ys) ∧ AllG W' xs ∧ ∀ e ∈ xs, ∀ a, e.a = some a → w.heap.size ≤ a.block) ∧ J xs f' W') ∨ (∃ pre, rowsV pre <+: joinL n (rowsE zs) (rowsE ys) ∧ Jx pre f' W')) from H
  refine callsIn_of_wp_marks Tryz.func162 rfl h3 ?_ hro
  simp only [Tryz.ntmps162, List.size_toArray, List.length_cons, List.length_nil, Nat.reduceAdd, Nat.reduceSub, Array.replicate_succ, Array.replicate_zero, List.push_toArray, List.append_toArray, List.nil_append, List.cons_append]
  gi_wp2_with fail
  refine wpIn_scope_straight ?_
  gi_wp2_with fail
  refine wpIn_label ?_
  gi_wp2_with fail
  obtain ⟨W0, hW0⟩ : ∃ W0, W.alloc (.cells #[.func (.yield l) #[] #[]] 134) = W0 := ⟨_, rfl⟩
  have hs0 : W0.heap.size = W.heap.size + 1 := by rw [← hW0]; simp
  have hBW : Below W.heap.size W W0 := by rw [← hW0]; exact (Below.refl _ W).alloc (Nat.le_refl _) _
  have y0 := yst_start l (fun k hk => (hfo k hk).2) hW0
  rw [hW0]
  refine wpIn_range_sep hro h1 (gf := g) (lb := lb) rfl hg eg hseq (hW.trans (hBW.mono hW.size)) (fun _ => rfl)
    (fun xs X l o o' h hl => h)
    (fun pre f X => ∃ fJ es, f = rwFo fJ W.heap.size es ∧ rowsV es = joinL n (rowsE pre) (rowsE ys) ∧ RwSt W fo fJ l es X ∧ J es fJ X)
    (fun cd pre f X => cd = .exit 0 ∧ ∃ fJ es, f = rwFo fJ W.heap.size es ∧ rowsV es <+: joinL n (rowsE zs) (rowsE ys) ∧ Turn fo fJ W X ∧ Jx es fJ X)
    ?hI ?hIx (rwFo fo W.heap.size []) ?hfo ⟨fo, [], rfl, rfl, ⟨y0, AllG.nil _, fun k ⟨e, he, _⟩ => by cases he⟩, hJ _ _ _ _ h0 (abide_below hBW)⟩
    (fun pre x a' f X => ∃ Bx, a' = { tmps := #[.func (.yield l) #[] #[], .pointer (some ⟨B1, 0, none⟩), .pointer (some ⟨B2, 0, none⟩), .pointer (some ⟨B3, 0, none⟩), .pointer (some ⟨B4, 0, none⟩), .pointer (some ⟨W.heap.size, 0, none⟩), .pointer (some ⟨Bx, 0, none⟩), undef, .func (.func g) #[] lb, encE x, undef, undef, undef, undef, undef, undef, undef, undef, undef, undef, undef, undef, undef, undef, undef, undef, undef, undef, undef, undef, undef, undef, undef, undef, undef], defers := [] } ∧ ∃ fJ es, f = jnFo fJ W.heap.size es Bx ∧ rowsV es = joinL n (rowsE pre) (rowsE ys) ∧ JnSt W fo fJ l es Bx (encE x) X ∧ J es fJ X)
    ?hA ?assign ?body ?done ?stop
  case hI =>
    rintro xs f A B ⟨fJ, es, rfl, he, G, hj⟩ ab
    exact ⟨fJ, es, rfl, he, G.abide ab (by omega), hJ _ _ _ _ hj (low_one (low_rw ab (Nat.le_refl _)) (by omega))⟩
  case hIx =>
    rintro cd xs f A B ⟨rfl, fJ, es, rfl, he, t, hj⟩ ab
    have ab' := low_one (m := W.heap.size) (low_rw ab (Nat.le_refl _)) (by omega)
    exact ⟨rfl, fJ, es, rfl, he, t.abide ab' (Nat.le_refl _), hJx _ _ _ _ hj ab'⟩
  case hfo =>
    rintro k ((h | rfl) | ⟨e, he, _⟩)
    · have := hfo k h; omega
    · omega
    · cases he
  case hA =>
    rintro pre x a' f X Y ⟨Bx, rfl, fJ, es, rfl, he, G, hj⟩ ab
    exact ⟨Bx, rfl, fJ, es, rfl, he, G.abide ab (by omega), hJ _ _ _ _ hj (low_one (low_rw (low_jn ab (Nat.le_refl _)) (Nat.le_refl _)) (by omega))⟩
  case assign =>
    rintro l' pre x f X K ⟨fJ, es, rfl, he, G, hj⟩ hK
    unfold encE
    gi_wp2
    have hsX := G.y.t.size
    have bX : Below X.heap.size X (X.alloc (.cells #[encE x] 34)) := (Below.refl _ _).alloc (Nat.le_refl _) _
    have t1 := turn_below bX (fun k hk => (G.y.t.own k hk).2)
    have hJn : JnSt W fo fJ l es X.heap.size (encE x) (X.alloc (.cells #[encE x] 34)) :=
      ⟨G.turn t1, Boxed.new X _ _, fun h => Nat.lt_irrefl _ (G.y.t.own _ h).2, fun h => Nat.lt_irrefl _ (G.new _ h).2.1, by have := G.y.y.lt; omega⟩
    refine hK _ _ _ ?_ ⟨X.heap.size, rfl, fJ, es, rfl, he, hJn, hJ _ _ _ _ hj (abide_below bX)⟩
    have t2 := turn_rw G t1 (es' := es) (fun k hk => ⟨.inl hk, Nat.lt_of_lt_of_le (G.new k hk).2.1 bX.size⟩)
    refine ⟨t2.os, t2.tape, t2.output, t2.size, t2.block, fun k hk => ?_⟩
    rcases hk with hk | rfl
    · exact t2.own k hk
    · exact ⟨.inr (Nat.le_refl _), by simp⟩
  case body =>
    rintro l' pre x a' f X hl' hr' hfl' hN ⟨Bx, rfl, fJ, es, rfl, he, G, hj⟩
    obtain ⟨r, hr⟩ := hr'
    have k2 := G.r.y.t.cell hb2 (nf _ hl2)
    have hbX : Below w.heap.size w X := low_below hW (fun k hk => (hfo k hk).1) G.r.y.t
    have hsX := G.r.y.t.size
    have hxm : x ∈ zs := hN.subset (by simp)
    have hL : joinL n (rowsE (pre ++ [x])) (rowsE ys) = joinL n (rowsE pre) (rowsE ys) ++ joinRow n x.1.r (rowsE ys) := by
      rw [show rowsE (pre ++ [x]) = rowsE pre ++ [x.1.r] by simp [rowsE], joinL_snoc]
    have hLp : joinL n (rowsE pre) (rowsE ys) ++ joinRow n x.1.r (rowsE ys) <+: joinL n (rowsE zs) (rowsE ys) := by rw [← hL]; exact joinL_pre (hN.map _)
    gi_wp2_with fail
    refine wpIn_range_sepN (l₀ := l') (r₀ := r) rfl hr (by omega) (gf := g2) (lb := lb2) rfl hg2 eg2 (hseq2.inRound l') hbX (fun _ => rfl)
      (fun xs X l o o' h hl => h)
      (fun pre2 f Y => ∃ fJ' es', f = jnFo fJ' W.heap.size es' Bx ∧ rowsV es' = joinL n (rowsE pre) (rowsE ys) ++ joinRow n x.1.r (rowsE pre2) ∧ JnSt W fo fJ' l es' Bx (encE x) Y ∧ J es' fJ' Y)
      (fun cd pre2 f Y => (cd = .exit 1 ∧ cellV x.1.r n.col = -2000000 ∧ ∃ fJ' es', f = jnFo fJ' W.heap.size es' Bx ∧ rowsV es' = joinL n (rowsE pre) (rowsE ys) ∧ JnSt W fo fJ' l es' Bx (encE x) Y ∧ J es' fJ' Y) ∨
        (cd = .exit 0 ∧ ∃ fJ' es', f = jnFo fJ' W.heap.size es' Bx ∧ rowsV es' <+: joinL n (rowsE zs) (rowsE ys) ∧ Turn fo fJ' W Y ∧ Jx es' fJ' Y))
      ?hI2 ?hIx2 (jnFo fJ W.heap.size es Bx) ?hfo2 ⟨fJ, es, rfl, by rw [he]; simp [joinRow, rowsE], G, hj⟩
      (fun pre2 y a2 f Y => a2 = { tmps := #[.func (.yield l) #[] #[], .pointer (some ⟨B1, 0, none⟩), .pointer (some ⟨B2, 0, none⟩), .pointer (some ⟨B3, 0, none⟩), .pointer (some ⟨B4, 0, none⟩), .pointer (some ⟨W.heap.size, 0, none⟩), .pointer (some ⟨Bx, 0, none⟩), encE y, .func (.func g) #[] lb, encE x, .func (.func g2) #[] lb2, encE y, undef, undef, undef, undef, undef, undef, undef, undef, undef, undef, undef, undef, undef, undef, undef, undef, undef, undef, undef, undef, undef, undef, undef], defers := [] } ∧ ∃ fJ' es', f = jnFo fJ' W.heap.size es' Bx ∧ rowsV es' = joinL n (rowsE pre) (rowsE ys) ++ joinRow n x.1.r (rowsE pre2) ∧ JnSt W fo fJ' l es' Bx (encE x) Y ∧ J es' fJ' Y)
      ?hA2 ?assign2 ?body2 ?done2 ?stop2
    case hI2 =>
      rintro xs f A B ⟨fJ', es', rfl, he', G', hj'⟩ ab
      exact ⟨fJ', es', rfl, he', G'.abide ab (by omega), hJ _ _ _ _ hj' (low_one (low_rw (low_jn ab (Nat.le_refl _)) (Nat.le_refl _)) (by omega))⟩
    case hIx2 =>
      rintro cd xs f A B h ab
      rcases h with ⟨rfl, hnn, fJ', es', rfl, he', G', hj'⟩ | ⟨rfl, fJ', es', rfl, he', t', hj'⟩
      · exact .inl ⟨rfl, hnn, fJ', es', rfl, he', G'.abide ab (by omega), hJ _ _ _ _ hj' (low_one (low_rw (low_jn ab (Nat.le_refl _)) (Nat.le_refl _)) (by omega))⟩
      · have ab' := low_one (m := W.heap.size) (low_rw (low_jn ab (Nat.le_refl _)) (Nat.le_refl _)) (by omega)
        exact .inr ⟨rfl, fJ', es', rfl, he', t'.abide ab' (Nat.le_refl _), hJx _ _ _ _ hj' ab'⟩
    case hfo2 =>
      rintro k (((h | rfl) | h) | rfl)
      · refine ⟨?_, (G.r.y.t.own k h).2⟩
        rcases (G.r.y.t.own k h).1 with h5 | h5
        · exact (hfo k h5).1
        · omega
      · exact ⟨by omega, G.r.y.y.lt⟩
      · exact ⟨by have := (G.r.new k h).1; omega, (G.r.new k h).2.1⟩
      · exact ⟨by have := G.lo; omega, G.b.lt⟩
    case hA2 =>
      rintro pre2 y a2 f Y Z ⟨rfl, fJ', es', rfl, he', G', hj'⟩ ab
      exact ⟨rfl, fJ', es', rfl, he', G'.abide ab (by omega), hJ _ _ _ _ hj' (low_one (low_rw (low_jn ab (Nat.le_refl _)) (Nat.le_refl _)) (by omega))⟩
    case assign2 =>
      rintro l2 pre2 y f Y K ⟨fJ', es', rfl, he', G', hj'⟩ hK
      gi_wp2
      exact hK _ _ _ (Turn.refl _ _ G'.lt) ⟨rfl, fJ', es', rfl, he', G', hj'⟩
    case done2 =>
      rintro xs f Y rfl ⟨fJ', es', rfl, he', G', hj'⟩ t
      gi_wp2
      exact ⟨_, turn_drop t, fJ', es', rfl, by rw [hL]; exact he', G'.r, hj'⟩
    case stop2 =>
      rintro cd pre2 f Y hp h t
      rcases h with ⟨rfl, hnn, fJ', es', rfl, he', G', hj'⟩ | ⟨rfl, fJ', es', rfl, he', t', hj'⟩
      · gi_wp2
        exact ⟨_, turn_drop t, fJ', es', rfl, by rw [hL, joinRow_none hnn, List.append_nil]; exact he', G'.r, hj'⟩
      · gi_wp2
        exact ⟨_, turn_drop t, rfl, fJ', es', rfl, he', t', hj'⟩
    case body2 =>
      rintro l2 pre2 y a2 f Y hl2' hr2 hfl2 hN2 ⟨rfl, fJ', es', rfl, he', G', hj'⟩
      have hbY : Below w.heap.size w Y := low_below hW (fun k hk => (hfo k hk).1) G'.r.y.t
      have hx := els_turn x hwb hW (fun k hk => (hfo k hk).1) G'.r.y.t
      have hy := els_turn y hwb hW (fun k hk => (hfo k hk).1) G'.r.y.t
      have hym : y ∈ ys := hN2.subset (by simp)
      obtain ⟨fx1, fx2⟩ := hfit x hxm
      obtain ⟨fy1, fy2⟩ := hfit2 y hym
      have k5 := G'.r.y.y.cell
      have k6 := G'.b.cell
      have k3 := G'.r.y.t.cell hb3 (nf _ hl3)
      have k4 := G'.r.y.t.cell hb4 (nf _ hl4)
      obtain ⟨bx, ox, hax, hcx⟩ : ∃ bx ox, x.1.a = some ⟨bx, ox, none⟩ ∧ ∀ i, i < x.1.r.length → Y.cell? ⟨bx, ox + i, none⟩ = some (.int .i64 (x.1.r.getD i 0)) := by
        rcases hx.1 with h | h
        · rw [h] at fx1; cases fx1
        · exact h
      obtain ⟨by_, oy, hay, hcy⟩ : ∃ bx ox, y.1.a = some ⟨bx, ox, none⟩ ∧ ∀ i, i < y.1.r.length → Y.cell? ⟨bx, ox + i, none⟩ = some (.int .i64 (y.1.r.getD i 0)) := by
        rcases hy.1 with h | h
        · rw [h] at fy1; cases fy1
        · exact h
      have ex : encE x = .slice (some ⟨bx, ox, none⟩) x.1.r.length x.1.c := by unfold encE; rw [hax]
      have ey : encE y = .slice (some ⟨by_, oy, none⟩) y.1.r.length y.1.c := by unfold encE; rw [hay]
      have c1 := hcx cl fx1
      have c2 := hcy cr fy1
      have HCX := Lib.hid hcx
      have HCY := Lib.hid hcy
      clear hcx hcy
      have eL : cellV x.1.r n.col = x.1.r.getD cl 0 := by unfold cellV; rw [hcl, Int.toNat_natCast, List.getD_eq_getElem?_getD]
      have eR : cellV y.1.r n.num = y.1.r.getD cr 0 := by unfold cellV; rw [hcr, Int.toNat_natCast, List.getD_eq_getElem?_getD]
      have hRn : meetB n x.1.r y.1.r = (!decide (x.1.r.getD cl 0 = -2000000) && decide (x.1.r.getD cl 0 = y.1.r.getD cr 0)) := by unfold meetB; rw [eL, eR]
      have hsn : rowsE (pre2 ++ [y]) = rowsE pre2 ++ [y.1.r] := by simp [rowsE]
      have hY2p : joinL n (rowsE pre) (rowsE ys) ++ joinRow n x.1.r (rowsE (pre2 ++ [y])) <+: joinL n (rowsE zs) (rowsE ys) := by
        refine List.IsPrefix.trans ?_ hLp
        exact (List.prefix_append_right_inj _).2 (joinRow_pre (hN2.map _))
      generalize hlv : x.1.r.getD cl 0 = lv at c1 eL hRn
      generalize hrv : y.1.r.getD cr 0 = rv at c2 eR hRn
      rw [ex] at k6
      generalize hQ : postS _ _ (pre2 ++ [y]) _ Y = Q
      rw [ex, ey]
      generalize hlx : x.1.r.length = lx at fx1 fx2 k6 ⊢
      generalize hly : y.1.r.length = ly at fy1 fy2 ⊢
      generalize hcxx : x.1.c = cxx at k6 ⊢
      generalize hcyy : y.1.c = cyy
      by_cases hnone : lv = -2000000
      · gi_wp2
        rw [← hQ]
        exact ⟨_, Turn.refl _ _ G'.lt, .inl ⟨rfl, by rw [eL, hnone], fJ', es', rfl, by rw [he', joinRow_none (by rw [eL, hnone]), List.append_nil], G', hj'⟩⟩
      · gi_wp2_with fail
        refine wpIn_region_any (by kernel_rfl) ?_
        obtain ⟨Yd, hYd⟩ : ∃ Yd, Y.drew = Yd := ⟨_, rfl⟩
        have bYd : Below Y.heap.size Y Yd := by rw [← hYd]; exact (Below.refl _ _).drew
        have d1 : Yd.cell? ⟨bx, ox + cl, none⟩ = some (.int .i64 lv) := by rw [← hYd]; exact c1
        have d2 : Yd.cell? ⟨by_, oy + cr, none⟩ = some (.int .i64 rv) := by rw [← hYd]; exact c2
        have d3 : Yd.cell? ⟨B3, 0, none⟩ = some (.int .i64 cl) := by rw [← hYd]; exact k3
        have d4 : Yd.cell? ⟨B4, 0, none⟩ = some (.int .i64 cr) := by rw [← hYd]; exact k4
        have d5 : Yd.cell? ⟨W.heap.size, 0, none⟩ = some (.func (.yield l) #[] #[]) := by rw [← hYd]; exact k5
        have d6 : Yd.cell? ⟨Bx, 0, none⟩ = some (.slice (some ⟨bx, ox, none⟩) lx cxx) := by rw [← hYd]; exact k6
        change wpAnyIn _ _ _ _ _ _ _ _ _ Y.drew
        rw [hYd, show (lv == -2000000) = false by simp [hnone]]
        generalize hvL : Value.slice (some ⟨bx, ox, none⟩) lx cxx = vL at d6 ⊢
        generalize hvR : Value.slice (some ⟨by_, oy, none⟩) ly cyy = vR
        have tYd := turn_below bYd (fun k hk => (G'.r.y.t.own k hk).2)
        by_cases heq : lv = rv
        · subst heq
          have HDX := Lib.hid (fun i hi => (bYd.cell (World.block_lt_of_cell? Y _ (HCX.out i hi))).trans (HCX.out i hi) : ∀ i, i < x.1.r.length → Yd.cell? ⟨bx, ox + i, none⟩ = some (.int .i64 (x.1.r.getD i 0)))
          have HDY := Lib.hid (fun i hi => (bYd.cell (World.block_lt_of_cell? Y _ (HCY.out i hi))).trans (HCY.out i hi) : ∀ i, i < y.1.r.length → Yd.cell? ⟨by_, oy + i, none⟩ = some (.int .i64 (y.1.r.getD i 0)))
          obtain ⟨lj, hlj⟩ : ∃ lj, (x.1.r ++ y.1.r).length = lj := ⟨_, rfl⟩
          obtain ⟨WI, hWI⟩ : ∃ WI : Bool → Bool → Bool → Nat → Nat → Bool → World → Prop, ∀ c13 c14 c15 gC cC rb w, WI c13 c14 c15 gC cC rb w ↔ ((c15 = false → Below Yd.heap.size Yd w) ∧ (c13 = false → w = Yd) ∧ (c13 = true → c14 = false → w = Yd.alloc (.cells #[vL, vR] 34)) ∧ (c14 = true → c15 = false → Yd.heap.size < gC ∧ gC < w.heap.size ∧ Rd w .i64 (some ⟨gC, 0, none⟩) (x.1.r ++ y.1.r) ∧ (x.1.r ++ y.1.r).length ≤ cC ∧ cC ≤ maxLen) ∧
              (c15 = true → (rb = true → ∀ a, Q .normal a w) ∧ (rb = false → ∀ a, Q (.exit 0) a w))) := ⟨_, fun _ _ _ _ _ _ _ => Iff.rfl⟩
          refine wpAnyIn_inv (fun L a w => ∃ (b0 b1 b2 b3 b4 b5 b6 b7 b8 b9 b10 b11 b12 b13 b14 b15 b16 b17 : Bool) (gC cC : Nat) (rb : Bool), L = #[b0, b1, b2, b3, b4, b5, b6, b7, b8, b9, b10, b11, b12, b13, b14, b15, b16, b17] ∧ a = { tmps := #[.func (.yield l) #[] #[], .pointer (some ⟨B1, 0, none⟩), .pointer (some ⟨B2, 0, none⟩), .pointer (some ⟨B3, 0, none⟩), .pointer (some ⟨B4, 0, none⟩), .pointer (some ⟨W.heap.size, 0, none⟩), .pointer (some ⟨Bx, 0, none⟩), vR, .func (.func g) #[] lb, vL, .func (.func g2) #[] lb2, vR, vL, .int .i64 cl, .pointer (some ⟨bx, ox + cl, none⟩), .int .i64 lv, .bool false, cond b0 (vL) undef, cond b1 (.int .i64 cl) undef, cond b2 (.pointer (some ⟨bx, ox + cl, none⟩)) undef, cond b3 (.int .i64 lv) undef, cond b4 (vR) undef, cond b5 (.int .i64 cr) undef, cond b6 (.pointer (some ⟨by_, oy + cr, none⟩)) undef, cond b7 (.int .i64 lv) undef, cond b8 (.bool true) undef, cond b9 (.bool true) undef, cond b10 (.func (.yield l) #[] #[]) undef, cond b11 (vL) undef, cond b12 (vR) undef, cond b13 (.slice (some ⟨Yd.heap.size, 0, none⟩) 2 2) undef, cond b14 (.slice (some ⟨gC, 0, none⟩) lj cC) undef, cond b15 (.bool rb) undef, cond b16 (.bool (!rb)) undef, cond b17 (.bool (!rb)) undef], defers := [] } ∧ JC b0 b1 b2 b3 b4 b5 b6 b7 b8 b9 b10 b11 b12 b13 b14 b15 b16 b17 ∧ WI b13 b14 b15 gC cC rb w) (by decide +kernel) ?_ ?_ ?_ _ _ _ _ ⟨false, false, false, false, false, false, false, false, false, false, false, false, false, false, false, false, false, false, 0, 0, false, rfl, rfl, ⟨fun h => (by cases h), fun h => (by cases h), fun h => (by cases h), fun h => (by cases h), fun h => (by cases h), fun h => (by cases h), fun h => (by cases h), fun h => (by cases h), fun h => (by cases h), fun h => (by cases h), fun h => (by cases h), fun h => (by cases h), fun h => (by cases h), fun h => (by cases h)⟩, (hWI _ _ _ _ _ _ _).2 ⟨fun _ => Below.refl _ _, fun _ => rfl, fun h => (by cases h), fun h => (by cases h), fun h => (by cases h)⟩⟩ (by decide +kernel)
          · rintro L a w ⟨b0, b1, b2, b3, b4, b5, b6, b7, b8, b9, b10, b11, b12, b13, b14, b15, b16, b17, gC, cC, rb, rfl, -, -⟩; rfl
          · rintro L a w ⟨b0, b1, b2, b3, b4, b5, b6, b7, b8, b9, b10, b11, b12, b13, b14, b15, b16, b17, gC, cC, rb, rfl, rfl, hcl, hw⟩ i hi
            obtain ⟨hlt, hun, hn⟩ := ready_needs hi
            have hlt' : i < 18 := hlt
            rcases lt18 i hlt' with rfl | rfl | rfl | rfl | rfl | rfl | rfl | rfl | rfl | rfl | rfl | rfl | rfl | rfl | rfl | rfl | rfl | rfl
            · obtain rfl : b0 = false := hun
              obtain rfl : b15 = false := hcl.no0 rfl
              have hL := ((hWI _ _ _ _ _ _ _).1 hw).1 rfl
              have e9 := (hL.cell (World.block_lt_of_cell? Yd _ d6)).trans d6
              clear hL
              refine wpOpIn_step rfl (fun K hK => ?_)
              simp only [cond_true, cond_false]
              go_simp
              exact hK _ _ ⟨true, b1, b2, b3, b4, b5, b6, b7, b8, b9, b10, b11, b12, b13, b14, false, b16, b17, gC, cC, rb, rfl, rfl, hcl.set0, hw⟩
            · obtain rfl : b1 = false := hun
              obtain rfl : b15 = false := hcl.no1 rfl
              have hL := ((hWI _ _ _ _ _ _ _).1 hw).1 rfl
              have e9 := (hL.cell (World.block_lt_of_cell? Yd _ d3)).trans d3
              clear hL
              refine wpOpIn_step rfl (fun K hK => ?_)
              simp only [cond_true, cond_false]
              go_simp
              exact hK _ _ ⟨b0, true, b2, b3, b4, b5, b6, b7, b8, b9, b10, b11, b12, b13, b14, false, b16, b17, gC, cC, rb, rfl, rfl, hcl.set1, hw⟩
            · obtain rfl : b2 = false := hun
              obtain rfl : b0 = true := hn 0 (by decide +kernel)
              obtain rfl : b1 = true := hn 1 (by decide +kernel)
              obtain rfl : b15 = false := hcl.no2 rfl
              subst hvL hvR
              refine wpOpIn_step rfl (fun K hK => ?_)
              simp only [cond_true, cond_false]
              go_simp
              exact hK _ _ ⟨true, true, true, b3, b4, b5, b6, b7, b8, b9, b10, b11, b12, b13, b14, false, b16, b17, gC, cC, rb, rfl, rfl, hcl.set2, hw⟩
            · obtain rfl : b3 = false := hun
              obtain rfl : b2 = true := hn 2 (by decide +kernel)
              obtain rfl : b15 = false := hcl.no3 rfl
              have hL := ((hWI _ _ _ _ _ _ _).1 hw).1 rfl
              have e9 := (hL.cell (World.block_lt_of_cell? Yd _ d1)).trans d1
              clear hL
              refine wpOpIn_step rfl (fun K hK => ?_)
              simp only [cond_true, cond_false]
              go_simp
              exact hK _ _ ⟨b0, b1, true, true, b4, b5, b6, b7, b8, b9, b10, b11, b12, b13, b14, false, b16, b17, gC, cC, rb, rfl, rfl, hcl.set3, hw⟩
            · obtain rfl : b4 = false := hun
              obtain rfl : b15 = false := hcl.no4 rfl
              refine wpOpIn_step rfl (fun K hK => ?_)
              simp only [cond_true, cond_false]
              go_simp
              exact hK _ _ ⟨b0, b1, b2, b3, true, b5, b6, b7, b8, b9, b10, b11, b12, b13, b14, false, b16, b17, gC, cC, rb, rfl, rfl, hcl.set4, hw⟩
            · obtain rfl : b5 = false := hun
              obtain rfl : b15 = false := hcl.no5 rfl
              have hL := ((hWI _ _ _ _ _ _ _).1 hw).1 rfl
              have e9 := (hL.cell (World.block_lt_of_cell? Yd _ d4)).trans d4
              clear hL
              refine wpOpIn_step rfl (fun K hK => ?_)
              simp only [cond_true, cond_false]
              go_simp
              exact hK _ _ ⟨b0, b1, b2, b3, b4, true, b6, b7, b8, b9, b10, b11, b12, b13, b14, false, b16, b17, gC, cC, rb, rfl, rfl, hcl.set5, hw⟩
            · obtain rfl : b6 = false := hun
              obtain rfl : b4 = true := hn 4 (by decide +kernel)
              obtain rfl : b5 = true := hn 5 (by decide +kernel)
              obtain rfl : b15 = false := hcl.no6 rfl
              subst hvL hvR
              refine wpOpIn_step rfl (fun K hK => ?_)
              simp only [cond_true, cond_false]
              go_simp
              exact hK _ _ ⟨b0, b1, b2, b3, true, true, true, b7, b8, b9, b10, b11, b12, b13, b14, false, b16, b17, gC, cC, rb, rfl, rfl, hcl.set6, hw⟩
            · obtain rfl : b7 = false := hun
              obtain rfl : b6 = true := hn 6 (by decide +kernel)
              obtain rfl : b15 = false := hcl.no7 rfl
              have hL := ((hWI _ _ _ _ _ _ _).1 hw).1 rfl
              have e9 := (hL.cell (World.block_lt_of_cell? Yd _ d2)).trans d2
              clear hL
              refine wpOpIn_step rfl (fun K hK => ?_)
              simp only [cond_true, cond_false]
              go_simp
              exact hK _ _ ⟨b0, b1, b2, b3, b4, b5, true, true, b8, b9, b10, b11, b12, b13, b14, false, b16, b17, gC, cC, rb, rfl, rfl, hcl.set7, hw⟩
            · obtain rfl : b8 = false := hun
              obtain rfl : b3 = true := hn 3 (by decide +kernel)
              obtain rfl : b7 = true := hn 7 (by decide +kernel)
              obtain rfl : b15 = false := hcl.no8 rfl
              refine wpOpIn_step rfl (fun K hK => ?_)
              simp only [cond_true, cond_false]
              go_simp
              exact hK _ _ ⟨b0, b1, b2, true, b4, b5, b6, true, true, b9, b10, b11, b12, b13, b14, false, b16, b17, gC, cC, rb, rfl, rfl, hcl.set8, hw⟩
            · obtain rfl : b9 = false := hun
              obtain rfl : b8 = true := hn 8 (by decide +kernel)
              obtain rfl : b15 = false := hcl.no9 rfl
              refine wpOpIn_step rfl (fun K hK => ?_)
              simp only [cond_true, cond_false]
              go_simp
              exact hK _ _ ⟨b0, b1, b2, b3, b4, b5, b6, b7, true, true, b10, b11, b12, b13, b14, false, b16, b17, gC, cC, rb, rfl, rfl, hcl.set9, hw⟩
            · obtain rfl : b10 = false := hun
              obtain rfl : b9 = true := hn 9 (by decide +kernel)
              obtain rfl : b15 = false := hcl.no10 rfl
              have hL := ((hWI _ _ _ _ _ _ _).1 hw).1 rfl
              have e9 := (hL.cell (World.block_lt_of_cell? Yd _ d5)).trans d5
              clear hL
              refine wpOpIn_step rfl (fun K hK => ?_)
              simp only [cond_true, cond_false]
              go_simp
              exact hK _ _ ⟨b0, b1, b2, b3, b4, b5, b6, b7, b8, true, true, b11, b12, b13, b14, false, b16, b17, gC, cC, rb, rfl, rfl, hcl.set10, hw⟩
            · obtain rfl : b11 = false := hun
              obtain rfl : b9 = true := hn 9 (by decide +kernel)
              obtain rfl : b15 = false := hcl.no11 rfl
              have hL := ((hWI _ _ _ _ _ _ _).1 hw).1 rfl
              have e9 := (hL.cell (World.block_lt_of_cell? Yd _ d6)).trans d6
              clear hL
              refine wpOpIn_step rfl (fun K hK => ?_)
              simp only [cond_true, cond_false]
              go_simp
              exact hK _ _ ⟨b0, b1, b2, b3, b4, b5, b6, b7, b8, true, b10, true, b12, b13, b14, false, b16, b17, gC, cC, rb, rfl, rfl, hcl.set11, hw⟩
            · obtain rfl : b12 = false := hun
              obtain rfl : b9 = true := hn 9 (by decide +kernel)
              obtain rfl : b15 = false := hcl.no12 rfl
              refine wpOpIn_step rfl (fun K hK => ?_)
              simp only [cond_true, cond_false]
              go_simp
              exact hK _ _ ⟨b0, b1, b2, b3, b4, b5, b6, b7, b8, true, b10, b11, true, b13, b14, false, b16, b17, gC, cC, rb, rfl, rfl, hcl.set12, hw⟩
            · obtain rfl : b13 = false := hun
              obtain rfl : b11 = true := hn 11 (by decide +kernel)
              obtain rfl : b12 = true := hn 12 (by decide +kernel)
              obtain rfl : b9 = true := hn 9 (by decide +kernel)
              obtain rfl : b15 = false := hcl.no13 rfl
              obtain rfl : b14 = false := by cases e : b14 with | false => rfl | true => exact absurd (hcl.c14 e) (by simp)
              obtain rfl : w = Yd := ((hWI _ _ _ _ _ _ _).1 hw).2.1 rfl
              subst hvL hvR
              refine wpOpIn_step rfl (fun K hK => ?_)
              simp only [cond_true, cond_false]
              go_simp
              exact hK _ _ ⟨b0, b1, b2, b3, b4, b5, b6, b7, b8, true, b10, true, true, true, false, false, b16, b17, gC, cC, rb, rfl, rfl, hcl.set13, (hWI _ _ _ _ _ _ _).2 ⟨fun _ => (Below.refl _ _).alloc (Nat.le_refl _) _, fun h => (by cases h), fun _ _ => rfl, fun h => (by cases h), fun h => (by cases h)⟩⟩
            · obtain rfl : b14 = false := hun
              obtain rfl : b13 = true := hn 13 (by decide +kernel)
              obtain rfl : b9 = true := hn 9 (by decide +kernel)
              obtain rfl : b15 = false := hcl.no14 rfl
              obtain rfl : w = Yd.alloc (.cells #[vL, vR] 34) := ((hWI _ _ _ _ _ _ _).1 hw).2.2.1 rfl rfl
              have hwB : Below Yd.heap.size Yd (Yd.alloc (.cells #[vL, vR] 34)) := (Below.refl _ _).alloc (Nat.le_refl _) _
              have q0 : (Yd.alloc (.cells #[vL, vR] 34)).cell? ⟨Yd.heap.size, 0, none⟩ = some (.slice (some ⟨bx, ox, none⟩) x.1.r.length cxx) := by rw [hlx, hvL]; simp
              have q1 : (Yd.alloc (.cells #[vL, vR] 34)).cell? ⟨Yd.heap.size, 1, none⟩ = some (.slice (some ⟨by_, oy, none⟩) y.1.r.length cyy) := by rw [hly, hvR]; simp
              have HC := hC (rm - 1 - 1 - 1 - 1 - 1) (Yd.alloc (.cells #[vL, vR] 34)) Yd.heap.size bx ox cxx by_ oy cyy x.1.r y.1.r (fun i hi => (hwB.cell (World.block_lt_of_cell? Yd _ (HDX.out i hi))).trans (HDX.out i hi)) (fun i hi => (hwB.cell (World.block_lt_of_cell? Yd _ (HDY.out i hi))).trans (HDY.out i hi)) q0 q1 (by omega) (by omega) (by omega) (by omega)
              have HWB := Lib.hid hwB
              have HS1 := Lib.hid (by simp : (Yd.alloc (.cells #[vL, vR] 34)).heap.size = Yd.heap.size + 1)
              generalize Yd.alloc (.cells #[vL, vR] 34) = w1 at HC HWB HS1
              subst hlj
              refine wpOpIn_step rfl (fun K hK => ?_)
              simp only [cond_true, cond_false]
              clear q0 q1 hwB hw
              go_simp
              refine CallsIn.mono HC ?_
              rintro e w2 ⟨gC2, cC2, rfl, h1, h2, h3, h4, h5, h6⟩
              simp only []
              exact hK _ _ ⟨b0, b1, b2, b3, b4, b5, b6, b7, b8, true, b10, b11, b12, true, true, false, b16, b17, gC2, cC2, rb, rfl, rfl, hcl.set14, (hWI _ _ _ _ _ _ _).2 ⟨fun _ => HWB.out.trans (h6.mono HWB.out.size), fun h => (by cases h), fun _ h => (by cases h), fun _ _ => ⟨by have := HS1.out; omega, h2, h3, h4, h5⟩, fun h => (by cases h)⟩⟩
            · obtain rfl : b15 = false := hun
              obtain rfl : b10 = true := hn 10 (by decide +kernel)
              obtain rfl : b14 = true := hn 14 (by decide +kernel)
              obtain rfl : b9 = true := hn 9 (by decide +kernel)
              obtain rfl : b16 = false := by cases e : b16 with | false => rfl | true => exact absurd (hcl.c16 e) (by simp)
              obtain rfl : b17 = false := by cases e : b17 with | false => rfl | true => exact absurd (hcl.c17 e) (by simp)
              obtain rfl : b13 = true := hcl.c14 rfl
              obtain ⟨q1, q2, q3, q4, q5⟩ := ((hWI _ _ _ _ _ _ _).1 hw).2.2.2.1 rfl rfl
              have hL := ((hWI _ _ _ _ _ _ _).1 hw).1 rfl
              have bw : Below Y.heap.size Y w := bYd.trans (hL.mono bYd.size)
              have tw := turn_below bw (fun k hk => (G'.r.y.t.own k hk).2)
              have G1 := G'.turn tw
              have sY := bYd.size
              have sW := G'.r.y.t.size
              have lB := G'.b.lt
              have G2 := G1.snoc (e := ⟨some ⟨gC, 0, none⟩, x.1.r ++ y.1.r, cC⟩) ⟨q3, q4, q5⟩ (fun a ha => by cases ha; exact ⟨by show W.heap.size < gC; omega, q2, fun hf => by (have := (G'.r.y.t.own _ hf).2; simp at this; omega), by show gC ≠ Bx; omega⟩)
              have hes : rowsV (es' ++ [⟨some ⟨gC, 0, none⟩, x.1.r ++ y.1.r, cC⟩]) = joinL n (rowsE pre) (rowsE ys) ++ joinRow n x.1.r (rowsE (pre2 ++ [y])) := by rw [hsn, joinRow_y (by rw [hRn]; simp [hnone]), ← List.append_assoc, ← he']; simp [rowsV]
              have j1 := hJ _ _ _ _ hj' (abide_below (f := lowF W.heap.size fJ') bw)
              have TE := turn_jn G' tw (es' := es' ++ [⟨some ⟨gC, 0, none⟩, x.1.r ++ y.1.r, cC⟩]) (by rintro k ⟨z, hz, a, ha, rfl⟩; rcases List.mem_append.1 hz with hz | hz; exact ⟨.inl ⟨z, hz, a, ha, rfl⟩, Nat.lt_of_lt_of_le (G'.r.new _ ⟨z, hz, a, ha, rfl⟩).2.1 bw.size⟩; (rw [List.mem_singleton] at hz; subst hz; cases ha; exact ⟨.inr (by simp; omega), q2⟩))
              obtain ⟨fn, tmps, assign, body, hyd, hR⟩ := yield_any (F := F.inRound l') hd (rm - 1 - 1 - 1 - 1 - 1) l2 (yield_any hd (rm - 1 - 1 - 1) l' (hY es' ⟨some ⟨gC, 0, none⟩, x.1.r ++ y.1.r, cC⟩ fJ' w j1 (by rw [hes]; exact hY2p)))
              unfold El.val at hyd
              simp only [hlj] at hyd
              refine wpOpIn_step rfl (fun K hK => ?_)
              simp only [cond_true, cond_false]
              go_simp
              refine RoundIn.mono hR ?_
              rintro e X3 ⟨f2, t3, (⟨rfl, hj3⟩ | ⟨rfl, hx3⟩)⟩
              · simp only []
                exact hK _ _ ⟨b0, b1, b2, b3, b4, b5, b6, b7, b8, true, true, b11, b12, true, true, true, false, false, gC, cC, true, rfl, rfl, hcl.set15, (hWI _ _ _ _ _ _ _).2 ⟨fun h => (by cases h), fun h => (by cases h), fun _ h => (by cases h), fun _ h => (by cases h), fun _ => ⟨fun _ a => by rw [← hQ]; exact ⟨_, TE.trans (turn_jn G2 t3 (fun k hk => ⟨.inl hk, Nat.lt_of_lt_of_le (G2.r.new k hk).2.1 t3.size⟩)), f2, _, rfl, hes, G2.turn t3, hj3⟩, fun h => (by cases h)⟩⟩⟩
              · simp only []
                exact hK _ _ ⟨b0, b1, b2, b3, b4, b5, b6, b7, b8, true, true, b11, b12, true, true, true, false, false, gC, cC, false, rfl, rfl, hcl.set15, (hWI _ _ _ _ _ _ _).2 ⟨fun h => (by cases h), fun h => (by cases h), fun _ h => (by cases h), fun _ h => (by cases h), fun _ => ⟨fun h => (by cases h), fun _ a => by rw [← hQ]; exact ⟨_, TE.trans (turn_jn G2 t3 (fun k hk => ⟨.inl hk, Nat.lt_of_lt_of_le (G2.r.new k hk).2.1 t3.size⟩)), .inr ⟨rfl, f2, _, rfl, by rw [hes]; exact hY2p, G2.r.y.t.trans t3, hx3⟩⟩⟩⟩⟩
            · obtain rfl : b16 = false := hun
              obtain rfl : b15 = true := hn 15 (by decide +kernel)
              obtain rfl : b9 = true := hn 9 (by decide +kernel)
              refine wpOpIn_step rfl (fun K hK => ?_)
              simp only [cond_true, cond_false]
              go_simp
              exact hK _ _ ⟨b0, b1, b2, b3, b4, b5, b6, b7, b8, true, b10, b11, b12, b13, b14, true, true, b17, gC, cC, rb, rfl, rfl, hcl.set16, hw⟩
            · obtain rfl : b17 = false := hun
              obtain rfl : b9 = true := hn 9 (by decide +kernel)
              obtain rfl : b16 = true := hn 16 (by decide +kernel)
              refine wpOpIn_step rfl (fun K hK => ?_)
              simp only [cond_true, cond_false]
              go_simp
              exact hK _ _ ⟨b0, b1, b2, b3, b4, b5, b6, b7, b8, true, b10, b11, b12, b13, b14, b15, true, true, gC, cC, rb, rfl, rfl, hcl.set17, hw⟩
          · rintro L a w ⟨b0, b1, b2, b3, b4, b5, b6, b7, b8, b9, b10, b11, b12, b13, b14, b15, b16, b17, gC, cC, rb, rfl, rfl, hcl, hw⟩ hall
            obtain rfl : b0 = true := hall 0 (by decide +kernel)
            obtain rfl : b1 = true := hall 1 (by decide +kernel)
            obtain rfl : b2 = true := hall 2 (by decide +kernel)
            obtain rfl : b3 = true := hall 3 (by decide +kernel)
            obtain rfl : b4 = true := hall 4 (by decide +kernel)
            obtain rfl : b5 = true := hall 5 (by decide +kernel)
            obtain rfl : b6 = true := hall 6 (by decide +kernel)
            obtain rfl : b7 = true := hall 7 (by decide +kernel)
            obtain rfl : b8 = true := hall 8 (by decide +kernel)
            obtain rfl : b9 = true := hall 9 (by decide +kernel)
            obtain rfl : b10 = true := hall 10 (by decide +kernel)
            obtain rfl : b11 = true := hall 11 (by decide +kernel)
            obtain rfl : b12 = true := hall 12 (by decide +kernel)
            obtain rfl : b13 = true := hall 13 (by decide +kernel)
            obtain rfl : b14 = true := hall 14 (by decide +kernel)
            obtain rfl : b15 = true := hall 15 (by decide +kernel)
            obtain rfl : b16 = true := hall 16 (by decide +kernel)
            obtain rfl : b17 = true := hall 17 (by decide +kernel)
            have hF := ((hWI _ _ _ _ _ _ _).1 hw).2.2.2.2 rfl
            simp only [cond_true, cond_false]
            cases rb with
            | true =>
              gi_wp2 <;> exact hF.1 rfl _
            | false =>
              gi_wp2 <;> exact hF.2 rfl _
        · refine wpAnyIn_inv (fun L a w => ∃ b0 b1 b2 b3 b4 b5 b6 b7 b8 b9 b10 b11 b12 b13 b14 b15 b16 b17 : Bool, L = #[b0, b1, b2, b3, b4, b5, b6, b7, b8, b9, b10, b11, b12, b13, b14, b15, b16, b17] ∧ a = { tmps := #[.func (.yield l) #[] #[], .pointer (some ⟨B1, 0, none⟩), .pointer (some ⟨B2, 0, none⟩), .pointer (some ⟨B3, 0, none⟩), .pointer (some ⟨B4, 0, none⟩), .pointer (some ⟨W.heap.size, 0, none⟩), .pointer (some ⟨Bx, 0, none⟩), vR, .func (.func g) #[] lb, vL, .func (.func g2) #[] lb2, vR, vL, .int .i64 cl, .pointer (some ⟨bx, ox + cl, none⟩), .int .i64 lv, .bool false, cond b0 (vL) undef, cond b1 (.int .i64 cl) undef, cond b2 (.pointer (some ⟨bx, ox + cl, none⟩)) undef, cond b3 (.int .i64 lv) undef, cond b4 (vR) undef, cond b5 (.int .i64 cr) undef, cond b6 (.pointer (some ⟨by_, oy + cr, none⟩)) undef, cond b7 (.int .i64 rv) undef, cond b8 (.bool false) undef, cond b9 (.bool false) undef, undef, undef, undef, undef, undef, undef, undef, cond b17 (.bool false) undef], defers := [] } ∧ w = Yd) (by decide +kernel) ?_ ?_ ?_ _ _ _ _ ⟨false, false, false, false, false, false, false, false, false, false, false, false, false, false, false, false, false, false, rfl, rfl, rfl⟩ (by decide +kernel)
          · rintro L a w ⟨b0, b1, b2, b3, b4, b5, b6, b7, b8, b9, b10, b11, b12, b13, b14, b15, b16, b17, rfl, -, -⟩; rfl
          · rintro L a w ⟨b0, b1, b2, b3, b4, b5, b6, b7, b8, b9, b10, b11, b12, b13, b14, b15, b16, b17, rfl, rfl, rfl⟩ i hi
            obtain ⟨hlt, hun, hn⟩ := ready_needs hi
            have hlt' : i < 18 := hlt
            rcases lt18 i hlt' with rfl | rfl | rfl | rfl | rfl | rfl | rfl | rfl | rfl | rfl | rfl | rfl | rfl | rfl | rfl | rfl | rfl | rfl
            · refine wpOpIn_step rfl (fun K hK => ?_); simp only [cond_true, cond_false]; go_simp; exact hK _ _ ⟨true, b1, b2, b3, b4, b5, b6, b7, b8, b9, b10, b11, b12, b13, b14, b15, b16, b17, rfl, rfl, rfl⟩
            · refine wpOpIn_step rfl (fun K hK => ?_); simp only [cond_true, cond_false]; go_simp; exact hK _ _ ⟨b0, true, b2, b3, b4, b5, b6, b7, b8, b9, b10, b11, b12, b13, b14, b15, b16, b17, rfl, rfl, rfl⟩
            · subst hvL hvR; obtain rfl : b0 = true := hn 0 (by decide +kernel); obtain rfl : b1 = true := hn 1 (by decide +kernel); refine wpOpIn_step rfl (fun K hK => ?_); simp only [cond_true, cond_false]; go_simp; exact hK _ _ ⟨true, true, true, b3, b4, b5, b6, b7, b8, b9, b10, b11, b12, b13, b14, b15, b16, b17, rfl, rfl, rfl⟩
            · obtain rfl : b2 = true := hn 2 (by decide +kernel); refine wpOpIn_step rfl (fun K hK => ?_); simp only [cond_true, cond_false]; go_simp; exact hK _ _ ⟨b0, b1, true, true, b4, b5, b6, b7, b8, b9, b10, b11, b12, b13, b14, b15, b16, b17, rfl, rfl, rfl⟩
            · refine wpOpIn_step rfl (fun K hK => ?_); simp only [cond_true, cond_false]; go_simp; exact hK _ _ ⟨b0, b1, b2, b3, true, b5, b6, b7, b8, b9, b10, b11, b12, b13, b14, b15, b16, b17, rfl, rfl, rfl⟩
            · refine wpOpIn_step rfl (fun K hK => ?_); simp only [cond_true, cond_false]; go_simp; exact hK _ _ ⟨b0, b1, b2, b3, b4, true, b6, b7, b8, b9, b10, b11, b12, b13, b14, b15, b16, b17, rfl, rfl, rfl⟩
            · subst hvL hvR; obtain rfl : b4 = true := hn 4 (by decide +kernel); obtain rfl : b5 = true := hn 5 (by decide +kernel); refine wpOpIn_step rfl (fun K hK => ?_); simp only [cond_true, cond_false]; go_simp; exact hK _ _ ⟨b0, b1, b2, b3, true, true, true, b7, b8, b9, b10, b11, b12, b13, b14, b15, b16, b17, rfl, rfl, rfl⟩
            · obtain rfl : b6 = true := hn 6 (by decide +kernel); refine wpOpIn_step rfl (fun K hK => ?_); simp only [cond_true, cond_false]; go_simp; exact hK _ _ ⟨b0, b1, b2, b3, b4, b5, true, true, b8, b9, b10, b11, b12, b13, b14, b15, b16, b17, rfl, rfl, rfl⟩
            · obtain rfl : b3 = true := hn 3 (by decide +kernel); obtain rfl : b7 = true := hn 7 (by decide +kernel); refine wpOpIn_step rfl (fun K hK => ?_); simp only [cond_true, cond_false]; go_simp; rw [show (lv == rv) = false by simp [heq]]; exact hK _ _ ⟨b0, b1, b2, true, b4, b5, b6, true, true, b9, b10, b11, b12, b13, b14, b15, b16, b17, rfl, rfl, rfl⟩
            · obtain rfl : b8 = true := hn 8 (by decide +kernel); refine wpOpIn_step rfl (fun K hK => ?_); simp only [cond_true, cond_false]; go_simp; exact hK _ _ ⟨b0, b1, b2, b3, b4, b5, b6, b7, true, true, b10, b11, b12, b13, b14, b15, b16, b17, rfl, rfl, rfl⟩
            · obtain rfl : b9 = true := hn 9 (by decide +kernel); refine wpOpIn_step rfl (fun K hK => ?_); simp only [cond_true, cond_false]; go_simp; exact hK _ _ ⟨b0, b1, b2, b3, b4, b5, b6, b7, b8, true, true, b11, b12, b13, b14, b15, b16, b17, rfl, rfl, rfl⟩
            · obtain rfl : b9 = true := hn 9 (by decide +kernel); refine wpOpIn_step rfl (fun K hK => ?_); simp only [cond_true, cond_false]; go_simp; exact hK _ _ ⟨b0, b1, b2, b3, b4, b5, b6, b7, b8, true, b10, true, b12, b13, b14, b15, b16, b17, rfl, rfl, rfl⟩
            · obtain rfl : b9 = true := hn 9 (by decide +kernel); refine wpOpIn_step rfl (fun K hK => ?_); simp only [cond_true, cond_false]; go_simp; exact hK _ _ ⟨b0, b1, b2, b3, b4, b5, b6, b7, b8, true, b10, b11, true, b13, b14, b15, b16, b17, rfl, rfl, rfl⟩
            · obtain rfl : b11 = true := hn 11 (by decide +kernel); obtain rfl : b12 = true := hn 12 (by decide +kernel); obtain rfl : b9 = true := hn 9 (by decide +kernel); refine wpOpIn_step rfl (fun K hK => ?_); simp only [cond_true, cond_false]; go_simp; exact hK _ _ ⟨b0, b1, b2, b3, b4, b5, b6, b7, b8, true, b10, true, true, true, b14, b15, b16, b17, rfl, rfl, rfl⟩
            · obtain rfl : b13 = true := hn 13 (by decide +kernel); obtain rfl : b9 = true := hn 9 (by decide +kernel); refine wpOpIn_step rfl (fun K hK => ?_); simp only [cond_true, cond_false]; go_simp; exact hK _ _ ⟨b0, b1, b2, b3, b4, b5, b6, b7, b8, true, b10, b11, b12, true, true, b15, b16, b17, rfl, rfl, rfl⟩
            · obtain rfl : b10 = true := hn 10 (by decide +kernel); obtain rfl : b14 = true := hn 14 (by decide +kernel); obtain rfl : b9 = true := hn 9 (by decide +kernel); refine wpOpIn_step rfl (fun K hK => ?_); simp only [cond_true, cond_false]; go_simp; refine ⟨fun _ h => (by cases h), ?_⟩; exact hK _ _ ⟨b0, b1, b2, b3, b4, b5, b6, b7, b8, true, true, b11, b12, b13, true, true, b16, b17, rfl, rfl, rfl⟩
            · obtain rfl : b15 = true := hn 15 (by decide +kernel); obtain rfl : b9 = true := hn 9 (by decide +kernel); refine wpOpIn_step rfl (fun K hK => ?_); simp only [cond_true, cond_false]; go_simp; exact hK _ _ ⟨b0, b1, b2, b3, b4, b5, b6, b7, b8, true, b10, b11, b12, b13, b14, true, true, b17, rfl, rfl, rfl⟩
            · obtain rfl : b9 = true := hn 9 (by decide +kernel); obtain rfl : b16 = true := hn 16 (by decide +kernel); refine wpOpIn_step rfl (fun K hK => ?_); simp only [cond_true, cond_false]; go_simp; exact hK _ _ ⟨b0, b1, b2, b3, b4, b5, b6, b7, b8, true, b10, b11, b12, b13, b14, b15, true, true, rfl, rfl, rfl⟩
          · rintro L a w ⟨b0, b1, b2, b3, b4, b5, b6, b7, b8, b9, b10, b11, b12, b13, b14, b15, b16, b17, rfl, rfl, rfl⟩ hall
            obtain rfl : b0 = true := hall 0 (by decide +kernel)
            obtain rfl : b1 = true := hall 1 (by decide +kernel)
            obtain rfl : b2 = true := hall 2 (by decide +kernel)
            obtain rfl : b3 = true := hall 3 (by decide +kernel)
            obtain rfl : b4 = true := hall 4 (by decide +kernel)
            obtain rfl : b5 = true := hall 5 (by decide +kernel)
            obtain rfl : b6 = true := hall 6 (by decide +kernel)
            obtain rfl : b7 = true := hall 7 (by decide +kernel)
            obtain rfl : b8 = true := hall 8 (by decide +kernel)
            obtain rfl : b9 = true := hall 9 (by decide +kernel)
            obtain rfl : b10 = true := hall 10 (by decide +kernel)
            obtain rfl : b11 = true := hall 11 (by decide +kernel)
            obtain rfl : b12 = true := hall 12 (by decide +kernel)
            obtain rfl : b13 = true := hall 13 (by decide +kernel)
            obtain rfl : b14 = true := hall 14 (by decide +kernel)
            obtain rfl : b15 = true := hall 15 (by decide +kernel)
            obtain rfl : b16 = true := hall 16 (by decide +kernel)
            obtain rfl : b17 = true := hall 17 (by decide +kernel)
            simp only [cond_true, cond_false]
            gi_wp2
            rw [← hQ]
            exact ⟨_, turn_jn G' tYd (fun k hk => ⟨.inl hk, Nat.lt_of_lt_of_le (G'.r.new k hk).2.1 bYd.size⟩), fJ', es', rfl, by rw [he', hsn, joinRow_n (by rw [hRn]; simp [heq])], G'.turn tYd, hJ _ _ _ _ hj' (abide_below bYd)⟩
  case done =>
    rintro D xs f X hD rfl ⟨fJ, es, rfl, he, G, hj⟩ t hK hnD
    gi_wp2
    refine ⟨by simp, .inl ⟨_, _, rfl, run_takeDeferred hK, ?_⟩⟩
    exact ⟨_, results_none rfl _ _ _, ⟨_, rfl⟩, fJ, G.y.t.put (by omega) _, .inl ⟨_, ⟨he, G.good.put _ hK, fun e he a ha => by have := (G.new _ ⟨e, he, a, ha, rfl⟩).1; omega⟩, hJ _ _ _ _ hj (put_ab _ (fun h => hnD (.inl (.inl h))) (by omega))⟩⟩
  case stop =>
    rintro D cd pre f X hD hp ⟨rfl, fJ, es, rfl, he, t, hj⟩ _ hK hnD
    gi_wp2
    refine ⟨by simp, .inl ⟨_, _, rfl, run_takeDeferred hK, ?_⟩⟩
    exact ⟨_, results_none rfl _ _ _, ⟨_, rfl⟩, fJ, t.put (by omega) _, .inr ⟨_, he, hJx _ _ _ _ hj (put_ab _ (fun h => hnD (.inl (.inl h))) (by omega))⟩⟩
end Go.Proofs.YtanfllednlpbaaaGreat

