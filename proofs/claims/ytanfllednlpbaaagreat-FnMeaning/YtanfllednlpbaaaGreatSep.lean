/-
  Ranges over functions whose iterators turn blocks of their own (records of loops within them, boxes, rows): a contract that keeps apart what the caller owns and what the iterator does, and the law of the statement over it. For any program.
-/
import Derived.RangeFuncNested
import Derived.RangeFuncCalls
import Derived.RangeFuncLeaves
namespace Go.Proofs.YtanfllednlpbaaaGreat
open Go.RowKit
set_option linter.unusedSimpArgs false
set_option linter.unusedVariables false

/-- Whatever the caller owns (fo) may have turned; nothing else that lay; what it owns now it owned, or it was laid since. -/
structure Turn (fo fo' : Nat → Prop) (A B : World) : Prop where
  os : B.os = A.os
  tape : B.tape = A.tape
  output : B.output = A.output
  size : A.heap.size ≤ B.heap.size
  block : ∀ k, k < A.heap.size → ¬ fo k → B.heap[k]? = A.heap[k]?
  own : ∀ k, fo' k → (fo k ∨ A.heap.size ≤ k) ∧ k < B.heap.size
/-- What the caller owns lies as it lay. -/
structure Abide (fo : Nat → Prop) (A B : World) : Prop where
  os : B.os = A.os
  tape : B.tape = A.tape
  output : B.output = A.output
  size : A.heap.size ≤ B.heap.size
  block : ∀ k, k < A.heap.size → fo k → B.heap[k]? = A.heap[k]?
theorem Turn.trans {f g h : Nat → Prop} {A B C : World} (p : Turn f g A B) (q : Turn g h B C) : Turn f h A C :=
  ⟨q.os.trans p.os, q.tape.trans p.tape, q.output.trans p.output, Nat.le_trans p.size q.size,
    fun k hk hf => (q.block k (Nat.lt_of_lt_of_le hk p.size) (fun hg => by rcases (p.own k hg).1 with h1 | h1; exact hf h1; omega)).trans (p.block k hk hf),
    fun k hh => ⟨by
      rcases (q.own k hh).1 with h1 | h1
      · exact (p.own k h1).1
      · exact .inr (Nat.le_trans p.size h1), (q.own k hh).2⟩⟩
theorem Turn.refl (f : Nat → Prop) (A : World) (h : ∀ k, f k → k < A.heap.size) : Turn f f A A := ⟨rfl, rfl, rfl, Nat.le_refl _, fun _ _ _ => rfl, fun k hk => ⟨.inl hk, h k hk⟩⟩
theorem Abide.refl (f : Nat → Prop) (A : World) : Abide f A A := ⟨rfl, rfl, rfl, Nat.le_refl _, fun _ _ _ => rfl⟩
theorem Abide.trans {f : Nat → Prop} {A B C : World} (p : Abide f A B) (q : Abide f B C) : Abide f A C :=
  ⟨q.os.trans p.os, q.tape.trans p.tape, q.output.trans p.output, Nat.le_trans p.size q.size, fun k hk hf => (q.block k (Nat.lt_of_lt_of_le hk p.size) hf).trans (p.block k hk hf)⟩
theorem Abide.alloc (f : Nat → Prop) (A : World) (o : Obj) : Abide f A (A.alloc o) :=
  ⟨rfl, rfl, rfl, by simp, fun k hk _ => Below.heap_alloc A o k hk⟩
theorem Abide.putObj {f : Nat → Prop} {A : World} {l : Nat} (o : Obj) (h : ¬ f l) : Abide f A (A.putObj l o) :=
  ⟨rfl, rfl, rfl, by simp, fun k _ hf => World.putObj_heap_other (fun e => h (e ▸ hf))⟩
theorem Abide.setCell {f : Nat → Prop} {A : World} {b : Addr} (v : Value) (h : ¬ f b.block) : Abide f A (A.setCell b v) := by
  refine ⟨rfl, rfl, rfl, by simp, fun k _ hf => ?_⟩
  have hne : k ≠ b.block := fun e => h (e ▸ hf)
  unfold World.setCell
  simp [Array.getElem?_modify, Ne.symm hne]
theorem Abide.mono {f g : Nat → Prop} {A B : World} (h : Abide f A B) (hg : ∀ k, g k → f k) : Abide g A B := ⟨h.os, h.tape, h.output, h.size, fun k hk hf => h.block k hk (hg k hf)⟩
/-- What the caller owns, and all that lay at a time. -/
def lowF (n : Nat) (f : Nat → Prop) : Nat → Prop := fun k => f k ∨ k < n

theorem Abide.own {n : Nat} {f : Nat → Prop} {A B : World} (h : Abide (lowF n f) A B) : Abide f A B := h.mono fun _ h => .inl h
/-- What has turned since the call began stays so, whatever is done beside it. -/
theorem Turn.abide {n : Nat} {fo fJ : Nat → Prop} {W X Y : World} (t : Turn fo fJ W X) (ab : Abide (lowF n fJ) X Y) (hn : W.heap.size ≤ n) : Turn fo fJ W Y :=
  ⟨ab.os.trans t.os, ab.tape.trans t.tape, ab.output.trans t.output, Nat.le_trans t.size ab.size, fun k hk hf => (ab.block k (Nat.lt_of_lt_of_le hk t.size) (.inr (by omega))).trans (t.block k hk hf),
    fun k hk => ⟨(t.own k hk).1, Nat.lt_of_lt_of_le (t.own k hk).2 ab.size⟩⟩
theorem Turn.put {fo fJ : Nat → Prop} {W X : World} {D : Nat} (t : Turn fo fJ W X) (hD : W.heap.size ≤ D) (o : Obj) : Turn fo fJ W (X.putObj D o) :=
  ⟨t.os, t.tape, t.output, by rw [World.putObj_size]; exact t.size, fun k hk hf => (World.putObj_heap_other (by omega)).trans (t.block k hk hf), fun k hk => by rw [World.putObj_size]; exact t.own k hk⟩

/-- The contract of an iterator: whatever loop's yield, whatever invariant that speaks of what the caller owns alone. -/
def SeqSep {α : Type} (F : Fence) (n : Nat) (P : Program) (g : Nat) (lb : Array Value) (encs : α → Array Value) (S : List α → World → Prop) (Sp : List α → Prop) (w : World) : Prop :=
  ∀ (l : Nat) (J Jx : List α → (Nat → Prop) → World → Prop) (W : World) (fo : Nat → Prop), Below w.heap.size w W → (∀ k, fo k → w.heap.size ≤ k ∧ k < W.heap.size) →
    (∀ xs f A B, J xs f A → Abide (lowF W.heap.size f) A B → J xs f B) → (∀ xs f A B, Jx xs f A → Abide (lowF W.heap.size f) A B → Jx xs f B) →
    (∀ pre x f W1, J pre f W1 → Sp (pre ++ [x]) → YieldAt F (n - 1) P l (encs x) W1 fun e W' => ∃ f', Turn f f' W1 W' ∧ ((e = .returned (.bool true) ∧ J (pre ++ [x]) f' W') ∨ (e = .returned (.bool false) ∧ Jx (pre ++ [x]) f' W'))) →
    J [] fo W →
    CallsIn F n P g (#[.func (.yield l) #[] #[]] ++ lb) W fun e W' => (∃ v, e = .returned v) ∧ ∃ f', Turn fo f' W W' ∧ ((∃ xs, S xs W' ∧ J xs f' W') ∨ (∃ pre, Sp pre ∧ Jx pre f' W'))

theorem SeqSep.inRound {α : Type} {F : Fence} {n : Nat} {P : Program} {g : Nat} {lb : Array Value} {encs : α → Array Value} {S : List α → World → Prop} {Sp : List α → Prop} {w : World} (l : Nat) (h : SeqSep F n P g lb encs S Sp w) : SeqSep (F.inRound l) n P g lb encs S Sp w := h
theorem YieldAt.mono' {F : Fence} {m : Nat} {P : Program} {l : Nat} {args : Array Value} {W : World} {R R' : Ending → World → Prop} (h : YieldAt F m P l args W R) (hr : ∀ e W', R e W' → R' e W') : YieldAt F m P l args W R' := by
  obtain ⟨fn, tmps, assign, body, hy, hR⟩ := h
  exact ⟨fn, tmps, assign, body, hy, hR.mono hr⟩
/-- How a round's body may be left. -/
def postS {α : Type} (I : List α → (Nat → Prop) → World → Prop) (Ix : Code → List α → (Nat → Prop) → World → Prop) (xs : List α) (fo : Nat → Prop) (W : World) : Exit → Act → World → Prop
  | .normal, _, W' => ∃ f', Turn fo f' W W' ∧ I xs f' W'
  | .ret, _, W' => ∃ f', Turn fo f' W W' ∧ Ix .ret xs f' W'
  | .exit id, _, W' => ∃ f', Turn fo f' W W' ∧ Ix (.exit id) xs f' W'
  | .goto t, _, W' => ∃ f', Turn fo f' W W' ∧ Ix (.goto t) xs f' W'
  | .panic _, _, _ => False
  | .outgrown, _, _ => False

section
variable {F : Fence} {n : Nat} {P : Program} {w : World}
/-- One round, the record's block beside what the body owns. -/
theorem roundS {α : Type} {fn : FuncId} (hfn : F.fn fn) {assign body : Code} {ps : Array Tmp} {tmps : Array Value} {encs : α → Array Value} (hps : ∀ x, (encs x).size = ps.size)
    (I : List α → (Nat → Prop) → World → Prop) (Ix : Code → List α → (Nat → Prop) → World → Prop) {n₀ : Nat} (hI : ∀ xs f A B, I xs f A → Abide (lowF n₀ f) A B → I xs f B) (hIx : ∀ c xs f A B, Ix c xs f A → Abide (lowF n₀ f) A B → Ix c xs f B)
    (A : List α → α → Act → (Nat → Prop) → World → Prop) (hA : ∀ pre x a' f X Y, A pre x a' f X → Abide (lowF n₀ f) X Y → A pre x a' f Y) {l dl : Nat} (hnl : n₀ ≤ l) (extra : Nat → Prop) (Ex : World → Prop)
    (hEx : ∀ X Y, Ex X → (∀ k, extra k → k < X.heap.size → Y.heap[k]? = X.heap[k]?) → Ex Y) (hxl : ¬ extra l)
    (pre : List α) (x : α)
    (hassign : ∀ fo W K, I pre fo W → (∀ a' f' W', Turn fo f' W W' → A pre x a' f' W' → K a' W') →
      assign.wpIn (F.inRound l) n P (Exit.then K (fun _ _ _ => False)) { tmps := (ps.zip (encs x)).foldl (fun t (p, v) => t.setIfInBounds p v) tmps, defers := [] } W)
    (hbody : ∀ a' fo W, (∃ r, W.heap[l]? = some (.loop r)) → ¬ fo l → A pre x a' fo W → body.wpIn (F.inRound l) n P (postS I Ix (pre ++ [x]) fo W) a' W)
    (fI : Nat → Prop) (W : World) (hi : I pre fI W) (hl : W.heap[l]? = some (.loop { state := .ready, pending := none, fn, tmps, params := ps, assign, body, defers := dl })) (hfl : ¬ fI l)
    (hex : Ex W) (hfe : ∀ k, extra k → ¬ fI k) (hel : ∀ k, extra k → k < W.heap.size) :
    YieldAt F n P l (encs x) W fun e W' => ∃ f', Turn (fun k => fI k ∨ k = l) (fun k => f' k ∨ k = l) W W' ∧ ¬ f' l ∧ (∀ k, extra k → ¬ f' k) ∧ Ex W' ∧
      ((e = .returned (.bool true) ∧ I (pre ++ [x]) f' W' ∧ W'.heap[l]? = some (.loop { state := .ready, pending := none, fn, tmps, params := ps, assign, body, defers := dl })) ∨
        (e = .returned (.bool false) ∧ ∃ c, Ix c (pre ++ [x]) f' W' ∧ W'.heap[l]? = some (.loop { state := .done, pending := some c, fn, tmps, params := ps, assign, body, defers := dl }))) := by
  obtain ⟨rec, hrec⟩ : ∃ rec : LoopState → Option Code → Loop, rec = fun st pe => { state := st, pending := pe, fn, tmps, params := ps, assign, body, defers := dl } := ⟨_, rfl⟩
  have hy := run_yield (P := P) (args := encs x) hl (hps x)
  refine ⟨fn, _, assign, body, hy, roundIn_of_wpIn hfn (hassign fI W _ hi ?_)⟩
  clear hy
  intro a' f1 W1 t1 hA1
  have hlt : l < W.heap.size := (Array.getElem?_eq_some_iff.1 hl).1
  have hl1 : W1.heap[l]? = some (.loop (rec .ready none)) := by rw [t1.block l hlt hfl, hl, hrec]
  have hf1 : ¬ f1 l := fun h => by rcases (t1.own l h).1 with h1 | h1; exact hfl h1; omega
  have hlt1 : l < W1.heap.size := (Array.getElem?_eq_some_iff.1 hl1).1
  have hex1 : Ex W1 := hEx _ _ hex fun k hk hkl => t1.block k hkl (hfe k hk)
  have hfe1 : ∀ k, extra k → ¬ f1 k := fun k hk h => by
    rcases (t1.own k h).1 with h1 | h1
    · exact hfe k hk h1
    · have := hel k hk; omega
  refine ⟨_, run_beginRound hl1 (by rw [hrec]), ?_⟩
  have hl2 : (W1.putObj l (.loop { rec .ready none with state := .busy })).heap[l]? = some (.loop { rec .ready none with state := .busy }) := World.putObj_heap_same hlt1
  refine wpIn_mono (hbody a' f1 _ ⟨_, hl2⟩ hf1 (hA _ _ _ _ _ _ hA1 (Abide.putObj _ (fun h => Or.elim h hf1 (fun h => by omega))))) ?_
  have hex2 : Ex (W1.putObj l (.loop { rec .ready none with state := .busy })) := hEx _ _ hex1 fun k hk _ => World.putObj_heap_other (fun e => hxl (e ▸ hk))
  have fin : ∀ (jump : Option Code) (f' : Nat → Prop) (W3 : World), Turn f1 f' (W1.putObj l (.loop { rec .ready none with state := .busy })) W3 →
      (Instr.endRound l jump).run P W3 = .ok (.bool jump.isNone) (W3.putObj l (.loop (rec (if jump.isNone then .ready else .done) jump))) ∧
      (W3.putObj l (.loop (rec (if jump.isNone then .ready else .done) jump))).heap[l]? = some (.loop (rec (if jump.isNone then .ready else .done) jump)) ∧
      Turn (fun k => fI k ∨ k = l) (fun k => f' k ∨ k = l) W (W3.putObj l (.loop (rec (if jump.isNone then .ready else .done) jump))) ∧ ¬ f' l ∧ (∀ k, extra k → ¬ f' k) ∧ Ex (W3.putObj l (.loop (rec (if jump.isNone then .ready else .done) jump))) ∧
      Abide (lowF n₀ f') W3 (W3.putObj l (.loop (rec (if jump.isNone then .ready else .done) jump))) := fun jump f' W3 t3 => by
    have hs2 : (W1.putObj l (.loop { rec .ready none with state := .busy })).heap.size = W1.heap.size := World.putObj_size
    have hl3 : W3.heap[l]? = some (.loop { rec .ready none with state := .busy }) := (t3.block l (by rw [hs2]; exact hlt1) hf1).trans hl2
    have hlt3 : l < W3.heap.size := (Array.getElem?_eq_some_iff.1 hl3).1
    have hf3 : ¬ f' l := fun h => by rcases (t3.own l h).1 with h1 | h1; exact hf1 h1; rw [hs2] at h1; omega
    have hfe3 : ∀ k, extra k → ¬ f' k := fun k hk h => by
      rcases (t3.own k h).1 with h1 | h1
      · exact hfe1 k hk h1
      · rw [hs2] at h1; have := hel k hk; have := t1.size; omega
    have := run_endRound (P := P) jump hl3
    refine ⟨by rw [hrec] at this ⊢; exact this, World.putObj_heap_same hlt3, ⟨?_, ?_, ?_, ?_, ?_, ?_⟩, hf3, hfe3, ?_, Abide.putObj _ (fun h => Or.elim h hf3 (fun h => by omega))⟩
    · exact t3.os.trans t1.os
    · exact t3.tape.trans t1.tape
    · exact t3.output.trans t1.output
    · have h1 := t1.size; have h3 := t3.size; rw [hs2] at h3; rw [World.putObj_size]; omega
    · intro k hk hf
      have hkl : k ≠ l := fun e => hf (.inr e)
      have hkf : ¬ fI k := fun h => hf (.inl h)
      have hk1 : ¬ f1 k := fun h => by rcases (t1.own k h).1 with h1 | h1; exact hkf h1; omega
      rw [World.putObj_heap_other hkl, t3.block k (by rw [hs2]; exact Nat.lt_of_lt_of_le hk t1.size) hk1, World.putObj_heap_other hkl, t1.block k hk hkf]
    · rintro k (h | rfl)
      · obtain ⟨h1, h2⟩ := t3.own k h
        rw [World.putObj_size]
        refine ⟨?_, h2⟩
        rcases h1 with h1 | h1
        · rcases (t1.own k h1).1 with h4 | h4
          · exact .inl (.inl h4)
          · exact .inr h4
        · rw [hs2] at h1; exact .inr (Nat.le_trans t1.size h1)
      · exact ⟨.inl (.inr rfl), by rw [World.putObj_size]; exact hlt3⟩
    · refine hEx _ _ (hEx _ _ hex2 fun k hk hkl => t3.block k hkl (hfe1 k hk)) fun k hk _ => World.putObj_heap_other (fun e => hxl (e ▸ hk))
  rintro e a3 W3 hp
  cases e with
  | normal =>
    obtain ⟨f', t3, hi3⟩ := hp
    obtain ⟨hr, hl4, t4, hf4, he4, hx4, ab⟩ := fin none f' W3 t3
    exact ⟨_, _, hr, f', t4, hf4, he4, hx4, .inl ⟨rfl, hI _ _ _ _ hi3 ab, by rw [hl4, hrec]; rfl⟩⟩
  | ret =>
    obtain ⟨f', t3, hi3⟩ := hp
    obtain ⟨hr, hl4, t4, hf4, he4, hx4, ab⟩ := fin (some .ret) f' W3 t3
    exact ⟨_, _, hr, f', t4, hf4, he4, hx4, .inr ⟨rfl, _, hIx _ _ _ _ _ hi3 ab, by rw [hl4, hrec]; rfl⟩⟩
  | exit id =>
    obtain ⟨f', t3, hi3⟩ := hp
    obtain ⟨hr, hl4, t4, hf4, he4, hx4, ab⟩ := fin (some (.exit id)) f' W3 t3
    exact ⟨_, _, hr, f', t4, hf4, he4, hx4, .inr ⟨rfl, _, hIx _ _ _ _ _ hi3 ab, by rw [hl4, hrec]; rfl⟩⟩
  | goto t =>
    obtain ⟨f', t3, hi3⟩ := hp
    obtain ⟨hr, hl4, t4, hf4, he4, hx4, ab⟩ := fin (some (.goto t)) f' W3 t3
    exact ⟨_, _, hr, f', t4, hf4, he4, hx4, .inr ⟨rfl, _, hIx _ _ _ _ _ hi3 ab, by rw [hl4, hrec]; rfl⟩⟩
  | panic ch => exact hp.elim
  | outgrown => exact hp.elim

/-- The statement, in a function's own frame. -/
theorem wpIn_range_sep {α : Type} {g : Operand} {ps : Array Tmp} {assign body : Code} {Q : Exit → Act → World → Prop} {a : Act}
    (hro : F.round = none) (h1 : 1 ≤ n) {gf : Nat} {lb : Array Value} (hg : a.eval g = .func (.func gf) #[] lb) (hFg : F.fn gf) (eg : ∀ args w, (callFunc gf args).run P w = .ok (.enter gf args) w)
    {encs : α → Array Value} {S : List α → World → Prop} {Sp : List α → Prop} {w0 : World} (hseq : SeqSep F (n - 1) P gf lb encs S Sp w0) (hb0 : Below w0.heap.size w0 w) (hps : ∀ x, (encs x).size = ps.size)
    (hS : ∀ xs X l o o', S xs X → X.heap[l]? = some (.loop o) → S xs (X.putObj l o'))
    (I : List α → (Nat → Prop) → World → Prop) (Ix : Code → List α → (Nat → Prop) → World → Prop) (hI : ∀ xs f A B, I xs f A → Abide (lowF w.heap.size f) A B → I xs f B) (hIx : ∀ c xs f A B, Ix c xs f A → Abide (lowF w.heap.size f) A B → Ix c xs f B)
    (fo : Nat → Prop) (hfo : ∀ k, fo k → w0.heap.size ≤ k ∧ k < w.heap.size) (h0 : I [] fo w)
    (A : List α → α → Act → (Nat → Prop) → World → Prop) (hA : ∀ pre x a' f X Y, A pre x a' f X → Abide (lowF w.heap.size f) X Y → A pre x a' f Y)
    (hassign : ∀ l pre x f W K, I pre f W → (∀ a' f' W', Turn f f' W W' → A pre x a' f' W' → K a' W') →
      assign.wpIn (F.inRound l) (n - 1 - 1) P (Exit.then K (fun _ _ _ => False)) { tmps := (ps.zip (encs x)).foldl (fun t (p, v) => t.setIfInBounds p v) a.tmps, defers := [] } W)
    (hbody : ∀ l pre x a' f W, w.heap.size ≤ l → (∃ r, W.heap[l]? = some (.loop r)) → ¬ f l → Sp (pre ++ [x]) → A pre x a' f W → body.wpIn (F.inRound l) (n - 1 - 1) P (postS I Ix (pre ++ [x]) f W) a' W)
    (hdone : ∀ D xs f W, w.heap.size ≤ D → S xs W → I xs f W → Turn fo f w W → W.heap[D]? = some (.deferred (some [])) → ¬ f D → Q .normal { a with defers := { target := .collected D, args := #[] } :: a.defers } W)
    (hstop : ∀ D c pre f W, w.heap.size ≤ D → Sp pre → Ix c pre f W → Turn fo f w W → W.heap[D]? = some (.deferred (some [])) → ¬ f D → c.wpIn F n P Q { a with defers := { target := .collected D, args := #[] } :: a.defers } W) :
    (Code.rangeFunc g ps assign body).wpIn F n P Q a w := by
  refine wpIn_rangeFunc ?_
  intro fn hfn
  rw [hro]
  obtain ⟨rec, hrec⟩ : ∃ rec : LoopState → Option Code → Loop, rec = fun st pe => { state := st, pending := pe, fn, tmps := a.tmps, params := ps, assign, body, defers := w.heap.size } := ⟨_, rfl⟩
  obtain ⟨W1, hW1⟩ : ∃ W1, (w.alloc (.deferred (some []))).alloc (.loop (rec .ready none)) = W1 := ⟨_, rfl⟩
  have hs1 : W1.heap.size = w.heap.size + 2 := by rw [← hW1]; simp
  have hL1 : W1.heap[w.heap.size + 1]? = some (.loop (rec .ready none)) := by
    rw [← hW1]; have := World.alloc_heap_new (w.alloc (.deferred (some []))) (.loop (rec .ready none)); rwa [World.size_alloc] at this
  have hK1 : W1.heap[w.heap.size]? = some (.deferred (some [])) := by
    rw [← hW1]; exact (Below.heap_alloc _ _ _ (by simp)).trans (World.alloc_heap_new w _)
  have hlow : ∀ k, k < w.heap.size → W1.heap[k]? = w.heap[k]? := fun k hk => by
    rw [← hW1]; exact (Below.heap_alloc _ _ _ (by simp; omega)).trans (Below.heap_alloc _ _ _ hk)
  have hI1 : I [] fo W1 := by rw [← hW1]; exact hI _ _ _ _ h0 ((Abide.alloc _ _ _).trans (Abide.alloc _ _ _))
  have hb1 : Below w0.heap.size w0 W1 := by
    rw [← hW1]; exact hb0.trans ((((Below.refl _ w).alloc (Nat.le_refl _) _).alloc (by simp) _).mono hb0.size)
  have hside : W1.os = w.os ∧ W1.tape = w.tape ∧ W1.output = w.output := by rw [← hW1]; exact ⟨rfl, rfl, rfl⟩
  refine ⟨w.heap.size + 1, [{ target := .collected w.heap.size, args := #[] }], W1, { target := .fn (.func gf) lb, args := #[.func (.yield (w.heap.size + 1)) #[] #[]] }, W1, gf,
    #[.func (.yield (w.heap.size + 1)) #[] #[]] ++ lb, W1, ?_, ?_, ?_, ?_, fun _ => h1, ?_⟩
  · rw [← hW1, hrec]; exact run_enterLoop_outer _ _ _ _ _
  · simp only [resolve, hg]
    simp [go_sem]
  · intro f' hf'; simp [Target.leads] at hf'; subst hf'; exact hFg
  · simp [invoke, go_sem, eg]
  · refine (hseq (w.heap.size + 1)
      (fun pre f W => ∃ fI : Nat → Prop, f = (fun k => (fI k ∨ k = w.heap.size + 1) ∨ k = w.heap.size) ∧ I pre fI W ∧ W.heap[w.heap.size + 1]? = some (.loop (rec .ready none)) ∧ W.heap[w.heap.size]? = some (.deferred (some [])) ∧ ¬ fI (w.heap.size + 1) ∧ ¬ fI w.heap.size)
      (fun pre f W => ∃ (fI : Nat → Prop) (c : Code), f = (fun k => (fI k ∨ k = w.heap.size + 1) ∨ k = w.heap.size) ∧ Ix c pre fI W ∧ W.heap[w.heap.size + 1]? = some (.loop (rec .done (some c))) ∧ W.heap[w.heap.size]? = some (.deferred (some [])) ∧ ¬ fI (w.heap.size + 1) ∧ ¬ fI w.heap.size)
      W1 (fun k => (fo k ∨ k = w.heap.size + 1) ∨ k = w.heap.size) hb1 ?_ ?_ ?_ ?_ ⟨fo, rfl, hI1, hL1, hK1, fun h => (by have := (hfo _ h).2; omega), fun h => (by have := (hfo _ h).2; omega)⟩).mono ?_
    · rintro k ((h | rfl) | rfl)
      · have := hfo k h; omega
      · have := hb0.size; omega
      · have := hb0.size; omega
    · rintro xs f X Y ⟨fI, rfl, hi, hl, hk, n1, n2⟩ ab
      exact ⟨fI, rfl, hI _ _ _ _ hi (ab.mono fun k h => Or.elim h (fun h => .inl (.inl (.inl h))) (fun h => .inr (by omega))), (ab.block _ (Array.getElem?_eq_some_iff.1 hl).1 (.inl (.inl (.inr rfl)))).trans hl, (ab.block _ (Array.getElem?_eq_some_iff.1 hk).1 (.inl (.inr rfl))).trans hk, n1, n2⟩
    · rintro xs f X Y ⟨fI, c, rfl, hi, hl, hk, n1, n2⟩ ab
      exact ⟨fI, c, rfl, hIx _ _ _ _ _ hi (ab.mono fun k h => Or.elim h (fun h => .inl (.inl (.inl h))) (fun h => .inr (by omega))), (ab.block _ (Array.getElem?_eq_some_iff.1 hl).1 (.inl (.inl (.inr rfl)))).trans hl, (ab.block _ (Array.getElem?_eq_some_iff.1 hk).1 (.inl (.inr rfl))).trans hk, n1, n2⟩
    · rintro pre x f X ⟨fI, rfl, hi, hl, hk, n1, n2⟩ hlen
      rw [hrec] at hl
      have hkl : w.heap.size < X.heap.size := (Array.getElem?_eq_some_iff.1 hk).1
      refine YieldAt.mono' (roundS hfn hps I Ix hI hIx A hA (by omega) (fun k => k = w.heap.size) (fun X => X.heap[w.heap.size]? = some (.deferred (some []))) (fun X Y hX hXY => (hXY _ rfl (Array.getElem?_eq_some_iff.1 hX).1).trans hX) (by omega) pre x
        (fun f' W' K hi' hK => hassign _ pre x f' W' K hi' hK) (fun a' f' W' hr hf' ha => hbody _ pre x a' f' W' (by omega) hr hf' hlen ha) fI X hi hl n1 hk (by rintro k rfl; exact n2) (by rintro k rfl; exact hkl)) ?_
      rintro e Y ⟨f', t, nl, nx, hk', h⟩
      have t' : Turn (fun k => (fI k ∨ k = w.heap.size + 1) ∨ k = w.heap.size) (fun k => (f' k ∨ k = w.heap.size + 1) ∨ k = w.heap.size) X Y :=
        ⟨t.os, t.tape, t.output, t.size, fun k hk hf => t.block k hk (fun h => hf (.inl h)), by
          rintro k (h | rfl)
          · obtain ⟨h1, h2⟩ := t.own k h
            exact ⟨h1.elim (fun h => .inl (.inl h)) .inr, h2⟩
          · exact ⟨.inl (.inr rfl), Nat.lt_of_lt_of_le hkl t.size⟩⟩
      refine ⟨_, t', ?_⟩
      rcases h with ⟨rfl, hi2, hl2⟩ | ⟨rfl, c, hi2, hl2⟩
      · exact .inl ⟨rfl, f', rfl, hi2, by rw [hl2, hrec], hk', nl, nx _ rfl⟩
      · exact .inr ⟨rfl, f', c, rfl, hi2, by rw [hl2, hrec], hk', nl, nx _ rfl⟩
    · rintro e W2 ⟨⟨v, rfl⟩, f', t, h⟩
      have back : ∀ (fI : Nat → Prop) (o : Obj), f' = (fun k => (fI k ∨ k = w.heap.size + 1) ∨ k = w.heap.size) → ¬ fI (w.heap.size + 1) → ¬ fI w.heap.size → Turn fo fI w (W2.putObj (w.heap.size + 1) o) := fun fI o hf n1 n2 =>
        ⟨t.os.trans hside.1, t.tape.trans hside.2.1, t.output.trans hside.2.2, by rw [World.putObj_size]; have := t.size; omega, fun k hk hnf => by
            rw [World.putObj_heap_other (by omega), t.block k (by omega) (by rintro ((h | h) | h); exact hnf h; omega; omega), hlow k hk], fun k hk => by
          obtain ⟨h1, h2⟩ := t.own k (by rw [hf]; exact .inl (.inl hk))
          refine ⟨?_, by rw [World.putObj_size]; exact h2⟩
          rcases h1 with ((h1 | h1) | h1) | h1
          · exact .inl h1
          · exact absurd (h1 ▸ hk) n1
          · exact absurd (h1 ▸ hk) n2
          · exact .inr (by omega)⟩
      rcases h with ⟨xs, hs, fI, hf, hi, hl, hk, n1, n2⟩ | ⟨pre, hp, fI, c, hf, hi, hl, hk, n1, n2⟩
      · exact ⟨none, _, by have := run_endLoop (P := P) hl (by rw [hrec]; simp); rw [hrec] at this; exact this, hdone _ xs fI _ (Nat.le_refl _) (hS _ _ _ _ _ hs hl) (hI _ _ _ _ hi (Abide.putObj _ (fun h => Or.elim h n1 (fun h => by omega)))) (back fI _ hf n1 n2) ((World.putObj_heap_other (by omega)).trans hk) n2⟩
      · exact ⟨some c, _, by have := run_endLoop (P := P) hl (by rw [hrec]; simp); rw [hrec] at this; exact this, hstop _ c pre fI _ (Nat.le_refl _) hp (hIx _ _ _ _ _ hi (Abide.putObj _ (fun h => Or.elim h n1 (fun h => by omega)))) (back fI _ hf n1 n2) ((World.putObj_heap_other (by omega)).trans hk) n2⟩

/-- The statement within a round of loop l₀. -/
theorem wpIn_range_sepN {α : Type} {g : Operand} {ps : Array Tmp} {assign body : Code} {Q : Exit → Act → World → Prop} {a : Act}
    {l₀ : Nat} {r₀ : Loop} (hro : F.round = some l₀) (hl₀ : w.heap[l₀]? = some (.loop r₀)) (h1 : 1 ≤ n) {gf : Nat} {lb : Array Value} (hg : a.eval g = .func (.func gf) #[] lb) (hFg : F.fn gf) (eg : ∀ args w, (callFunc gf args).run P w = .ok (.enter gf args) w)
    {encs : α → Array Value} {S : List α → World → Prop} {Sp : List α → Prop} {w0 : World} (hseq : SeqSep F (n - 1) P gf lb encs S Sp w0) (hb0 : Below w0.heap.size w0 w) (hps : ∀ x, (encs x).size = ps.size)
    (hS : ∀ xs X l o o', S xs X → X.heap[l]? = some (.loop o) → S xs (X.putObj l o'))
    (I : List α → (Nat → Prop) → World → Prop) (Ix : Code → List α → (Nat → Prop) → World → Prop) (hI : ∀ xs f A B, I xs f A → Abide (lowF w.heap.size f) A B → I xs f B) (hIx : ∀ c xs f A B, Ix c xs f A → Abide (lowF w.heap.size f) A B → Ix c xs f B)
    (fo : Nat → Prop) (hfo : ∀ k, fo k → w0.heap.size ≤ k ∧ k < w.heap.size) (h0 : I [] fo w)
    (A : List α → α → Act → (Nat → Prop) → World → Prop) (hA : ∀ pre x a' f X Y, A pre x a' f X → Abide (lowF w.heap.size f) X Y → A pre x a' f Y)
    (hassign : ∀ l pre x f W K, I pre f W → (∀ a' f' W', Turn f f' W W' → A pre x a' f' W' → K a' W') →
      assign.wpIn (F.inRound l) (n - 1 - 1) P (Exit.then K (fun _ _ _ => False)) { tmps := (ps.zip (encs x)).foldl (fun t (p, v) => t.setIfInBounds p v) a.tmps, defers := [] } W)
    (hbody : ∀ l pre x a' f W, w.heap.size ≤ l → (∃ r, W.heap[l]? = some (.loop r)) → ¬ f l → Sp (pre ++ [x]) → A pre x a' f W → body.wpIn (F.inRound l) (n - 1 - 1) P (postS I Ix (pre ++ [x]) f W) a' W)
    (hdone : ∀ xs f W, S xs W → I xs f W → Turn fo f w W → Q .normal a W)
    (hstop : ∀ c pre f W, Sp pre → Ix c pre f W → Turn fo f w W → c.wpIn F n P Q a W) :
    (Code.rangeFunc g ps assign body).wpIn F n P Q a w := by
  refine wpIn_rangeFunc ?_
  intro fn hfn
  rw [hro]
  obtain ⟨rec, hrec⟩ : ∃ rec : LoopState → Option Code → Loop, rec = fun st pe => { state := st, pending := pe, fn, tmps := a.tmps, params := ps, assign, body, defers := r₀.defers } := ⟨_, rfl⟩
  obtain ⟨W1, hW1⟩ : ∃ W1, w.alloc (.loop (rec .ready none)) = W1 := ⟨_, rfl⟩
  have hs1 : W1.heap.size = w.heap.size + 1 := by rw [← hW1]; simp
  have hL1 : W1.heap[w.heap.size]? = some (.loop (rec .ready none)) := by rw [← hW1]; exact World.alloc_heap_new w _
  have hlow : ∀ k, k < w.heap.size → W1.heap[k]? = w.heap[k]? := fun k hk => by rw [← hW1]; exact Below.heap_alloc _ _ _ hk
  have hI1 : I [] fo W1 := by rw [← hW1]; exact hI _ _ _ _ h0 (Abide.alloc _ _ _)
  have hb1 : Below w0.heap.size w0 W1 := by rw [← hW1]; exact hb0.trans (((Below.refl _ w).alloc (Nat.le_refl _) _).mono hb0.size)
  have hside : W1.os = w.os ∧ W1.tape = w.tape ∧ W1.output = w.output := by rw [← hW1]; exact ⟨rfl, rfl, rfl⟩
  refine ⟨w.heap.size, [], W1, { target := .fn (.func gf) lb, args := #[.func (.yield w.heap.size) #[] #[]] }, W1, gf,
    #[.func (.yield w.heap.size) #[] #[]] ++ lb, W1, ?_, ?_, ?_, ?_, fun _ => h1, ?_⟩
  · rw [← hW1, hrec]; exact run_enterLoop_inner hl₀ _ _ _ _ _
  · simp only [resolve, hg]
    simp [go_sem]
  · intro f' hf'; simp [Target.leads] at hf'; subst hf'; exact hFg
  · simp [invoke, go_sem, eg]
  · refine (hseq w.heap.size
      (fun pre f W => ∃ fI : Nat → Prop, f = (fun k => fI k ∨ k = w.heap.size) ∧ I pre fI W ∧ W.heap[w.heap.size]? = some (.loop (rec .ready none)) ∧ ¬ fI w.heap.size)
      (fun pre f W => ∃ (fI : Nat → Prop) (c : Code), f = (fun k => fI k ∨ k = w.heap.size) ∧ Ix c pre fI W ∧ W.heap[w.heap.size]? = some (.loop (rec .done (some c))) ∧ ¬ fI w.heap.size)
      W1 (fun k => fo k ∨ k = w.heap.size) hb1 ?_ ?_ ?_ ?_ ⟨fo, rfl, hI1, hL1, fun h => (by have := (hfo _ h).2; omega)⟩).mono ?_
    · rintro k (h | rfl)
      · have := hfo k h; omega
      · have := hb0.size; omega
    · rintro xs f X Y ⟨fI, rfl, hi, hl, n1⟩ ab
      exact ⟨fI, rfl, hI _ _ _ _ hi (ab.mono fun k h => Or.elim h (fun h => .inl (.inl h)) (fun h => .inr (by omega))), (ab.block _ (Array.getElem?_eq_some_iff.1 hl).1 (.inl (.inr rfl))).trans hl, n1⟩
    · rintro xs f X Y ⟨fI, c, rfl, hi, hl, n1⟩ ab
      exact ⟨fI, c, rfl, hIx _ _ _ _ _ hi (ab.mono fun k h => Or.elim h (fun h => .inl (.inl h)) (fun h => .inr (by omega))), (ab.block _ (Array.getElem?_eq_some_iff.1 hl).1 (.inl (.inr rfl))).trans hl, n1⟩
    · rintro pre x f X ⟨fI, rfl, hi, hl, n1⟩ hlen
      rw [hrec] at hl
      refine YieldAt.mono' (roundS hfn hps I Ix hI hIx A hA (by omega) (fun _ => False) (fun _ => True) (fun _ _ _ _ => trivial) (fun h => h) pre x
        (fun f' W' K hi' hK => hassign _ pre x f' W' K hi' hK) (fun a' f' W' hr hf' ha => hbody _ pre x a' f' W' (Nat.le_refl _) hr hf' hlen ha) fI X hi hl n1 trivial (fun _ h => h.elim) (fun _ h => h.elim)) ?_
      rintro e Y ⟨f', t, nl, -, -, h⟩
      refine ⟨_, t, ?_⟩
      rcases h with ⟨rfl, hi2, hl2⟩ | ⟨rfl, c, hi2, hl2⟩
      · exact .inl ⟨rfl, f', rfl, hi2, by rw [hl2, hrec], nl⟩
      · exact .inr ⟨rfl, f', c, rfl, hi2, by rw [hl2, hrec], nl⟩
    · rintro e W2 ⟨⟨v, rfl⟩, f', t, h⟩
      have back : ∀ (fI : Nat → Prop) (o : Obj), f' = (fun k => fI k ∨ k = w.heap.size) → ¬ fI w.heap.size → Turn fo fI w (W2.putObj w.heap.size o) := fun fI o hf n1 =>
        ⟨t.os.trans hside.1, t.tape.trans hside.2.1, t.output.trans hside.2.2, by rw [World.putObj_size]; have := t.size; omega, fun k hk hnf => by
            rw [World.putObj_heap_other (by omega), t.block k (by omega) (by rintro (h | h); exact hnf h; omega), hlow k hk], fun k hk => by
          obtain ⟨h1, h2⟩ := t.own k (by rw [hf]; exact .inl hk)
          refine ⟨?_, by rw [World.putObj_size]; exact h2⟩
          rcases h1 with (h1 | h1) | h1
          · exact .inl h1
          · exact absurd (h1 ▸ hk) n1
          · exact .inr (by omega)⟩
      rcases h with ⟨xs, hs, fI, hf, hi, hl, n1⟩ | ⟨pre, hp, fI, c, hf, hi, hl, n1⟩
      · exact ⟨none, _, by have := run_endLoop (P := P) hl (by rw [hrec]; simp); rw [hrec] at this; exact this, hdone xs fI _ (hS _ _ _ _ _ hs hl) (hI _ _ _ _ hi (Abide.putObj _ (fun h => Or.elim h n1 (fun h => by omega)))) (back fI _ hf n1)⟩
      · exact ⟨some c, _, by have := run_endLoop (P := P) hl (by rw [hrec]; simp); rw [hrec] at this; exact this, hstop c pre fI _ hp (hIx _ _ _ _ _ hi (Abide.putObj _ (fun h => Or.elim h n1 (fun h => by omega)))) (back fI _ hf n1)⟩
end
end Go.Proofs.YtanfllednlpbaaaGreat

