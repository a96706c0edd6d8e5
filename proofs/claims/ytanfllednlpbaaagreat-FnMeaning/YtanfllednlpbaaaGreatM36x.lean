/-
  Appends of whole slices and texts onto a row of the call's own; the contracts of spec.l01Bytes, spec.l01Join, and of addText and addBytes. The contracts of spec.l01Bytes and spec.l01Join (the bytes of one slice, of two slices one behind the other, in a row of the call's own), and of the program's addText and addBytes. The contracts of spec.PutNums and impl.PutNums: both answer, in memory of their own, how many numbers there are and each of them; nothing where one is no number or there are more than 300. For every slice of int. The contract of impl.PutWord: it answers, in memory of its own, the word's length and its bytes; nothing where it is no word. For every text. A node, a plan and a schema as bytes, as plain lists. No program, no walk. The contract of spec.PutWord: it answers, in memory of its own, the word's length and its bytes; nothing where it is no word. For every text. Contracts of spec.l05Put, spec.l05Flag and spec.PutNode: the node's bytes in memory of the call's own; nothing where it is none. For every node. Contracts of spec.CheckOf and impl.CheckOf: both answer the check sum of the bytes that the slice reads as, and change nothing. For every slice of bytes. The contracts of spec.Frame and impl.Frame: both answer, in memory of their own, the frame of the bytes and true; nothing and false where they are more than 4000. For every slice of bytes. A plan's bytes, as plain lists. No program, no walk. Contracts of spec.EncodePlan and spec.PlanSum. For every slice of nodes. Contracts of spec.l01Bend and spec.DrawDecodePlan: some bytes, drawn. For every slice of bytes. A store that is drawn: a list that grows by rows, a value that is written over. No program, no walk.
-/
import Derived.Test.YtanfllednlpbaaaGreatM35x
import Derived.Lib.AppendStr
import Derived.Test.YtanfllednlpbaaaGreatM3x
import Derived.Laws.IdiomStrings
import Derived.Test.YtanfllednlpbaaaGreatM1x
import Derived.Test.YtanfllednlpbaaaGreatM6x
import Derived.Deep.RegionWith
import Derived.StillTailTactics
import Derived.Deep.RegionHeld3
import Derived.Test.YtanfllednlpbaaaGreatRows
import Derived.WalkKit
import Derived.WalkSpells
import Derived.WalkLawsBesides
import Derived.Lib.SlBytesConst
import Derived.Test.YtanfllednlpbaaaGreatM16x
import Derived.Test.YtanfllednlpbaaaGreatM34x
import Derived.Laws.OwnMore
namespace Go.Proofs.YtanfllednlpbaaaGreat
open Go.RowKit
set_option linter.unusedSimpArgs false
set_option linter.unusedVariables false
theorem Own.take_ {w : World} {base : Nat} {e : TypeId} {k : IntKind} {ao : Option Addr} {c : Nat} {l : List Int} (h : Own w base e k ao c l) (n : Nat) (hn : n ≤ l.length) : Own w base e k ao c (l.take n) := by
  have hl : (l.take n).length = n := by rw [List.length_take]; omega
  refine ⟨by simp, ?_⟩
  rw [hl]
  rcases h.2 with ⟨hv, h0⟩ | ⟨g, cap, cur, hv, hb, hg, h1, h2, h3, h4⟩
  · simp only [Value.slice.injEq] at hv
    refine .inl ⟨?_, by omega⟩
    simp only [Value.slice.injEq]
    exact ⟨hv.1, by omega, hv.2.2⟩
  · simp only [Value.slice.injEq] at hv
    refine .inr ⟨g, cap, cur, ?_, hb, hg, by omega, h2, h3, ?_⟩
    · simp only [Value.slice.injEq]
      exact ⟨hv.1, trivial, hv.2.2⟩
    · rw [List.map_take, ← h4, List.take_take]
      congr 1; omega
theorem Own.put {w : World} {base g : Nat} {e : TypeId} {k : IntKind} {c : Nat} {l : List Int} (h : Own w base e k (some ⟨g, 0, none⟩) c l) (i : Nat) (x : Int) : Own (w.setCell ⟨g, i, none⟩ (.int k x)) base e k (some ⟨g, 0, none⟩) c (l.set i x) := by
  unfold Own at h ⊢
  have := (World.ownsRow.stored h i (.int k x)).1
  rw [List.length_set, List.map_set]
  exact this
theorem ownV_cap {w : World} {base : Nat} {e : TypeId} {ao : Option Addr} {c : Nat} {xs : List Value} (h : OwnV w base e ao c xs) : xs.length ≤ c := by
  rcases h.2 with ⟨hv, _⟩ | ⟨q, cap, cur, hv, _, _, h1, _⟩
  · simp only [Value.slice.injEq] at hv; omega
  · simp only [Value.slice.injEq] at hv; rw [hv.2.2]; simpa using h1
section
variable {w w' : World} {base g c : Nat} {l : List RowsL} {xs : List Value} {B C L H : Nat → Nat}
theorem PartRO.below (h : PartRO w base g c l xs B C L H) (hb : Below w.heap.size w w') : PartRO w' base g c l xs B C L H := by
  have hob := owns_block h.own
  exact ⟨owns_keep h.own (hb.block g hob.2), h.cells, fun i r hr => (h.rows i r hr).keep fun k _ _ h3 => hb.block k h3, h.lo, h.off, h.ord, fun i hi => Nat.le_trans (h.last i hi) hb.size⟩
theorem PartRO.app (P : PartRO w base g c l xs B C L H) {t N : Nat} {r : RowsL} (ht : l[t]? = some r) (hN1 : H t ≤ N) (hN2 : g < N) (hN3 : N ≤ w.heap.size) {xt : List Value} {A' : Nat → Option Addr} {C' : Nat → Nat} (hpt : PartR w (L t) (B t) (C t) r.length r r.length xt A' C') (hbt : B t < H t) (hA : ∀ (i : Nat) (x : Addr), i < r.length → A' i = some x → x.block < H t)
    {us : List Value} {ms : RowsL} (hul : us.length = ms.length) (hu : ∀ (i : Nat) (q : List Int), ms[i]? = some q → ∃ a k, us[i]? = some (.slice a q.length k) ∧ Own w N 3 .i64 a k q)
    {w7 : World} {ao' : Option Addr} {c' : Nat} (o7 : OwnV w7 (L t) 34 ao' c' (xt ++ us)) (g7 : w.grownBy w7 (some (B t))) (k7 : ao' = some ⟨B t, 0, none⟩ ∨ ao' = some ⟨w.heap.size, 0, none⟩) :
    LooseRR (w7.setCell ⟨g, t, none⟩ (.slice ao' (r.length + us.length) c')) base (some ⟨g, 0, none⟩) (l.set t (r ++ ms)) ∧ (∃ y, w7.cell? ⟨g, t, none⟩ = some y) ∧ w7.frozen? ⟨g, t, none⟩ = false := by
  have hob := owns_block P.own
  have htl := lt_of_get ht
  have hLt := P.lo t htl
  have hoff := P.off t htl
  have hBt := (owns_block hpt.own).1
  have hxt : xt.length = r.length := by have := hpt.own.1; omega
  have hf : Frame (L t) (H t) w w7 := Frame.of_grown g7 (fun q hq => by simp at hq; omega)
  have hgb : w7.heap[g]? = w.heap[g]? := hf.block g hob.2 hoff
  have hx : RdX (fun k => k < base ∨ k = g) w7 ao' (r ++ ms) := by
    refine rdx_app o7 hxt hul g7 ?_ ?_ ?_
    · intro x hx
      rcases k7 with rfl | rfl <;> (cases hx; show ¬ (_ ∨ _); simp only; omega)
    · intro i q hq
      have hil := lt_of_get hq
      refine ⟨A' i, C' i, hpt.cells i q hil hq, (hpt.cols i q hil hq).base_le (Nat.zero_le _), fun x hx => ?_⟩
      have h1 := ((hpt.cols i q hil hq).lt x hx).1
      have h2 := hA i x hil hx
      have h3 := hpt.row i x hil hil hx
      exact ⟨by show ¬ (_ ∨ _); omega, by simp; exact h3⟩
    · intro i q hq
      obtain ⟨a, k, h1, h2⟩ := hu i q hq
      refine ⟨a, k, h1, h2.base_le (Nat.zero_le _), fun x hx => ?_⟩
      have h3 := (h2.lt x hx).1
      exact ⟨by show ¬ (_ ∨ _); omega, by simp; omega⟩
  have hlen : (r ++ ms).length = r.length + us.length := by rw [List.length_append, hul]
  have hcap := ownV_cap o7
  have hset := P.set ht hf hx (c' := c') (by rw [List.length_append] at hcap; rw [hlen]; omega) o7.cap_le
  rw [hlen] at hset
  exact ⟨hset, ⟨_, (World.cell?_of_block (a := ⟨g, t, none⟩) hgb).trans (P.at_ ht)⟩, World.ownsRow.frozenAt (owns_keep P.own hgb) t⟩
theorem PartRO.keep (h : PartRO w base g c l xs B C L H) (hk : ∀ k, base ≤ k → k < w.heap.size → w'.heap[k]? = w.heap[k]?) (hz : w.heap.size ≤ w'.heap.size) : PartRO w' base g c l xs B C L H := by
  have hob := owns_block h.own
  exact ⟨owns_keep h.own (hk g hob.1 hob.2), h.cells, fun i r hr => (h.rows i r hr).keep fun k h1 _ h3 => hk k (Nat.le_trans (h.lo i (lt_of_get hr)) h1) h3, h.lo, h.off, h.ord, fun i hi => Nat.le_trans (h.last i hi) hz⟩
theorem PartRO.putV (P : PartRO w base g c l xs B C L H) {t : Nat} {r : RowsL} (ht : l[t]? = some r) {y : List Int} (hy : r[0]? = some y) (hy0 : 0 < y.length) :
    ∃ b0 k0, w.cell? ⟨B t, 0, none⟩ = some (.slice (some ⟨b0, 0, none⟩) y.length k0) ∧ base ≤ b0 ∧ b0 < w.heap.size ∧ b0 ≠ g ∧ b0 ≠ B t ∧ ∀ w' : World, (∀ k, base ≤ k → k < w.heap.size → w'.heap[k]? = w.heap[k]?) → w.heap.size ≤ w'.heap.size →
      (∃ z, w'.cell? ⟨b0, 0, none⟩ = some z) ∧ w'.frozen? ⟨b0, 0, none⟩ = false ∧ ∀ v : Int, LooseRR (w'.setCell ⟨b0, 0, none⟩ (.int .i64 v)) base (some ⟨g, 0, none⟩) (l.set t (r.set 0 (y.set 0 v))) := by
  have htl := lt_of_get ht
  have hrl := lt_of_get hy
  have hLt := P.lo t htl
  obtain ⟨xt, A', C', hp, hb, hA⟩ := P.rows t r ht
  have ho := hp.cols 0 y hrl hy
  have hcell := (hp.at_ hrl hrl hy).1
  rcases ho.form with ⟨_, _, e⟩ | ⟨b0, hA0, h1, h2⟩
  · rw [e] at hy0; cases hy0
  · rw [Nat.zero_add, hA0] at hcell
    have hh : b0 < H t := hA 0 _ hrl hA0
    have hoff := P.off t htl
    refine ⟨b0, C' 0, hcell, by omega, h2, by omega, hp.row 0 _ hrl hrl hA0, fun w' hk hz => ?_⟩
    have P' := P.keep hk hz
    have hp' := hp.keep2 (w' := w') (fun k h3 h4 => hk k (by omega) h4)
    have ho' := hp'.cols 0 y hrl hy
    rw [hA0] at ho'
    refine ⟨⟨_, ho'.cell 0 hy0⟩, World.ownsRow.frozenAt ho' 0, fun v => ?_⟩
    have hf : Frame (L t) (H t) w' (w'.setCell ⟨b0, 0, none⟩ (.int .i64 v)) := Frame.setCell (p := ⟨b0, 0, none⟩) h1 hh _
    have hgr : w'.grownBy (w'.setCell ⟨b0, 0, none⟩ (.int .i64 v)) ((A' 0).map (·.block)) := by
      rw [hA0]
      exact ⟨rfl, rfl, rfl, by simp [World.setCell], fun k _ hn => Below.heap_setCell w' _ _ k (fun e => hn (by simp at e; simp [e]))⟩
    have hm := hp'.marked hrl hy (zs := y.set 0 v) (by simp) hgr (by rw [hA0]; exact ho'.put 0 v)
    have hrr : (r.set 0 (y.set 0 v)).length = r.length := by simp
    refine P'.turn ht hf ?_ hrr
    have hph : PartH (w'.setCell ⟨b0, 0, none⟩ (.int .i64 v)) (L t) (H t) (B t) (C t) (r.set 0 (y.set 0 v)) := ⟨xt, A', C', by rw [hrr]; exact hm, hb, fun i x hi hx => hA i x (by rw [hrr] at hi; exact hi) hx⟩
    exact hph.rdX (fun k h5 _ => by omega)
theorem PartRO.appR {w7 w9 : World} {gc t N7 b7 c7 bt rl gg cap : Nat} {r q : RowsL} {xt xs7 : List Value} {A' A7 : Nat → Option Addr} {C' C7 : Nat → Nat} (P : PartRO w base g c l xs B C L H) (hgc : gc < base) (G7 : w.grownBy w7 (some gc)) (hr : l[t]? = some r)
    (hpt : PartR w (L t) (B t) (C t) r.length r r.length xt A' C') (hbt : B t < H t) (hA : ∀ (i : Nat) (x : Addr), i < r.length → A' i = some x → x.block < H t) (hp7 : PartR w7 N7 b7 c7 q.length q q.length xs7 A7 C7) (hN7 : w.heap.size ≤ N7) (EB : B t = bt) (RL : r.length = rl)
    (o9 : w9.ownsRow (L t) 34 1 (.slice (some ⟨gg, 0, none⟩) (rl + q.length) cap) (rl + q.length) (xt ++ xs7)) (g9 : w7.grownBy w9 (some bt)) (k9 : some bt = some gg ∨ gg = w7.heap.size) :
    LooseRR (w9.setCell ⟨g, t, none⟩ (.slice (some ⟨gg, 0, none⟩) (rl + q.length) cap)) base (some ⟨g, 0, none⟩) (l.set t (r ++ q)) ∧ (∃ y, w9.cell? ⟨g, t, none⟩ = some y) ∧ w9.frozen? ⟨g, t, none⟩ = false := by
  subst EB RL
  have hgw := (owns_block P.own).2
  have htl := lt_of_get hr
  have hHt := P.last t htl
  have hLt := P.lo t htl
  have hxt : xt.length = r.length := by have := hpt.own.1; omega
  have hx7 : xs7.length = q.length := by have := hp7.own.1; omega
  have hsz := G7.size
  have h := (P.draw G7 hgc).app (us := xs7) (ms := q) hr (N := w.heap.size) hHt hgw hsz (hpt.keep2 (fun i h1 h2 => G7.block i h2 (by simp; omega))) hbt hA hx7 (fun i y hy => by
    have hil := lt_of_get hy
    exact ⟨A7 i, C7 i, hp7.cells i y hil hy, (hp7.cols i y hil hy).base_le hN7⟩) (ao' := some ⟨gg, 0, none⟩) (c' := cap) (by unfold OwnV; rw [List.length_append, hxt, hx7]; exact o9) g9 (by
    rcases k9 with h | h
    · left; injection h with h; rw [h]
    · right; rw [h])
  rw [hx7] at h
  exact h
end
end Go.Proofs.YtanfllednlpbaaaGreat
