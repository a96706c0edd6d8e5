/-
  The model's reader of words in whatever state: one contract each of l06Word, l06Bad, l06Int; the two blocks of l06Node beside the reader's; what the node is, step by step, and that it is what a text's node is. The model's reader of words: contract of l06Node. For every list of words that are none of them empty. The model's reader of words: contract of l06Node at filter. For every list of words that are none of them empty. The model's reader of words: contract of l06Node at keep. For every list of words that are none of them empty. The model's reader of words: contract of l06Node, at every word. For every list of words that are none of them empty.
-/
import Derived.Test.YtfpbhedophlnkaaGreatDoorKS1
import Derived.Test.YtfpbhedophlnkaaGreatDoorSNdT
import Derived.Test.YtfpbhedophlnkaaGreatDoorKT5
import Derived.Test.YtfpbhedophlnkaaGreatDoorHN
import Derived.Test.YtfpbhedophlnkaaGreatDoorKIP1
namespace Go.Proofs.YtfpbhedophlnkaaGreatDoor
open Go.RowKit
set_option linter.unusedSimpArgs false
set_option linter.unusedVariables false

def wordS (ws : List ByteArray) (s : Nat × Bool) : ByteArray × (Nat × Bool) :=
  if s.2 = true then (⟨#[]⟩, s) else match ws[s.1]? with | none => (⟨#[]⟩, s.1, true) | some x => (x, s.1 + 1, false)
def badS (s : Nat × Bool) : Nat × Bool := if s.2 = true then s else (s.1 - 1, true)
noncomputable def intS (slot : Bool) (ws : List ByteArray) (s : Nat × Bool) : (Int × Bool) × (Nat × Bool) :=
  if s.2 = true then ((0, false), s) else match intQ slot ws s.1 with | none => ((0, false), s.1, true) | some x => (x, s.1 + 1, false)
section
variable {R c : Nat} {ao : Option Addr} {ws : List ByteArray}
theorem wordS_any (s : Nat × Bool) (w : World) (h : Lrd w R ao c ws s.1 s.2) :
    Calls Tryz.prog 211 #[.pointer (some ⟨R, 0, none⟩)] w (TookL6 (.string (wordS ws s).1) R ao c ws (wordS ws s).2.1 (wordS ws s).2.2 w) := by
  obtain ⟨p, f⟩ := s
  cases f with
  | true => simpa [wordS] using l06Word_fail w h
  | false =>
    cases hx : ws[p]? with
    | none => simpa [wordS, hx] using l06Word_end w h hx
    | some x => simpa [wordS, hx] using l06Word_yes w h hx
theorem badS_any (s : Nat × Bool) (w : World) (h : Lrd w R ao c ws s.1 s.2) (hp : s.2 = false → 1 ≤ s.1) :
    Calls Tryz.prog 212 #[.pointer (some ⟨R, 0, none⟩)] w (TookL6 (.tuple #[]) R ao c ws (badS s).1 (badS s).2 w) := by
  obtain ⟨p, f⟩ := s
  cases f with
  | true => simpa [badS] using l06Bad_fail w h
  | false =>
    have h1 := hp rfl
    obtain ⟨q, rfl⟩ : ∃ q, p = q + 1 := ⟨p - 1, by simp at h1; omega⟩
    simpa [badS] using l06Bad_yes w h
theorem intS_any (slot : Bool) (s : Nat × Bool) (w : World) (hw : Wds ws) (h : Lrd w R ao c ws s.1 s.2) :
    Calls Tryz.prog 213 #[.pointer (some ⟨R, 0, none⟩), .bool slot] w (TookL6 (.tuple #[.int .i64 (intS slot ws s).1.1, .bool (intS slot ws s).1.2]) R ao c ws (intS slot ws s).2.1 (intS slot ws s).2.2 w) := by
  obtain ⟨p, f⟩ := s
  cases f with
  | true => simpa [intS] using l06Int_fail slot w h
  | false =>
    have H := l06Int_any slot w hw h
    cases hx : intQ slot ws p with
    | none => rw [hx] at H; simp only [intS, hx]; exact H
    | some x => rw [hx] at H; simp only [intS, hx]; exact H
theorem Lrd.belowB {w w' : World} {B p : Nat} {f : Bool} (h : Lrd w R ao c ws p f) (hR : R < B) (hB : ∀ a, ao = some a → ws ≠ [] → a.block < B) (hb : Below B w w') : Lrd w' R ao c ws p f := by
  obtain ⟨hh, hr, hp, hne, h2⟩ := h
  refine ⟨(hb.block R hR).trans hh, ?_, hp, hne, h2⟩
  rcases hr with rfl | ⟨b1, off, rfl, hc⟩
  · exact .inl rfl
  · by_cases hl : ws = []
    · exact .inl hl
    · exact .inr ⟨b1, off, rfl, fun i hi => (hb.cell (p := ⟨b1, off + i, none⟩) (hB ⟨b1, off, none⟩ rfl hl)).trans (hc i hi)⟩
theorem Lrd.words {w : World} {p : Nat} {f : Bool} (h : Lrd w R ao c ws p f) : ∀ a, ao = some a → ws ≠ [] → a.block < w.heap.size := by
  obtain ⟨hh, hr, _⟩ := h
  intro a ha hne
  rcases hr with rfl | ⟨b1, off, rfl, hc⟩
  · exact absurd rfl hne
  · cases ha
    have hpos : 0 < ws.length := Nat.pos_of_ne_zero (fun e => hne (List.eq_nil_of_length_eq_zero e))
    exact World.block_lt_of_cell? w ⟨b1, off + 0, none⟩ (hc 0 hpos)
end
/-- The model's node under way: the reader in R, the answer's block A, the node's block B; nothing else of what was there has turned. -/
structure NI (w : World) (R : Nat) (ao : Option Addr) (c : Nat) (ws : List ByteArray) (B : Nat) (v0 v1 v2 v3 v4 v5 v6 : Value) (s : Nat × Bool) (W : World) : Prop where
  lrd : Lrd W R ao c ws s.1 s.2
  ra : W.heap[w.heap.size]? = some (.cells #[.int .i64 0, .string ⟨#[]⟩, .int .i64 0, .int .i64 0, .int .i64 0, .bool false, .slice none 0 0] 92 (0, 0))
  rb : W.heap[B]? = some (.cells #[v0, v1, v2, v3, v4, v5, v6] 92 (0, 0))
  gr : w.grownBy W (some R)
  hR : R < w.heap.size
  hw : ∀ a, ao = some a → ws ≠ [] → a.block < w.heap.size
  hB : w.heap.size < B
section
variable {w W W' : World} {R c B : Nat} {ao : Option Addr} {ws : List ByteArray} {v0 v1 v2 v3 v4 v5 v6 : Value} {s s' : Nat × Bool}
theorem NI.call (h : NI w R ao c ws B v0 v1 v2 v3 v4 v5 v6 s W) (hl : Lrd W' R ao c ws s'.1 s'.2) (hg : W.grownBy W' (some R)) : NI w R ao c ws B v0 v1 v2 v3 v4 v5 v6 s' W' :=
  ⟨hl, (hg.block _ (Array.getElem?_eq_some_iff.1 h.ra).1 (by simp; have := h.hR; omega)).trans h.ra, (hg.block _ (Array.getElem?_eq_some_iff.1 h.rb).1 (by simp; have := h.hR; have := h.hB; omega)).trans h.rb, grownBy_trans h.gr hg, h.hR, h.hw, h.hB⟩
theorem NI.below (h : NI w R ao c ws B v0 v1 v2 v3 v4 v5 v6 s W) (hb : Below W.heap.size W W') : NI w R ao c ws B v0 v1 v2 v3 v4 v5 v6 s W' :=
  ⟨h.lrd.below hb, (hb.block _ (Array.getElem?_eq_some_iff.1 h.ra).1).trans h.ra, (hb.block _ (Array.getElem?_eq_some_iff.1 h.rb).1).trans h.rb, grownBy_below h.gr hb, h.hR, h.hw, h.hB⟩
theorem NI.lt (h : NI w R ao c ws B v0 v1 v2 v3 v4 v5 v6 s W) : B < W.heap.size ∧ w.heap.size < B ∧ R < w.heap.size := ⟨(Array.getElem?_eq_some_iff.1 h.rb).1, h.hB, h.hR⟩
theorem NI.set (h : NI w R ao c ws B v0 v1 v2 v3 v4 v5 v6 s W) (i : Nat) (v : Value) {u0 u1 u2 u3 u4 u5 u6 : Value} (he : (#[v0, v1, v2, v3, v4, v5, v6] : Array Value).setIfInBounds i v = #[u0, u1, u2, u3, u4, u5, u6]) : NI w R ao c ws B u0 u1 u2 u3 u4 u5 u6 s (W.setCell ⟨B, i, none⟩ v) := by
  have hb : Below w.heap.size W (W.setCell ⟨B, i, none⟩ v) := (Below.refl _ W).setCell (by have := h.hB; simp; omega) v
  have h1 := h.hB
  refine ⟨h.lrd.belowB h.hR h.hw hb, ?_, ?_, ⟨hb.os.trans h.gr.os, hb.tape.trans h.gr.tape, hb.output.trans h.gr.output, Nat.le_trans h.gr.size hb.size, fun i hi hne => (hb.block i hi).trans (h.gr.block i hi hne)⟩, h.hR, h.hw, h.hB⟩
  · rw [heap_setCell_other _ _ _ _ (by simp; omega)]; exact h.ra
  · rw [heap_setCell_same W B i _ _ v h.rb, he]
end
end Go.Proofs.YtfpbhedophlnkaaGreatDoor
namespace Go.Proofs.YtfpbhedophlnkaaGreatDoor
open Go.RowKit
set_option linter.unusedSimpArgs false
set_option linter.unusedVariables false

def NodeS (x : Nd) (s : Nat × Bool) (R : Nat) (ao : Option Addr) (c : Nat) (ws : List ByteArray) (w : World) (e : Ending) (w' : World) : Prop :=
  ∃ a cc, e = .returned (.agg #[.int .i64 x.kind, .string x.name, .int .i64 x.col, .int .i64 x.op, .int .i64 x.num, .bool x.slot, .slice a x.cols.length cc]) ∧ Own w' w.heap.size 3 .i64 a cc x.cols ∧ Lrd w' R ao c ws s.1 s.2 ∧ w.grownBy w' (some R)
/-- The seven cells of a block. -/
theorem sd7 {w : World} {X : Nat} {T : TypeId} {v0 v1 v2 v3 v4 v5 v6 : Value} (h : w.heap[X]? = some (.cells #[v0, v1, v2, v3, v4, v5, v6] T (0, 0))) :
    (w.cell? ⟨X, 0, none⟩ = some v0 ∧ w.cell? ⟨X, 1, none⟩ = some v1 ∧ w.cell? ⟨X, 2, none⟩ = some v2 ∧ w.cell? ⟨X, 3, none⟩ = some v3 ∧ w.cell? ⟨X, 4, none⟩ = some v4 ∧ w.cell? ⟨X, 5, none⟩ = some v5 ∧ w.cell? ⟨X, 6, none⟩ = some v6) ∧ ∀ o, w.frozen? ⟨X, o, none⟩ = false :=
  ⟨⟨cell_of_row w X 0 _ _ _ h, cell_of_row w X 1 _ _ _ h, cell_of_row w X 2 _ _ _ h, cell_of_row w X 3 _ _ _ h, cell_of_row w X 4 _ _ _ h, cell_of_row w X 5 _ _ _ h, cell_of_row w X 6 _ _ _ h⟩, fun o => by simp [World.frozen?, h]⟩
theorem rdS_verbs {w : World} {g : Nat} (hg : g = w.heap.size) : RdS (w.alloc (.cells #[.string ⟨#[115, 99, 97, 110]⟩, .string ⟨#[102, 105, 108, 116, 101, 114]⟩, .string ⟨#[107, 101, 101, 112]⟩, .string ⟨#[106, 111, 105, 110]⟩, .string ⟨#[98, 111, 116, 104]⟩, .string ⟨#[115, 111, 114, 116]⟩, .string ⟨#[108, 105, 109, 105, 116]⟩, .string ⟨#[111, 110, 99, 101]⟩] 9)) (some ⟨g, 0, none⟩) verbsB := by
  subst hg
  refine .inr ⟨w.heap.size, 0, rfl, fun i hi => ?_⟩
  have hc := fun o => cell_of_row (w.alloc (.cells #[.string ⟨#[115, 99, 97, 110]⟩, .string ⟨#[102, 105, 108, 116, 101, 114]⟩, .string ⟨#[107, 101, 101, 112]⟩, .string ⟨#[106, 111, 105, 110]⟩, .string ⟨#[98, 111, 116, 104]⟩, .string ⟨#[115, 111, 114, 116]⟩, .string ⟨#[108, 105, 109, 105, 116]⟩, .string ⟨#[111, 110, 99, 101]⟩] 9)) w.heap.size o _ _ _ (heap_alloc_new w _)
  rw [Nat.zero_add, hc]
  have hi' : i < 8 := hi
  have hk : i = 0 ∨ i = 1 ∨ i = 2 ∨ i = 3 ∨ i = 4 ∨ i = 5 ∨ i = 6 ∨ i = 7 := by omega
  rcases hk with rfl | rfl | rfl | rfl | rfl | rfl | rfl | rfl <;> rfl
/-- Where the node's block has been made. -/
theorem ni_new {w W : World} {R c : Nat} {ao : Option Addr} {ws : List ByteArray} {s : Nat × Bool} {v : Value} (hl : Lrd W R ao c ws s.1 s.2) (hg : (w.alloc (.cells #[.int .i64 0, .string ⟨#[]⟩, .int .i64 0, .int .i64 0, .int .i64 0, .bool false, .slice none 0 0] 92)).grownBy W (some R)) (hR : R < w.heap.size) (hw : ∀ a, ao = some a → ws ≠ [] → a.block < w.heap.size) :
    NI w R ao c ws W.heap.size v (.string ⟨#[]⟩) (.int .i64 0) (.int .i64 0) (.int .i64 0) (.bool false) (.slice none 0 0) s (W.alloc (.cells #[v, .string ⟨#[]⟩, .int .i64 0, .int .i64 0, .int .i64 0, .bool false, .slice none 0 0] 92)) := by
  have hz := hg.size
  simp at hz
  have ha : W.heap[w.heap.size]? = some (.cells #[.int .i64 0, .string ⟨#[]⟩, .int .i64 0, .int .i64 0, .int .i64 0, .bool false, .slice none 0 0] 92 (0, 0)) := (hg.block w.heap.size (by simp) (by simp; omega)).trans (heap_alloc_new w _)
  refine ⟨hl.below ((Below.refl _ W).alloc (Nat.le_refl _) _), ?_, heap_alloc_new W _, grownBy_trans (grownBy_trans (World.grownBy_alloc w _ _) hg) (World.grownBy_alloc _ _ _), hR, hw, by omega⟩
  rw [Below.heap_alloc _ _ _ (by omega)]; exact ha

theorem rdS_grown {w w' : World} {g R : Nat} {l : List ByteArray} (h : RdS w (some ⟨g, 0, none⟩) l) (hg : w.grownBy w' (some R)) (hne : g ≠ R) : RdS w' (some ⟨g, 0, none⟩) l := by
  rcases h with h | ⟨b, off, hb, hc⟩
  · exact .inl h
  · cases hb
    refine .inr ⟨g, 0, rfl, fun i hi => ?_⟩
    have hc' := hc i hi
    have hlt := World.block_lt_of_cell? w ⟨g, 0 + i, none⟩ hc'
    rw [World.cell?_of_block (w := w) (hg.block g hlt (by simp; exact hne))]
    exact hc'
theorem findVerb_any (g : Nat) (w : World) (h : RdS w (some ⟨g, 0, none⟩) verbsB) (s : ByteArray) :
    Calls Tryz.prog 210 #[.slice (some ⟨g, 0, none⟩) 8 8, .string s] w fun e w' => e = .returned (.int .i64 (findB verbsB s)) ∧ w = w' := findL_any _ 8 verbsB s w h (by decide)
def NodeR (r : Nat ⊕ (Nd × Nat)) (R : Nat) (ao : Option Addr) (c : Nat) (ws : List ByteArray) (w : World) (e : Ending) (w' : World) : Prop :=
  match r with
  | .inl q => ∃ x, NodeS x (q, true) R ao c ws w e w'
  | .inr x => NodeS x.1 (x.2, false) R ao c ws w e w'
theorem ni_fin {w W W' : World} {R c B : Nat} {ao : Option Addr} {ws : List ByteArray} {v0 v1 v2 v3 v4 v5 v6 : Value} {s : Nat × Bool} (h : NI w R ao c ws B v0 v1 v2 v3 v4 v5 v6 s W) (hb : Below w.heap.size W W') : Lrd W' R ao c ws s.1 s.2 ∧ w.grownBy W' (some R) :=
  ⟨h.lrd.belowB h.hR h.hw hb, hb.os.trans h.gr.os, hb.tape.trans h.gr.tape, hb.output.trans h.gr.output, Nat.le_trans h.gr.size hb.size, fun i hi hne => (hb.block i hi).trans (h.gr.block i hi hne)⟩
theorem badS_two (s : Nat × Bool) : (badS s).2 = true := by unfold badS; split <;> simp_all
theorem wordS_size {ws : List ByteArray} (hw : Wds ws) (s : Nat × Bool) : (wordS ws s).1.size ≤ 2000 := by
  unfold wordS
  split
  · exact Nat.zero_le _
  · split
    · exact Nat.zero_le _
    · rename_i x hx
      exact (hw _ (List.mem_of_getElem? hx)).2
theorem wordS_pos (ws : List ByteArray) (s : Nat × Bool) : (wordS ws s).2.2 = false → 1 ≤ (wordS ws s).2.1 := by
  intro h
  unfold wordS at h ⊢
  split
  · rename_i h2; rw [if_pos h2] at h; rw [h2] at h; cases h
  · rename_i h2
    rw [if_neg h2] at h
    split
    · rename_i hx; rw [hx] at h; cases h
    · simp
theorem intS_pos (slot : Bool) (ws : List ByteArray) (s : Nat × Bool) : (intS slot ws s).2.2 = false → 1 ≤ (intS slot ws s).2.1 := by
  intro h
  unfold intS at h ⊢
  split
  · rename_i h2; rw [if_pos h2] at h; simp at h; rw [h2] at h; cases h
  · rename_i h2
    rw [if_neg h2] at h
    split
    · rename_i hx; rw [hx] at h; cases h
    · simp
theorem restW0 (ws : List ByteArray) (q : Nat) : (wordB (wordS ws (q, false)).1.data.toList = true → restQ ws 0 q = .inr (⟨0, (wordS ws (q, false)).1, 0, 0, 0, false, []⟩, (wordS ws (q, false)).2.1) ∧ (wordS ws (q, false)).2.2 = false) ∧
    (wordB (wordS ws (q, false)).1.data.toList = false → restQ ws 0 q = .inl (badS (wordS ws (q, false)).2).1) := by
  unfold restQ wordS badS
  cases hx : ws[q]? with
  | none =>
    refine ⟨fun h => ?_, fun _ => by simp⟩
    exact absurd h (show ¬ wordB (⟨#[]⟩ : ByteArray).data.toList = true by decide)
  | some x =>
    refine ⟨fun h => ?_, fun h => ?_⟩
    · simp at h ⊢; simp [h]
    · simp at h ⊢; simp [h]
theorem restW4 (ws : List ByteArray) (q : Nat) : restQ ws 4 q = .inr (⟨4, emptyB, 0, 0, 0, false, []⟩, q) := by unfold restQ; simp only [Int.reduceEq, if_false]
theorem restW7 (ws : List ByteArray) (q : Nat) : restQ ws 7 q = .inr (⟨7, emptyB, 0, 0, 0, false, []⟩, q) := by unfold restQ; simp only [Int.reduceEq, if_false]
theorem restW5 (ws : List ByteArray) (q : Nat) : restQ ws 5 q = if (intS false ws (q, false)).2.2 = true then .inl (intS false ws (q, false)).2.1 else .inr (⟨5, emptyB, (intS false ws (q, false)).1.1, 0, 0, false, []⟩, (intS false ws (q, false)).2.1) := by
  unfold restQ intS; cases hx : intQ false ws q <;> simp [hx]
theorem restW6 (ws : List ByteArray) (q : Nat) : restQ ws 6 q = if (intS true ws (q, false)).2.2 = true then .inl (intS true ws (q, false)).2.1 else .inr (⟨6, emptyB, 0, 0, (intS true ws (q, false)).1.1, (intS true ws (q, false)).1.2, []⟩, (intS true ws (q, false)).2.1) := by
  unfold restQ intS; cases hx : intQ true ws q <;> simp [hx]
theorem restW3 (ws : List ByteArray) (q : Nat) : restQ ws 3 q = if (intS false ws (intS false ws (q, false)).2).2.2 = true then .inl (intS false ws (intS false ws (q, false)).2).2.1 else .inr (⟨3, emptyB, (intS false ws (q, false)).1.1, 0, (intS false ws (intS false ws (q, false)).2).1.1, false, []⟩, (intS false ws (intS false ws (q, false)).2).2.1) := by
  unfold restQ
  cases hx : intQ false ws q with
  | none => simp [intS, hx]
  | some x =>
    cases hy : intQ false ws (q + 1) <;> simp [intS, hx, hy]
theorem nodeR_no {r : Nat ⊕ (Nd × Nat)} {x : Nd} {s : Nat × Bool} {R c : Nat} {ao : Option Addr} {ws : List ByteArray} {w w' : World} {e : Ending} (hr : r = .inl s.1) (hs : s.2 = true) (h : NodeS x s R ao c ws w e w') : NodeR r R ao c ws w e w' := by
  subst hr; obtain ⟨p, f⟩ := s; simp only at hs; subst hs; exact ⟨x, h⟩
theorem nodeR_yes {r : Nat ⊕ (Nd × Nat)} {x : Nd} {s : Nat × Bool} {R c : Nat} {ao : Option Addr} {ws : List ByteArray} {w w' : World} {e : Ending} (hr : r = .inr (x, s.1)) (hs : s.2 = false) (h : NodeS x s R ao c ws w e w') : NodeR r R ao c ws w e w' := by
  subst hr; obtain ⟨p, f⟩ := s; simp only at hs; subst hs; exact h
theorem nodeR_if {r : Nat ⊕ (Nd × Nat)} {x : Nd} {s : Nat × Bool} {R c : Nat} {ao : Option Addr} {ws : List ByteArray} {w w' : World} {e : Ending} (hr : r = if s.2 = true then .inl s.1 else .inr (x, s.1)) (h : NodeS x s R ao c ws w e w') : NodeR r R ao c ws w e w' := by
  by_cases hs : s.2 = true
  · exact nodeR_no (by rw [hr, if_pos hs]) hs h
  · exact nodeR_yes (by rw [hr, if_neg hs]) (by simpa using hs) h

set_option maxRecDepth 100000 in
set_option maxHeartbeats 3200000 in
theorem specNode4 {R c p : Nat} {ao : Option Addr} {ws : List ByteArray} (w : World) (hw : Wds ws) (h : Lrd w R ao c ws p false) (hx : ws[p]? = some ⟨#[98, 111, 116, 104]⟩) :
    Calls Tryz.prog 139 #[.pointer (some ⟨R, 0, none⟩)] w (NodeR (restQ ws 4 (p + 1)) R ao c ws w) := by
  have HR := h.lt
  have HWD := Lib.hid h.words
  have HN := Lib.hid hw
  have Y1 := Lib.hid (fun W (hb : Below w.heap.size w W) => l06Word_yes W (h.belowB HR HWD.out hb) hx)
  have FB := Lib.hid (show findB verbsB ⟨#[98, 111, 116, 104]⟩ = 4 by decide)
  have BA := Lib.hid ((Below.refl w.heap.size w).alloc (Nat.le_refl _) (.cells #[.int .i64 0, .string ⟨#[]⟩, .int .i64 0, .int .i64 0, .int .i64 0, .bool false, .slice none 0 0] 92))
  clear h hw hx
  go_enter Tryz.func139, Tryz.ntmps139
  go_wp2_with fail
  refine (verbs_any _).mono ?_
  rintro e w1 ⟨rfl, rfl⟩
  have RV := Lib.hid (rdS_verbs (w := w.alloc (.cells #[.int .i64 0, .string ⟨#[]⟩, .int .i64 0, .int .i64 0, .int .i64 0, .bool false, .slice none 0 0] 92)) (g := w.heap.size + 1) (by simp))
  have BV := Lib.hid (BA.out.alloc (by simp) (.cells #[.string ⟨#[115, 99, 97, 110]⟩, .string ⟨#[102, 105, 108, 116, 101, 114]⟩, .string ⟨#[107, 101, 101, 112]⟩, .string ⟨#[106, 111, 105, 110]⟩, .string ⟨#[98, 111, 116, 104]⟩, .string ⟨#[115, 111, 114, 116]⟩, .string ⟨#[108, 105, 109, 105, 116]⟩, .string ⟨#[111, 110, 99, 101]⟩] 9))
  go_wp2_with fail
  refine (Y1.out _ BV.out).mono ?_
  rintro e w2 ⟨rfl, h2, g2⟩
  have RV2 := Lib.hid (findVerb_any _ w2 (rdS_grown RV.out g2 (by omega)) ⟨#[98, 111, 116, 104]⟩)
  rw [FB.out] at RV2
  have N0 := Lib.hid (ni_new (w := w) (s := (p + 1, false)) (v := .int .i64 4) h2 (grownBy_trans (World.grownBy_alloc _ _ _) g2) HR HWD.out)
  clear h2 g2
  go_wp2_with fail
  refine RV2.out.mono ?_
  rintro e w3 ⟨rfl, rfl⟩
  have r0 : ¬ (w2.heap.size = w.heap.size) := by have := N0.out.hB; omega
  have r0' : ¬ (w.heap.size = w2.heap.size) := fun e => r0 e.symm
  have r1 : w.heap.size ≤ w2.heap.size := Nat.le_of_lt N0.out.hB
  obtain ⟨⟨a0, a1, a2, a3, a4, a5, a6⟩, af⟩ := sd7 N0.out.ra
  obtain ⟨⟨b0, b1, b2, b3, b4, b5, b6⟩, bf⟩ := sd7 N0.out.rb
  clear Y1 FB BA RV BV RV2
  go_wp2_with fail
  refine bodyPost_ret (v := .agg #[.int .i64 4, .string ⟨#[]⟩, .int .i64 0, .int .i64 0, .int .i64 0, .bool false, .slice none 0 0]) (by simp [results, Tryz.results139, go_sem, a0, a1, a2, a3, a4, a5, a6]) rfl (nodeR_yes (x := ⟨4, emptyB, 0, 0, 0, false, []⟩) (s := (p + 1, false)) (restW4 ws (p + 1)) rfl ⟨none, 0, rfl, Own.none_, (ni_fin N0.out ?_).1, (ni_fin N0.out ?_).2⟩)
  all_goals
    repeat (refine Below.setCell ?_ (by first | exact Nat.le_refl _ | exact r1) _)
    exact Below.refl _ _

set_option maxRecDepth 100000 in
set_option maxHeartbeats 3200000 in
theorem specNode7 {R c p : Nat} {ao : Option Addr} {ws : List ByteArray} (w : World) (hw : Wds ws) (h : Lrd w R ao c ws p false) (hx : ws[p]? = some ⟨#[111, 110, 99, 101]⟩) :
    Calls Tryz.prog 139 #[.pointer (some ⟨R, 0, none⟩)] w (NodeR (restQ ws 7 (p + 1)) R ao c ws w) := by
  have HR := h.lt
  have HWD := Lib.hid h.words
  have HN := Lib.hid hw
  have Y1 := Lib.hid (fun W (hb : Below w.heap.size w W) => l06Word_yes W (h.belowB HR HWD.out hb) hx)
  have FB := Lib.hid (show findB verbsB ⟨#[111, 110, 99, 101]⟩ = 7 by decide)
  have BA := Lib.hid ((Below.refl w.heap.size w).alloc (Nat.le_refl _) (.cells #[.int .i64 0, .string ⟨#[]⟩, .int .i64 0, .int .i64 0, .int .i64 0, .bool false, .slice none 0 0] 92))
  clear h hw hx
  go_enter Tryz.func139, Tryz.ntmps139
  go_wp2_with fail
  refine (verbs_any _).mono ?_
  rintro e w1 ⟨rfl, rfl⟩
  have RV := Lib.hid (rdS_verbs (w := w.alloc (.cells #[.int .i64 0, .string ⟨#[]⟩, .int .i64 0, .int .i64 0, .int .i64 0, .bool false, .slice none 0 0] 92)) (g := w.heap.size + 1) (by simp))
  have BV := Lib.hid (BA.out.alloc (by simp) (.cells #[.string ⟨#[115, 99, 97, 110]⟩, .string ⟨#[102, 105, 108, 116, 101, 114]⟩, .string ⟨#[107, 101, 101, 112]⟩, .string ⟨#[106, 111, 105, 110]⟩, .string ⟨#[98, 111, 116, 104]⟩, .string ⟨#[115, 111, 114, 116]⟩, .string ⟨#[108, 105, 109, 105, 116]⟩, .string ⟨#[111, 110, 99, 101]⟩] 9))
  go_wp2_with fail
  refine (Y1.out _ BV.out).mono ?_
  rintro e w2 ⟨rfl, h2, g2⟩
  have RV2 := Lib.hid (findVerb_any _ w2 (rdS_grown RV.out g2 (by omega)) ⟨#[111, 110, 99, 101]⟩)
  rw [FB.out] at RV2
  have N0 := Lib.hid (ni_new (w := w) (s := (p + 1, false)) (v := .int .i64 7) h2 (grownBy_trans (World.grownBy_alloc _ _ _) g2) HR HWD.out)
  clear h2 g2
  go_wp2_with fail
  refine RV2.out.mono ?_
  rintro e w3 ⟨rfl, rfl⟩
  have r0 : ¬ (w2.heap.size = w.heap.size) := by have := N0.out.hB; omega
  have r0' : ¬ (w.heap.size = w2.heap.size) := fun e => r0 e.symm
  have r1 : w.heap.size ≤ w2.heap.size := Nat.le_of_lt N0.out.hB
  obtain ⟨⟨a0, a1, a2, a3, a4, a5, a6⟩, af⟩ := sd7 N0.out.ra
  obtain ⟨⟨b0, b1, b2, b3, b4, b5, b6⟩, bf⟩ := sd7 N0.out.rb
  clear Y1 FB BA RV BV RV2
  go_wp2_with fail
  refine bodyPost_ret (v := .agg #[.int .i64 7, .string ⟨#[]⟩, .int .i64 0, .int .i64 0, .int .i64 0, .bool false, .slice none 0 0]) (by simp [results, Tryz.results139, go_sem, a0, a1, a2, a3, a4, a5, a6]) rfl (nodeR_yes (x := ⟨7, emptyB, 0, 0, 0, false, []⟩) (s := (p + 1, false)) (restW7 ws (p + 1)) rfl ⟨none, 0, rfl, Own.none_, (ni_fin N0.out ?_).1, (ni_fin N0.out ?_).2⟩)
  all_goals
    repeat (refine Below.setCell ?_ (by first | exact Nat.le_refl _ | exact r1) _)
    exact Below.refl _ _

set_option maxRecDepth 100000 in
set_option maxHeartbeats 3200000 in
theorem specNode5 {R c p : Nat} {ao : Option Addr} {ws : List ByteArray} (w : World) (hw : Wds ws) (h : Lrd w R ao c ws p false) (hx : ws[p]? = some ⟨#[115, 111, 114, 116]⟩) :
    Calls Tryz.prog 139 #[.pointer (some ⟨R, 0, none⟩)] w (NodeR (restQ ws 5 (p + 1)) R ao c ws w) := by
  have HR := h.lt
  have HWD := Lib.hid h.words
  have HN := Lib.hid hw
  have Y1 := Lib.hid (fun W (hb : Below w.heap.size w W) => l06Word_yes W (h.belowB HR HWD.out hb) hx)
  have FB := Lib.hid (show findB verbsB ⟨#[115, 111, 114, 116]⟩ = 5 by decide)
  have BA := Lib.hid ((Below.refl w.heap.size w).alloc (Nat.le_refl _) (.cells #[.int .i64 0, .string ⟨#[]⟩, .int .i64 0, .int .i64 0, .int .i64 0, .bool false, .slice none 0 0] 92))
  clear h hw hx
  obtain ⟨⟨⟨yx, ym⟩, ys⟩, yh⟩ : ∃ y, y = intS false ws (p + 1, false) := ⟨_, rfl⟩
  have Iy := Lib.hid (fun W (h : Lrd W R ao c ws (p + 1) false) => intS_any false (p + 1, false) W HN.out h)
  have K := Lib.hid (restW5 ws (p + 1))
  rw [← yh] at K Iy
  clear yh
  go_enter Tryz.func139, Tryz.ntmps139
  go_wp2_with fail
  refine (verbs_any _).mono ?_
  rintro e w1 ⟨rfl, rfl⟩
  have RV := Lib.hid (rdS_verbs (w := w.alloc (.cells #[.int .i64 0, .string ⟨#[]⟩, .int .i64 0, .int .i64 0, .int .i64 0, .bool false, .slice none 0 0] 92)) (g := w.heap.size + 1) (by simp))
  have BV := Lib.hid (BA.out.alloc (by simp) (.cells #[.string ⟨#[115, 99, 97, 110]⟩, .string ⟨#[102, 105, 108, 116, 101, 114]⟩, .string ⟨#[107, 101, 101, 112]⟩, .string ⟨#[106, 111, 105, 110]⟩, .string ⟨#[98, 111, 116, 104]⟩, .string ⟨#[115, 111, 114, 116]⟩, .string ⟨#[108, 105, 109, 105, 116]⟩, .string ⟨#[111, 110, 99, 101]⟩] 9))
  go_wp2_with fail
  refine (Y1.out _ BV.out).mono ?_
  rintro e w2 ⟨rfl, h2, g2⟩
  have RV2 := Lib.hid (findVerb_any _ w2 (rdS_grown RV.out g2 (by omega)) ⟨#[115, 111, 114, 116]⟩)
  rw [FB.out] at RV2
  have N0 := Lib.hid (ni_new (w := w) (s := (p + 1, false)) (v := .int .i64 5) h2 (grownBy_trans (World.grownBy_alloc _ _ _) g2) HR HWD.out)
  clear h2 g2
  go_wp2_with fail
  refine RV2.out.mono ?_
  rintro e w3 ⟨rfl, rfl⟩
  have r0 : ¬ (w2.heap.size = w.heap.size) := by have := N0.out.hB; omega
  have r0' : ¬ (w.heap.size = w2.heap.size) := fun e => r0 e.symm
  have r1 : w.heap.size ≤ w2.heap.size := Nat.le_of_lt N0.out.hB
  obtain ⟨⟨a0, a1, a2, a3, a4, a5, a6⟩, af⟩ := sd7 N0.out.ra
  obtain ⟨⟨b0, b1, b2, b3, b4, b5, b6⟩, bf⟩ := sd7 N0.out.rb
  clear Y1 FB BA RV BV RV2
  go_wp2_with fail
  refine (Iy.out _ N0.out.lrd).mono ?_
  rintro e w4 ⟨rfl, h4, g4⟩
  have M1 := Lib.hid (N0.out.call h4 g4)
  clear a0 a1 a2 a3 a4 a5 a6 b0 b1 b2 b3 b4 b5 b6 af bf h4 g4
  obtain ⟨⟨a0, a1, a2, a3, a4, a5, a6⟩, af⟩ := sd7 M1.out.ra
  obtain ⟨⟨b0, b1, b2, b3, b4, b5, b6⟩, bf⟩ := sd7 M1.out.rb
  have N1 := Lib.hid (M1.out.set 2 (.int .i64 yx) rfl)
  go_wp2_with fail
  refine bodyPost_ret (v := .agg #[.int .i64 5, .string ⟨#[]⟩, .int .i64 yx, .int .i64 0, .int .i64 0, .bool false, .slice none 0 0]) (by simp [results, Tryz.results139, go_sem, a0, a1, a2, a3, a4, a5, a6]) rfl (nodeR_if (x := ⟨5, emptyB, yx, 0, 0, false, []⟩) (s := ys) K.out ⟨none, 0, rfl, Own.none_, (ni_fin M1.out ?_).1, (ni_fin M1.out ?_).2⟩)
  all_goals
    repeat (refine Below.setCell ?_ (by first | exact Nat.le_refl _ | exact r1) _)
    exact Below.refl _ _

set_option maxRecDepth 100000 in
set_option maxHeartbeats 3200000 in
theorem specNode6 {R c p : Nat} {ao : Option Addr} {ws : List ByteArray} (w : World) (hw : Wds ws) (h : Lrd w R ao c ws p false) (hx : ws[p]? = some ⟨#[108, 105, 109, 105, 116]⟩) :
    Calls Tryz.prog 139 #[.pointer (some ⟨R, 0, none⟩)] w (NodeR (restQ ws 6 (p + 1)) R ao c ws w) := by
  have HR := h.lt
  have HWD := Lib.hid h.words
  have HN := Lib.hid hw
  have Y1 := Lib.hid (fun W (hb : Below w.heap.size w W) => l06Word_yes W (h.belowB HR HWD.out hb) hx)
  have FB := Lib.hid (show findB verbsB ⟨#[108, 105, 109, 105, 116]⟩ = 6 by decide)
  have BA := Lib.hid ((Below.refl w.heap.size w).alloc (Nat.le_refl _) (.cells #[.int .i64 0, .string ⟨#[]⟩, .int .i64 0, .int .i64 0, .int .i64 0, .bool false, .slice none 0 0] 92))
  clear h hw hx
  obtain ⟨⟨⟨yx, ym⟩, ys⟩, yh⟩ : ∃ y, y = intS true ws (p + 1, false) := ⟨_, rfl⟩
  have Iy := Lib.hid (fun W (h : Lrd W R ao c ws (p + 1) false) => intS_any true (p + 1, false) W HN.out h)
  have K := Lib.hid (restW6 ws (p + 1))
  rw [← yh] at K Iy
  clear yh
  go_enter Tryz.func139, Tryz.ntmps139
  go_wp2_with fail
  refine (verbs_any _).mono ?_
  rintro e w1 ⟨rfl, rfl⟩
  have RV := Lib.hid (rdS_verbs (w := w.alloc (.cells #[.int .i64 0, .string ⟨#[]⟩, .int .i64 0, .int .i64 0, .int .i64 0, .bool false, .slice none 0 0] 92)) (g := w.heap.size + 1) (by simp))
  have BV := Lib.hid (BA.out.alloc (by simp) (.cells #[.string ⟨#[115, 99, 97, 110]⟩, .string ⟨#[102, 105, 108, 116, 101, 114]⟩, .string ⟨#[107, 101, 101, 112]⟩, .string ⟨#[106, 111, 105, 110]⟩, .string ⟨#[98, 111, 116, 104]⟩, .string ⟨#[115, 111, 114, 116]⟩, .string ⟨#[108, 105, 109, 105, 116]⟩, .string ⟨#[111, 110, 99, 101]⟩] 9))
  go_wp2_with fail
  refine (Y1.out _ BV.out).mono ?_
  rintro e w2 ⟨rfl, h2, g2⟩
  have RV2 := Lib.hid (findVerb_any _ w2 (rdS_grown RV.out g2 (by omega)) ⟨#[108, 105, 109, 105, 116]⟩)
  rw [FB.out] at RV2
  have N0 := Lib.hid (ni_new (w := w) (s := (p + 1, false)) (v := .int .i64 6) h2 (grownBy_trans (World.grownBy_alloc _ _ _) g2) HR HWD.out)
  clear h2 g2
  go_wp2_with fail
  refine RV2.out.mono ?_
  rintro e w3 ⟨rfl, rfl⟩
  have r0 : ¬ (w2.heap.size = w.heap.size) := by have := N0.out.hB; omega
  have r0' : ¬ (w.heap.size = w2.heap.size) := fun e => r0 e.symm
  have r1 : w.heap.size ≤ w2.heap.size := Nat.le_of_lt N0.out.hB
  obtain ⟨⟨a0, a1, a2, a3, a4, a5, a6⟩, af⟩ := sd7 N0.out.ra
  obtain ⟨⟨b0, b1, b2, b3, b4, b5, b6⟩, bf⟩ := sd7 N0.out.rb
  clear Y1 FB BA RV BV RV2
  go_wp2_with fail
  refine (Iy.out _ N0.out.lrd).mono ?_
  rintro e w4 ⟨rfl, h4, g4⟩
  have M1 := Lib.hid (N0.out.call h4 g4)
  clear a0 a1 a2 a3 a4 a5 a6 b0 b1 b2 b3 b4 b5 b6 af bf h4 g4
  obtain ⟨⟨a0, a1, a2, a3, a4, a5, a6⟩, af⟩ := sd7 M1.out.ra
  obtain ⟨⟨b0, b1, b2, b3, b4, b5, b6⟩, bf⟩ := sd7 M1.out.rb
  have M10 := Lib.hid (M1.out.set 4 (.int .i64 yx) rfl)
  have N1 := Lib.hid (M10.out.set 5 (.bool ym) rfl)
  go_wp2_with fail
  refine bodyPost_ret (v := .agg #[.int .i64 6, .string ⟨#[]⟩, .int .i64 0, .int .i64 0, .int .i64 yx, .bool ym, .slice none 0 0]) (by simp [results, Tryz.results139, go_sem, a0, a1, a2, a3, a4, a5, a6]) rfl (nodeR_if (x := ⟨6, emptyB, 0, 0, yx, ym, []⟩) (s := ys) K.out ⟨none, 0, rfl, Own.none_, (ni_fin M1.out ?_).1, (ni_fin M1.out ?_).2⟩)
  all_goals
    repeat (refine Below.setCell ?_ (by first | exact Nat.le_refl _ | exact r1) _)
    exact Below.refl _ _

set_option maxRecDepth 100000 in
set_option maxHeartbeats 3200000 in
theorem specNode3 {R c p : Nat} {ao : Option Addr} {ws : List ByteArray} (w : World) (hw : Wds ws) (h : Lrd w R ao c ws p false) (hx : ws[p]? = some ⟨#[106, 111, 105, 110]⟩) :
    Calls Tryz.prog 139 #[.pointer (some ⟨R, 0, none⟩)] w (NodeR (restQ ws 3 (p + 1)) R ao c ws w) := by
  have HR := h.lt
  have HWD := Lib.hid h.words
  have HN := Lib.hid hw
  have Y1 := Lib.hid (fun W (hb : Below w.heap.size w W) => l06Word_yes W (h.belowB HR HWD.out hb) hx)
  have FB := Lib.hid (show findB verbsB ⟨#[106, 111, 105, 110]⟩ = 3 by decide)
  have BA := Lib.hid ((Below.refl w.heap.size w).alloc (Nat.le_refl _) (.cells #[.int .i64 0, .string ⟨#[]⟩, .int .i64 0, .int .i64 0, .int .i64 0, .bool false, .slice none 0 0] 92))
  clear h hw hx
  obtain ⟨⟨⟨yx, ym⟩, ys⟩, yh⟩ : ∃ y, y = intS false ws (p + 1, false) := ⟨_, rfl⟩
  have Iy := Lib.hid (fun W (h : Lrd W R ao c ws (p + 1) false) => intS_any false (p + 1, false) W HN.out h)
  have K := Lib.hid (restW3 ws (p + 1))
  rw [← yh] at K Iy
  clear yh
  obtain ⟨⟨⟨zx, zm⟩, zs⟩, zh⟩ : ∃ y, y = intS false ws ys := ⟨_, rfl⟩
  have Iz := Lib.hid (fun W (h : Lrd W R ao c ws ys.1 ys.2) => intS_any false ys W HN.out h)
  rw [← zh] at K Iz
  clear zh
  go_enter Tryz.func139, Tryz.ntmps139
  go_wp2_with fail
  refine (verbs_any _).mono ?_
  rintro e w1 ⟨rfl, rfl⟩
  have RV := Lib.hid (rdS_verbs (w := w.alloc (.cells #[.int .i64 0, .string ⟨#[]⟩, .int .i64 0, .int .i64 0, .int .i64 0, .bool false, .slice none 0 0] 92)) (g := w.heap.size + 1) (by simp))
  have BV := Lib.hid (BA.out.alloc (by simp) (.cells #[.string ⟨#[115, 99, 97, 110]⟩, .string ⟨#[102, 105, 108, 116, 101, 114]⟩, .string ⟨#[107, 101, 101, 112]⟩, .string ⟨#[106, 111, 105, 110]⟩, .string ⟨#[98, 111, 116, 104]⟩, .string ⟨#[115, 111, 114, 116]⟩, .string ⟨#[108, 105, 109, 105, 116]⟩, .string ⟨#[111, 110, 99, 101]⟩] 9))
  go_wp2_with fail
  refine (Y1.out _ BV.out).mono ?_
  rintro e w2 ⟨rfl, h2, g2⟩
  have RV2 := Lib.hid (findVerb_any _ w2 (rdS_grown RV.out g2 (by omega)) ⟨#[106, 111, 105, 110]⟩)
  rw [FB.out] at RV2
  have N0 := Lib.hid (ni_new (w := w) (s := (p + 1, false)) (v := .int .i64 3) h2 (grownBy_trans (World.grownBy_alloc _ _ _) g2) HR HWD.out)
  clear h2 g2
  go_wp2_with fail
  refine RV2.out.mono ?_
  rintro e w3 ⟨rfl, rfl⟩
  have r0 : ¬ (w2.heap.size = w.heap.size) := by have := N0.out.hB; omega
  have r0' : ¬ (w.heap.size = w2.heap.size) := fun e => r0 e.symm
  have r1 : w.heap.size ≤ w2.heap.size := Nat.le_of_lt N0.out.hB
  obtain ⟨⟨a0, a1, a2, a3, a4, a5, a6⟩, af⟩ := sd7 N0.out.ra
  obtain ⟨⟨b0, b1, b2, b3, b4, b5, b6⟩, bf⟩ := sd7 N0.out.rb
  clear Y1 FB BA RV BV RV2
  go_wp2_with fail
  refine (Iy.out _ N0.out.lrd).mono ?_
  rintro e w4 ⟨rfl, h4, g4⟩
  have M1 := Lib.hid (N0.out.call h4 g4)
  clear a0 a1 a2 a3 a4 a5 a6 b0 b1 b2 b3 b4 b5 b6 af bf h4 g4
  obtain ⟨⟨a0, a1, a2, a3, a4, a5, a6⟩, af⟩ := sd7 M1.out.ra
  obtain ⟨⟨b0, b1, b2, b3, b4, b5, b6⟩, bf⟩ := sd7 M1.out.rb
  have N1 := Lib.hid (M1.out.set 2 (.int .i64 yx) rfl)
  go_wp2_with fail
  refine (Iz.out _ N1.out.lrd).mono ?_
  rintro e w5 ⟨rfl, h4, g4⟩
  have M2 := Lib.hid (N1.out.call h4 g4)
  clear a0 a1 a2 a3 a4 a5 a6 b0 b1 b2 b3 b4 b5 b6 af bf h4 g4
  obtain ⟨⟨a0, a1, a2, a3, a4, a5, a6⟩, af⟩ := sd7 M2.out.ra
  obtain ⟨⟨b0, b1, b2, b3, b4, b5, b6⟩, bf⟩ := sd7 M2.out.rb
  have N2 := Lib.hid (M2.out.set 4 (.int .i64 zx) rfl)
  go_wp2_with fail
  refine bodyPost_ret (v := .agg #[.int .i64 3, .string ⟨#[]⟩, .int .i64 yx, .int .i64 0, .int .i64 zx, .bool false, .slice none 0 0]) (by simp [results, Tryz.results139, go_sem, a0, a1, a2, a3, a4, a5, a6]) rfl (nodeR_if (x := ⟨3, emptyB, yx, 0, zx, false, []⟩) (s := zs) K.out ⟨none, 0, rfl, Own.none_, (ni_fin M2.out ?_).1, (ni_fin M2.out ?_).2⟩)
  all_goals
    repeat (refine Below.setCell ?_ (by first | exact Nat.le_refl _ | exact r1) _)
    exact Below.refl _ _

set_option maxRecDepth 100000 in
set_option maxHeartbeats 3200000 in
theorem specNode0 {R c p : Nat} {ao : Option Addr} {ws : List ByteArray} (w : World) (hw : Wds ws) (h : Lrd w R ao c ws p false) (hx : ws[p]? = some ⟨#[115, 99, 97, 110]⟩) :
    Calls Tryz.prog 139 #[.pointer (some ⟨R, 0, none⟩)] w (NodeR (restQ ws 0 (p + 1)) R ao c ws w) := by
  have HR := h.lt
  have HWD := Lib.hid h.words
  have HN := Lib.hid hw
  have Y1 := Lib.hid (fun W (hb : Below w.heap.size w W) => l06Word_yes W (h.belowB HR HWD.out hb) hx)
  have FB := Lib.hid (show findB verbsB ⟨#[115, 99, 97, 110]⟩ = 0 by decide)
  have BA := Lib.hid ((Below.refl w.heap.size w).alloc (Nat.le_refl _) (.cells #[.int .i64 0, .string ⟨#[]⟩, .int .i64 0, .int .i64 0, .int .i64 0, .bool false, .slice none 0 0] 92))
  clear h hw hx
  obtain ⟨⟨yx, ys⟩, yh⟩ : ∃ y, y = wordS ws (p + 1, false) := ⟨_, rfl⟩
  have Iy := Lib.hid (fun W (h : Lrd W R ao c ws (p + 1) false) => wordS_any (p + 1, false) W h)
  have YS := Lib.hid (wordS_size HN.out (p + 1, false))
  have YP := Lib.hid (wordS_pos ws (p + 1, false))
  have K := Lib.hid (restW0 ws (p + 1))
  rw [← yh] at K Iy YS YP
  have YW := Lib.hid (fun W => specWordOk_any yx W (by have := YS.out; simp only at this; unfold maxLen; omega))
  have IB := Lib.hid (fun W (h : Lrd W R ao c ws ys.1 ys.2) => badS_any ys W h YP.out)
  clear yh YS YP
  go_enter Tryz.func139, Tryz.ntmps139
  go_wp2_with fail
  refine (verbs_any _).mono ?_
  rintro e w1 ⟨rfl, rfl⟩
  have RV := Lib.hid (rdS_verbs (w := w.alloc (.cells #[.int .i64 0, .string ⟨#[]⟩, .int .i64 0, .int .i64 0, .int .i64 0, .bool false, .slice none 0 0] 92)) (g := w.heap.size + 1) (by simp))
  have BV := Lib.hid (BA.out.alloc (by simp) (.cells #[.string ⟨#[115, 99, 97, 110]⟩, .string ⟨#[102, 105, 108, 116, 101, 114]⟩, .string ⟨#[107, 101, 101, 112]⟩, .string ⟨#[106, 111, 105, 110]⟩, .string ⟨#[98, 111, 116, 104]⟩, .string ⟨#[115, 111, 114, 116]⟩, .string ⟨#[108, 105, 109, 105, 116]⟩, .string ⟨#[111, 110, 99, 101]⟩] 9))
  go_wp2_with fail
  refine (Y1.out _ BV.out).mono ?_
  rintro e w2 ⟨rfl, h2, g2⟩
  have RV2 := Lib.hid (findVerb_any _ w2 (rdS_grown RV.out g2 (by omega)) ⟨#[115, 99, 97, 110]⟩)
  rw [FB.out] at RV2
  have N0 := Lib.hid (ni_new (w := w) (s := (p + 1, false)) (v := .int .i64 0) h2 (grownBy_trans (World.grownBy_alloc _ _ _) g2) HR HWD.out)
  clear h2 g2
  go_wp2_with fail
  refine RV2.out.mono ?_
  rintro e w3 ⟨rfl, rfl⟩
  have r0 : ¬ (w2.heap.size = w.heap.size) := by have := N0.out.hB; omega
  have r0' : ¬ (w.heap.size = w2.heap.size) := fun e => r0 e.symm
  have r1 : w.heap.size ≤ w2.heap.size := Nat.le_of_lt N0.out.hB
  obtain ⟨⟨a0, a1, a2, a3, a4, a5, a6⟩, af⟩ := sd7 N0.out.ra
  obtain ⟨⟨b0, b1, b2, b3, b4, b5, b6⟩, bf⟩ := sd7 N0.out.rb
  clear Y1 FB BA RV BV RV2
  go_wp2_with fail
  refine (Iy.out _ N0.out.lrd).mono ?_
  rintro e w4 ⟨rfl, h4, g4⟩
  have M1 := Lib.hid (N0.out.call h4 g4)
  clear a0 a1 a2 a3 a4 a5 a6 b0 b1 b2 b3 b4 b5 b6 af bf h4 g4
  obtain ⟨⟨a0, a1, a2, a3, a4, a5, a6⟩, af⟩ := sd7 M1.out.ra
  obtain ⟨⟨b0, b1, b2, b3, b4, b5, b6⟩, bf⟩ := sd7 M1.out.rb
  have N1 := Lib.hid (M1.out.set 1 (.string yx) rfl)
  go_wp2_with fail
  refine (YW.out _).mono ?_
  rintro e w5 ⟨rfl, rfl⟩
  cases hb : wordB yx.data.toList with
  | true =>
    obtain ⟨K1, K2⟩ := K.out.1 hb
    have KK1 := Lib.hid K1; have KK2 := Lib.hid K2
    clear K1 K2 K
    go_wp2_with fail
    refine bodyPost_ret (v := .agg #[.int .i64 0, .string yx, .int .i64 0, .int .i64 0, .int .i64 0, .bool false, .slice none 0 0]) (by simp [results, Tryz.results139, go_sem, a0, a1, a2, a3, a4, a5, a6]) rfl (nodeR_yes (x := ⟨0, yx, 0, 0, 0, false, []⟩) (s := ys) KK1.out KK2.out ⟨none, 0, rfl, Own.none_, (ni_fin M1.out ?_).1, (ni_fin M1.out ?_).2⟩)
    all_goals
      repeat (refine Below.setCell ?_ (by first | exact Nat.le_refl _ | exact r1) _)
      exact Below.refl _ _
  | false =>
    have KK1 := Lib.hid (K.out.2 hb)
    clear K
    go_wp2_with fail
    refine (IB.out _ N1.out.lrd).mono ?_
    rintro e w6 ⟨rfl, h4, g4⟩
    have N2 := Lib.hid (N1.out.call h4 g4)
    clear a0 a1 a2 a3 a4 a5 a6 b0 b1 b2 b3 b4 b5 b6 af bf h4 g4
    obtain ⟨⟨a0, a1, a2, a3, a4, a5, a6⟩, af⟩ := sd7 N2.out.ra
    obtain ⟨⟨b0, b1, b2, b3, b4, b5, b6⟩, bf⟩ := sd7 N2.out.rb
    go_wp2_with fail
    refine bodyPost_ret (v := .agg #[.int .i64 0, .string yx, .int .i64 0, .int .i64 0, .int .i64 0, .bool false, .slice none 0 0]) (by simp [results, Tryz.results139, go_sem, a0, a1, a2, a3, a4, a5, a6]) rfl (nodeR_no (x := ⟨0, yx, 0, 0, 0, false, []⟩) (s := badS ys) KK1.out (badS_two _) ⟨none, 0, rfl, Own.none_, (ni_fin N2.out ?_).1, (ni_fin N2.out ?_).2⟩)
    all_goals
      repeat (refine Below.setCell ?_ (by first | exact Nat.le_refl _ | exact r1) _)
      exact Below.refl _ _
end Go.Proofs.YtfpbhedophlnkaaGreatDoor
namespace Go.Proofs.YtfpbhedophlnkaaGreatDoor
open Go.RowKit
set_option linter.unusedSimpArgs false
set_option linter.unusedVariables false

theorem rdS_ops {w : World} {g : Nat} (hg : g = w.heap.size) : RdS (w.alloc (.cells #[.string ⟨#[61]⟩, .string ⟨#[60]⟩, .string ⟨#[62]⟩, .string ⟨#[110, 111, 110, 101]⟩] 9)) (some ⟨g, 0, none⟩) opsB := by
  subst hg
  refine .inr ⟨w.heap.size, 0, rfl, fun i hi => ?_⟩
  have hc := fun o => cell_of_row (w.alloc (.cells #[.string ⟨#[61]⟩, .string ⟨#[60]⟩, .string ⟨#[62]⟩, .string ⟨#[110, 111, 110, 101]⟩] 9)) w.heap.size o _ _ _ (heap_alloc_new w _)
  rw [Nat.zero_add, hc]
  have hi' : i < 4 := hi
  have hk : i = 0 ∨ i = 1 ∨ i = 2 ∨ i = 3 := by omega
  rcases hk with rfl | rfl | rfl | rfl <;> rfl
theorem findOp_any (g : Nat) (w : World) (h : RdS w (some ⟨g, 0, none⟩) opsB) (s : ByteArray) :
    Calls Tryz.prog 210 #[.slice (some ⟨g, 0, none⟩) 4 4, .string s] w fun e w' => e = .returned (.int .i64 (findB opsB s)) ∧ w = w' := findL_any _ 4 opsB s w h (by decide)
theorem find_none : findB opsB ⟨#[]⟩ = -1 := by decide
theorem restW1 (ws : List ByteArray) (q : Nat) (y : (Int × Bool) × (Nat × Bool)) (o : ByteArray × (Nat × Bool)) (z : (Int × Bool) × (Nat × Bool)) (f : Int) (hy : y = intS false ws (q, false)) (ho : o = wordS ws y.2) (hz : z = intS true ws o.2) (hf : f = findB opsB o.1) :
    (f = -1 → restQ ws 1 q = .inl (badS o.2).1) ∧ (f ≠ -1 → o.2.2 = false) ∧ (f = 3 → restQ ws 1 q = .inr (⟨1, emptyB, y.1.1, 3, 0, false, []⟩, o.2.1)) ∧
    (f ≠ -1 → f ≠ 3 → restQ ws 1 q = if z.2.2 = true then .inl z.2.1 else .inr (⟨1, emptyB, y.1.1, f, z.1.1, z.1.2, []⟩, z.2.1)) := by
  subst hz hf ho hy
  unfold restQ
  cases hx : intQ false ws q with
  | none => simp [intS, hx, wordS, badS, find_none]
  | some x =>
    cases hw : ws[q + 1]? with
    | none => simp [intS, hx, wordS, hw, badS, find_none]
    | some u =>
      by_cases h1 : findB opsB u = -1
      · simp [intS, hx, wordS, hw, badS, h1]
      · by_cases h3 : findB opsB u = 3
        · simp [intS, hx, wordS, hw, badS, h3]
        · cases hv : intQ true ws (q + 2) <;> simp [intS, hx, wordS, hw, badS, h1, h3, hv]

set_option maxRecDepth 100000 in
set_option maxHeartbeats 3200000 in
theorem specNode1 {R c p : Nat} {ao : Option Addr} {ws : List ByteArray} (w : World) (hw : Wds ws) (h : Lrd w R ao c ws p false) (hx : ws[p]? = some ⟨#[102, 105, 108, 116, 101, 114]⟩) :
    Calls Tryz.prog 139 #[.pointer (some ⟨R, 0, none⟩)] w (NodeR (restQ ws 1 (p + 1)) R ao c ws w) := by
  have HR := h.lt
  have HWD := Lib.hid h.words
  have HN := Lib.hid hw
  have Y1 := Lib.hid (fun W (hb : Below w.heap.size w W) => l06Word_yes W (h.belowB HR HWD.out hb) hx)
  have FB := Lib.hid (show findB verbsB ⟨#[102, 105, 108, 116, 101, 114]⟩ = 1 by decide)
  have BA := Lib.hid ((Below.refl w.heap.size w).alloc (Nat.le_refl _) (.cells #[.int .i64 0, .string ⟨#[]⟩, .int .i64 0, .int .i64 0, .int .i64 0, .bool false, .slice none 0 0] 92))
  clear h hw hx
  obtain ⟨⟨⟨yx, ym⟩, ys⟩, yh⟩ : ∃ y, y = intS false ws (p + 1, false) := ⟨_, rfl⟩
  have Iy := Lib.hid (fun W (h : Lrd W R ao c ws (p + 1) false) => intS_any false (p + 1, false) W HN.out h)
  rw [← yh] at Iy
  obtain ⟨⟨ox, os⟩, oh⟩ : ∃ y, y = wordS ws ys := ⟨_, rfl⟩
  have Io := Lib.hid (fun W (h : Lrd W R ao c ws ys.1 ys.2) => wordS_any ys W h)
  have OP := Lib.hid (wordS_pos ws ys)
  rw [← oh] at Io OP
  obtain ⟨⟨⟨zx, zm⟩, zs⟩, zh⟩ : ∃ y, y = intS true ws os := ⟨_, rfl⟩
  have Iz := Lib.hid (fun W (h : Lrd W R ao c ws os.1 os.2) => intS_any true os W HN.out h)
  rw [← zh] at Iz
  obtain ⟨f, hf⟩ : ∃ f, f = findB opsB ox := ⟨_, rfl⟩
  have K := Lib.hid (restW1 ws (p + 1) ((yx, ym), ys) (ox, os) ((zx, zm), zs) f yh oh zh hf)
  have FO := Lib.hid (fun W g (h : RdS W (some ⟨g, 0, none⟩) opsB) => findOp_any g W h ox)
  have FD := findB_bd opsB ox
  rw [← hf] at FO FD
  simp only at K OP
  have FK : f = -1 ∨ f = 3 ∨ f = 0 ∨ f = 1 ∨ f = 2 := by
    have h4 : opsB.length = 4 := rfl
    rw [h4] at FD
    omega
  have IB := Lib.hid (fun W (h : Lrd W R ao c ws os.1 os.2) => badS_any os W h OP.out)
  clear yh oh zh hf FD OP
  go_enter Tryz.func139, Tryz.ntmps139
  go_wp2_with fail
  refine (verbs_any _).mono ?_
  rintro e w1 ⟨rfl, rfl⟩
  have RV := Lib.hid (rdS_verbs (w := w.alloc (.cells #[.int .i64 0, .string ⟨#[]⟩, .int .i64 0, .int .i64 0, .int .i64 0, .bool false, .slice none 0 0] 92)) (g := w.heap.size + 1) (by simp))
  have BV := Lib.hid (BA.out.alloc (by simp) (.cells #[.string ⟨#[115, 99, 97, 110]⟩, .string ⟨#[102, 105, 108, 116, 101, 114]⟩, .string ⟨#[107, 101, 101, 112]⟩, .string ⟨#[106, 111, 105, 110]⟩, .string ⟨#[98, 111, 116, 104]⟩, .string ⟨#[115, 111, 114, 116]⟩, .string ⟨#[108, 105, 109, 105, 116]⟩, .string ⟨#[111, 110, 99, 101]⟩] 9))
  go_wp2_with fail
  refine (Y1.out _ BV.out).mono ?_
  rintro e w2 ⟨rfl, h2, g2⟩
  have RV2 := Lib.hid (findVerb_any _ w2 (rdS_grown RV.out g2 (by omega)) ⟨#[102, 105, 108, 116, 101, 114]⟩)
  rw [FB.out] at RV2
  have N0 := Lib.hid (ni_new (w := w) (s := (p + 1, false)) (v := .int .i64 1) h2 (grownBy_trans (World.grownBy_alloc _ _ _) g2) HR HWD.out)
  clear h2 g2
  go_wp2_with fail
  refine RV2.out.mono ?_
  rintro e w3 ⟨rfl, rfl⟩
  have r0 : ¬ (w2.heap.size = w.heap.size) := by have := N0.out.hB; omega
  have r0' : ¬ (w.heap.size = w2.heap.size) := fun e => r0 e.symm
  have r1 : w.heap.size ≤ w2.heap.size := Nat.le_of_lt N0.out.hB
  obtain ⟨⟨a0, a1, a2, a3, a4, a5, a6⟩, af⟩ := sd7 N0.out.ra
  obtain ⟨⟨b0, b1, b2, b3, b4, b5, b6⟩, bf⟩ := sd7 N0.out.rb
  clear Y1 FB BA RV BV RV2
  go_wp2_with fail
  refine (Iy.out _ N0.out.lrd).mono ?_
  rintro e w4 ⟨rfl, h4, g4⟩
  have M1 := Lib.hid (N0.out.call h4 g4)
  clear a0 a1 a2 a3 a4 a5 a6 b0 b1 b2 b3 b4 b5 b6 af bf h4 g4
  obtain ⟨⟨a0, a1, a2, a3, a4, a5, a6⟩, af⟩ := sd7 M1.out.ra
  obtain ⟨⟨b0, b1, b2, b3, b4, b5, b6⟩, bf⟩ := sd7 M1.out.rb
  have N1 := Lib.hid (M1.out.set 2 (.int .i64 yx) rfl)
  go_wp2_with fail
  refine (ops_any _).mono ?_
  rintro e w5 ⟨rfl, rfl⟩
  have g5 : w4.heap.size ≠ R := by have h1 := M1.out.gr.size; omega
  have RV := Lib.hid (rdS_ops (w := w4.setCell ⟨w2.heap.size, 2, none⟩ (.int .i64 yx)) (g := w4.heap.size) (by simp))
  have M2 := Lib.hid (N1.out.below ((Below.refl _ _).alloc (Nat.le_refl _) (.cells #[.string ⟨#[61]⟩, .string ⟨#[60]⟩, .string ⟨#[62]⟩, .string ⟨#[110, 111, 110, 101]⟩] 9)))
  clear a0 a1 a2 a3 a4 a5 a6 b0 b1 b2 b3 b4 b5 b6 af bf
  go_wp2_with fail
  refine (Io.out _ M2.out.lrd).mono ?_
  rintro e w6 ⟨rfl, h6, g6⟩
  have FV := Lib.hid (FO.out _ _ (rdS_grown RV.out g6 g5))
  have M3 := Lib.hid (M2.out.call h6 g6)
  clear h6 g6 RV M2 FO
  go_wp2_with fail
  refine FV.out.mono ?_
  rintro e w7 ⟨rfl, rfl⟩
  obtain ⟨⟨a0, a1, a2, a3, a4, a5, a6⟩, af⟩ := sd7 M3.out.ra
  obtain ⟨⟨b0, b1, b2, b3, b4, b5, b6⟩, bf⟩ := sd7 M3.out.rb
  have N3 := Lib.hid (M3.out.set 3 (.int .i64 f) rfl)
  clear FV g5
  rcases FK with rfl | rfl | hk
  · have E := Lib.hid (K.out.1 rfl)
    clear K
    go_wp2_with fail
    refine (IB.out _ N3.out.lrd).mono ?_
    rintro e w8 ⟨rfl, h8, g8⟩
    have N4 := Lib.hid (N3.out.call h8 g8)
    clear a0 a1 a2 a3 a4 a5 a6 b0 b1 b2 b3 b4 b5 b6 af bf h8 g8
    obtain ⟨⟨a0, a1, a2, a3, a4, a5, a6⟩, af⟩ := sd7 N4.out.ra
    obtain ⟨⟨b0, b1, b2, b3, b4, b5, b6⟩, bf⟩ := sd7 N4.out.rb
    have c2 := lrd_c2 N4.out.lrd
    rw [badS_two] at c2
    go_wp2_with fail
    refine bodyPost_ret (v := .agg #[.int .i64 1, .string ⟨#[]⟩, .int .i64 yx, .int .i64 (-1), .int .i64 0, .bool false, .slice none 0 0]) (by simp [results, Tryz.results139, go_sem, a0, a1, a2, a3, a4, a5, a6]) rfl (nodeR_no (x := ⟨1, emptyB, yx, -1, 0, false, []⟩) (s := badS os) E.out (badS_two _) ⟨none, 0, rfl, Own.none_, (ni_fin N4.out ?_).1, (ni_fin N4.out ?_).2⟩)
    all_goals
      repeat (refine Below.setCell ?_ (by first | exact Nat.le_refl _ | exact r1) _)
      exact Below.refl _ _
  · have E := Lib.hid (K.out.2.2.1 rfl)
    have FF := K.out.2.1 (by decide)
    have c2 := lrd_c2 N3.out.lrd
    rw [FF] at c2
    clear K
    go_wp2_with fail
    refine bodyPost_ret (v := .agg #[.int .i64 1, .string ⟨#[]⟩, .int .i64 yx, .int .i64 3, .int .i64 0, .bool false, .slice none 0 0]) (by simp [results, Tryz.results139, go_sem, a0, a1, a2, a3, a4, a5, a6]) rfl (nodeR_yes (x := ⟨1, emptyB, yx, 3, 0, false, []⟩) (s := os) E.out FF ⟨none, 0, rfl, Own.none_, (ni_fin M3.out ?_).1, (ni_fin M3.out ?_).2⟩)
    all_goals
      repeat (refine Below.setCell ?_ (by first | exact Nat.le_refl _ | exact r1) _)
      exact Below.refl _ _
  · have E := Lib.hid (K.out.2.2.2 (by omega) (by omega))
    have FF := K.out.2.1 (by omega)
    have c2 := lrd_c2 N3.out.lrd
    rw [FF] at c2
    have HL := N3.out.lrd
    clear K
    rcases hk with rfl | rfl | rfl
    · go_wp2_with fail
      refine (Iz.out _ HL).mono ?_
      rintro e w8 ⟨rfl, h8, g8⟩
      have M4 := Lib.hid (N3.out.call h8 g8)
      clear a0 a1 a2 a3 a4 a5 a6 b0 b1 b2 b3 b4 b5 b6 af bf h8 g8 c2 HL
      obtain ⟨⟨a0, a1, a2, a3, a4, a5, a6⟩, af⟩ := sd7 M4.out.ra
      obtain ⟨⟨b0, b1, b2, b3, b4, b5, b6⟩, bf⟩ := sd7 M4.out.rb
      go_wp2_with fail
      refine bodyPost_ret (v := .agg #[.int .i64 1, .string ⟨#[]⟩, .int .i64 yx, .int .i64 0, .int .i64 zx, .bool zm, .slice none 0 0]) (by simp [results, Tryz.results139, go_sem, a0, a1, a2, a3, a4, a5, a6]) rfl (nodeR_if (x := ⟨1, emptyB, yx, 0, zx, zm, []⟩) (s := zs) E.out ⟨none, 0, rfl, Own.none_, (ni_fin M4.out ?_).1, (ni_fin M4.out ?_).2⟩)
      all_goals
        repeat (refine Below.setCell ?_ (by first | exact Nat.le_refl _ | exact r1) _)
        exact Below.refl _ _
    · go_wp2_with fail
      refine (Iz.out _ HL).mono ?_
      rintro e w8 ⟨rfl, h8, g8⟩
      have M4 := Lib.hid (N3.out.call h8 g8)
      clear a0 a1 a2 a3 a4 a5 a6 b0 b1 b2 b3 b4 b5 b6 af bf h8 g8 c2 HL
      obtain ⟨⟨a0, a1, a2, a3, a4, a5, a6⟩, af⟩ := sd7 M4.out.ra
      obtain ⟨⟨b0, b1, b2, b3, b4, b5, b6⟩, bf⟩ := sd7 M4.out.rb
      go_wp2_with fail
      refine bodyPost_ret (v := .agg #[.int .i64 1, .string ⟨#[]⟩, .int .i64 yx, .int .i64 1, .int .i64 zx, .bool zm, .slice none 0 0]) (by simp [results, Tryz.results139, go_sem, a0, a1, a2, a3, a4, a5, a6]) rfl (nodeR_if (x := ⟨1, emptyB, yx, 1, zx, zm, []⟩) (s := zs) E.out ⟨none, 0, rfl, Own.none_, (ni_fin M4.out ?_).1, (ni_fin M4.out ?_).2⟩)
      all_goals
        repeat (refine Below.setCell ?_ (by first | exact Nat.le_refl _ | exact r1) _)
        exact Below.refl _ _
    · go_wp2_with fail
      refine (Iz.out _ HL).mono ?_
      rintro e w8 ⟨rfl, h8, g8⟩
      have M4 := Lib.hid (N3.out.call h8 g8)
      clear a0 a1 a2 a3 a4 a5 a6 b0 b1 b2 b3 b4 b5 b6 af bf h8 g8 c2 HL
      obtain ⟨⟨a0, a1, a2, a3, a4, a5, a6⟩, af⟩ := sd7 M4.out.ra
      obtain ⟨⟨b0, b1, b2, b3, b4, b5, b6⟩, bf⟩ := sd7 M4.out.rb
      go_wp2_with fail
      refine bodyPost_ret (v := .agg #[.int .i64 1, .string ⟨#[]⟩, .int .i64 yx, .int .i64 2, .int .i64 zx, .bool zm, .slice none 0 0]) (by simp [results, Tryz.results139, go_sem, a0, a1, a2, a3, a4, a5, a6]) rfl (nodeR_if (x := ⟨1, emptyB, yx, 2, zx, zm, []⟩) (s := zs) E.out ⟨none, 0, rfl, Own.none_, (ni_fin M4.out ?_).1, (ni_fin M4.out ?_).2⟩)
      all_goals
        repeat (refine Below.setCell ?_ (by first | exact Nat.le_refl _ | exact r1) _)
        exact Below.refl _ _
end Go.Proofs.YtfpbhedophlnkaaGreatDoor
namespace Go.Proofs.YtfpbhedophlnkaaGreatDoor
open Go.RowKit
set_option linter.unusedSimpArgs false
set_option linter.unusedVariables false

theorem NI.belowB {w W W' : World} {R c B : Nat} {ao : Option Addr} {ws : List ByteArray} {v0 v1 v2 v3 v4 v5 v6 : Value} {s : Nat × Bool} (h : NI w R ao c ws B v0 v1 v2 v3 v4 v5 v6 s W) (hb : Below (B + 1) W W') : NI w R ao c ws B v0 v1 v2 v3 v4 v5 v6 s W' :=
  ⟨h.lrd.belowB (by have := h.hR; have := h.hB; omega) (fun a ha hl => by have := h.hw a ha hl; have := h.hB; omega) hb, (hb.block _ (by have := h.hB; omega)).trans h.ra, (hb.block _ (by omega)).trans h.rb,
    ⟨hb.os.trans h.gr.os, hb.tape.trans h.gr.tape, hb.output.trans h.gr.output, Nat.le_trans h.gr.size hb.size, fun i hi hne => (hb.block i (by have := h.hB; omega)).trans (h.gr.block i hi hne)⟩, h.hR, h.hw, h.hB⟩
theorem restW2 (ws : List ByteArray) (q : Nat) (m : (Int × Bool) × (Nat × Bool)) (hm : m = intS false ws (q, false)) :
    (¬ (1 ≤ m.1.1 ∧ m.1.1 ≤ 6) → restQ ws 2 q = .inl (badS m.2).1) ∧ ((1 ≤ m.1.1 ∧ m.1.1 ≤ 6) → m.2 = (q + 1, false) ∧ restQ ws 2 q = match colsQ ws (q + 1) m.1.1.toNat with | .inl x => .inl x | .inr l => .inr (⟨2, emptyB, 0, 0, 0, false, l⟩, q + 1 + m.1.1.toNat)) := by
  subst hm
  unfold restQ
  cases hx : intQ false ws q with
  | none => simp [intS, hx, badS]
  | some x =>
    by_cases h : 1 ≤ x.1 ∧ x.1 ≤ 6
    · refine ⟨fun hn => ?_, fun _ => ?_⟩
      · simp [intS, hx] at hn; omega
      · simp [intS, hx, h]; cases colsQ ws (q + 1) x.1.toNat <;> rfl
    · refine ⟨fun _ => ?_, fun hn => ?_⟩
      · simp [intS, hx, badS, h]
      · simp [intS, hx] at hn; exact absurd hn h
/-- How far the columns have been read. -/
def KpQ (ws : List ByteArray) (p j : Nat) (l : List Int) (st : Nat × Bool) : Prop :=
  (st.2 = false ∧ colsQ ws p j = .inr l ∧ st.1 = p + j) ∨ (st.2 = true ∧ colsQ ws p j = .inl st.1)
theorem kpQ_step {ws : List ByteArray} {p j : Nat} {l : List Int} {st : Nat × Bool} {y : (Int × Bool) × (Nat × Bool)} (h : KpQ ws p j l st) (hs : st.2 = false) (hy : y = intS false ws st) : KpQ ws p (j + 1) (l ++ [y.1.1]) y.2 := by
  subst hy
  rcases h with ⟨_, h2, h3⟩ | ⟨h1, _⟩
  · unfold intS
    rw [if_neg (by rw [hs]; simp)]
    cases hi : intQ false ws st.1 with
    | none =>
      rw [h3] at hi
      exact .inr ⟨rfl, by rw [colsQ_no h2 hi, h3]⟩
    | some x =>
      rw [h3] at hi
      exact .inl ⟨rfl, colsQ_yes h2 hi, by show st.1 + 1 = _; omega⟩
  · rw [hs] at h1; cases h1
theorem kpQ_end {ws : List ByteArray} {p j cnt : Nat} {l : List Int} {st : Nat × Bool} {r : Nat ⊕ (Nd × Nat)} (h : KpQ ws p j l st) (hj : j ≤ cnt) (he : j = cnt ∨ st.2 = true) (hr : r = match colsQ ws p cnt with | .inl x => .inl x | .inr l => .inr (⟨2, emptyB, 0, 0, 0, false, l⟩, p + cnt)) :
    r = if st.2 = true then .inl st.1 else .inr (⟨2, emptyB, 0, 0, 0, false, l⟩, st.1) := by
  rcases h with ⟨h1, h2, h3⟩ | ⟨h1, h2⟩
  · rcases he with rfl | he
    · rw [hr, h2, if_neg (by rw [h1]; simp), h3]
    · rw [h1] at he; cases he
  · rw [hr, colsQ_stays h2 cnt hj, if_pos h1]
def KpRel (w : World) (R : Nat) (ao : Option Addr) (c : Nat) (ws : List ByteArray) (B p cnt : Nat) (wr : World) (i : Value) : Prop :=
  ∃ (j n cc : Nat) (l : List Int) (a : Option Addr) (st : Nat × Bool), i = .int .i64 j ∧ n = l.length ∧ n = j ∧ j ≤ cnt ∧ NI w R ao c ws B (.int .i64 2) (.string ⟨#[]⟩) (.int .i64 0) (.int .i64 0) (.int .i64 0) (.bool false) (.slice a n cc) st wr ∧ Own wr (B + 1) 3 .i64 a cc l ∧ KpQ ws p j l st ∧ (st.2 = false → 1 ≤ st.1)

set_option maxRecDepth 100000 in
set_option maxHeartbeats 3200000 in
theorem specNode2 {R c p : Nat} {ao : Option Addr} {ws : List ByteArray} (w : World) (hw : Wds ws) (h : Lrd w R ao c ws p false) (hx : ws[p]? = some ⟨#[107, 101, 101, 112]⟩) :
    Calls Tryz.prog 139 #[.pointer (some ⟨R, 0, none⟩)] w (NodeR (restQ ws 2 (p + 1)) R ao c ws w) := by
  have HR := h.lt
  have HWD := Lib.hid h.words
  have HN := Lib.hid hw
  have Y1 := Lib.hid (fun W (hb : Below w.heap.size w W) => l06Word_yes W (h.belowB HR HWD.out hb) hx)
  have FB := Lib.hid (show findB verbsB ⟨#[107, 101, 101, 112]⟩ = 2 by decide)
  have BA := Lib.hid ((Below.refl w.heap.size w).alloc (Nat.le_refl _) (.cells #[.int .i64 0, .string ⟨#[]⟩, .int .i64 0, .int .i64 0, .int .i64 0, .bool false, .slice none 0 0] 92))
  clear h hw hx
  obtain ⟨⟨⟨yx, ym⟩, ys⟩, yh⟩ : ∃ y, y = intS false ws (p + 1, false) := ⟨_, rfl⟩
  have Iy := Lib.hid (fun W (h : Lrd W R ao c ws (p + 1) false) => intS_any false (p + 1, false) W HN.out h)
  rw [← yh] at Iy
  have K := Lib.hid (restW2 ws (p + 1) ((yx, ym), ys) yh)
  have YP := Lib.hid (intS_pos false ws (p + 1, false))
  rw [← yh] at YP
  have IB := Lib.hid (fun W (h : Lrd W R ao c ws ys.1 ys.2) => badS_any ys W h YP.out)
  have II := Lib.hid (fun st W (h : Lrd W R ao c ws st.1 st.2) => intS_any false st W HN.out h)
  obtain ⟨rr, hrr⟩ : ∃ rr, rr = restQ ws 2 (p + 1) := ⟨_, rfl⟩
  rw [← hrr] at K ⊢
  simp only at K
  clear yh YP hrr
  go_enter Tryz.func139, Tryz.ntmps139
  go_wp2_with fail
  refine (verbs_any _).mono ?_
  rintro e w1 ⟨rfl, rfl⟩
  have RV := Lib.hid (rdS_verbs (w := w.alloc (.cells #[.int .i64 0, .string ⟨#[]⟩, .int .i64 0, .int .i64 0, .int .i64 0, .bool false, .slice none 0 0] 92)) (g := w.heap.size + 1) (by simp))
  have BV := Lib.hid (BA.out.alloc (by simp) (.cells #[.string ⟨#[115, 99, 97, 110]⟩, .string ⟨#[102, 105, 108, 116, 101, 114]⟩, .string ⟨#[107, 101, 101, 112]⟩, .string ⟨#[106, 111, 105, 110]⟩, .string ⟨#[98, 111, 116, 104]⟩, .string ⟨#[115, 111, 114, 116]⟩, .string ⟨#[108, 105, 109, 105, 116]⟩, .string ⟨#[111, 110, 99, 101]⟩] 9))
  go_wp2_with fail
  refine (Y1.out _ BV.out).mono ?_
  rintro e w2 ⟨rfl, h2, g2⟩
  have RV2 := Lib.hid (findVerb_any _ w2 (rdS_grown RV.out g2 (by omega)) ⟨#[107, 101, 101, 112]⟩)
  rw [FB.out] at RV2
  have N0 := Lib.hid (ni_new (w := w) (s := (p + 1, false)) (v := .int .i64 2) h2 (grownBy_trans (World.grownBy_alloc _ _ _) g2) HR HWD.out)
  clear h2 g2
  go_wp2_with fail
  refine RV2.out.mono ?_
  rintro e w3 ⟨rfl, rfl⟩
  have r0 : ¬ (w2.heap.size = w.heap.size) := by have := N0.out.hB; omega
  have r0' : ¬ (w.heap.size = w2.heap.size) := fun e => r0 e.symm
  have r1 : w.heap.size ≤ w2.heap.size := Nat.le_of_lt N0.out.hB
  obtain ⟨⟨a0, a1, a2, a3, a4, a5, a6⟩, af⟩ := sd7 N0.out.ra
  obtain ⟨⟨b0, b1, b2, b3, b4, b5, b6⟩, bf⟩ := sd7 N0.out.rb
  clear Y1 FB BA RV BV RV2
  go_wp2_with fail
  refine (Iy.out _ N0.out.lrd).mono ?_
  rintro e w4 ⟨rfl, h4, g4⟩
  have M1 := Lib.hid (N0.out.call h4 g4)
  clear a0 a1 a2 a3 a4 a5 a6 b0 b1 b2 b3 b4 b5 b6 af bf h4 g4
  obtain ⟨⟨a0, a1, a2, a3, a4, a5, a6⟩, af⟩ := sd7 M1.out.ra
  obtain ⟨⟨b0, b1, b2, b3, b4, b5, b6⟩, bf⟩ := sd7 M1.out.rb
  have N1 := M1
  go_wp2_with fail
  refine (l01In_any _ _ _ _).mono ?_
  rintro e w5 ⟨rfl, rfl⟩
  by_cases hm : 1 ≤ yx ∧ yx ≤ 6
  · obtain ⟨cnt, rfl⟩ : ∃ cnt : Nat, yx = cnt := ⟨yx.toNat, by omega⟩
    obtain ⟨rfl, E0⟩ := K.out.2 hm
    rw [Int.toNat_natCast] at E0
    have E := Lib.hid E0
    have d1 : (decide (1 ≤ (cnt : Int)) && decide ((cnt : Int) ≤ 6)) = true := by simpa using hm
    have hc6 : cnt ≤ 6 := by omega
    rw [d1]
    have P0 := Lib.hid (show KpRel w R ao c ws w2.heap.size (p + 1 + 1) cnt w4 (.int .i64 0) from ⟨0, 0, 0, [], none, (p + 1 + 1, false), rfl, rfl, rfl, Nat.zero_le _, N1.out, Own.none_, .inl ⟨rfl, rfl, rfl⟩, fun _ => by simp⟩)
    clear K E0 hm IB Iy d1 a0 a1 a2 a3 a4 a5 a6 b0 b1 b2 b3 b4 b5 b6 af bf N0 M1 N1
    go_wp2_with fail
    go_loopw [6] (fun i wr => KpRel w R ao c ws w2.heap.size (p + 1 + 1) cnt wr i) (fun i _ => cnt - (intOf i).toNat)
    case atStart => exact P0.out
    case round =>
      clear P0
      obtain ⟨j, n, cc, l, a, st, rfl, hn, hnj, hj, N, O, Q, SP⟩ := hrel
      have NN := Lib.hid N; have OO := Lib.hid O; have QQ := Lib.hid Q; have HNL := Lib.hid hn; have HNJ := Lib.hid hnj
      have c2 := lrd_c2 N.lrd
      obtain ⟨⟨a0, a1, a2, a3, a4, a5, a6⟩, af⟩ := sd7 N.ra
      obtain ⟨⟨b0, b1, b2, b3, b4, b5, b6⟩, bf⟩ := sd7 N.rb
      clear N O Q hn hnj
      by_cases hlt : j < cnt
      · have i1 : (j : Int) < (cnt : Int) := by omega
        cases hst : st.2 with
        | true =>
          rw [hst] at c2
          have E2 := Lib.hid (kpQ_end QQ.out hj (.inr hst) E.out)
          go_wp2_with fail
          refine bodyPost_ret (v := .agg #[.int .i64 2, .string ⟨#[]⟩, .int .i64 0, .int .i64 0, .int .i64 0, .bool false, .slice a n cc]) (by simp [results, Tryz.results139, go_sem, a0, a1, a2, a3, a4, a5, a6]) rfl (nodeR_if (x := ⟨2, emptyB, 0, 0, 0, false, l⟩) (s := st) E2.out ⟨a, cc, by rw [HNL.out]; rfl, ?_, (ni_fin NN.out ?_).1, (ni_fin NN.out ?_).2⟩)
          · refine Own.base_le (base := w2.heap.size + 1) ?_ (by omega)
            repeat (refine Own.far ?_ (fun x hx => by have := (OO.out.lt x hx).1; simp; omega) _)
            exact OO.out
          all_goals
            repeat (refine Below.setCell ?_ (by first | exact Nat.le_refl _ | exact r1) _)
            exact Below.refl _ _
        | false =>
          rw [hst] at c2
          obtain ⟨⟨⟨yx, ym⟩, ys⟩, yh⟩ : ∃ y, y = intS false ws st := ⟨_, rfl⟩
          have QN := Lib.hid (kpQ_step QQ.out hst yh)
          have IY := Lib.hid (II.out st)
          have SN := Lib.hid (intS_pos false ws st)
          rw [← yh] at IY SN
          clear yh QQ
          go_wp2_with fail
          refine (IY.out _ NN.out.lrd).mono ?_
          rintro e w6 ⟨rfl, h6, g6⟩
          have M := Lib.hid (NN.out.call h6 g6)
          have O6 := Lib.hid (OO.out.grown g6 (fun x hx => by have := (OO.out.lt x hx).1; simp; omega))
          have OL := Lib.hid (fun x hx => (O6.out.lt x hx).1)
          have z6 := M.out.lt
          clear h6 g6 a0 a1 a2 a3 a4 a5 a6 b0 b1 b2 b3 b4 b5 b6 af bf c2
          obtain ⟨⟨b0, b1, b2, b3, b4, b5, b6⟩, bf⟩ := sd7 M.out.rb
          clear b0 b1 b2 b3 b4 b5
          simp only
          go_wp2_with (at_builtin; go_must (refine wpList_appendI _ rfl (.tmp 98) (.tmp 100) 47 rfl (w2.heap.size + 1) 3 Tryz.underlying47 Tryz.infoInt a cc n l rfl HNL.out (O6.out.alloc _) w6.heap.size 1 yx rfl (cell_one _ _ _) (by have := HNL.out; have := HNJ.out; omega) (by first | omega | (simp; omega)) ?_; intro a7 c7 w7 o7 g7; have B7 := Lib.hid (below_grow ((Below.refl (w2.heap.size + 1) w6).alloc (by omega) _) (by first | omega | (simp; omega)) g7 (fun x hx => OL.out x hx)); have M7 := Lib.hid (M.out.belowB B7.out); have O7 := Lib.hid o7; have x6 := (sd7 M7.out.rb).1.2.2.2.2.2.2; have xf := (sd7 M7.out.rb).2; clear o7 g7))
          go_roundw
          case rel => exact ⟨j + 1, l.length + 1, c7, l ++ [yx], a7, ys, by go_num, by simp, by have := HNL.out; have := HNJ.out; omega, hlt, M7.out.set 6 _ rfl, O7.out.far (fun x hx => by have := (O7.out.lt x hx).1; first | omega | (simp; omega)) _, QN.out, SN.out⟩
          case measure => simp [intOf]; omega
      · have i1 : ¬ (j : Int) < (cnt : Int) := by omega
        have E2 := Lib.hid (kpQ_end QQ.out hj (.inl (by omega)) E.out)
        go_wp2_with fail
        refine bodyPost_ret (v := .agg #[.int .i64 2, .string ⟨#[]⟩, .int .i64 0, .int .i64 0, .int .i64 0, .bool false, .slice a n cc]) (by simp [results, Tryz.results139, go_sem, a0, a1, a2, a3, a4, a5, a6]) rfl (nodeR_if (x := ⟨2, emptyB, 0, 0, 0, false, l⟩) (s := st) E2.out ⟨a, cc, by rw [HNL.out]; rfl, ?_, (ni_fin NN.out ?_).1, (ni_fin NN.out ?_).2⟩)
        · refine Own.base_le (base := w2.heap.size + 1) ?_ (by omega)
          repeat (refine Own.far ?_ (fun x hx => by have := (OO.out.lt x hx).1; simp; omega) _)
          exact OO.out
        all_goals
          repeat (refine Below.setCell ?_ (by first | exact Nat.le_refl _ | exact r1) _)
          exact Below.refl _ _
  · have E := Lib.hid (K.out.1 hm)
    have d1 : (decide (1 ≤ yx) && decide (yx ≤ 6)) = false := by
      rw [← Bool.not_eq_true]; simpa using hm
    rw [d1]
    clear K d1 hm II
    go_wp2_with fail
    refine (IB.out _ N1.out.lrd).mono ?_
    rintro e w6 ⟨rfl, h6, g6⟩
    have N2 := Lib.hid (N1.out.call h6 g6)
    clear h6 g6 a0 a1 a2 a3 a4 a5 a6 b0 b1 b2 b3 b4 b5 b6 af bf
    go_wp2_with fail
    go_loopw [6] (fun i wr => i = .int .i64 0 ∧ wr = w6) (fun _ _ => 0)
    case atStart => exact ⟨rfl, rfl⟩
    case round =>
      obtain ⟨rfl, rfl⟩ := hrel
      have c2 := lrd_c2 N2.out.lrd
      rw [badS_two] at c2
      obtain ⟨⟨a0, a1, a2, a3, a4, a5, a6⟩, af⟩ := sd7 N2.out.ra
      obtain ⟨⟨b0, b1, b2, b3, b4, b5, b6⟩, bf⟩ := sd7 N2.out.rb
      by_cases h0 : 0 < yx
      · have d0 : decide (0 < yx) = true := by simpa using h0
        go_wp2_with fail
        refine bodyPost_ret (v := .agg #[.int .i64 2, .string ⟨#[]⟩, .int .i64 0, .int .i64 0, .int .i64 0, .bool false, .slice none 0 0]) (by simp [results, Tryz.results139, go_sem, a0, a1, a2, a3, a4, a5, a6]) rfl (nodeR_no (x := ⟨2, emptyB, 0, 0, 0, false, []⟩) (s := badS ys) E.out (badS_two _) ⟨none, 0, rfl, Own.none_, (ni_fin N2.out ?_).1, (ni_fin N2.out ?_).2⟩)
        all_goals
          repeat (refine Below.setCell ?_ (by first | exact Nat.le_refl _ | exact r1) _)
          exact Below.refl _ _
      · have d0 : decide (0 < yx) = false := by simpa using h0
        go_wp2_with fail
        refine bodyPost_ret (v := .agg #[.int .i64 2, .string ⟨#[]⟩, .int .i64 0, .int .i64 0, .int .i64 0, .bool false, .slice none 0 0]) (by simp [results, Tryz.results139, go_sem, a0, a1, a2, a3, a4, a5, a6]) rfl (nodeR_no (x := ⟨2, emptyB, 0, 0, 0, false, []⟩) (s := badS ys) E.out (badS_two _) ⟨none, 0, rfl, Own.none_, (ni_fin N2.out ?_).1, (ni_fin N2.out ?_).2⟩)
        all_goals
          repeat (refine Below.setCell ?_ (by first | exact Nat.le_refl _ | exact r1) _)
          exact Below.refl _ _
end Go.Proofs.YtfpbhedophlnkaaGreatDoor
namespace Go.Proofs.YtfpbhedophlnkaaGreatDoor
open Go.RowKit
set_option linter.unusedSimpArgs false
set_option linter.unusedVariables false

theorem nodeQ_no {ws : List ByteArray} {p : Nat} (h : findB verbsB (wordS ws (p, false)).1 = -1) : nodeQ ws p = .inl (badS (wordS ws (p, false)).2).1 := by
  unfold nodeQ wordS badS at *
  cases hx : ws[p]? with
  | none => simp
  | some s => simp [hx] at h ⊢; simp [h]

set_option maxRecDepth 100000 in
set_option maxHeartbeats 3200000 in
theorem specNodeN {R c p : Nat} {ao : Option Addr} {ws : List ByteArray} (w : World) (hw : Wds ws) (h : Lrd w R ao c ws p false) (hx : findB verbsB (wordS ws (p, false)).1 = -1) :
    Calls Tryz.prog 139 #[.pointer (some ⟨R, 0, none⟩)] w (NodeR (nodeQ ws p) R ao c ws w) := by
  have HR := h.lt
  have HWD := Lib.hid h.words
  have HN := Lib.hid hw
  obtain ⟨⟨yx, ys⟩, yh⟩ : ∃ y, y = wordS ws (p, false) := ⟨_, rfl⟩
  have Y1 := Lib.hid (fun W (hb : Below w.heap.size w W) => wordS_any (p, false) W (h.belowB HR HWD.out hb))
  have YP := Lib.hid (wordS_pos ws (p, false))
  have E := Lib.hid (nodeQ_no hx)
  rw [← yh] at Y1 YP E hx
  have FB := Lib.hid hx
  have IB := Lib.hid (fun W (h : Lrd W R ao c ws ys.1 ys.2) => badS_any ys W h YP.out)
  clear yh YP
  have BA := Lib.hid ((Below.refl w.heap.size w).alloc (Nat.le_refl _) (.cells #[.int .i64 0, .string ⟨#[]⟩, .int .i64 0, .int .i64 0, .int .i64 0, .bool false, .slice none 0 0] 92))
  clear h hw hx
  go_enter Tryz.func139, Tryz.ntmps139
  go_wp2_with fail
  refine (verbs_any _).mono ?_
  rintro e w1 ⟨rfl, rfl⟩
  have RV := Lib.hid (rdS_verbs (w := w.alloc (.cells #[.int .i64 0, .string ⟨#[]⟩, .int .i64 0, .int .i64 0, .int .i64 0, .bool false, .slice none 0 0] 92)) (g := w.heap.size + 1) (by simp))
  have BV := Lib.hid (BA.out.alloc (by simp) (.cells #[.string ⟨#[115, 99, 97, 110]⟩, .string ⟨#[102, 105, 108, 116, 101, 114]⟩, .string ⟨#[107, 101, 101, 112]⟩, .string ⟨#[106, 111, 105, 110]⟩, .string ⟨#[98, 111, 116, 104]⟩, .string ⟨#[115, 111, 114, 116]⟩, .string ⟨#[108, 105, 109, 105, 116]⟩, .string ⟨#[111, 110, 99, 101]⟩] 9))
  go_wp2_with fail
  refine (Y1.out _ BV.out).mono ?_
  rintro e w2 ⟨rfl, h2, g2⟩
  have RV2 := Lib.hid (findVerb_any _ w2 (rdS_grown RV.out g2 (by omega)) yx)
  rw [FB.out] at RV2
  have N0 := Lib.hid (ni_new (w := w) (s := ys) (v := .int .i64 (-1)) h2 (grownBy_trans (World.grownBy_alloc _ _ _) g2) HR HWD.out)
  clear h2 g2
  go_wp2_with fail
  refine RV2.out.mono ?_
  rintro e w3 ⟨rfl, rfl⟩
  have r0 : ¬ (w2.heap.size = w.heap.size) := by have := N0.out.hB; omega
  have r0' : ¬ (w.heap.size = w2.heap.size) := fun e => r0 e.symm
  have r1 : w.heap.size ≤ w2.heap.size := Nat.le_of_lt N0.out.hB
  obtain ⟨⟨a0, a1, a2, a3, a4, a5, a6⟩, af⟩ := sd7 N0.out.ra
  obtain ⟨⟨b0, b1, b2, b3, b4, b5, b6⟩, bf⟩ := sd7 N0.out.rb
  clear Y1 FB BA RV BV RV2
  go_wp2_with fail
  refine (IB.out _ N0.out.lrd).mono ?_
  rintro e w4 ⟨rfl, h4, g4⟩
  have N1 := Lib.hid (N0.out.call h4 g4)
  clear h4 g4 a0 a1 a2 a3 a4 a5 a6 b0 b1 b2 b3 b4 b5 b6 af bf
  obtain ⟨⟨a0, a1, a2, a3, a4, a5, a6⟩, af⟩ := sd7 N1.out.ra
  obtain ⟨⟨b0, b1, b2, b3, b4, b5, b6⟩, bf⟩ := sd7 N1.out.rb
  go_wp2_with fail
  refine bodyPost_ret (v := .agg #[.int .i64 (-1), .string ⟨#[]⟩, .int .i64 0, .int .i64 0, .int .i64 0, .bool false, .slice none 0 0]) (by simp [results, Tryz.results139, go_sem, a0, a1, a2, a3, a4, a5, a6]) rfl (nodeR_no (x := ⟨-1, emptyB, 0, 0, 0, false, []⟩) (s := badS ys) E.out (badS_two _) ⟨none, 0, rfl, Own.none_, (ni_fin N1.out ?_).1, (ni_fin N1.out ?_).2⟩)
  all_goals
    repeat (refine Below.setCell ?_ (by first | exact Nat.le_refl _ | exact r1) _)
    exact Below.refl _ _

theorem specNode_any {R c p : Nat} {ao : Option Addr} {ws : List ByteArray} (w : World) (hw : Wds ws) (h : Lrd w R ao c ws p false) :
    Calls Tryz.prog 139 #[.pointer (some ⟨R, 0, none⟩)] w (NodeR (nodeQ ws p) R ao c ws w) := by
  cases hx : ws[p]? with
  | none => exact specNodeN w hw h (by simp only [wordS, hx, Bool.false_eq_true, if_false]; decide)
  | some s =>
    have e : nodeQ ws p = if findB verbsB s = -1 then .inl p else restQ ws (findB verbsB s) (p + 1) := by unfold nodeQ; rw [hx]
    rcases verbsB_ways s with ⟨rfl, hf⟩ | ⟨rfl, hf⟩ | ⟨rfl, hf⟩ | ⟨rfl, hf⟩ | ⟨rfl, hf⟩ | ⟨rfl, hf⟩ | ⟨rfl, hf⟩ | ⟨rfl, hf⟩ | ⟨hf, _⟩
    · rw [e, hf, if_neg (by decide)]; exact specNode0 w hw h hx
    · rw [e, hf, if_neg (by decide)]; exact specNode1 w hw h hx
    · rw [e, hf, if_neg (by decide)]; exact specNode2 w hw h hx
    · rw [e, hf, if_neg (by decide)]; exact specNode3 w hw h hx
    · rw [e, hf, if_neg (by decide)]; exact specNode4 w hw h hx
    · rw [e, hf, if_neg (by decide)]; exact specNode5 w hw h hx
    · rw [e, hf, if_neg (by decide)]; exact specNode6 w hw h hx
    · rw [e, hf, if_neg (by decide)]; exact specNode7 w hw h hx
    · exact specNodeN w hw h (by unfold wordS; simp only [hx]; simpa using hf)
end Go.Proofs.YtfpbhedophlnkaaGreatDoor
