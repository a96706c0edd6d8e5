/-
  Rows of nodes of the call's own, one put behind the other. No program, no walk. Contract of spec.l02Joined: some lists of nodes, one behind the other, in memory of the call's own. For every slice of slices of nodes. Contract of spec.PutPart. For all slices of nodes and every number. A row of nodes of the call's own whose columns lie where they lay before. No program, no walk. What the library contracts that are used here ask of this program: closed facts, laid by the guide's own program, in plain words. No walk. Contract of slices.Concat of three slices of nodes: their nodes, one list behind the other. For all slices of which the second has a node. Contract of impl.PutPart. For all slices of nodes and every number.
-/
import Derived.Test.YtdkiaahcmoafdaaCopyS
import Derived.Test.YtdkiaahcmoafdaaParts
import Derived.Shelf.Spec.SlicesGrow
import Derived.Ground.Names8Prog
import Derived.Test.YtdkiaahcmoafdaaProg
import Derived.StillTailTactics
namespace Go.Proofs.Ytdkiaahcmoafdaa
open Go.RowKit
set_option linter.unusedSimpArgs false
set_option linter.unusedVariables false

theorem PartN.rdN {w : World} {base g c : Nat} {l : List Nd} {xs : List Value} {A : Nat → Option Addr} {C : Nat → Nat} (h : PartN w base g c l.length l l.length xs A C) : RdN w (some ⟨g, 0, none⟩) l := by
  refine .inr ⟨g, 0, rfl, fun i n hi => ⟨A i, C i, ?_⟩⟩
  have hl : i < l.length := by
    rcases Nat.lt_or_ge i l.length with h1 | h1
    · exact h1
    · rw [List.getElem?_eq_none h1] at hi; cases hi
  exact h.at_ hl hl hi
theorem PartN.xs_eq {w : World} {base g c : Nat} {l : List Nd} {xs : List Value} {A : Nat → Option Addr} {C : Nat → Nat} (h : PartN w base g c l.length l l.length xs A C) : xs = allCells l A C := by
  have hx : xs.length = l.length * 7 := h.own.1
  refine List.ext_getElem? fun j => ?_
  rcases Nat.lt_or_ge j (l.length * 7) with hj | hj
  · obtain ⟨q, r, rfl, hr⟩ : ∃ q r, j = q * 7 + r ∧ r < 7 := ⟨j / 7, j % 7, by omega, by omega⟩
    have hq : q < l.length := by omega
    have hc := h.cells q _ hq (List.getElem?_eq_getElem hq)
    rw [allCells_get l A C q _ (List.getElem?_eq_getElem hq) r hr]
    have hm : r = 0 ∨ r = 1 ∨ r = 2 ∨ r = 3 ∨ r = 4 ∨ r = 5 ∨ r = 6 := by omega
    rcases hm with rfl | rfl | rfl | rfl | rfl | rfl | rfl
    · exact hc.c0
    · exact hc.c1
    · exact hc.c2
    · exact hc.c3
    · exact hc.c4
    · exact hc.c5
    · exact hc.c6
  · rw [List.getElem?_eq_none (by omega), List.getElem?_eq_none (by rw [allCells_len]; omega)]
theorem some_lt {α : Type} {xs : List α} {i : Nat} {v : α} (h : xs[i]? = some v) : i < xs.length := (List.getElem?_eq_some_iff.1 h).1
theorem NdC.left {xs ys : List Value} {o : Nat} {n : Nd} {a : Option Addr} {c : Nat} (h : NdC xs o n a c) : NdC (xs ++ ys) o n a c := by
  have hl := some_lt h.c6
  exact ⟨by rw [List.getElem?_append_left (by omega)]; exact h.c0, by rw [List.getElem?_append_left (by omega)]; exact h.c1, by rw [List.getElem?_append_left (by omega)]; exact h.c2, by rw [List.getElem?_append_left (by omega)]; exact h.c3, by rw [List.getElem?_append_left (by omega)]; exact h.c4, by rw [List.getElem?_append_left (by omega)]; exact h.c5, by rw [List.getElem?_append_left (by omega)]; exact h.c6⟩
theorem NdC.right {xs ys : List Value} {o k : Nat} {n : Nd} {a : Option Addr} {c : Nat} (h : NdC ys o n a c) (hk : k = xs.length + o) : NdC (xs ++ ys) k n a c := by
  subst hk
  have key : ∀ t v, ys[o + t]? = some v → (xs ++ ys)[xs.length + o + t]? = some v := fun t v hv => by
    rw [List.getElem?_append_right (by omega), show xs.length + o + t - xs.length = o + t by omega]; exact hv
  exact ⟨key 0 _ h.c0, key 1 _ h.c1, key 2 _ h.c2, key 3 _ h.c3, key 4 _ h.c4, key 5 _ h.c5, key 6 _ h.c6⟩

/-- A whole row of nodes is put behind another. -/
theorem join_step {wb W3 w4 : World} {base g cc : Nat} {l : List Nd} {xs : List Value} {A : Nat → Option Addr} {C : Nat → Nat} {g2 c2 : Nat} {l2 : List Nd} {xs2 : List Value} {A2 : Nat → Option Addr} {C2 : Nat → Nat} {v' : Value}
    (hp : PartN wb base g cc l.length l l.length xs A C) (hb : Below wb.heap.size wb W3) (hp2 : PartN W3 wb.heap.size g2 c2 l2.length l2 l2.length xs2 A2 C2) (hbase : base ≤ wb.heap.size)
    (ho : w4.ownsRow base 37 7 v' (l.length + l2.length) (xs ++ xs2)) (hg : W3.grownBy w4 (some g)) (hblk : v'.ownBlock = some g ∨ v'.ownBlock = some W3.heap.size) :
    ∃ g' c4 A' C', v' = .slice (some ⟨g', 0, none⟩) (l.length + l2.length) c4 ∧ PartN w4 base g' c4 (l ++ l2).length (l ++ l2) (l ++ l2).length (xs ++ xs2) A' C' := by
  have hgb := owns_block hp.own
  have h3 := hp.below hb
  have z3 := hb.size
  have hx : xs.length = l.length * 7 := hp.own.1
  rcases ho.2 with ⟨rfl, hz⟩ | ⟨g', c4, cur, rfl, r⟩
  · simp [Value.ownBlock] at hblk
  · have hg' : g' = g ∨ g' = W3.heap.size := by simpa [Value.ownBlock] using hblk
    have hAlt : ∀ (i : Nat) (x : Addr), i < l.length → A i = some x → x.block < wb.heap.size := fun i x hi hx => ((hp.cols i _ hi (List.getElem?_eq_getElem hi)).lt x hx).2
    have hAlt2 : ∀ (i : Nat) (x : Addr), i < l2.length → A2 i = some x → wb.heap.size ≤ x.block ∧ x.block < W3.heap.size := fun i x hi hx => (hp2.cols i _ hi (List.getElem?_eq_getElem hi)).lt x hx
    refine ⟨g', c4, fun i => if i < l.length then A i else A2 (i - l.length), fun i => if i < l.length then C i else C2 (i - l.length), rfl, ?_⟩
    refine ⟨by rw [List.length_append]; exact ho, ?_, ?_, ?_, ?_, ?_⟩
    · intro i n hi hn
      by_cases hil : i < l.length
      · simp only [if_pos hil]
        rw [List.getElem?_append_left hil] at hn
        exact (hp.cells i n hil hn).left
      · simp only [if_neg hil]
        rw [List.getElem?_append_right (by omega)] at hn
        exact (hp2.cells _ n (some_lt hn) hn).right (by rw [hx]; omega)
    · intro i n hi hn
      by_cases hil : i < l.length
      · simp only [if_pos hil]
        rw [List.getElem?_append_left hil] at hn
        exact (h3.cols i n hil hn).grown hg (fun x hx => by simp; exact hp.row i x hil hil hx)
      · simp only [if_neg hil]
        rw [List.getElem?_append_right (by omega)] at hn
        exact ((hp2.cols _ n (some_lt hn) hn).grown hg (fun x hx => by have := hAlt2 _ x (some_lt hn) hx; simp; omega)).base_le hbase
    · intro i n hi hn
      by_cases hil : i < l.length
      · rw [List.getElem?_append_left hil] at hn
        exact hp.name i n hil hn
      · rw [List.getElem?_append_right (by omega)] at hn
        exact hp2.name _ n (some_lt hn) hn
    · intro i x _ hi hx'
      rw [List.length_append] at hi
      by_cases hil : i < l.length
      · simp only [if_pos hil] at hx'
        rcases hg' with rfl | rfl
        · exact hp.row i x hil hil hx'
        · have := hAlt i x hil hx'; omega
      · simp only [if_neg hil] at hx'
        have := hAlt2 _ x (by omega) hx'
        rcases hg' with rfl | rfl <;> omega
    · intro i k x y _ _ hi hk hik hx' hy'
      rw [List.length_append] at hi hk
      by_cases hil : i < l.length
      · simp only [if_pos hil] at hx'
        by_cases hkl : k < l.length
        · simp only [if_pos hkl] at hy'
          exact hp.apart i k x y hil hkl hil hkl hik hx' hy'
        · simp only [if_neg hkl] at hy'
          have := hAlt i x hil hx'
          have := hAlt2 _ y (by omega) hy'
          omega
      · simp only [if_neg hil] at hx'
        by_cases hkl : k < l.length
        · simp only [if_pos hkl] at hy'
          have := hAlt k y hkl hy'
          have := hAlt2 _ x (by omega) hx'
          omega
        · simp only [if_neg hkl] at hy'
          exact hp2.apart _ _ x y (by omega) (by omega) (by omega) (by omega) (by omega) hx' hy'

/-- 'append(out, more...)' at rows of nodes. -/
theorem wpList_appendNs {P : Program} (w : World) {ops : Array Oper} {rest : List Oper} {o : Oper} {a : Act} {Q : Exit → Act → World → Prop} (hgd : o.guard = none) (s x : Operand) (t : TypeId)
    (ho : o.op = .call { callee := .builtin .append, args := #[s, x], argTypes := #[t, t] }) (base : Nat) {z : Value} (ht : P.underlying t = some (.slice 37))
    (hi : (P.info? 37).map (fun i => (i.zero, i.size, i.bytes)) = some (some z, 7, 80)) (hz : z.cells.size = 7) (v : Value) (n : Nat) (xs : List Value) (hs : a.eval s = v)
    (hown : w.ownsRow base 37 7 v n xs) (b off m c2 : Nat) (l2 : List Nd) (A2 : Nat → Option Addr) (C2 : Nat → Nat) (hx : a.eval x = .slice (some ⟨b, off, none⟩) m c2) (hm : m = l2.length)
    (hc : ∀ i n, l2[i]? = some n → NdAt w b (off + i * 7) n (A2 i) (C2 i)) (hj : n + m ≤ 16777216) (hbase : base ≤ w.heap.size)
    (h : ∀ v' w', w'.ownsRow base 37 7 v' (n + m) (xs ++ allCells l2 A2 C2) → w.grownBy w' v.ownBlock → (v'.ownBlock = v.ownBlock ∨ v'.ownBlock = some w.heap.size) → wpList P ops Q rest (a.put o.dst v') w') :
    wpList P ops Q (o :: rest) a w := by
  obtain ⟨i, hi0, hz0, hz1, hz2⟩ := info_parts hi
  subst hm
  refine wpList_append_own_at w hgd s x t ho base 37 i z 7 80 ht hi0 hz0 hz1 hz2 hz (by omega) _ n xs hs hown ⟨b, off, none⟩ l2.length c2 (allCells l2 A2 C2) hx (allCells_len _ _ _) ?_ (allCells_one _ _ _) (by unfold maxLen; omega) (by omega) hbase ?_
  · intro j u hu
    have := allCells_cell hc j u hu
    unfold Addr.add
    split
    · rename_i h0; subst h0; exact this
    · exact this
  · intro v' w' h1 h2 _ h4
    exact h v' w' h1 h2 h4
end Go.Proofs.Ytdkiaahcmoafdaa
namespace Go.Proofs.Ytdkiaahcmoafdaa
open Go.RowKit
set_option linter.unusedSimpArgs false
set_option linter.unusedVariables false

/-- The nodes of some lists, one list behind the other. -/
def srcs (L : List (Option Addr × Nat × List Nd)) : List Nd := L.flatMap (·.2.2)
theorem srcs_take {L : List (Option Addr × Nat × List Nd)} {j : Nat} {q : Option Addr × Nat × List Nd} (h : L[j]? = some q) : srcs (L.take (j + 1)) = srcs (L.take j) ++ q.2.2 := by
  have hj := some_lt h
  rw [List.take_succ_eq_append_getElem hj]
  have : L[j] = q := by rw [List.getElem?_eq_getElem hj] at h; injection h
  rw [this]
  simp [srcs]
theorem srcs_le (L : List (Option Addr × Nat × List Nd)) (j : Nat) : (srcs (L.take j)).length ≤ (srcs L).length := by
  have : srcs L = srcs (L.take j) ++ srcs (L.drop j) := by
    have h := congrArg srcs (List.take_append_drop j L)
    unfold srcs at h ⊢
    rw [List.flatMap_append] at h
    exact h.symm
  rw [this, List.length_append]; omega

def JRel (w : World) (L : List (Option Addr × Nat × List Nd)) (wr : World) (s i : Value) : Prop :=
  ∃ (j g cc : Nat), j ≤ L.length ∧ i = .int .i64 j ∧ s = .slice (some ⟨g, 0, none⟩) (srcs (L.take j)).length cc ∧ (∃ xs A C, PartN wr w.heap.size g cc (srcs (L.take j)).length (srcs (L.take j)) (srcs (L.take j)).length xs A C) ∧ Below w.heap.size w wr

theorem join_next {w wr W3 w4 : World} {L : List (Option Addr × Nat × List Nd)} {j g cc : Nat} {q : Option Addr × Nat × List Nd} {xs : List Value} {A : Nat → Option Addr} {C : Nat → Nat} {g2 c2 : Nat} {xs2 : List Value} {A2 : Nat → Option Addr} {C2 : Nat → Nat} {v' : Value}
    (hq : L[j]? = some q) (hp : PartN wr w.heap.size g cc (srcs (L.take j)).length (srcs (L.take j)) (srcs (L.take j)).length xs A C) (hw : Below w.heap.size w wr) (hb : Below wr.heap.size wr W3) (hp2 : PartN W3 wr.heap.size g2 c2 q.2.2.length q.2.2 q.2.2.length xs2 A2 C2)
    (ho : w4.ownsRow w.heap.size 37 7 v' ((srcs (L.take j)).length + q.2.2.length) (xs ++ allCells q.2.2 A2 C2)) (hg : W3.grownBy w4 (some g)) (hblk : v'.ownBlock = some g ∨ v'.ownBlock = some W3.heap.size) :
    JRel w L w4 v' (.int .i64 ((j : Int) + 1)) := by
  rw [← hp2.xs_eq] at ho
  obtain ⟨g', c4, A', C', rfl, hP⟩ := join_step hp hb hp2 hw.size ho hg hblk
  have hj := some_lt hq
  refine ⟨j + 1, g', c4, hj, by simp, ?_, ⟨xs ++ xs2, A', C', ?_⟩, ?_⟩
  · rw [srcs_take hq, List.length_append]
  · rw [srcs_take hq]; exact hP
  · exact (below_step hw (Nat.le_refl _) hb).grown hg (Nat.le_trans hw.size hb.size) (by intro g' hg'; cases hg'; exact (owns_block hp.own).1)

set_option maxRecDepth 100000 in
set_option maxHeartbeats 1600000 in
theorem joined_any (bl cL : Nat) (L : List (Option Addr × Nat × List Nd)) (w : World) (hL : L.length ≤ 1000)
    (hcell : ∀ i q, L[i]? = some q → w.cell? ⟨bl, i, none⟩ = some (.slice q.1 q.2.2.length q.2.1) ∧ RdN w q.1 q.2.2)
    (hsm : ∀ q ∈ L, q.2.2.length ≤ 1048576 ∧ ∀ n ∈ q.2.2, n.cols.length ≤ 1048576) (htot : (srcs L).length ≤ 8388608) :
    Calls Try.prog 78 #[.slice (some ⟨bl, 0, none⟩) L.length cL] w (MadeP w (srcs L)) := by
  have HC := Lib.hid hcell; have HS := Lib.hid hsm; clear hcell hsm
  have P0 := Lib.hid (show JRel w L (w.alloc (.cells #[] 37)) (.slice (some ⟨w.heap.size, 0, none⟩) 0 0) (.int .i64 0) from
    ⟨0, w.heap.size, 0, Nat.zero_le _, rfl, rfl, ⟨[], fun _ => none, fun _ => 0, ⟨⟨rfl, .inr ⟨w.heap.size, 0, #[], rfl, Nat.le_refl _, heap_alloc_new w _, Nat.le_refl _, Nat.zero_le _, rfl, rfl⟩⟩, fun i n hi => absurd hi (Nat.not_lt_zero _), fun i n hi => absurd hi (Nat.not_lt_zero _), fun i n hi => absurd hi (Nat.not_lt_zero _), fun i x hi => absurd hi (Nat.not_lt_zero _), fun i k x y hi => absurd hi (Nat.not_lt_zero _)⟩⟩, (Below.refl w.heap.size w).alloc (Nat.le_refl _) (.cells #[] 37)⟩)
  go_enter Try.func78, Try.ntmps78
  go_wp2_with fail
  go_loopw [3, 4] (fun s i wr => JRel w L wr s i) (fun _ i _ => L.length - (intOf i).toNat)
  case atStart => exact P0.out
  case round =>
    clear P0
    obtain ⟨j, g, cc, hj, rfl, rfl, ⟨xs, A, C, hp⟩, hb⟩ := hrel
    have HP := Lib.hid hp; have HB := Lib.hid hb
    have hle := srcs_le L j
    clear hp hb
    by_cases hlt : j < L.length
    · have hq0 : L[j]? = some L[j] := List.getElem?_eq_getElem hlt
      generalize L[j] = q at hq0
      have HQ := Lib.hid hq0
      obtain ⟨hc, hrd⟩ := HC.out j q hq0
      obtain ⟨hq1, hq2⟩ := HS.out q (List.mem_of_getElem? hq0)
      have hcw := (HB.out.cell (p := ⟨bl, j, none⟩) (World.block_lt_of_cell? w ⟨bl, j, none⟩ hc)).trans hc
      have RD := Lib.hid (hrd.below HB.out); have Q2 := Lib.hid hq2
      obtain ⟨qa, qc, ql⟩ := q
      simp only at hcw hq1 RD Q2
      clear hq0 hc hrd hq2
      generalize hl0 : (srcs (L.take j)).length = n0 at hle
      have HL0 := Lib.hid hl0; clear hl0
      go_wp2_with fail
      refine (l02CopyP_any qa qc ql _ RD.out hq1 Q2.out).mono ?_
      rintro e w2 ⟨g2, c2, xs2, A2, C2, rfl, p2, b2⟩
      have P2 := Lib.hid p2; have B2 := Lib.hid b2
      have OW := Lib.hid (show w2.ownsRow w.heap.size 37 7 (.slice (some ⟨g, 0, none⟩) n0 cc) n0 xs by have := (HP.out.below b2).own; rw [HL0.out] at this; exact this)
      have SZ : w.heap.size ≤ w2.heap.size := Nat.le_trans HB.out.size b2.size
      clear p2 b2
      go_wp2_with (at_builtin; go_must (refine wpList_appendNs _ rfl (.tmp 12) (.tmp 17) 24 rfl w.heap.size Try.underlying24 Try.infoNode rfl _ n0 xs rfl OW.out g2 0 _ c2 ql A2 C2 rfl rfl (fun i n hi => P2.out.at_ (some_lt hi) (some_lt hi) hi) (by omega) SZ ?_; intro v' w4 o4 g4 k4; have J := Lib.hid (join_next HQ.out HP.out HB.out B2.out P2.out (by rw [HL0.out]; exact o4) g4 k4); clear o4 g4 k4))
      go_roundw
      case rel => exact J.out
      case measure => simp [intOf]; omega
    · obtain rfl : j = L.length := by omega
      have E := Lib.hid (show srcs (L.take L.length) = srcs L by rw [List.take_length])
      go_wp2_with fail
      go_ret
      have hp := HP.out
      rw [E.out] at hp
      exact ⟨_, _, _, _, _, by rw [E.out]; rfl, hp, HB.out⟩
end Go.Proofs.Ytdkiaahcmoafdaa
namespace Go.Proofs.Ytdkiaahcmoafdaa
open Go.RowKit
set_option linter.unusedSimpArgs false
set_option linter.unusedVariables false

/-- The call returned a slice of nodes of its own beside a bool, and nothing that was there has turned. -/
def MadeN2 (w : World) (l : List Nd) (ok : Bool) (en : Ending) (w' : World) : Prop :=
  ∃ ao c, en = .returned (.tuple #[.slice ao l.length c, .bool ok]) ∧ OwnN w' w.heap.size ao c l ∧ Below w.heap.size w w'
/-- A plan with another part in the place of one of its own. -/
def joinN (p : List Nd) (k : Int) (q : List Nd) : List Nd := p.take k.toNat ++ q ++ p.drop (endOfN p k).toNat
def putB (p : List Nd) (k : Int) (q : List Nd) : Bool := goodB p k && planB q && planB (joinN p k q)
def putN (p : List Nd) (k : Int) (q : List Nd) : List Nd := if putB p k q = true then joinN p k q else p
theorem put_no1 {p : List Nd} {k : Int} {q : List Nd} (h : goodB p k = false) : putB p k q = false ∧ putN p k q = p := by
  have : putB p k q = false := by simp [putB, h]
  exact ⟨this, by unfold putN; rw [if_neg (by simp [this])]⟩
theorem put_no2 {p : List Nd} {k : Int} {q : List Nd} (h : planB q = false) : putB p k q = false ∧ putN p k q = p := by
  have : putB p k q = false := by simp [putB, h]
  exact ⟨this, by unfold putN; rw [if_neg (by simp [this])]⟩
theorem put_no3 {p : List Nd} {k : Int} {q : List Nd} (h : planB (joinN p k q) = false) : putB p k q = false ∧ putN p k q = p := by
  have : putB p k q = false := by simp [putB, h]
  exact ⟨this, by unfold putN; rw [if_neg (by simp [this])]⟩
theorem put_yes {p : List Nd} {k : Int} {q : List Nd} (h1 : goodB p k = true) (h2 : planB q = true) (h3 : planB (joinN p k q) = true) : putB p k q = true ∧ putN p k q = joinN p k q := by
  have : putB p k q = true := by simp [putB, h1, h2, h3]
  exact ⟨this, by unfold putN; rw [if_pos this]⟩
theorem RdN.take {w : World} {ao : Option Addr} {l : List Nd} (h : RdN w ao l) (m : Nat) : RdN w ao (l.take m) := by
  rcases h with rfl | ⟨b, off, rfl, hc⟩
  · left; simp
  · refine .inr ⟨b, off, rfl, fun i n hi => hc i n ?_⟩
    rw [List.getElem?_take] at hi
    split at hi
    · exact hi
    · cases hi
theorem RdN.drop {w : World} {b off : Nat} {l : List Nd} (h : RdN w (some ⟨b, off, none⟩) l) (k : Nat) : RdN w (some ⟨b, off + k * 7, none⟩) (l.drop k) := by
  have := h.part k (l.drop k).length
  rwa [List.take_length] at this
theorem Small.take {l : List Nd} (h : Small l) (m : Nat) : Small (l.take m) := ⟨by have := h.1; simp; omega, fun n hn => h.2 n (List.mem_of_mem_take hn)⟩
theorem Small.drop {l : List Nd} (h : Small l) (m : Nat) : Small (l.drop m) := ⟨by have := h.1; simp; omega, fun n hn => h.2 n (List.mem_of_mem_drop hn)⟩
theorem Small.put {p q : List Nd} (h : Small p) (hq : Small q) (k : Int) (hp40 : p.length ≤ 40) (hq40 : q.length ≤ 40) : Small (joinN p k q) := by
  refine ⟨by unfold joinN; simp; omega, fun n hn => ?_⟩
  unfold joinN at hn
  rw [List.mem_append, List.mem_append] at hn
  rcases hn with (hn | hn) | hn
  · exact h.2 n (List.mem_of_mem_take hn)
  · exact hq.2 n hn
  · exact h.2 n (List.mem_of_mem_drop hn)
theorem planB_40 {p : List Nd} (h : planB p = true) : p.length ≤ 40 ∧ 1 ≤ p.length := by
  cases ht : treeN p with
  | none => simp [planB, ht] at h
  | some T => exact ⟨(treeN_some ht).1, treeN_pos ht⟩
theorem good_plan {p : List Nd} {k : Int} (h : goodB p k = true) : planB p = true := by
  simp only [goodB, Bool.and_eq_true] at h; exact h.1

theorem joined3_any (W : World) (t : TypeId) (a0 a1 a2 : Option Addr) (n0 c0 n1 c1 n2 c2 : Nat) (l0 l1 l2 : List Nd) (e0 : n0 = l0.length) (e1 : n1 = l1.length) (e2 : n2 = l2.length) (h0 : RdN W a0 l0) (h1 : RdN W a1 l1) (h2 : RdN W a2 l2) (s0 : Small l0) (s1 : Small l1) (s2 : Small l2) (J : List Nd) (hJ : l0 ++ l1 ++ l2 = J) :
    Calls Try.prog 78 #[.slice (some ⟨W.heap.size, 0, none⟩) 3 3] (W.alloc (.cells #[.slice a0 n0 c0, .slice a1 n1 c1, .slice a2 n2 c2] t))
      (MadeP (W.alloc (.cells #[.slice a0 n0 c0, .slice a1 n1 c1, .slice a2 n2 c2] t)) J) := by
  subst e0 e1 e2 hJ
  have hb : Below W.heap.size W (W.alloc (.cells #[.slice a0 l0.length c0, .slice a1 l1.length c1, .slice a2 l2.length c2] t)) := (Below.refl _ _).alloc (Nat.le_refl _) _
  have e : srcs [(a0, c0, l0), (a1, c1, l1), (a2, c2, l2)] = l0 ++ l1 ++ l2 := by simp [srcs]
  have := joined_any W.heap.size 3 [(a0, c0, l0), (a1, c1, l1), (a2, c2, l2)] (W.alloc (.cells #[.slice a0 l0.length c0, .slice a1 l1.length c1, .slice a2 l2.length c2] t)) (by simp) ?_ ?_ ?_
  · rw [e] at this; exact this
  · intro i q hq
    match i, hq with
    | 0, hq => cases hq; exact ⟨by rw [World.cell?_alloc_new]; rfl, h0.below hb⟩
    | 1, hq => cases hq; exact ⟨by rw [World.cell?_alloc_new]; rfl, h1.below hb⟩
    | 2, hq => cases hq; exact ⟨by rw [World.cell?_alloc_new]; rfl, h2.below hb⟩
  · intro q hq
    simp at hq
    rcases hq with rfl | rfl | rfl
    · exact s0
    · exact s1
    · exact s2
  · rw [e]; have := s0.1; have := s1.1; have := s2.1; simp; omega

/-- The place behind a part, in memory. -/
theorem drop_none {w : World} {ao : Option Addr} {en : Nat} {p : List Nd} (hc : p.length ≤ en) : RdN w ao (p.drop en) := by
  left; rw [List.drop_eq_nil_iff]; exact hc

set_option maxRecDepth 100000 in
set_option maxHeartbeats 1600000 in
theorem specPut_no1 (ao : Option Addr) (c : Nat) (p : List Nd) (hp : Small p) (k : Int) (qo : Option Addr) (qc : Nat) (q : List Nd) (w : World) (h : RdN w ao p) (hg : goodB p k = false) :
    Calls Try.prog 33 #[.slice ao p.length c, .int .i64 k, .slice qo q.length qc] w (MadeN2 w p false) := by
  have H := Lib.hid h; clear h
  have hpl := hp.1
  have SM := Lib.hid hp; clear hp
  have HG := Lib.hid hg; clear hg
  go_enter Try.func33, Try.ntmps33
  go_wp2_with fail
  refine (specGood_any ao c p k _ H.out hpl).mono ?_
  rintro e w1 ⟨rfl, b1⟩
  rw [HG.out]
  have B1 := Lib.hid b1; clear b1
  go_wp2_with fail
  refine (l02Copy_any ao c p _ (H.out.below B1.out) hpl SM.out.2).mono ?_
  rintro e w2 ⟨a2, c2, rfl, o2, b2⟩
  have O2 := Lib.hid (o2.base_le B1.out.size); have B2 := Lib.hid (below_step B1.out (Nat.le_refl _) b2)
  clear o2 b2
  go_wp2_with fail
  go_ret2
  exact ⟨a2, c2, rfl, O2.out, B2.out⟩

set_option maxRecDepth 100000 in
set_option maxHeartbeats 1600000 in
theorem specPut_no2 (ao : Option Addr) (c : Nat) (p : List Nd) (hp : Small p) (k : Int) (qo : Option Addr) (qc : Nat) (q : List Nd) (hq : Small q) (w : World) (h : RdN w ao p) (hqr : RdN w qo q) (hg : goodB p k = true) (hqb : planB q = false) :
    Calls Try.prog 33 #[.slice ao p.length c, .int .i64 k, .slice qo q.length qc] w (MadeN2 w p false) := by
  have H := Lib.hid h; have HQ := Lib.hid hqr; clear h hqr
  have hpl := hp.1; have hql := hq.1
  have SM := Lib.hid hp; clear hp hq
  have HG := Lib.hid hg; have HQB := Lib.hid hqb; clear hg hqb
  go_enter Try.func33, Try.ntmps33
  go_wp2_with fail
  refine (specGood_any ao c p k _ H.out hpl).mono ?_
  rintro e w1 ⟨rfl, b1⟩
  rw [HG.out]
  have B1 := Lib.hid b1; clear b1
  go_wp2_with fail
  refine (specPlanOk_any qo qc q _ (HQ.out.below B1.out) hql).mono ?_
  rintro e w2 ⟨rfl, b2⟩
  rw [HQB.out]
  have B2 := Lib.hid (below_step B1.out (Nat.le_refl _) b2); clear b2
  go_wp2_with fail
  refine (l02Copy_any ao c p _ (H.out.below B2.out) hpl SM.out.2).mono ?_
  rintro e w3 ⟨a3, c3, rfl, o3, b3⟩
  have O3 := Lib.hid (o3.base_le B2.out.size); have B3 := Lib.hid (below_step B2.out (Nat.le_refl _) b3)
  clear o3 b3
  go_wp2_with fail
  go_ret2
  exact ⟨a3, c3, rfl, O3.out, B3.out⟩

set_option maxRecDepth 100000 in
set_option maxHeartbeats 8000000 in
theorem specPut_yesA (ao : Option Addr) (c : Nat) (p : List Nd) (hp : Small p) (k : Int) (qo : Option Addr) (qc : Nat) (q : List Nd) (hq : Small q) (w : World) (h : RdN w ao p) (hqr : RdN w qo q) (hg : goodB p k = true) (hqb : planB q = true) (hcm : p = [] ∨ (p.length ≤ c ∧ c ≤ maxLen)) (hce' : (c : Int) = endOfN p k) :
    Calls Try.prog 33 #[.slice ao p.length c, .int .i64 k, .slice qo q.length qc] w (MadeN2 w (putN p k q) (putB p k q)) := by
  obtain ⟨T, S, _, _, _, he, hlt, hen, h0, _, _⟩ := part_good hg
  have hp40 := (planB_40 (good_plan hg)).1
  have hq40 := (planB_40 hqb).1
  obtain ⟨hc, hm⟩ : p.length ≤ c ∧ c ≤ maxLen := by
    rcases hcm with hh | hh
    · subst hh; simp at hen; omega
    · exact hh
  unfold maxLen at hm
  obtain ⟨b, off, rfl⟩ : ∃ b off, ao = some ⟨b, off, none⟩ := by
    obtain ⟨b, off, _, _, _, rfl, _⟩ := h.at_ (i := k.toNat) (by omega); exact ⟨b, off, rfl⟩
  have H := Lib.hid h; have HQ := Lib.hid hqr; clear h hqr
  have hpl := hp.1; have hql := hq.1
  have hEJ : p.take k.toNat ++ q ++ p.drop S.en = joinN p k q := by unfold joinN; rw [he]; simp
  have hSMJ := Small.put hp hq k hp40 hq40
  have hYES := put_yes hg hqb
  have hNO := put_no3 (p := p) (k := k) (q := q)
  generalize joinN p k q = J at hEJ hSMJ hYES hNO
  have hJl := hSMJ.1
  have EJ := Lib.hid hEJ; have SMJ := Lib.hid hSMJ; have YES := Lib.hid hYES; have NO := Lib.hid hNO
  clear hEJ hSMJ hYES hNO
  have SM := Lib.hid hp; have SQ := Lib.hid hq; clear hp hq
  have HG := Lib.hid hg; have HQB := Lib.hid hqb; have HE := Lib.hid he; clear hg hqb he hcm
  have k1 : k < (S.en : Int) := by omega
  have k2 : (S.en : Int) ≤ (c : Int) := by omega
  have k3 : k ≤ (c : Int) := by omega
  have k4 : (S.en : Int) ≤ (p.length : Int) := by omega
  have k5 : (p.length : Int) ≤ (c : Int) := by omega
  have LT := Lib.hid (show k.toNat = (p.take k.toNat).length by simp; omega)
  have LD := Lib.hid (show p.length - S.en = (p.drop S.en).length by simp)
  obtain rfl : c = S.en := by have := HE.out; omega
  clear hce'
  have LD0 := Lib.hid (show 0 = (p.drop S.en).length by simp; omega)
  go_enter Try.func33, Try.ntmps33
  go_wp2_with fail
  refine (specGood_any _ _ p k _ H.out hpl).mono ?_
  rintro e w1 ⟨rfl, b1⟩
  rw [HG.out]
  have B1 := Lib.hid b1; clear b1
  go_wp2_with fail
  refine (specPlanOk_any qo qc q _ (HQ.out.below B1.out) hql).mono ?_
  rintro e w2 ⟨rfl, b2⟩
  rw [HQB.out]
  have B2 := Lib.hid (below_step B1.out (Nat.le_refl _) b2); clear b2
  go_wp2_with fail
  first | go_region_with (first | (go_at_call 79; refine (specEndOf_any _ _ p k _ (H.out.below B2.out.drew) hpl).mono ?_; rintro e w3 ⟨rfl, b3⟩; rw [HE.out]; have B3 := Lib.hid (below_step B2.out.drew (Nat.le_refl _) b3); clear b3) | (go_at_call 78; (try rw [if_neg hce]); refine (joined3_any _ _ _ _ _ _ _ _ _ _ _ (p.take k.toNat) q (p.drop S.en) LT.out rfl LD0.out ((H.out.below B3.out).take _) (HQ.out.below B3.out) (by first | exact drop_none hc | exact (H.out.below B3.out).drop _) (SM.out.take _) SQ.out (SM.out.drop _) J EJ.out).mono ?_; rintro e w4 ⟨g4, c4, xs4, A4, C4, rfl, p4, b4⟩; have P4 := Lib.hid p4; have B4 := Lib.hid (below_step (B3.out.alloc B3.out.size _) (Nat.le_refl _) b4); have Z4 := B3.out.size; clear p4 b4)) | fail
  cases hj : planB J with
  | false =>
    have HJ := Lib.hid hj
    have E12 := Lib.hid (NO.out hj)
    clear hj
    go_wp2_with fail
    refine (specPlanOk_any (some ⟨g4, 0, none⟩) c4 J _ P4.out.rdN hJl).mono ?_
    rintro e w5 ⟨rfl, b5⟩
    rw [HJ.out]
    have B5 := Lib.hid (below_step B4.out (Nat.le_refl _) b5); clear b5
    go_wp2_with fail
    refine (l02Copy_any _ _ p _ (H.out.below B5.out) hpl SM.out.2).mono ?_
    rintro e w6 ⟨a6, c6, rfl, o6, b6⟩
    have O6 := Lib.hid (o6.base_le B5.out.size); have B6 := Lib.hid (below_step B5.out (Nat.le_refl _) b6)
    clear o6 b6
    go_wp2_with fail
    go_ret2
    rw [E12.out.1, E12.out.2]
    exact ⟨a6, c6, rfl, O6.out, B6.out⟩
  | true =>
    have HJ := Lib.hid hj
    have E12 := Lib.hid (YES.out hj)
    clear hj
    go_wp2_with fail
    refine (specPlanOk_any (some ⟨g4, 0, none⟩) c4 J _ P4.out.rdN hJl).mono ?_
    rintro e w5 ⟨rfl, b5⟩
    rw [HJ.out]
    have P5 := Lib.hid (P4.out.below b5)
    have B5 := Lib.hid (below_step B4.out (Nat.le_refl _) b5); clear b5
    go_wp2_with fail
    go_ret2
    rw [E12.out.1, E12.out.2]
    exact ⟨_, _, rfl, .inr ⟨g4, _, _, _, rfl, P5.out.base_le (by simp; omega)⟩, B5.out⟩

set_option maxRecDepth 100000 in
set_option maxHeartbeats 8000000 in
theorem specPut_yesB (ao : Option Addr) (c : Nat) (p : List Nd) (hp : Small p) (k : Int) (qo : Option Addr) (qc : Nat) (q : List Nd) (hq : Small q) (w : World) (h : RdN w ao p) (hqr : RdN w qo q) (hg : goodB p k = true) (hqb : planB q = true) (hcm : p = [] ∨ (p.length ≤ c ∧ c ≤ maxLen)) (hce' : (c : Int) ≠ endOfN p k) :
    Calls Try.prog 33 #[.slice ao p.length c, .int .i64 k, .slice qo q.length qc] w (MadeN2 w (putN p k q) (putB p k q)) := by
  obtain ⟨T, S, _, _, _, he, hlt, hen, h0, _, _⟩ := part_good hg
  have hp40 := (planB_40 (good_plan hg)).1
  have hq40 := (planB_40 hqb).1
  obtain ⟨hc, hm⟩ : p.length ≤ c ∧ c ≤ maxLen := by
    rcases hcm with hh | hh
    · subst hh; simp at hen; omega
    · exact hh
  unfold maxLen at hm
  obtain ⟨b, off, rfl⟩ : ∃ b off, ao = some ⟨b, off, none⟩ := by
    obtain ⟨b, off, _, _, _, rfl, _⟩ := h.at_ (i := k.toNat) (by omega); exact ⟨b, off, rfl⟩
  have H := Lib.hid h; have HQ := Lib.hid hqr; clear h hqr
  have hpl := hp.1; have hql := hq.1
  have hEJ : p.take k.toNat ++ q ++ p.drop S.en = joinN p k q := by unfold joinN; rw [he]; simp
  have hSMJ := Small.put hp hq k hp40 hq40
  have hYES := put_yes hg hqb
  have hNO := put_no3 (p := p) (k := k) (q := q)
  generalize joinN p k q = J at hEJ hSMJ hYES hNO
  have hJl := hSMJ.1
  have EJ := Lib.hid hEJ; have SMJ := Lib.hid hSMJ; have YES := Lib.hid hYES; have NO := Lib.hid hNO
  clear hEJ hSMJ hYES hNO
  have SM := Lib.hid hp; have SQ := Lib.hid hq; clear hp hq
  have HG := Lib.hid hg; have HQB := Lib.hid hqb; have HE := Lib.hid he; clear hg hqb he hcm
  have k1 : k < (S.en : Int) := by omega
  have k2 : (S.en : Int) ≤ (c : Int) := by omega
  have k3 : k ≤ (c : Int) := by omega
  have k4 : (S.en : Int) ≤ (p.length : Int) := by omega
  have k5 : (p.length : Int) ≤ (c : Int) := by omega
  have LT := Lib.hid (show k.toNat = (p.take k.toNat).length by simp; omega)
  have LD := Lib.hid (show p.length - S.en = (p.drop S.en).length by simp)
  have hce : ¬ (c = S.en) := by have := HE.out; omega
  clear hce'
  go_enter Try.func33, Try.ntmps33
  go_wp2_with fail
  refine (specGood_any _ _ p k _ H.out hpl).mono ?_
  rintro e w1 ⟨rfl, b1⟩
  rw [HG.out]
  have B1 := Lib.hid b1; clear b1
  go_wp2_with fail
  refine (specPlanOk_any qo qc q _ (HQ.out.below B1.out) hql).mono ?_
  rintro e w2 ⟨rfl, b2⟩
  rw [HQB.out]
  have B2 := Lib.hid (below_step B1.out (Nat.le_refl _) b2); clear b2
  go_wp2_with fail
  first | go_region_with (first | (go_at_call 79; refine (specEndOf_any _ _ p k _ (H.out.below B2.out.drew) hpl).mono ?_; rintro e w3 ⟨rfl, b3⟩; rw [HE.out]; have B3 := Lib.hid (below_step B2.out.drew (Nat.le_refl _) b3); clear b3) | (go_at_call 78; (try rw [if_neg hce]); refine (joined3_any _ _ _ _ _ _ _ _ _ _ _ (p.take k.toNat) q (p.drop S.en) LT.out rfl LD.out ((H.out.below B3.out).take _) (HQ.out.below B3.out) (by first | exact drop_none hc | exact (H.out.below B3.out).drop _) (SM.out.take _) SQ.out (SM.out.drop _) J EJ.out).mono ?_; rintro e w4 ⟨g4, c4, xs4, A4, C4, rfl, p4, b4⟩; have P4 := Lib.hid p4; have B4 := Lib.hid (below_step (B3.out.alloc B3.out.size _) (Nat.le_refl _) b4); have Z4 := B3.out.size; clear p4 b4)) | fail
  cases hj : planB J with
  | false =>
    have HJ := Lib.hid hj
    have E12 := Lib.hid (NO.out hj)
    clear hj
    go_wp2_with fail
    refine (specPlanOk_any (some ⟨g4, 0, none⟩) c4 J _ P4.out.rdN hJl).mono ?_
    rintro e w5 ⟨rfl, b5⟩
    rw [HJ.out]
    have B5 := Lib.hid (below_step B4.out (Nat.le_refl _) b5); clear b5
    go_wp2_with fail
    refine (l02Copy_any _ _ p _ (H.out.below B5.out) hpl SM.out.2).mono ?_
    rintro e w6 ⟨a6, c6, rfl, o6, b6⟩
    have O6 := Lib.hid (o6.base_le B5.out.size); have B6 := Lib.hid (below_step B5.out (Nat.le_refl _) b6)
    clear o6 b6
    go_wp2_with fail
    go_ret2
    rw [E12.out.1, E12.out.2]
    exact ⟨a6, c6, rfl, O6.out, B6.out⟩
  | true =>
    have HJ := Lib.hid hj
    have E12 := Lib.hid (YES.out hj)
    clear hj
    go_wp2_with fail
    refine (specPlanOk_any (some ⟨g4, 0, none⟩) c4 J _ P4.out.rdN hJl).mono ?_
    rintro e w5 ⟨rfl, b5⟩
    rw [HJ.out]
    have P5 := Lib.hid (P4.out.below b5)
    have B5 := Lib.hid (below_step B4.out (Nat.le_refl _) b5); clear b5
    go_wp2_with fail
    go_ret2
    rw [E12.out.1, E12.out.2]
    exact ⟨_, _, rfl, .inr ⟨g4, _, _, _, rfl, P5.out.base_le (by simp; omega)⟩, B5.out⟩

theorem specPut_any (ao : Option Addr) (c : Nat) (p : List Nd) (hp : Small p) (k : Int) (qo : Option Addr) (qc : Nat) (q : List Nd) (hq : Small q) (w : World) (h : RdN w ao p) (hqr : RdN w qo q) (hcm : p = [] ∨ (p.length ≤ c ∧ c ≤ maxLen)) :
    Calls Try.prog 33 #[.slice ao p.length c, .int .i64 k, .slice qo q.length qc] w (MadeN2 w (putN p k q) (putB p k q)) := by
  cases hg : goodB p k with
  | false =>
    obtain ⟨e1, e2⟩ := put_no1 (q := q) hg
    rw [e1, e2]
    exact specPut_no1 ao c p hp k qo qc q w h hg
  | true =>
    cases hqb : planB q with
    | false =>
      obtain ⟨e1, e2⟩ := put_no2 (p := p) (k := k) hqb
      rw [e1, e2]
      exact specPut_no2 ao c p hp k qo qc q hq w h hqr hg hqb
    | true =>
      by_cases hce : (c : Int) = endOfN p k
      · exact specPut_yesA ao c p hp k qo qc q hq w h hqr hg hqb hcm hce
      · exact specPut_yesB ao c p hp k qo qc q hq w h hqr hg hqb hcm hce
end Go.Proofs.Ytdkiaahcmoafdaa
namespace Go.Proofs.Ytdkiaahcmoafdaa
open Go.RowKit
set_option linter.unusedSimpArgs false
set_option linter.unusedVariables false

/-- A row of nodes of the call's own, the columns of each where they lay in w0. -/
def RowN (w0 w : World) (v : Value) (l : List Nd) : Prop :=
  ∃ A C, w.ownsRow w0.heap.size 37 7 v l.length (allCells l A C) ∧ ∀ i n, l[i]? = some n → Rd w0 .i64 (A i) n.cols ∧ n.cols.length ≤ C i ∧ C i ≤ maxLen ∧ n.name.size ≤ maxLen

theorem allCells_app : ∀ (l l2 : List Nd) (A A2 : Nat → Option Addr) (C C2 : Nat → Nat), allCells (l ++ l2) (fun i => if i < l.length then A i else A2 (i - l.length)) (fun i => if i < l.length then C i else C2 (i - l.length)) = allCells l A C ++ allCells l2 A2 C2
  | [], l2, A, A2, C, C2 => by simp [allCells]
  | n :: l, l2, A, A2, C, C2 => by
    have ih := allCells_app l l2 (fun i => A (i + 1)) A2 (fun i => C (i + 1)) C2
    simp only [List.cons_append, allCells, List.length_cons, Nat.add_lt_add_iff_right, Nat.add_sub_add_right, Nat.zero_lt_succ, if_true, List.append_assoc]
    rw [ih]
theorem rowN_app {w0 w' : World} {v' : Value} {l l2 : List Nd} {A : Nat → Option Addr} {C : Nat → Nat} {A2 : Nat → Option Addr} {C2 : Nat → Nat} {n : Nat}
    (h1 : ∀ i n, l[i]? = some n → Rd w0 .i64 (A i) n.cols ∧ n.cols.length ≤ C i ∧ C i ≤ maxLen ∧ n.name.size ≤ maxLen)
    (h2 : ∀ i n, l2[i]? = some n → Rd w0 .i64 (A2 i) n.cols ∧ n.cols.length ≤ C2 i ∧ C2 i ≤ maxLen ∧ n.name.size ≤ maxLen)
    (ho : w'.ownsRow w0.heap.size 37 7 v' n (allCells l A C ++ allCells l2 A2 C2)) (hn : n = (l ++ l2).length) : RowN w0 w' v' (l ++ l2) := by
  subst hn
  refine ⟨_, _, by rw [allCells_app]; exact ho, fun i n hi => ?_⟩
  by_cases hil : i < l.length
  · simp only [if_pos hil]
    rw [List.getElem?_append_left hil] at hi
    exact h1 i n hi
  · simp only [if_neg hil]
    rw [List.getElem?_append_right (by omega)] at hi
    exact h2 _ n hi
theorem RowN.rdN {w0 w : World} {g c : Nat} {l : List Nd} (h : RowN w0 w (.slice (some ⟨g, 0, none⟩) l.length c) l) (hb : Below w0.heap.size w0 w) : RdN w (some ⟨g, 0, none⟩) l := by
  obtain ⟨A, C, ho, hr⟩ := h
  refine .inr ⟨g, 0, rfl, fun i n hi => ⟨A i, C i, ?_⟩⟩
  have hl := some_lt hi
  obtain ⟨r1, r2, r3, r4⟩ := hr i n hi
  have key : ∀ t, t < 7 → w.cell? ⟨g, 0 + i * 7 + t, none⟩ = (ndCells n (A i) (C i))[t]? := fun t ht => by
    rw [Nat.zero_add, World.ownsRow.cellAt ho _ (by omega)]
    exact allCells_get l A C i n hi t ht
  exact ⟨key 0 (by omega), key 1 (by omega), key 2 (by omega), key 3 (by omega), key 4 (by omega), key 5 (by omega), key 6 (by omega), r1.below hb, r2, r3, r4⟩
theorem RdN.ind {w : World} {ao : Option Addr} {l : List Nd} (h : RdN w ao l) (hne : l ≠ []) : ∃ (b off : Nat) (A : Nat → Option Addr) (C : Nat → Nat), ao = some ⟨b, off, none⟩ ∧ ∀ i n, l[i]? = some n → NdAt w b (off + i * 7) n (A i) (C i) := by
  rcases h with h | ⟨b, off, rfl, hc⟩
  · exact absurd h hne
  · obtain ⟨A, C, hA⟩ := nodes_ind hc
    exact ⟨b, off, A, C, rfl, hA⟩
theorem RdN.indAt {w : World} {b off : Nat} {l : List Nd} (h : RdN w (some ⟨b, off, none⟩) l) : ∃ (A : Nat → Option Addr) (C : Nat → Nat), ∀ i n, l[i]? = some n → NdAt w b (off + i * 7) n (A i) (C i) := by
  by_cases hne : l = []
  · subst hne; exact ⟨fun _ => none, fun _ => 0, fun i n hi => by simp at hi⟩
  · obtain ⟨b', off', A, C, he, hA⟩ := h.ind hne
    cases he
    exact ⟨A, C, hA⟩
end Go.Proofs.Ytdkiaahcmoafdaa
namespace Go.Proofs.Ytdkiaahcmoafdaa
open Go.Shelf
def Try.laysGrowN_ren : Go.Shelf.Ren := ⟨fun | 4 => 99 | n => n, fun | 22 => 24 | 25 => 37 | 3 => 3 | 4 => 4 | 9 => 9 | 20 => 20 | 0 => 0 | n => n, fun | n => n⟩
theorem Try.laysGrowN : Go.Proofs.Lays8.n4 Try.prog Try.laysGrowN_ren := {
  mixed := by kernel_rfl
  f4 := ⟨Try.f99.name, by decide, Try.func99.trans (congrArg some (by kernel_rfl))⟩
  t0 := Try.underlying0
  a0 := Try.isAgg0
  z0 := Try.sizeOf0
  v0 := Try.zeroValue0
  t3 := Try.underlying3
  a3 := Try.isAgg3
  z3 := Try.sizeOf3
  v3 := Try.zeroValue3
  t4 := Try.underlying4
  a4 := Try.isAgg4
  z4 := Try.sizeOf4
  v4 := Try.zeroValue4
  t9 := Try.underlying9
  a9 := Try.isAgg9
  z9 := Try.sizeOf9
  v9 := Try.zeroValue9
  t20 := Try.underlying20
  a20 := Try.isAgg20
  z20 := Try.sizeOf20
  v20 := Try.zeroValue20
  t22 := Try.underlying24
  a22 := Try.isAgg24
  z22 := Try.sizeOf24
  v22 := Try.zeroValue24 }
end Go.Proofs.Ytdkiaahcmoafdaa
namespace Go.Proofs.Ytdkiaahcmoafdaa
open Go.RowKit Go.Shelf
set_option linter.unusedSimpArgs false
set_option linter.unusedVariables false

theorem growNil_any (x : Int) (n : Nat) (hx : x = (n : Int)) (w : World) (h0 : 0 < n) (hn : n ≤ 4194304) :
    Calls Try.prog 99 #[.slice none 0 0, .int .i64 x] w fun e w' => ∃ c, e = .returned (.slice (some ⟨w.heap.size, 0, none⟩) 0 c) ∧ w'.ownsRow w.heap.size 37 7 (.slice (some ⟨w.heap.size, 0, none⟩) 0 c) 0 [] ∧ Below w.heap.size w w' := by
  subst hx
  obtain ⟨i0, hi, hz0, hz1, hz2⟩ := info_parts Try.infoNode
  refine (Any8.slices_Grow_grow Try.laysGrowN i0 _ hi hz0 (by rw [hz1]; omega) none 0 0 n [] w (Nat.le_refl _) (by omega) (by rw [hz2]; omega) (by omega) (by simp) (fun _ => rfl) (by intro a ha; cases ha)).mono ?_
  rintro e w' ⟨rfl, rfl⟩
  have hge := grownCap_ge w (0 + n) 0 37
  have hcm := grownCap_le_maxLen w (0 + n) 0 37 (by unfold maxLen; omega)
  refine ⟨_, rfl, ⟨rfl, .inr ⟨w.heap.size, _, _, rfl, Nat.le_refl _, heap_alloc_new w.drew _, Nat.zero_le _, hcm, ?_, ?_⟩⟩, ?_⟩
  · have key : ∀ (z : Array Value) (G : Nat), z.size = 7 → 0 + n ≤ G → (#[] ++ Builtin.zeroCells z (0 + n - 0) ++ Builtin.zeroCells z (G - (0 + n))).size = G * 7 := by
      intro z G hz hG
      simp only [Array.size_append, size_zeroCells, hz]
      simp
      omega
    exact key _ _ rfl hge
  · simp
  · exact ((Below.refl _ w).drew).alloc (by simp) _

/-- What the three lists give, one behind the other. -/
def CatP (w : World) (l : List Nd) (e : Ending) (w' : World) : Prop := ∃ g c, e = .returned (.slice (some ⟨g, 0, none⟩) l.length c) ∧ RdN w' (some ⟨g, 0, none⟩) l ∧ Below w.heap.size w w'
theorem cat_end {w w' : World} {v : Value} {l0 l1 l2 : List Nd} {A0 A1 A2 : Nat → Option Addr} {C0 C1 C2 : Nat → Nat} {b0 o0 b1 o1 b2 o2 : Nat}
    (n0 : ∀ i n, l0[i]? = some n → NdAt w b0 (o0 + i * 7) n (A0 i) (C0 i)) (n1 : ∀ i n, l1[i]? = some n → NdAt w b1 (o1 + i * 7) n (A1 i) (C1 i)) (n2 : ∀ i n, l2[i]? = some n → NdAt w b2 (o2 + i * 7) n (A2 i) (C2 i))
    (ho : w'.ownsRow w.heap.size 37 7 v (0 + l0.length + l1.length + l2.length) ([] ++ allCells l0 A0 C0 ++ allCells l1 A1 C1 ++ allCells l2 A2 C2)) (hne : 0 < l1.length) (hb : Below w.heap.size w w') :
    ∃ g c, v = .slice (some ⟨g, 0, none⟩) (l0 ++ l1 ++ l2).length c ∧ RdN w' (some ⟨g, 0, none⟩) (l0 ++ l1 ++ l2) := by
  have f : ∀ {l : List Nd} {A : Nat → Option Addr} {C : Nat → Nat} {b o : Nat}, (∀ i n, l[i]? = some n → NdAt w b (o + i * 7) n (A i) (C i)) → ∀ i n, l[i]? = some n → Rd w .i64 (A i) n.cols ∧ n.cols.length ≤ C i ∧ C i ≤ maxLen ∧ n.name.size ≤ maxLen :=
    fun h i n hi => ⟨(h i n hi).rd, (h i n hi).cap, (h i n hi).mx, (h i n hi).nm⟩
  have e : 0 + l0.length + l1.length + l2.length = (l0 ++ l1 ++ l2).length := by simp; omega
  have R : RowN w w' v (l0 ++ l1 ++ l2) := by
    refine rowN_app (l := l0 ++ l1) (A := fun i => if i < l0.length then A0 i else A1 (i - l0.length)) (C := fun i => if i < l0.length then C0 i else C1 (i - l0.length)) ?_ (f n2) (n := 0 + l0.length + l1.length + l2.length) ?_ e
    · intro i n hi
      by_cases hil : i < l0.length
      · simp only [if_pos hil]
        rw [List.getElem?_append_left hil] at hi
        exact f n0 i n hi
      · simp only [if_neg hil]
        rw [List.getElem?_append_right (by omega)] at hi
        exact f n1 _ n hi
    · rw [allCells_app]; rw [List.nil_append] at ho; exact ho
  rcases ho.2 with ⟨rfl, hz⟩ | ⟨g, cap, cur, rfl, _⟩
  · omega
  · refine ⟨g, cap, by rw [e], ?_⟩
    rw [e] at R
    exact R.rdN hb

set_option maxRecDepth 100000 in
set_option maxHeartbeats 1600000 in
theorem concat_any (bv b0 o0 c0 b1 o1 c1 b2 o2 c2 : Nat) (l0 l1 l2 : List Nd) (w : World) (h0 : RdN w (some ⟨b0, o0, none⟩) l0) (h1 : RdN w (some ⟨b1, o1, none⟩) l1) (h2 : RdN w (some ⟨b2, o2, none⟩) l2)
    (v0 : w.cell? ⟨bv, 0, none⟩ = some (.slice (some ⟨b0, o0, none⟩) l0.length c0)) (v1 : w.cell? ⟨bv, 1, none⟩ = some (.slice (some ⟨b1, o1, none⟩) l1.length c1)) (v2 : w.cell? ⟨bv, 2, none⟩ = some (.slice (some ⟨b2, o2, none⟩) l2.length c2))
    (hne : 0 < l1.length) (k0 : l0.length ≤ 1048576) (k1 : l1.length ≤ 1048576) (k2 : l2.length ≤ 1048576) :
    Calls Try.prog 62 #[.slice (some ⟨bv, 0, none⟩) 3 3] w (CatP w (l0 ++ l1 ++ l2)) := by
  obtain ⟨A0, C0, n0⟩ := h0.indAt
  obtain ⟨A1, C1, n1⟩ := h1.indAt
  obtain ⟨A2, C2, n2⟩ := h2.indAt
  have N0 := Lib.hid n0; have N1 := Lib.hid n1; have N2 := Lib.hid n2
  have hbv : bv < w.heap.size := World.block_lt_of_cell? w ⟨bv, 0, none⟩ v0
  clear n0 n1 n2 h0 h1 h2
  go_enter Try.func62, Try.ntmps62
  go_wp2_with fail
  refine wp_loop_rounds 4 ?_; rw [rounds_succ]
  go_wp2_with fail
  rw [rounds_succ]
  go_wp2_with fail
  rw [rounds_succ]
  go_wp2_with fail
  rw [rounds_succ]
  go_wp2_with fail
  refine (growNil_any _ (l0.length + l1.length + l2.length) (by omega) _ (by omega) (by omega)).mono ?_
  rintro e w1 ⟨c, rfl, og, b1⟩
  have OG := Lib.hid og; have B1 := Lib.hid b1
  have u0 := (b1.cell (p := ⟨bv, 0, none⟩) hbv).trans v0
  have u1 := (b1.cell (p := ⟨bv, 1, none⟩) hbv).trans v1
  have u2 := (b1.cell (p := ⟨bv, 2, none⟩) hbv).trans v2
  have hz1 := b1.size
  clear og b1
  go_wp2_with fail
  refine wp_loop_rounds 4 ?_; rw [rounds_succ]
  go_wp2_with (at_builtin; go_must (refine wpList_appendNs _ rfl (.tmp 31) (.tmp 32) 24 rfl w.heap.size Try.underlying24 Try.infoNode rfl _ 0 [] rfl OG.out b0 o0 _ c0 l0 A0 C0 rfl rfl (fun i n hi => (N0.out i n hi).below B1.out) (by omega) hz1 ?_; intro x2 w2 o2' g2 _; have OW2 := Lib.hid o2'; have B2 := Lib.hid (B1.out.grown g2 hz1 (fun g hg => (OG.out.lt g hg).1)); clear o2' g2))
  have hz2 := B2.out.size
  have u1' := (B2.out.cell (p := ⟨bv, 1, none⟩) hbv).trans v1
  have u2' := (B2.out.cell (p := ⟨bv, 2, none⟩) hbv).trans v2
  clear u0 u1 u2
  rw [rounds_succ]
  go_wp2_with (at_builtin; go_must (refine wpList_appendNs _ rfl (.tmp 31) (.tmp 32) 24 rfl w.heap.size Try.underlying24 Try.infoNode rfl _ _ _ rfl OW2.out b1 o1 _ c1 l1 A1 C1 rfl rfl (fun i n hi => (N1.out i n hi).below B2.out) (by omega) hz2 ?_; intro x3 w3 o3' g3 _; have OW3 := Lib.hid o3'; have B3 := Lib.hid (B2.out.grown g3 hz2 (fun g hg => (OW2.out.lt g hg).1)); clear o3' g3))
  have hz3 := B3.out.size
  have u2'' := (B3.out.cell (p := ⟨bv, 2, none⟩) hbv).trans v2
  clear u1' u2'
  rw [rounds_succ]
  go_wp2_with (at_builtin; go_must (refine wpList_appendNs _ rfl (.tmp 31) (.tmp 32) 24 rfl w.heap.size Try.underlying24 Try.infoNode rfl _ _ _ rfl OW3.out b2 o2 _ c2 l2 A2 C2 rfl rfl (fun i n hi => (N2.out i n hi).below B3.out) (by omega) hz3 ?_; intro x4 w4 o4' g4 _; have OW4 := Lib.hid o4'; have B4 := Lib.hid (B3.out.grown g4 hz3 (fun g hg => (OW3.out.lt g hg).1)); clear o4' g4))
  obtain ⟨g, cc, rfl, hrd⟩ := cat_end N0.out N1.out N2.out OW4.out hne B4.out
  have RD := Lib.hid hrd
  clear hrd u2''
  rw [rounds_succ]
  go_wp2_with fail
  go_ret
  exact ⟨_, _, rfl, RD.out, B4.out⟩
end Go.Proofs.Ytdkiaahcmoafdaa
namespace Go.Proofs.Ytdkiaahcmoafdaa
open Go.RowKit
set_option linter.unusedSimpArgs false
set_option linter.unusedVariables false

theorem concat3_any (W : World) (t : TypeId) (b0 o0 n0 c0 b1 o1 n1 c1 b2 o2 n2 c2 : Nat) (l0 l1 l2 : List Nd) (e0 : n0 = l0.length) (e1 : n1 = l1.length) (e2 : n2 = l2.length) (h0 : RdN W (some ⟨b0, o0, none⟩) l0) (h1 : RdN W (some ⟨b1, o1, none⟩) l1) (h2 : RdN W (some ⟨b2, o2, none⟩) l2)
    (hne : 0 < l1.length) (k0 : l0.length ≤ 1048576) (k1 : l1.length ≤ 1048576) (k2 : l2.length ≤ 1048576) (J : List Nd) (hJ : l0 ++ l1 ++ l2 = J) :
    Calls Try.prog 62 #[.slice (some ⟨W.heap.size, 0, none⟩) 3 3] (W.alloc (.cells #[.slice (some ⟨b0, o0, none⟩) n0 c0, .slice (some ⟨b1, o1, none⟩) n1 c1, .slice (some ⟨b2, o2, none⟩) n2 c2] t))
      (CatP (W.alloc (.cells #[.slice (some ⟨b0, o0, none⟩) n0 c0, .slice (some ⟨b1, o1, none⟩) n1 c1, .slice (some ⟨b2, o2, none⟩) n2 c2] t)) J) := by
  subst e0 e1 e2 hJ
  have hb : Below W.heap.size W (W.alloc (.cells #[.slice (some ⟨b0, o0, none⟩) l0.length c0, .slice (some ⟨b1, o1, none⟩) l1.length c1, .slice (some ⟨b2, o2, none⟩) l2.length c2] t)) := (Below.refl _ _).alloc (Nat.le_refl _) _
  exact concat_any W.heap.size b0 o0 c0 b1 o1 c1 b2 o2 c2 l0 l1 l2 _ (h0.below hb) (h1.below hb) (h2.below hb) (by rw [World.cell?_alloc_new]; rfl) (by rw [World.cell?_alloc_new]; rfl) (by rw [World.cell?_alloc_new]; rfl) hne k0 k1 k2

set_option maxRecDepth 100000 in
set_option maxHeartbeats 1600000 in
theorem implPut_no1 (b off c : Nat) (p : List Nd) (hp : Small p) (k : Int) (qo : Option Addr) (qc : Nat) (q : List Nd) (w : World) (h : RdN w (some ⟨b, off, none⟩) p) (hg : goodB p k = false) :
    Calls Try.prog 19 #[.slice (some ⟨b, off, none⟩) p.length c, .int .i64 k, .slice qo q.length qc] w (MadeN2 w p false) := by
  have H := Lib.hid h; clear h
  have hpl := hp.1
  have SM := Lib.hid hp; clear hp
  have GN := Lib.hid (good_none hg); clear hg
  go_enter Try.func19, Try.ntmps19
  go_wp2_with fail
  refine (treeOf_any _ c p SM.out _ H.out).mono ?_
  intro e w1 hpost
  rcases GN.out with ht | ⟨T, ht, hf⟩
  · rw [ht] at hpost
    obtain ⟨rfl, b1⟩ := hpost
    have B1 := Lib.hid b1
    clear ht b1
    go_wp2_with fail
    refine (findNil_any _ _).mono ?_
    rintro e w' ⟨rfl, rfl⟩
    go_wp2_with fail
    refine (copyNodesAt_any b off c p _ (H.out.below B1.out) hpl SM.out.2).mono ?_
    rintro e w2 ⟨a2, c2, rfl, o2, b2⟩
    have O2 := Lib.hid (o2.base_le B1.out.size); have B2 := Lib.hid (below_step B1.out (Nat.le_refl _) b2)
    clear o2 b2
    go_wp2_with fail
    go_ret2
    exact ⟨a2, c2, rfl, O2.out, B2.out⟩
  · rw [ht] at hpost
    obtain ⟨bt, rfl, tr, b1⟩ := hpost
    have TR := Lib.hid tr; have B1 := Lib.hid b1; have HF := Lib.hid hf
    clear ht tr b1 hf
    go_wp2_with fail
    refine (find_any k T _ _ _ bt TR.out).mono ?_
    rw [HF.out]
    rintro e w' ⟨rfl, rfl⟩
    go_wp2_with fail
    refine (copyNodesAt_any b off c p _ (H.out.below B1.out) hpl SM.out.2).mono ?_
    rintro e w2 ⟨a2, c2, rfl, o2, b2⟩
    have O2 := Lib.hid (o2.base_le B1.out.size); have B2 := Lib.hid (below_step B1.out (Nat.le_refl _) b2)
    clear o2 b2
    go_wp2_with fail
    go_ret2
    exact ⟨a2, c2, rfl, O2.out, B2.out⟩

set_option maxRecDepth 100000 in
set_option maxHeartbeats 1600000 in
theorem implPut_no2 (b off c : Nat) (p : List Nd) (hp : Small p) (k : Int) (qo : Option Addr) (qc : Nat) (q : List Nd) (hq : Small q) (w : World) (h : RdN w (some ⟨b, off, none⟩) p) (hqr : RdN w qo q) (hg : goodB p k = true) (hqb : planB q = false) :
    Calls Try.prog 19 #[.slice (some ⟨b, off, none⟩) p.length c, .int .i64 k, .slice qo q.length qc] w (MadeN2 w p false) := by
  obtain ⟨T, S, ht, hf, _⟩ := part_good hg
  have H := Lib.hid h; have HQ := Lib.hid hqr; clear h hqr
  have hpl := hp.1
  have SM := Lib.hid hp; have SQ := Lib.hid hq; clear hp hq
  have HQB := Lib.hid hqb; have HT := Lib.hid ht; have HF := Lib.hid hf; clear hqb hg ht hf
  go_enter Try.func19, Try.ntmps19
  go_wp2_with fail
  refine (treeOf_any _ c p SM.out _ H.out).mono ?_
  rw [HT.out]
  rintro e w1 ⟨bt, rfl, tr, b1⟩
  have TR := Lib.hid tr; have B1 := Lib.hid b1
  clear tr b1
  go_wp2_with fail
  refine (find_any k T _ _ _ bt TR.out).mono ?_
  rw [HF.out]
  rintro e w' ⟨bs, rfl, ts, rfl⟩
  clear ts
  go_wp2_with fail
  refine (implPlanOk_any qo qc q SQ.out _ (HQ.out.below B1.out)).mono ?_
  rintro e w2 ⟨rfl, b2⟩
  rw [HQB.out]
  have B2 := Lib.hid (below_step B1.out (Nat.le_refl _) b2); clear b2
  go_wp2_with fail
  refine (copyNodesAt_any b off c p _ (H.out.below B2.out) hpl SM.out.2).mono ?_
  rintro e w3 ⟨a3, c3, rfl, o3, b3⟩
  have O3 := Lib.hid (o3.base_le B2.out.size); have B3 := Lib.hid (below_step B2.out (Nat.le_refl _) b3)
  clear o3 b3
  go_wp2_with fail
  go_ret2
  exact ⟨a3, c3, rfl, O3.out, B3.out⟩

set_option maxRecDepth 100000 in
set_option maxHeartbeats 1000000 in
theorem implPut_yesB (b off c : Nat) (p : List Nd) (hp : Small p) (k : Int) (qb qoff : Nat) (qc : Nat) (q : List Nd) (hq : Small q) (w : World) (h : RdN w (some ⟨b, off, none⟩) p) (hqr : RdN w (some ⟨qb, qoff, none⟩) q) (hg : goodB p k = true) (hqb : planB q = true) (hcm : p = [] ∨ (p.length ≤ c ∧ c ≤ maxLen)) (hce' : (c : Int) ≠ endOfN p k) :
    Calls Try.prog 19 #[.slice (some ⟨b, off, none⟩) p.length c, .int .i64 k, .slice (some ⟨qb, qoff, none⟩) q.length qc] w (MadeN2 w (putN p k q) (putB p k q)) := by
  obtain ⟨T, S, ht, hf, hSp, he, hlt, hen, h0, _, _⟩ := part_good hg
  have hp40 := (planB_40 (good_plan hg)).1
  have hq40 := planB_40 hqb
  obtain ⟨hc, hm⟩ : p.length ≤ c ∧ c ≤ maxLen := by
    rcases hcm with hh | hh
    · subst hh; simp at hen; omega
    · exact hh
  unfold maxLen at hm
  have H := Lib.hid h; have HQ := Lib.hid hqr; clear h hqr
  have hpl := hp.1; have hql := hq.1
  have hEJ : p.take S.pl ++ q ++ p.drop S.en = joinN p k q := by unfold joinN; rw [he, hSp]; simp
  have hSMJ := Small.put hp hq k hp40 hq40.1
  have hYES := put_yes hg hqb
  have hNO := put_no3 (p := p) (k := k) (q := q)
  have hJpos : 0 < (joinN p k q).length := by unfold joinN; simp; omega
  have hce : ¬ (c = S.en) := by omega
  generalize joinN p k q = J at hEJ hSMJ hYES hNO hJpos
  have hJl := hSMJ.1
  have EJ := Lib.hid hEJ; have SMJ := Lib.hid hSMJ; have YES := Lib.hid hYES; have NO := Lib.hid hNO
  clear hEJ hSMJ hYES hNO
  have SM := Lib.hid hp; have SQ := Lib.hid hq; clear hp hq
  have HQB := Lib.hid hqb; have HT := Lib.hid ht; have HF := Lib.hid hf; clear hg hqb he hcm ht hf hce'
  have k0 : (S.pl : Int) < (S.en : Int) := by omega
  have k1 : (S.pl : Int) ≤ (p.length : Int) := by omega
  have k2 : (S.en : Int) ≤ (c : Int) := by omega
  have k3 : (S.pl : Int) ≤ (c : Int) := by omega
  have k4 : (S.en : Int) ≤ (p.length : Int) := by omega
  have k5 : (p.length : Int) ≤ (c : Int) := by omega
  have LT := Lib.hid (show S.pl = (p.take S.pl).length by simp; omega)
  have LD := Lib.hid (show p.length - S.en = (p.drop S.en).length by simp)
  have HSP := Lib.hid hSp; clear hSp
  go_enter Try.func19, Try.ntmps19
  go_wp2_with fail
  refine (treeOf_any _ c p SM.out _ H.out).mono ?_
  rw [HT.out]
  rintro e w1 ⟨bt, rfl, tr, b1⟩
  have TR := Lib.hid tr; have B1 := Lib.hid b1
  clear tr b1
  go_wp2_with fail
  refine (find_any k T _ _ _ bt TR.out).mono ?_
  rw [HF.out]
  rintro e w' ⟨bs, rfl, ts, rfl⟩
  obtain ⟨v, hl1, hl2, a, c', c0, c1, c2, c3⟩ := ts.head
  clear ts
  go_wp2_with fail
  refine (implPlanOk_any _ qc q SQ.out _ (HQ.out.below B1.out)).mono ?_
  rintro e w2 ⟨rfl, b2⟩
  rw [HQB.out]
  have d1 := (b2.cell (p := ⟨bs, 1, none⟩) (World.block_lt_of_cell? w1 ⟨bs, 1, none⟩ c1)).trans c1
  have d2 := (b2.cell (p := ⟨bs, 2, none⟩) (World.block_lt_of_cell? w1 ⟨bs, 2, none⟩ c2)).trans c2
  have B2 := Lib.hid (below_step B1.out (Nat.le_refl _) b2); clear b2 c0 c1 c2 c3
  go_wp2_with fail
  refine wp_region_still_tail 13 (by kernel_rfl) (by kernel_rfl) ?_
  simp only [List.take_succ_cons, List.take_zero, List.drop_succ_cons, List.drop_zero]
  have bd : Below w2.heap.size w2 { w2 with drawn := w2.drawn + 1 } := ⟨rfl, rfl, rfl, Nat.le_refl _, fun _ _ => rfl⟩
  generalize ({ w2 with drawn := w2.drawn + 1 } : World) = w3 at bd ⊢
  have u1 := (bd.cell (p := ⟨bs, 1, none⟩) (World.block_lt_of_cell? w2 ⟨bs, 1, none⟩ d1)).trans d1
  have u2 := (bd.cell (p := ⟨bs, 2, none⟩) (World.block_lt_of_cell? w2 ⟨bs, 2, none⟩ d2)).trans d2
  have B3 := Lib.hid (below_step B2.out (Nat.le_refl _) bd)
  clear bd d1 d2
  repeat still_step
  refine wpStill_nil ?_
  go_wp2_with fail
  refine (concat3_any _ _ b off _ _ qb qoff _ _ b _ _ _ (p.take S.pl) q (p.drop S.en) LT.out rfl LD.out ((H.out.below B3.out).take _) (HQ.out.below B3.out) ((H.out.below B3.out).drop _) (by omega) (SM.out.take _).1 hql (SM.out.drop _).1 J EJ.out).mono ?_
  rintro e w4 ⟨g4, c4, rfl, r4, b4⟩
  have R4 := Lib.hid r4; have Z3 := B3.out.size
  have B4 := Lib.hid (below_step (B3.out.alloc B3.out.size _) (Nat.le_refl _) b4)
  clear r4 b4 u1 u2
  go_wp2_with fail
  refine (copyNodes_any _ c4 J _ R4.out (by intro hh; rw [hh] at hJpos; simp at hJpos) hJl SMJ.out.2).mono ?_
  rintro e w5 ⟨a5, c5, rfl, o5, b5⟩
  have O5 := Lib.hid o5; have B5 := Lib.hid (below_step B4.out (Nat.le_refl _) b5); have Z4 := B4.out.size
  clear o5 b5
  go_wp2_with fail
  refine (implPlanOk_any _ c5 J SMJ.out _ O5.out.rd).mono ?_
  rintro e w6 ⟨rfl, b6⟩
  have O6 := Lib.hid (O5.out.below b6); have B6 := Lib.hid (below_step B5.out (Nat.le_refl _) b6)
  clear b6
  cases hj : planB J with
  | false =>
    have E12 := Lib.hid (NO.out hj)
    clear hj
    go_wp2_with fail
    refine (copyNodesAt_any b off c p _ (H.out.below B6.out) hpl SM.out.2).mono ?_
    rintro e w7 ⟨a7, c7, rfl, o7, b7⟩
    have O7 := Lib.hid (o7.base_le B6.out.size); have B7 := Lib.hid (below_step B6.out (Nat.le_refl _) b7)
    clear o7 b7
    go_wp2_with fail
    go_ret2
    rw [E12.out.1, E12.out.2]
    exact ⟨a7, c7, rfl, O7.out, B7.out⟩
  | true =>
    have E12 := Lib.hid (YES.out hj)
    clear hj
    go_wp2_with fail
    go_ret2
    rw [E12.out.1, E12.out.2]
    exact ⟨_, _, rfl, O6.out.base_le Z4, B6.out⟩

set_option maxRecDepth 100000 in
set_option maxHeartbeats 1000000 in
theorem implPut_yesA (b off c : Nat) (p : List Nd) (hp : Small p) (k : Int) (qb qoff : Nat) (qc : Nat) (q : List Nd) (hq : Small q) (w : World) (h : RdN w (some ⟨b, off, none⟩) p) (hqr : RdN w (some ⟨qb, qoff, none⟩) q) (hg : goodB p k = true) (hqb : planB q = true) (hcm : p = [] ∨ (p.length ≤ c ∧ c ≤ maxLen)) (hce' : (c : Int) = endOfN p k) :
    Calls Try.prog 19 #[.slice (some ⟨b, off, none⟩) p.length c, .int .i64 k, .slice (some ⟨qb, qoff, none⟩) q.length qc] w (MadeN2 w (putN p k q) (putB p k q)) := by
  obtain ⟨T, S, ht, hf, hSp, he, hlt, hen, h0, _, _⟩ := part_good hg
  have hp40 := (planB_40 (good_plan hg)).1
  have hq40 := planB_40 hqb
  obtain ⟨hc, hm⟩ : p.length ≤ c ∧ c ≤ maxLen := by
    rcases hcm with hh | hh
    · subst hh; simp at hen; omega
    · exact hh
  unfold maxLen at hm
  have H := Lib.hid h; have HQ := Lib.hid hqr; clear h hqr
  have hpl := hp.1; have hql := hq.1
  have hEJ : p.take S.pl ++ q ++ p.drop S.en = joinN p k q := by unfold joinN; rw [he, hSp]; simp
  have hSMJ := Small.put hp hq k hp40 hq40.1
  have hYES := put_yes hg hqb
  have hNO := put_no3 (p := p) (k := k) (q := q)
  have hJpos : 0 < (joinN p k q).length := by unfold joinN; simp; omega
  have hce : c = S.en := by omega
  generalize joinN p k q = J at hEJ hSMJ hYES hNO hJpos
  have hJl := hSMJ.1
  have EJ := Lib.hid hEJ; have SMJ := Lib.hid hSMJ; have YES := Lib.hid hYES; have NO := Lib.hid hNO
  clear hEJ hSMJ hYES hNO
  have SM := Lib.hid hp; have SQ := Lib.hid hq; clear hp hq
  have HQB := Lib.hid hqb; have HT := Lib.hid ht; have HF := Lib.hid hf; clear hg hqb he hcm ht hf hce'
  have k0 : (S.pl : Int) < (S.en : Int) := by omega
  have k1 : (S.pl : Int) ≤ (p.length : Int) := by omega
  have k2 : (S.en : Int) ≤ (c : Int) := by omega
  have k3 : (S.pl : Int) ≤ (c : Int) := by omega
  have k4 : (S.en : Int) ≤ (p.length : Int) := by omega
  have k5 : (p.length : Int) ≤ (c : Int) := by omega
  have LT := Lib.hid (show S.pl = (p.take S.pl).length by simp; omega)
  have LD := Lib.hid (show p.length - S.en = (p.drop S.en).length by simp)
  have HSP := Lib.hid hSp; clear hSp
  subst hce
  have LD0 := Lib.hid (show 0 = (p.drop S.en).length by simp; omega)
  go_enter Try.func19, Try.ntmps19
  go_wp2_with fail
  refine (treeOf_any _ _ p SM.out _ H.out).mono ?_
  rw [HT.out]
  rintro e w1 ⟨bt, rfl, tr, b1⟩
  have TR := Lib.hid tr; have B1 := Lib.hid b1
  clear tr b1
  go_wp2_with fail
  refine (find_any k T _ _ _ bt TR.out).mono ?_
  rw [HF.out]
  rintro e w' ⟨bs, rfl, ts, rfl⟩
  obtain ⟨v, hl1, hl2, a, c', c0, c1, c2, c3⟩ := ts.head
  clear ts
  go_wp2_with fail
  refine (implPlanOk_any _ qc q SQ.out _ (HQ.out.below B1.out)).mono ?_
  rintro e w2 ⟨rfl, b2⟩
  rw [HQB.out]
  have d1 := (b2.cell (p := ⟨bs, 1, none⟩) (World.block_lt_of_cell? w1 ⟨bs, 1, none⟩ c1)).trans c1
  have d2 := (b2.cell (p := ⟨bs, 2, none⟩) (World.block_lt_of_cell? w1 ⟨bs, 2, none⟩ c2)).trans c2
  have B2 := Lib.hid (below_step B1.out (Nat.le_refl _) b2); clear b2 c0 c1 c2 c3
  go_wp2_with fail
  refine wp_region_still_tail 13 (by kernel_rfl) (by kernel_rfl) ?_
  simp only [List.take_succ_cons, List.take_zero, List.drop_succ_cons, List.drop_zero]
  have bd : Below w2.heap.size w2 { w2 with drawn := w2.drawn + 1 } := ⟨rfl, rfl, rfl, Nat.le_refl _, fun _ _ => rfl⟩
  generalize ({ w2 with drawn := w2.drawn + 1 } : World) = w3 at bd ⊢
  have u1 := (bd.cell (p := ⟨bs, 1, none⟩) (World.block_lt_of_cell? w2 ⟨bs, 1, none⟩ d1)).trans d1
  have u2 := (bd.cell (p := ⟨bs, 2, none⟩) (World.block_lt_of_cell? w2 ⟨bs, 2, none⟩ d2)).trans d2
  have B3 := Lib.hid (below_step B2.out (Nat.le_refl _) bd)
  clear bd d1 d2
  repeat still_step
  refine wpStill_nil ?_
  go_wp2_with fail
  refine (concat3_any _ _ b off _ _ qb qoff _ _ b _ _ _ (p.take S.pl) q (p.drop S.en) LT.out rfl LD0.out ((H.out.below B3.out).take _) (HQ.out.below B3.out) (drop_none hc) (by omega) (SM.out.take _).1 hql (SM.out.drop _).1 J EJ.out).mono ?_
  rintro e w4 ⟨g4, c4, rfl, r4, b4⟩
  have R4 := Lib.hid r4; have Z3 := B3.out.size
  have B4 := Lib.hid (below_step (B3.out.alloc B3.out.size _) (Nat.le_refl _) b4)
  clear r4 b4 u1 u2
  go_wp2_with fail
  refine (copyNodes_any _ c4 J _ R4.out (by intro hh; rw [hh] at hJpos; simp at hJpos) hJl SMJ.out.2).mono ?_
  rintro e w5 ⟨a5, c5, rfl, o5, b5⟩
  have O5 := Lib.hid o5; have B5 := Lib.hid (below_step B4.out (Nat.le_refl _) b5); have Z4 := B4.out.size
  clear o5 b5
  go_wp2_with fail
  refine (implPlanOk_any _ c5 J SMJ.out _ O5.out.rd).mono ?_
  rintro e w6 ⟨rfl, b6⟩
  have O6 := Lib.hid (O5.out.below b6); have B6 := Lib.hid (below_step B5.out (Nat.le_refl _) b6)
  clear b6
  cases hj : planB J with
  | false =>
    have E12 := Lib.hid (NO.out hj)
    clear hj
    go_wp2_with fail
    refine (copyNodesAt_any b off _ p _ (H.out.below B6.out) hpl SM.out.2).mono ?_
    rintro e w7 ⟨a7, c7, rfl, o7, b7⟩
    have O7 := Lib.hid (o7.base_le B6.out.size); have B7 := Lib.hid (below_step B6.out (Nat.le_refl _) b7)
    clear o7 b7
    go_wp2_with fail
    go_ret2
    rw [E12.out.1, E12.out.2]
    exact ⟨a7, c7, rfl, O7.out, B7.out⟩
  | true =>
    have E12 := Lib.hid (YES.out hj)
    clear hj
    go_wp2_with fail
    go_ret2
    rw [E12.out.1, E12.out.2]
    exact ⟨_, _, rfl, O6.out.base_le Z4, B6.out⟩

theorem implPut_any (b off c : Nat) (p : List Nd) (hp : Small p) (k : Int) (qb qoff : Nat) (qc : Nat) (q : List Nd) (hq : Small q) (w : World) (h : RdN w (some ⟨b, off, none⟩) p) (hqr : RdN w (some ⟨qb, qoff, none⟩) q) (hcm : p = [] ∨ (p.length ≤ c ∧ c ≤ maxLen)) :
    Calls Try.prog 19 #[.slice (some ⟨b, off, none⟩) p.length c, .int .i64 k, .slice (some ⟨qb, qoff, none⟩) q.length qc] w (MadeN2 w (putN p k q) (putB p k q)) := by
  cases hg : goodB p k with
  | false =>
    obtain ⟨e1, e2⟩ := put_no1 (q := q) hg
    rw [e1, e2]
    exact implPut_no1 b off c p hp k _ qc q w h hg
  | true =>
    cases hqb : planB q with
    | false =>
      obtain ⟨e1, e2⟩ := put_no2 (p := p) (k := k) hqb
      rw [e1, e2]
      exact implPut_no2 b off c p hp k _ qc q hq w h hqr hg hqb
    | true =>
      by_cases hce : (c : Int) = endOfN p k
      · exact implPut_yesA b off c p hp k qb qoff qc q hq w h hqr hg hqb hcm hce
      · exact implPut_yesB b off c p hp k qb qoff qc q hq w h hqr hg hqb hcm hce
end Go.Proofs.Ytdkiaahcmoafdaa
