/-
  Contract of spec.SortRows. For every slice of rows. Texts by their bytes: plain facts, and the contract of spec.l01Less. For every two texts. Schemas as plain data: which list of tables is one, what a map of names to widths tells, in which order. No program, no walk. The width of a tree under a map of names to widths. Plain facts; no walk. Contracts of impl.SameRows and impl.CountSame. For every slice of rows. Contract of eqNodeS. For every two slices of nodes. Contracts of spec.l02SameInts, spec.l02SameNode, spec.SamePlan, slices.EqualFunc at sameNode, impl.SamePlan. For every two slices of nodes.
-/
import Derived.Test.YtanfllednlpbaaaGreatM23x
import Derived.Test.YtanfllednlpbaaaGreatM2x
import Derived.Deep.RegionWith
import Derived.Deep.QuietTactic
import Derived.BigQuiet
import Derived.Test.YtanfllednlpbaaaGreatM1x
import Derived.Test.YtanfllednlpbaaaGreatM22x
import Derived.Test.YtanfllednlpbaaaGreatM9x
namespace Go.Proofs.YtanfllednlpbaaaGreat
open Go.RowKit
set_option linter.unusedSimpArgs false
set_option linter.unusedVariables false
def InsAt {α : Type} (lt : α → α → Bool) (x : α) (Z : List α) (k : Nat) (put : Bool) (Y : List α) : Prop :=
  Y.length = k + (if put then 1 else 0) ∧ (if put then Y ++ Z.drop k = insL lt x Z else Y ++ insL lt x (Z.drop k) = insL lt x Z)
theorem InsAt.start {α : Type} (lt : α → α → Bool) (x : α) (Z : List α) : InsAt lt x Z 0 false [] := ⟨rfl, rfl⟩
section
variable {α : Type} {lt : α → α → Bool} {x z : α} {Z Y : List α} {k : Nat}
theorem InsAt.hit (h : InsAt lt x Z k false Y) (hz : Z[k]? = some z) (hl : lt x z = true) : InsAt lt x Z (k + 1) true (Y ++ [x] ++ [z]) := by
  obtain ⟨h0, h1⟩ := h
  have hlt := lt_of_get hz
  have e : Z.drop k = z :: Z.drop (k + 1) := by rw [List.drop_eq_getElem_cons hlt]; rw [List.getElem?_eq_getElem hlt] at hz; cases hz; rfl
  rw [if_neg (by simp), e] at h1
  refine ⟨by simp at h0 ⊢; omega, ?_⟩
  rw [if_pos rfl, ← h1]
  unfold insL
  rw [if_pos hl]; simp
theorem InsAt.miss (h : InsAt lt x Z k false Y) (hz : Z[k]? = some z) (hl : lt x z = false) : InsAt lt x Z (k + 1) false (Y ++ [z]) := by
  obtain ⟨h0, h1⟩ := h
  have hlt := lt_of_get hz
  have e : Z.drop k = z :: Z.drop (k + 1) := by rw [List.drop_eq_getElem_cons hlt]; rw [List.getElem?_eq_getElem hlt] at hz; cases hz; rfl
  rw [if_neg (by simp), e] at h1
  refine ⟨by simp at h0 ⊢; omega, ?_⟩
  rw [if_neg (by simp), ← h1]
  conv => rhs; unfold insL
  rw [if_neg (by simp [hl])]; simp
theorem InsAt.on (h : InsAt lt x Z k true Y) (hz : Z[k]? = some z) : InsAt lt x Z (k + 1) true (Y ++ [z]) := by
  obtain ⟨h0, h1⟩ := h
  have hlt := lt_of_get hz
  have e : Z.drop k = z :: Z.drop (k + 1) := by rw [List.drop_eq_getElem_cons hlt]; rw [List.getElem?_eq_getElem hlt] at hz; cases hz; rfl
  rw [if_pos rfl, e] at h1
  refine ⟨by simp at h0 ⊢; omega, ?_⟩
  rw [if_pos rfl, ← h1]; simp
theorem InsAt.end_no (h : InsAt lt x Z k false Y) (hk : k = Z.length) : Y ++ [x] = insL lt x Z := by
  obtain ⟨_, h1⟩ := h
  subst hk
  rw [if_neg (by simp), List.drop_length] at h1
  exact h1
theorem InsAt.end_yes (h : InsAt lt x Z k true Y) (hk : k = Z.length) : Y = insL lt x Z := by
  obtain ⟨_, h1⟩ := h
  subst hk
  rw [if_pos rfl, List.drop_length, List.append_nil] at h1
  exact h1
end
theorem sortL_take {α : Type} {lt : α → α → Bool} {l : List α} {i : Nat} {x : α} (h : l[i]? = some x) : sortL lt (l.take (i + 1)) = insL lt x (sortL lt (l.take i)) := by
  have e : l.take (i + 1) = l.take i ++ [x] := by rw [List.take_add_one, h]; rfl
  rw [e]; unfold sortL; rw [List.foldl_append]; rfl
structure NextAt {w : World} (wo wr : World) (ao : Option Addr) (n cc : Nat) (Y : List (Els w)) : Prop where
  own : OwnV wr wo.heap.size 34 ao cc (Y.map encE)
  len : n = Y.length
  bel : Below wo.heap.size wo wr
theorem NextAt.put {w wo wr w3 : World} {ao ao3 : Option Addr} {n cc c3 : Nat} {Y : List (Els w)} (h : NextAt wo wr ao n cc Y) {x : Els w} {o : Obj} (o3 : OwnV w3 wo.heap.size 34 ao3 c3 (Y.map encE ++ [encE x])) (g3 : (wr.alloc o).grownBy w3 (ao.map (·.block))) : NextAt wo w3 ao3 (Y.length + 1) c3 (Y ++ [x]) :=
  ⟨by simpa using o3, by simp, below_appV h.bel h.bel.size h.own g3⟩
theorem NextAt.drew {w wo wr : World} {ao : Option Addr} {n cc : Nat} {Y : List (Els w)} (h : NextAt wo wr ao n cc Y) (q : Nat) : NextAt wo (wr.drewN q) ao n cc Y :=
  ⟨h.own.below (below_drewN (Below.refl _ _) q), h.len, below_drewN h.bel q⟩
theorem less_at {x y : UInt8} : ∀ (j : Nat) (a b : List UInt8), a.take j = b.take j → a[j]? = some x → b[j]? = some y → x ≠ y → (a < b ↔ x < y)
  | 0, [], _, _, h, _, _ => by simp at h
  | 0, _ :: _, [], _, _, h, _ => by simp at h
  | 0, u :: a, v :: b, _, hx, hy, hxy => by
    simp at hx hy; subst hx hy
    rw [List.cons_lt_cons_iff]
    constructor
    · rintro (h | ⟨h, _⟩)
      · exact h
      · exact absurd h hxy
    · exact fun h => .inl h
  | j + 1, [], _, _, h, _, _ => by simp at h
  | j + 1, _ :: _, [], _, _, h, _ => by simp at h
  | j + 1, u :: a, v :: b, ht, hx, hy, hxy => by
    simp only [List.take_succ_cons, List.cons.injEq] at ht
    obtain ⟨rfl, ht⟩ := ht
    simp only [List.getElem?_cons_succ] at hx hy
    rw [List.cons_lt_cons_iff, ← less_at j a b ht hx hy hxy]
    constructor
    · rintro (h | ⟨_, h⟩)
      · exact absurd h (UInt8.lt_irrefl _)
      · exact h
    · exact fun h => .inr ⟨rfl, h⟩
theorem less_end : ∀ (j : Nat) (a b : List UInt8), a.take j = b.take j → (a.length = j ∧ j ≤ b.length ∨ j ≤ a.length ∧ b.length = j) → (a < b ↔ a.length < b.length)
  | 0, [], [], _, _ => by simp
  | 0, [], _ :: _, _, _ => by simp
  | 0, _ :: _, [], _, _ => by simp
  | 0, _ :: _, _ :: _, _, h => by simp at h
  | j + 1, [], b, _, h => by simp at h
  | j + 1, u :: a, [], _, h => by simp at h
  | j + 1, u :: a, v :: b, ht, h => by
    simp only [List.take_succ_cons, List.cons.injEq] at ht
    obtain ⟨rfl, ht⟩ := ht
    simp only [List.length_cons] at h ⊢
    rw [List.cons_lt_cons_iff]
    have := less_end j a b ht (by omega)
    constructor
    · rintro (h | ⟨_, h⟩)
      · exact absurd h (UInt8.lt_irrefl _)
      · have := this.1 h; omega
    · exact fun h => .inr ⟨rfl, this.2 (by omega)⟩
def lessS (a b : ByteArray) : Bool := decide (a.data.toList < b.data.toList)
set_option maxRecDepth 100000 in
set_option maxHeartbeats 1600000 in
theorem l01Less_any (a b : ByteArray) (w : World) (ha : a.size ≤ maxLen) (hb : b.size ≤ maxLen) :
    Calls Tryz.prog 113 #[.string a, .string b] w fun e w' => e = .returned (.bool (lessS a b)) ∧ ∃ m, w' = w.drewN m := by
  unfold maxLen at ha hb
  have la : a.data.toList.length = a.size := by rw [Array.length_toList]; rfl
  have lb : b.data.toList.length = b.size := by rw [Array.length_toList]; rfl
  have LA := Lib.hid la; have LB := Lib.hid lb; clear la lb
  go_enter Tryz.func113, Tryz.ntmps113
  go_wp2_with fail
  go_loopw [5] (fun i wr => ∃ k q : Nat, k ≤ a.size ∧ k ≤ b.size ∧ i = .int .i64 k ∧ a.data.toList.take k = b.data.toList.take k ∧ wr = w.drewN q) (fun i _ => a.size - (intOf i).toNat)
  case atStart => exact ⟨0, 0, Nat.zero_le _, Nat.zero_le _, rfl, rfl, rfl⟩
  case round =>
    obtain ⟨k, q, h1, h2, rfl, ht, rfl⟩ := hrel
    have HT := Lib.hid ht; clear ht
    by_cases k1 : k < a.size
    · by_cases k2 : k < b.size
      · have X := Lib.hid (show a.data.toList[k]? = some a[k] by rw [Array.getElem?_toList, Array.getElem?_eq_getElem (show k < a.data.size from k1)]; rfl)
        have Y := Lib.hid (show b.data.toList[k]? = some b[k] by rw [Array.getElem?_toList, Array.getElem?_eq_getElem (show k < b.data.size from k2)]; rfl)
        have TA := Lib.hid (show a.data.toList.take (k + 1) = a.data.toList.take k ++ [a[k]] by rw [List.take_add_one, X.out]; rfl)
        have TB := Lib.hid (show b.data.toList.take (k + 1) = b.data.toList.take k ++ [b[k]] by rw [List.take_add_one, Y.out]; rfl)
        by_cases hxy : a[k] = b[k]
        · have E := Lib.hid hxy
          have hb0 : ((a[k].toNat : Int) != (b[k].toNat : Int)) = false := by simp [hxy]
          clear hxy
          go_wp2_with fail
          go_quiet (fail)
          go_wp2_with fail
          go_roundw
          case rel => exact ⟨k + 1, _, by omega, by omega, by go_num, by rw [TA.out, TB.out, HT.out, E.out], by first | rfl | rw [World.drewN_drewN]⟩
          case measure => simp [intOf]; omega
        · have hne : a[k].toNat ≠ b[k].toNat := fun h => hxy (UInt8.toNat_inj.1 h)
          have hb0 : ((a[k].toNat : Int) != (b[k].toNat : Int)) = true := by simp; omega
          have F := Lib.hid (less_at k _ _ HT.out X.out Y.out hxy)
          clear hxy
          go_wp2_with fail
          go_quiet (fail)
          go_wp2_with fail
          go_quiet (fail)
          go_wp2_with fail
          go_ret
          refine ⟨ret_bool ?_, _, by rw [World.drewN_drewN, World.drewN_drewN]⟩
          unfold lessS
          exact decide_eq_decide.2 (UInt8.lt_iff_toNat_lt.symm.trans F.out.symm)
      · go_wp2_with fail
        go_ret
        refine ⟨ret_bool ?_, _, rfl⟩
        have := less_end k _ _ HT.out (by rw [LA.out, LB.out]; omega)
        rw [LA.out, LB.out] at this
        unfold lessS
        rw [decide_eq_decide.2 this]
    · go_wp2_with fail
      go_ret
      refine ⟨ret_bool ?_, _, rfl⟩
      have := less_end k _ _ HT.out (by rw [LA.out, LB.out]; omega)
      rw [LA.out, LB.out] at this
      unfold lessS
      rw [decide_eq_decide.2 this]
theorem l01Less_is {a b : ByteArray} {v : Bool} (h : lessS a b = v) (w : World) (ha : a.size ≤ maxLen) (hb : b.size ≤ maxLen) :
    Calls Tryz.prog 113 #[.string a, .string b] w fun e w' => e = .returned (.bool v) ∧ ∃ m, w' = w.drewN m := by
  rw [← h]; exact l01Less_any a b w ha hb
end Go.Proofs.YtanfllednlpbaaaGreat
namespace Go.Proofs.YtanfllednlpbaaaGreat
set_option linter.unusedSimpArgs false
set_option linter.unusedVariables false
abbrev Key := List UInt8
def Tb.key (t : Tb) : Key := t.name.data.toList
theorem key_inj {s t : Tb} (h : s.key = t.key) (hw : s.width = t.width) : s = t := by
  cases s; cases t
  simp only [Tb.key] at h hw
  have : ∀ {x y : ByteArray}, x.data.toList = y.data.toList → x = y := fun h => by apply ByteArray.ext; exact Array.toList_inj.1 h
  rw [this h, hw]
def AscT (l : List Tb) : Prop := l.Pairwise fun s t => s.key < t.key
instance (l : List Tb) : Decidable (AscT l) := inferInstanceAs (Decidable (l.Pairwise _))
def tableB (t : Tb) : Bool := wordB t.key && decide (1 ≤ t.width ∧ t.width ≤ 6)
def schemaB (l : List Tb) : Bool := decide (l.length ≤ 8 ∧ (∀ t ∈ l, tableB t = true) ∧ AscT l)
theorem schemaB_iff {l : List Tb} : schemaB l = true ↔ l.length ≤ 8 ∧ (∀ t ∈ l, tableB t = true) ∧ AscT l := by simp only [schemaB, decide_eq_true_eq]
theorem schemaB_no {l : List Tb} (h : ¬ (l.length ≤ 8 ∧ (∀ t ∈ l, tableB t = true) ∧ AscT l)) : schemaB l = false := by simp only [schemaB, decide_eq_false_iff_not]; exact h
theorem klt_irrefl (a : Key) : ¬ a < a := List.lt_irrefl a
theorem ascT_take {l : List Tb} (h : AscT l) (j : Nat) : AscT (l.take j) := List.Pairwise.sublist (List.take_sublist _ _) h
theorem ascT_succ {l : List Tb} {j : Nat} {t : Tb} (h : AscT (l.take j)) (ht : l[j]? = some t) (hp : ∀ s, 0 < j → l[j - 1]? = some s → s.key < t.key) : AscT (l.take (j + 1)) := by
  rw [List.take_add_one, ht]
  refine List.pairwise_append.2 ⟨h, by simp, fun a ha b hb => ?_⟩
  obtain rfl : b = t := by simpa using hb
  cases j with
  | zero => simp at ha
  | succ j =>
    have hjl : j < l.length := by
      rcases Nat.lt_or_ge (j + 1) l.length with h1 | h1
      · omega
      · rw [List.getElem?_eq_none h1] at ht; cases ht
    have hs := hp l[j] (by omega) (by simp [List.getElem?_eq_getElem hjl])
    rw [List.take_succ_eq_append_getElem hjl] at h ha
    rcases List.mem_append.1 ha with h1 | h1
    · exact List.lt_trans ((List.pairwise_append.1 h).2.2 a h1 l[j] (by simp)) hs
    · simp at h1; subst h1; exact hs
theorem ascT_neigh {l : List Tb} (h : AscT l) {j : Nat} {s t : Tb} (hs : l[j]? = some s) (ht : l[j + 1]? = some t) : s.key < t.key := by
  obtain ⟨h1, rfl⟩ := List.getElem?_eq_some_iff.1 hs
  obtain ⟨h2, rfl⟩ := List.getElem?_eq_some_iff.1 ht
  exact List.pairwise_iff_getElem.1 h j (j + 1) h1 h2 (by omega)
/-! ### A map of names to widths -/
abbrev Fn := Key → Option Int
def upd (f : Fn) (k : Key) (v : Int) : Fn := fun x => if x = k then some v else f x
def fnOf (l : List Tb) : Fn := l.foldl (fun f t => upd f t.key t.width) (fun _ => none)
theorem fnOf_snoc (l : List Tb) (t : Tb) : fnOf (l ++ [t]) = upd (fnOf l) t.key t.width := by simp [fnOf, List.foldl_append]
theorem fnOf_take {l : List Tb} {j : Nat} {t : Tb} (h : l[j]? = some t) : fnOf (l.take (j + 1)) = upd (fnOf (l.take j)) t.key t.width := by
  rw [List.take_add_one, h]; exact fnOf_snoc _ _
def ToldM (f : Fn) (l : List Tb) : Prop := AscT l ∧ ∀ k v, f k = some v ↔ ∃ t ∈ l, t.key = k ∧ t.width = v
theorem told_one : ∀ (l m : List Tb), AscT l → AscT m → (∀ k v, (∃ t ∈ l, t.key = k ∧ t.width = v) ↔ ∃ t ∈ m, t.key = k ∧ t.width = v) → l = m
  | [], [], _, _, _ => rfl
  | [], y :: m, _, _, h => by
    obtain ⟨t, ht, _⟩ := (h y.key y.width).2 ⟨y, by simp, rfl, rfl⟩; cases ht
  | x :: l, [], _, _, h => by
    obtain ⟨t, ht, _⟩ := (h x.key x.width).1 ⟨x, by simp, rfl, rfl⟩; cases ht
  | x :: l, y :: m, hl, hm, h => by
    have hl' := List.pairwise_cons.1 hl
    have hm' := List.pairwise_cons.1 hm
    have e : x = y := by
      obtain ⟨t, ht, h1, h2⟩ := (h x.key x.width).1 ⟨x, by simp, rfl, rfl⟩
      obtain ⟨u, hu, h3, h4⟩ := (h y.key y.width).2 ⟨y, by simp, rfl, rfl⟩
      rcases List.mem_cons.1 ht with ht | ht
      · subst ht; exact (key_inj h1 h2).symm
      rcases List.mem_cons.1 hu with hu | hu
      · subst hu; exact key_inj h3 h4
      have q1 := hm'.1 t ht
      have q2 := hl'.1 u hu
      rw [h1] at q1; rw [h3] at q2
      exact absurd (List.lt_trans q1 q2) (klt_irrefl _)
    subst e
    rw [told_one l m hl'.2 hm'.2 ?_]
    intro k v
    constructor
    · rintro ⟨t, ht, h1, h2⟩
      obtain ⟨u, hu, h3, h4⟩ := (h k v).1 ⟨t, List.mem_cons_of_mem _ ht, h1, h2⟩
      rcases List.mem_cons.1 hu with hu | hu
      · subst hu; have := hl'.1 t ht; rw [h1, h3] at this; exact absurd this (klt_irrefl _)
      · exact ⟨u, hu, h3, h4⟩
    · rintro ⟨t, ht, h1, h2⟩
      obtain ⟨u, hu, h3, h4⟩ := (h k v).2 ⟨t, List.mem_cons_of_mem _ ht, h1, h2⟩
      rcases List.mem_cons.1 hu with hu | hu
      · subst hu; have := hm'.1 t ht; rw [h1, h3] at this; exact absurd this (klt_irrefl _)
      · exact ⟨u, hu, h3, h4⟩
theorem ToldM.uniq {f : Fn} {l m : List Tb} (h : ToldM f l) (k : ToldM f m) : l = m :=
  told_one l m h.1 k.1 fun x v => (h.2 x v).symm.trans (k.2 x v)
theorem told_snoc {l : List Tb} {t : Tb} (h : AscT (l ++ [t])) (ih : ToldM (fnOf l) l) : ToldM (fnOf (l ++ [t])) (l ++ [t]) := by
  refine ⟨h, fun k v => ?_⟩
  obtain ⟨h1, _, h2⟩ := List.pairwise_append.1 h
  have ih := ih.2
  rw [fnOf_snoc]
  unfold upd
  by_cases e : k = t.key
  · rw [if_pos e]
    constructor
    · intro hv; injection hv with hv; exact ⟨t, by simp, e.symm, hv⟩
    · rintro ⟨s, hs, h3, h4⟩
      rcases List.mem_append.1 hs with hs | hs
      · have := h2 s hs t (by simp); rw [h3, e] at this; exact absurd this (klt_irrefl _)
      · simp at hs; subst hs; rw [h4]
  · rw [if_neg e, ih]
    constructor
    · rintro ⟨s, hs, h3, h4⟩; exact ⟨s, by simp [hs], h3, h4⟩
    · rintro ⟨s, hs, h3, h4⟩
      rcases List.mem_append.1 hs with hs | hs
      · exact ⟨s, hs, h3, h4⟩
      · simp at hs; subst hs; exact absurd h3.symm e
theorem told_take (l : List Tb) (h : AscT l) : ∀ j, j ≤ l.length → ToldM (fnOf (l.take j)) (l.take j)
  | 0, _ => ⟨List.Pairwise.nil, fun k v => by simp [fnOf]⟩
  | j + 1, hj => by
    have e : l.take (j + 1) = l.take j ++ [l[j]] := List.take_succ_eq_append_getElem (by omega)
    have h' := ascT_take h (j + 1)
    rw [e] at h' ⊢
    exact told_snoc h' (told_take l h j (by omega))
theorem told_self (l : List Tb) (h : AscT l) : ToldM (fnOf l) l := by
  have := told_take l h l.length (Nat.le_refl _)
  rwa [List.take_length] at this
theorem told_same {l m : List Tb} (h : ToldM (fnOf l) m) : m = l ↔ AscT l :=
  ⟨fun e => e ▸ h.1, fun ha => h.uniq (told_self l ha)⟩
def over1 (n : Nd) (w : Int) : Int :=
  if n.kind = 1 ∨ n.kind = 5 then (if w ≤ n.col then -1 else w)
  else if n.kind = 2 then (if n.cols.all (fun x => decide (x < w)) = true then (n.cols.length : Int) else -1)
  else w
def over2 (n : Nd) (w v : Int) : Int :=
  if n.kind = 3 then (if w ≤ n.col ∨ v ≤ n.num ∨ 64 < w + v then -1 else w + v)
  else (if w = v then w else -1)
def widT (f : Fn) : Tr → Int
  | .t0 n _ _ => (f n.name.data.toList).getD (-1)
  | .t1 n _ _ c => if widT f c = -1 then -1 else over1 n (widT f c)
  | .t2 n _ _ c d => if widT f c = -1 then -1 else if widT f d = -1 then -1 else over2 n (widT f c) (widT f d)
def FnOk (f : Fn) : Prop := ∀ k v, f k = some v → 1 ≤ v ∧ v ≤ 6
theorem fnOk_schema {l : List Tb} (h : schemaB l = true) : FnOk (fnOf l) := by
  obtain ⟨_, h2, h3⟩ := schemaB_iff.1 h
  intro k v hv
  obtain ⟨t, ht, _, rfl⟩ := ((told_self l h3).2 k v).1 hv
  have := h2 t ht
  unfold tableB at this
  rw [Bool.and_eq_true, decide_eq_true_eq] at this
  exact this.2
def Tr.nodes : Tr → Prop
  | t0 n _ _ => nodeB n = true ∧ n.kind = 0
  | t1 n _ _ c => (nodeB n = true ∧ arity n.kind = 1) ∧ c.nodes
  | t2 n _ _ c d => (nodeB n = true ∧ arity n.kind = 2) ∧ c.nodes ∧ d.nodes
theorem cols_of_nodeB {n : Nd} (h : nodeB n = true) (hk : n.kind = 2) : 1 ≤ n.cols.length ∧ n.cols.length ≤ 6 := by
  unfold nodeB at h
  rw [if_neg (by omega), if_neg (by omega), if_pos hk, Bool.and_eq_true, decide_eq_true_eq] at h
  exact ⟨h.1.2.2.2.2.2.1, h.1.2.2.2.2.2.2⟩
theorem over1_wide {n : Nd} {w : Int} (h : nodeB n = true) (h1 : 1 ≤ w) (h2 : w ≤ 64) : over1 n w = -1 ∨ (1 ≤ over1 n w ∧ over1 n w ≤ 64) := by
  unfold over1
  split
  · split
    · exact .inl rfl
    · exact .inr ⟨h1, h2⟩
  · split
    · rename_i hk
      have := cols_of_nodeB h hk
      split
      · right; omega
      · exact .inl rfl
    · exact .inr ⟨h1, h2⟩
theorem over2_wide {n : Nd} {w v : Int} (h1 : 1 ≤ w) (h2 : w ≤ 64) (h3 : 1 ≤ v) : over2 n w v = -1 ∨ (1 ≤ over2 n w v ∧ over2 n w v ≤ 64) := by
  unfold over2
  split
  · split
    · exact .inl rfl
    · right; omega
  · split
    · exact .inr ⟨h1, h2⟩
    · exact .inl rfl
theorem widT_wide {f : Fn} (hf : FnOk f) : ∀ T : Tr, T.nodes → widT f T = -1 ∨ (1 ≤ widT f T ∧ widT f T ≤ 64) := by
  intro T
  induction T with
  | t0 n pl en =>
    intro _
    unfold widT
    cases hv : f n.name.data.toList with
    | none => exact .inl rfl
    | some v => have := hf _ _ hv; right; simp only [Option.getD_some]; omega
  | t1 n pl en c ih =>
    intro h
    unfold widT
    split
    · exact .inl rfl
    · rename_i hc
      rcases ih h.2 with h1 | ⟨h1, h2⟩
      · exact absurd h1 hc
      · exact over1_wide h.1.1 h1 h2
  | t2 n pl en c d ihc ihd =>
    intro h
    unfold widT
    split
    · exact .inl rfl
    · rename_i hc
      split
      · exact .inl rfl
      · rename_i hd
        rcases ihc h.2.1 with h1 | ⟨h1, h2⟩
        · exact absurd h1 hc
        rcases ihd h.2.2 with h3 | ⟨h3, h4⟩
        · exact absurd h3 hd
        exact over2_wide h1 h2 h3
end Go.Proofs.YtanfllednlpbaaaGreat
namespace Go.Proofs.YtanfllednlpbaaaGreat
open Go.RowKit
set_option linter.unusedSimpArgs false
set_option linter.unusedVariables false
theorem sameRow_any (a b : Option Addr) (c d : Nat) (l m : List Int) (w : World) (h : Rd w .i64 a l) (k : Rd w .i64 b m) (hn : l.length ≤ maxLen) (hm : m.length ≤ maxLen) :
    Calls Tryz.prog 50 #[.slice a l.length c, .slice b m.length d] w fun e w' => e = .returned (.bool (eqL l m)) ∧ Below w.heap.size w w' := by
  have H := Lib.hid h; clear h
  have K := Lib.hid k; clear k
  go_enter Tryz.func50, Tryz.ntmps50
  go_wp2_with fail
  refine (libEqual_any a b c d l m _ H.out K.out hn hm).mono ?_
  rintro e w1 ⟨rfl, b1⟩
  go_wp2_with fail
  go_ret
  exact ⟨rfl, b1⟩
set_option maxRecDepth 100000 in
set_option maxHeartbeats 1600000 in
theorem equalFuncR_any (a b : Option Addr) (c d : Nat) (l m : List (List Int)) (w : World) (h : RdR w a l) (k : RdR w b m) (hn : l.length ≤ maxLen) (hm : m.length ≤ maxLen) :
    Calls Tryz.prog 49 #[.slice a l.length c, .slice b m.length d, .func (.func 50) #[] #[]] w fun e w' => e = .returned (.bool (eqR l m)) ∧ Below w.heap.size w w' := by
  unfold maxLen at hn hm
  have H := Lib.hid h; clear h
  have K := Lib.hid k; clear k
  by_cases hlen : l.length = m.length
  · have hne : ((l.length : Int) != (m.length : Int)) = false := by simp [hlen]
    have HL := Lib.hid hlen; clear hlen
    go_enter Tryz.func49, Tryz.ntmps49
    go_wp2_with fail
    go_loopw [17] (fun i wr => ∃ j : Nat, j ≤ l.length ∧ i = .int .i64 j ∧ l.take j = m.take j ∧ Below w.heap.size w wr) (fun i _ => l.length - (intOf i).toNat)
    case atStart => exact ⟨0, Nat.zero_le _, rfl, rfl, Below.refl _ _⟩
    case round =>
      obtain ⟨j, hj, rfl, ht, hb⟩ := hrel
      have HT := Lib.hid ht; clear ht
      by_cases hlt : j < l.length
      · have hlt2 : j < m.length := by have := HL.out; omega
        obtain ⟨b1, o1, x, a1, c1, rfl, hx, ⟨e0, rx, cx, mx⟩⟩ := (H.out.below hb).at_ hlt
        obtain ⟨b2, o2, y, a2, c2, rfl, hy, ⟨f0, ry, cy, my⟩⟩ := (K.out.below hb).at_ hlt2
        have X := Lib.hid hx; have Y := Lib.hid hy; have HB := Lib.hid hb
        have RX := Lib.hid rx; have RY := Lib.hid ry
        clear hx hy hb rx ry
        have lx := Nat.le_trans cx mx
        have ly := Nat.le_trans cy my
        clear cx mx cy my
        cases hxy : eqL x y with
        | true =>
          have Q := Lib.hid hxy; clear hxy
          go_wp2_with fail
          refine (sameRow_any a1 a2 c1 c2 x y _ RX.out RY.out lx ly).mono ?_
          rintro e w1 ⟨rfl, b1⟩
          rw [Q.out]
          have T1 := Lib.hid (below_step HB.out (Nat.le_refl _) b1)
          clear b1
          go_wp2_with fail
          go_roundw
          case rel => exact ⟨j + 1, by omega, by go_num, take_eq_step HT.out X.out (by rw [eqL_eq Q.out]; exact Y.out), T1.out⟩
          case measure => simp [intOf]; omega
        | false =>
          have Q := Lib.hid hxy; clear hxy
          have F := Lib.hid (eqR_no X.out Y.out Q.out)
          go_wp2_with fail
          refine (sameRow_any a1 a2 c1 c2 x y _ RX.out RY.out lx ly).mono ?_
          rintro e w1 ⟨rfl, b1⟩
          rw [Q.out]
          have T1 := Lib.hid (below_step HB.out (Nat.le_refl _) b1)
          clear b1
          go_wp2_with fail
          go_ret
          exact ⟨ret_bool F.out.symm, T1.out⟩
      · have HB := Lib.hid hb; clear hb
        go_wp2_with fail
        go_ret
        exact ⟨ret_bool (eqR_yes HL.out (by omega) HT.out).symm, HB.out⟩
  · have hne : ((l.length : Int) != (m.length : Int)) = true := by simp; omega
    have HF := Lib.hid (eqR_len hlen)
    go_enter Tryz.func49, Tryz.ntmps49
    go_wp2_with fail
    go_ret
    exact ⟨ret_bool HF.out.symm, Below.refl _ _⟩
theorem implSameRows_any (a b : Option Addr) (c d : Nat) (l m : List (List Int)) (w : World) (h : RdR w a l) (k : RdR w b m) (hn : l.length ≤ maxLen) (hm : m.length ≤ maxLen) :
    Calls Tryz.prog 10 #[.slice a l.length c, .slice b m.length d] w fun e w' => e = .returned (.bool (eqR l m)) ∧ Below w.heap.size w w' := by
  have H := Lib.hid h; clear h
  have K := Lib.hid k; clear k
  go_enter Tryz.func10, Tryz.ntmps10
  go_wp2_with fail
  refine (equalFuncR_any a b c d l m _ H.out K.out hn hm).mono ?_
  rintro e w1 ⟨rfl, b1⟩
  go_wp2_with fail
  go_ret
  exact ⟨rfl, b1⟩
set_option maxRecDepth 100000 in
set_option maxHeartbeats 1600000 in
theorem implCountSame_any (a b : Option Addr) (c d : Nat) (l : List (List Int)) (r : List Int) (w : World) (h : RdR w a l) (k : Rd w .i64 b r) (hn : l.length ≤ 1048576) (hm : r.length ≤ maxLen) :
    Calls Tryz.prog 167 #[.slice a l.length c, .slice b r.length d] w fun e w' => e = .returned (.int .i64 (countL l r)) ∧ Below w.heap.size w w' := by
  have H := Lib.hid h; clear h
  have K := Lib.hid k; clear k
  go_enter Tryz.func167, Tryz.ntmps167
  go_wp2_with fail
  go_loopw [5, 10] (fun q i wr => ∃ j : Nat, j ≤ l.length ∧ i = .int .i64 j ∧ q = .int .i64 (countL (l.take j) r) ∧ Below w.heap.size w wr) (fun _ i _ => l.length - (intOf i).toNat)
  case atStart => exact ⟨0, Nat.zero_le _, rfl, rfl, Below.refl _ _⟩
  case round =>
    obtain ⟨j, hj, rfl, rfl, hb⟩ := hrel
    have q0 := countL_take_le l j r
    by_cases hlt : j < l.length
    · obtain ⟨b1, o1, x, a1, c1, rfl, hx, ⟨e0, rx, cx, mx⟩⟩ := (H.out.below hb).at_ hlt
      have X := Lib.hid hx; have HB := Lib.hid hb; have RX := Lib.hid rx
      have RK := Lib.hid (K.out.below hb)
      have CT := Lib.hid (countL_take (r := r) hx)
      have lx := Nat.le_trans cx mx
      clear hx hb rx cx mx
      cases hxy : eqL x r with
      | true =>
        have Q := Lib.hid hxy; clear hxy
        go_wp2_with fail
        refine (sameRow_any a1 b c1 d x r _ RX.out RK.out lx hm).mono ?_
        rintro e w1 ⟨rfl, b1⟩
        rw [Q.out]
        have T1 := Lib.hid (below_step HB.out (Nat.le_refl _) b1)
        clear b1
        go_wp2_with fail
        go_roundw
        case rel => exact ⟨j + 1, by omega, by go_num, by rw [CT.out, Q.out]; simp, T1.out⟩
        case measure => simp [intOf]; omega
      | false =>
        have Q := Lib.hid hxy; clear hxy
        go_wp2_with fail
        refine (sameRow_any a1 b c1 d x r _ RX.out RK.out lx hm).mono ?_
        rintro e w1 ⟨rfl, b1⟩
        rw [Q.out]
        have T1 := Lib.hid (below_step HB.out (Nat.le_refl _) b1)
        clear b1
        go_wp2_with fail
        go_roundw
        case rel => exact ⟨j + 1, by omega, by go_num, by rw [CT.out, Q.out]; simp, T1.out⟩
        case measure => simp [intOf]; omega
    · obtain rfl : j = l.length := by omega
      have HB := Lib.hid hb; clear hb
      go_wp2_with fail
      go_ret
      exact ⟨ret_int (by rw [List.take_length]), HB.out⟩
set_option maxHeartbeats 800000 in
theorem sameInts_any (a b : Option Addr) (c d : Nat) (l m : List Int) (w : World) (h : Rd w .i64 a l) (k : Rd w .i64 b m) (hn : l.length ≤ maxLen) (hm : m.length ≤ maxLen) :
    Calls Tryz.prog 136 #[.slice a l.length c, .slice b m.length d] w fun e w' => e = .returned (.bool (eqL l m)) ∧ Below w.heap.size w w' := by
  unfold maxLen at hn hm
  by_cases hlen : l.length = m.length
  · have hne : ((l.length : Int) != (m.length : Int)) = false := by simp [hlen]
    have HL := Lib.hid hlen; clear hlen
    rcases h with rfl | ⟨b1, o1, rfl, hc⟩
    · have hm0 : m = [] := List.eq_nil_of_length_eq_zero HL.out.symm
      subst hm0
      clear hne
      go_enter Tryz.func136, Tryz.ntmps136
      go_wp2
      refine wp_loop_rounds 1 ?_; rw [rounds_succ]; go_wp2
      go_ret
      exact ⟨rfl, Below.refl _ _⟩
    · rcases k with rfl | ⟨b2, o2, rfl, kc⟩
      · have hl0 : l = [] := List.eq_nil_of_length_eq_zero HL.out
        subst hl0
        clear hne hc
        go_enter Tryz.func136, Tryz.ntmps136
        go_wp2
        refine wp_loop_rounds 1 ?_; rw [rounds_succ]; go_wp2
        go_ret
        exact ⟨rfl, Below.refl _ _⟩
      · have HC := Lib.hid hc; have KC := Lib.hid kc; clear hc kc
        go_enter Tryz.func136, Tryz.ntmps136
        go_wp2
        go_loopw [5] (fun i wr => ∃ j q : Nat, j ≤ l.length ∧ i = .int .i64 j ∧ l.take j = m.take j ∧ wr = w.drewN q) (fun i _ => l.length - (intOf i).toNat)
        case atStart => exact ⟨0, 0, Nat.zero_le _, rfl, rfl, rfl⟩
        case round =>
          obtain ⟨j, q, hj, rfl, ht, rfl⟩ := hrel
          have HT := Lib.hid ht; clear ht
          by_cases hlt : j < l.length
          · have hlt2 : j < m.length := by have := HL.out; omega
            obtain ⟨x, _, hx, hcx, htx⟩ := Rd.at_ HC.out hlt
            obtain ⟨y, _, hy, hcy, hty⟩ := Rd.at_ KC.out hlt2
            have X := Lib.hid hx; have Y := Lib.hid hy; have TX := Lib.hid htx; have TY := Lib.hid hty
            clear hx hy htx hty
            have i1 : (j : Int) < (l.length : Int) := by omega
            have i2 : (j : Int) < (m.length : Int) := by omega
            by_cases hxy : x = y
            · subst hxy
              have hb : (x != x) = false := by simp
              go_wp2
              go_quiet (fail)
              go_wp2
              go_roundw
              case rel => exact ⟨j + 1, _, by omega, by go_num, by rw [TX.out, TY.out, HT.out], by first | rfl | rw [World.drewN_drewN]⟩
              case measure => simp [intOf]; omega
            · have hb : (x != y) = true := by simp [hxy]
              have HF := Lib.hid (eqL_no hxy X.out Y.out)
              clear hxy
              go_wp2
              go_quiet (fail)
              go_wp2
              go_ret
              exact ⟨ret_bool HF.out.symm, by first | exact below_drewN (Below.refl _ _) _ | exact below_drewN (below_drewN (Below.refl _ _) _) _⟩
          · go_wp2
            go_ret
            exact ⟨ret_bool (eqL_yes HL.out (by omega) HT.out).symm, below_drewN (Below.refl _ _) _⟩
  · have hne : ((l.length : Int) != (m.length : Int)) = true := by simp; omega
    have HF : Hid (eqL l m = false) := by
      show eqL l m = false
      unfold eqL; simp; rintro rfl; exact hlen rfl
    go_enter Tryz.func136, Tryz.ntmps136
    go_wp2
    go_ret
    exact ⟨ret_bool HF.out.symm, Below.refl _ _⟩
end Go.Proofs.YtanfllednlpbaaaGreat
