/-
  Contracts of the kinds' fits and told, and of impl.sameNode. For every node. Contract of eqNodeS. For every two slices of nodes. Contracts of spec.l02SameInts, spec.l02SameNode, spec.SamePlan, slices.EqualFunc at sameNode, impl.SamePlan. For every two slices of nodes.
-/
import Derived.Test.YtfpbhedophlnkaaGreatDoorJR10x
import Derived.Test.YtfpbhedophlnkaaGreatDoorJR20x
import Derived.Test.YtfpbhedophlnkaaGreatDoorJR21x
import Derived.Deep.RegionWith
namespace Go.Proofs.YtfpbhedophlnkaaGreatDoor
open Go.RowKit
set_option linter.unusedSimpArgs false
set_option linter.unusedVariables false

def slotB (x : Int) : Bool := decide (0 ≤ x ∧ x ≤ 39)
def numI (x : Int) : Bool := decide (-1000000 ≤ x ∧ x ≤ 1000000)
theorem isSlot_any (x : Int) (w : World) : Calls Tryz.prog 357 #[.int .i64 x] w fun e w' => e = .returned (.bool (slotB x)) ∧ w = w' := by
  by_cases h1 : 0 ≤ x
  · by_cases h2 : x < 40
    · have HF := Lib.hid (show slotB x = true by unfold slotB; simp; omega)
      go_enter Tryz.func357, Tryz.ntmps357
      go_wp2
      go_ret
      exact ⟨ret_bool HF.out.symm, rfl⟩
    · have HF := Lib.hid (show slotB x = false by unfold slotB; simp; omega)
      have h3 : 40 ≤ x := by omega
      go_enter Tryz.func357, Tryz.ntmps357
      go_wp2
      go_ret
      exact ⟨ret_bool HF.out.symm, rfl⟩
  · have HF := Lib.hid (show slotB x = false by unfold slotB; simp; omega)
    have h3 : x < 0 := by omega
    go_enter Tryz.func357, Tryz.ntmps357
    go_wp2
    go_ret
    exact ⟨ret_bool HF.out.symm, rfl⟩
theorem isNum_any (x : Int) (w : World) : Calls Tryz.prog 171 #[.int .i64 x] w fun e w' => e = .returned (.bool (numI x)) ∧ w = w' := by
  by_cases h1 : -1000000 ≤ x
  · by_cases h2 : x ≤ 1000000
    · have HF := Lib.hid (show numI x = true by unfold numI; simp; omega)
      go_enter Tryz.func171, Tryz.ntmps171
      go_wp2
      go_ret
      exact ⟨ret_bool HF.out.symm, rfl⟩
    · have HF := Lib.hid (show numI x = false by unfold numI; simp; omega)
      have h3 : 1000000 < x := by omega
      go_enter Tryz.func171, Tryz.ntmps171
      go_wp2
      go_ret
      exact ⟨ret_bool HF.out.symm, rfl⟩
  · have HF := Lib.hid (show numI x = false by unfold numI; simp; omega)
    have h3 : x < -1000000 := by omega
    go_enter Tryz.func171, Tryz.ntmps171
    go_wp2
    go_ret
    exact ⟨ret_bool HF.out.symm, rfl⟩

/-- What fits answers for a filter. -/
def fitF (col op num : Int) (slot : Bool) : Bool :=
  colB col && decide (0 ≤ op ∧ op ≤ 3) && (if op = 3 then decide (num = 0) && !slot else if slot = true then slotB num else numI num)
def fitK (cols : List Int) : Bool := decide (1 ≤ cols.length ∧ cols.length ≤ 6) && cols.all colB
def fitL (num : Int) (slot : Bool) : Bool := if slot = true then slotB num else decide (0 ≤ num ∧ num ≤ 1000000)

theorem fitsScan_any (s : ByteArray) (w : World) (hs : s.size ≤ maxLen) :
    Calls Tryz.prog 369 #[.agg #[.string s]] w fun e w' => e = .returned (.bool (wordB s.data.toList)) ∧ Below w.heap.size w w' := by
  go_enter Tryz.func369, Tryz.ntmps369
  go_wp2_with fail
  refine (implWordOk_any _ _ hs).mono ?_
  rintro e w' ⟨rfl, rfl⟩
  go_wp2
  go_ret
  exact ⟨rfl, (Below.refl _ _).alloc (Nat.le_refl _) _⟩
set_option maxHeartbeats 800000 in
theorem fitsFilter_any (col op num : Int) (slot : Bool) (w : World) :
    Calls Tryz.prog 354 #[.agg #[.int .i64 col, .int .i64 op, .int .i64 num, .bool slot]] w fun e w' => e = .returned (.bool (fitF col op num slot)) ∧ Below w.heap.size w w' := by
  go_enter Tryz.func354, Tryz.ntmps354
  go_wp2_with (first
    | (go_at_call 356; refine (isCol_any _ _).mono ?_; rintro e w' ⟨rfl, rfl⟩)
    | (go_at_call 357; refine (isSlot_any _ _).mono ?_; rintro e w' ⟨rfl, rfl⟩)
    | (go_at_call 171; refine (isNum_any _ _).mono ?_; rintro e w' ⟨rfl, rfl⟩))
  all_goals
    go_ret
    refine ⟨ret_bool ?_, (Below.refl _ _).alloc (Nat.le_refl _) _⟩
    first
      | (simp_all [fitF]; done)
      | (simp_all [fitF]; omega)
theorem fitsKeep_any (a : Option Addr) (c : Nat) (l : List Int) (w : World) (h : Rd w .i64 a l) (hn : l.length ≤ maxLen) :
    Calls Tryz.prog 358 #[.agg #[.slice a l.length c]] w fun e w' => e = .returned (.bool (fitK l)) ∧ Below w.heap.size w w' := by
  have H := Lib.hid h; clear h
  have hn' := hn; unfold maxLen at hn'
  by_cases h1 : 1 ≤ l.length
  · by_cases h2 : l.length ≤ 6
    · have E : Hid (fitK l = l.all colB) := by show fitK l = l.all colB; simp [fitK, h1, h2]
      have B1 := Lib.hid (show Below w.heap.size w (w.alloc (.cells #[.slice a l.length c] 226)) from (Below.refl _ _).alloc (Nat.le_refl _) _)
      have h3 : (1 : Int) ≤ l.length := by omega
      have h4 : (l.length : Int) ≤ 6 := by omega
      go_enter Tryz.func358, Tryz.ntmps358
      go_wp2_with fail
      refine (libContains_any a c l _ (H.out.below B1.out) hn).mono ?_
      rintro e w1 ⟨rfl, b1⟩
      go_wp2
      go_ret
      exact ⟨ret_bool E.out.symm, B1.out.trans (b1.mono (by simp))⟩
    · have E : Hid (fitK l = false) := by show fitK l = false; simp [fitK, h2]
      have h3 : (1 : Int) ≤ l.length := by omega
      have h4 : 6 < (l.length : Int) := by omega
      go_enter Tryz.func358, Tryz.ntmps358
      go_wp2_with fail
      go_ret
      exact ⟨ret_bool E.out.symm, (Below.refl _ _).alloc (Nat.le_refl _) _⟩
  · have E : Hid (fitK l = false) := by show fitK l = false; simp [fitK, h1]
    have h3 : (l.length : Int) < 1 := by omega
    go_enter Tryz.func358, Tryz.ntmps358
    go_wp2_with fail
    go_ret
    exact ⟨ret_bool E.out.symm, (Below.refl _ _).alloc (Nat.le_refl _) _⟩
theorem fitsJoin_any (col num : Int) (w : World) :
    Calls Tryz.prog 363 #[.agg #[.int .i64 col, .int .i64 num]] w fun e w' => e = .returned (.bool (colB col && colB num)) ∧ Below w.heap.size w w' := by
  go_enter Tryz.func363, Tryz.ntmps363
  go_wp2_with (go_at_call 356; refine (isCol_any _ _).mono ?_; rintro e w' ⟨rfl, rfl⟩)
  all_goals
    go_ret
    exact ⟨ret_bool (by simp_all), (Below.refl _ _).alloc (Nat.le_refl _) _⟩
theorem fitsBoth_any (w : World) : Calls Tryz.prog 365 #[.agg #[]] w fun e w' => e = .returned (.bool true) ∧ Below w.heap.size w w' := by
  go_enter Tryz.func365, Tryz.ntmps365
  go_wp2_with fail
  go_ret
  exact ⟨rfl, by first | exact Below.refl _ _ | exact (Below.refl _ _).alloc (Nat.le_refl _) _⟩
theorem fitsOnce_any (w : World) : Calls Tryz.prog 373 #[.agg #[]] w fun e w' => e = .returned (.bool true) ∧ Below w.heap.size w w' := by
  go_enter Tryz.func373, Tryz.ntmps373
  go_wp2_with fail
  go_ret
  exact ⟨rfl, by first | exact Below.refl _ _ | exact (Below.refl _ _).alloc (Nat.le_refl _) _⟩
theorem fitsSort_any (col : Int) (w : World) :
    Calls Tryz.prog 367 #[.agg #[.int .i64 col]] w fun e w' => e = .returned (.bool (colB col)) ∧ Below w.heap.size w w' := by
  go_enter Tryz.func367, Tryz.ntmps367
  go_wp2_with (go_at_call 356; refine (isCol_any _ _).mono ?_; rintro e w' ⟨rfl, rfl⟩)
  go_ret
  exact ⟨rfl, (Below.refl _ _).alloc (Nat.le_refl _) _⟩
theorem fitsLimit_any (num : Int) (slot : Bool) (w : World) :
    Calls Tryz.prog 371 #[.agg #[.int .i64 num, .bool slot]] w fun e w' => e = .returned (.bool (fitL num slot)) ∧ Below w.heap.size w w' := by
  go_enter Tryz.func371, Tryz.ntmps371
  go_wp2_with (go_at_call 357; refine (isSlot_any _ _).mono ?_; rintro e w' ⟨rfl, rfl⟩)
  all_goals
    go_ret
    refine ⟨ret_bool ?_, (Below.refl _ _).alloc (Nat.le_refl _) _⟩
    first
      | (simp_all [fitL]; done)
      | (simp_all [fitL]; omega)

/-- The call returned the node m, and nothing that was there has turned. -/
def Told (w : World) (m : Nd) (en : Ending) (w' : World) : Prop :=
  ∃ a c, en = .returned (.agg #[.int .i64 m.kind, .string m.name, .int .i64 m.col, .int .i64 m.op, .int .i64 m.num, .bool m.slot, .slice a m.cols.length c]) ∧ Rd w' .i64 a m.cols ∧ Below w.heap.size w w'

theorem toldScan_any (s : ByteArray) (w : World) : Calls Tryz.prog 370 #[.agg #[.string s]] w (Told w ⟨0, s, 0, 0, 0, false, []⟩) := by
  go_enter Tryz.func370, Tryz.ntmps370
  go_wp2
  exact bodyPost_ret (v := .agg #[.int .i64 0, .string s, .int .i64 0, .int .i64 0, .int .i64 0, .bool false, .slice none 0 0]) (by simp [results, Tryz.results370, go_sem]) rfl ⟨none, 0, rfl, .inl rfl, ((Below.refl _ _).alloc (Nat.le_refl _) _).alloc (by simp) _⟩
theorem toldFilter_any (col op num : Int) (slot : Bool) (w : World) : Calls Tryz.prog 355 #[.agg #[.int .i64 col, .int .i64 op, .int .i64 num, .bool slot]] w (Told w ⟨1, ⟨#[]⟩, col, op, num, slot, []⟩) := by
  go_enter Tryz.func355, Tryz.ntmps355
  go_wp2
  exact bodyPost_ret (v := .agg #[.int .i64 1, .string ⟨#[]⟩, .int .i64 col, .int .i64 op, .int .i64 num, .bool slot, .slice none 0 0]) (by simp [results, Tryz.results355, go_sem]) rfl ⟨none, 0, rfl, .inl rfl, ((Below.refl _ _).alloc (Nat.le_refl _) _).alloc (by simp) _⟩
theorem toldJoin_any (col num : Int) (w : World) : Calls Tryz.prog 364 #[.agg #[.int .i64 col, .int .i64 num]] w (Told w ⟨3, ⟨#[]⟩, col, 0, num, false, []⟩) := by
  go_enter Tryz.func364, Tryz.ntmps364
  go_wp2
  exact bodyPost_ret (v := .agg #[.int .i64 3, .string ⟨#[]⟩, .int .i64 col, .int .i64 0, .int .i64 num, .bool false, .slice none 0 0]) (by simp [results, Tryz.results364, go_sem]) rfl ⟨none, 0, rfl, .inl rfl, ((Below.refl _ _).alloc (Nat.le_refl _) _).alloc (by simp) _⟩
theorem toldSort_any (col : Int) (w : World) : Calls Tryz.prog 368 #[.agg #[.int .i64 col]] w (Told w ⟨5, ⟨#[]⟩, col, 0, 0, false, []⟩) := by
  go_enter Tryz.func368, Tryz.ntmps368
  go_wp2
  exact bodyPost_ret (v := .agg #[.int .i64 5, .string ⟨#[]⟩, .int .i64 col, .int .i64 0, .int .i64 0, .bool false, .slice none 0 0]) (by simp [results, Tryz.results368, go_sem]) rfl ⟨none, 0, rfl, .inl rfl, ((Below.refl _ _).alloc (Nat.le_refl _) _).alloc (by simp) _⟩
theorem toldLimit_any (num : Int) (slot : Bool) (w : World) : Calls Tryz.prog 372 #[.agg #[.int .i64 num, .bool slot]] w (Told w ⟨6, ⟨#[]⟩, 0, 0, num, slot, []⟩) := by
  go_enter Tryz.func372, Tryz.ntmps372
  go_wp2
  exact bodyPost_ret (v := .agg #[.int .i64 6, .string ⟨#[]⟩, .int .i64 0, .int .i64 0, .int .i64 num, .bool slot, .slice none 0 0]) (by simp [results, Tryz.results372, go_sem]) rfl ⟨none, 0, rfl, .inl rfl, ((Below.refl _ _).alloc (Nat.le_refl _) _).alloc (by simp) _⟩
theorem toldBoth_any (w : World) : Calls Tryz.prog 366 #[.agg #[]] w (Told w ⟨4, ⟨#[]⟩, 0, 0, 0, false, []⟩) := by
  go_enter Tryz.func366, Tryz.ntmps366
  go_wp2
  exact bodyPost_ret (v := .agg #[.int .i64 4, .string ⟨#[]⟩, .int .i64 0, .int .i64 0, .int .i64 0, .bool false, .slice none 0 0]) (by simp [results, Tryz.results366, go_sem]) rfl ⟨none, 0, rfl, .inl rfl, by first | exact ((Below.refl _ _).alloc (Nat.le_refl _) _).alloc (by simp) _ | exact (Below.refl _ _).alloc (Nat.le_refl _) _⟩
theorem toldOnce_any (w : World) : Calls Tryz.prog 374 #[.agg #[]] w (Told w ⟨7, ⟨#[]⟩, 0, 0, 0, false, []⟩) := by
  go_enter Tryz.func374, Tryz.ntmps374
  go_wp2
  exact bodyPost_ret (v := .agg #[.int .i64 7, .string ⟨#[]⟩, .int .i64 0, .int .i64 0, .int .i64 0, .bool false, .slice none 0 0]) (by simp [results, Tryz.results374, go_sem]) rfl ⟨none, 0, rfl, .inl rfl, by first | exact ((Below.refl _ _).alloc (Nat.le_refl _) _).alloc (by simp) _ | exact (Below.refl _ _).alloc (Nat.le_refl _) _⟩
theorem toldKeep_any (a : Option Addr) (c : Nat) (l : List Int) (w : World) (h : Rd w .i64 a l) (hn : l.length ≤ 17592186044416) :
    Calls Tryz.prog 359 #[.agg #[.slice a l.length c]] w (Told w ⟨2, ⟨#[]⟩, 0, 0, 0, false, l⟩) := by
  have H := Lib.hid h; clear h
  go_enter Tryz.func359, Tryz.ntmps359
  go_wp2_with fail
  refine (libClone_any a c l _ (H.out.below (((Below.refl _ w).alloc (Nat.le_refl _) _).alloc (by simp) _)) hn).mono ?_
  rintro e w1 ⟨a1, c1, rfl, o1, b1⟩
  obtain ⟨hc, hf⟩ := bcell b1
  have hz : w.heap.size + 1 < w1.heap.size := by have := b1.size; simp at this; omega
  have O1 := Lib.hid o1
  have B1 := Lib.hid b1
  clear o1 b1
  go_wp2
  have hne : ∀ x, a1 = some x → w.heap.size + 1 < x.block := by intro x hx; have := (O1.out.lt x hx).1; simp at this; omega
  refine bodyPost_ret (v := .agg #[.int .i64 2, .string ⟨#[]⟩, .int .i64 0, .int .i64 0, .int .i64 0, .bool false, .slice a1 l.length c1]) (by simp [results, Tryz.results359, go_sem, hc]) rfl ⟨a1, c1, rfl, ?_, ?_⟩
  · refine Own.rd (base := w.heap.size + 1) (e := 3) (c := c1) ?_
    repeat (refine Own.far ?_ (fun x hx => by have := hne x hx; simp; omega) _)
    exact O1.out.base_le (by simp)
  · repeat (refine Below.setCell ?_ (by simp; try omega) _)
    exact (((Below.refl _ w).alloc (Nat.le_refl _) _).alloc (by simp) _).trans (B1.out.mono (by simp; omega))

set_option maxHeartbeats 800000 in
theorem sameNode_any (n m : Nd) (a b : Option Addr) (c d : Nat) (w : World) (h : Rd w .i64 a n.cols) (k : Rd w .i64 b m.cols) (hn : n.cols.length ≤ maxLen) (hm : m.cols.length ≤ maxLen) :
    Calls Tryz.prog 123 #[.agg #[.int .i64 n.kind, .string n.name, .int .i64 n.col, .int .i64 n.op, .int .i64 n.num, .bool n.slot, .slice a n.cols.length c], .agg #[.int .i64 m.kind, .string m.name, .int .i64 m.col, .int .i64 m.op, .int .i64 m.num, .bool m.slot, .slice b m.cols.length d]] w fun e w' => e = .returned (.bool (eqN n m)) ∧ Below w.heap.size w w' := by
  have H := Lib.hid h; clear h
  have K := Lib.hid k; clear k
  go_enter Tryz.func123, Tryz.ntmps123
  go_wp2_with fail
  all_goals try (go_ret; exact ⟨ret_bool (by simp_all [eqN]), ((Below.refl _ _).alloc (Nat.le_refl _) _).alloc (by simp) _⟩)
  have E : Hid (eqN n m = eqL n.cols m.cols) := by
    show eqN n m = eqL n.cols m.cols
    simp_all [eqN]
  refine (libEqual_any a b c d n.cols m.cols _ (H.out.below (((Below.refl _ w).alloc (Nat.le_refl _) _).alloc (by simp) _)) (K.out.below (((Below.refl _ w).alloc (Nat.le_refl _) _).alloc (by simp) _)) hn hm).mono ?_
  rintro e w1 ⟨rfl, b1⟩
  go_wp2
  go_ret
  exact ⟨ret_bool E.out.symm, (((Below.refl _ w).alloc (Nat.le_refl _) _).alloc (by simp) _).trans (b1.mono (by simp; omega))⟩
end Go.Proofs.YtfpbhedophlnkaaGreatDoor
namespace Go.Proofs.YtfpbhedophlnkaaGreatDoor
open Go.RowKit
set_option linter.unusedSimpArgs false
set_option linter.unusedVariables false

/-- Whether two lists of nodes are the same. -/
def eqNs : List Nd → List Nd → Bool
  | [], [] => true
  | n :: l, m :: k => eqN n m && eqNs l k
  | _, _ => false
theorem eqNs_refl : ∀ l : List Nd, eqNs l l = true
  | [] => rfl
  | n :: l => by simp [eqNs, eqN_refl, eqNs_refl l]
theorem eqNs_len : ∀ l m : List Nd, l.length ≠ m.length → eqNs l m = false
  | [], [], h => absurd rfl h
  | [], _ :: _, _ => rfl
  | _ :: _, [], _ => rfl
  | n :: l, m :: k, h => by simp only [eqNs]; rw [eqNs_len l k (by simpa using h)]; simp
theorem eqNs_no : ∀ (l m : List Nd) (j : Nat) (x y : Nd), l[j]? = some x → m[j]? = some y → eqN x y = false → eqNs l m = false
  | [], _, j, x, y, h, _, _ => by simp at h
  | _ :: _, [], j, x, y, _, h, _ => by simp at h
  | n :: l, m :: k, 0, x, y, hx, hy, h => by simp at hx hy; subst hx hy; simp [eqNs, h]
  | n :: l, m :: k, j + 1, x, y, hx, hy, h => by simp at hx hy; simp [eqNs, eqNs_no l k j x y hx hy h]
theorem eqNs_yes : ∀ (l m : List Nd), l.length = m.length → (∀ (j : Nat) (x y : Nd), l[j]? = some x → m[j]? = some y → eqN x y = true) → eqNs l m = true
  | [], [], _, _ => rfl
  | [], _ :: _, h, _ => by simp at h
  | _ :: _, [], h, _ => by simp at h
  | n :: l, m :: k, h, hh => by
    simp only [eqNs]
    rw [hh 0 n m rfl rfl, eqNs_yes l k (by simpa using h) fun j x y hx hy => hh (j + 1) x y hx hy]; rfl

set_option maxRecDepth 100000 in
set_option maxHeartbeats 1600000 in
theorem eqNodeS_any (a b : Option Addr) (c d : Nat) (l m : List Nd) (w : World) (h : RdN w a l) (k : RdN w b m) (hn : l.length ≤ maxLen) (hm : m.length ≤ maxLen) :
    Calls Tryz.prog 60 #[.slice a l.length c, .slice b m.length d] w fun e w' => e = .returned (.bool (eqNs l m)) ∧ Below w.heap.size w w' := by
  unfold maxLen at hn hm
  have H := Lib.hid h; clear h
  have K := Lib.hid k; clear k
  by_cases hlen : l.length = m.length
  · have hne : ((l.length : Int) != (m.length : Int)) = false := by simp [hlen]
    have HL := Lib.hid hlen; clear hlen
    go_enter Tryz.func60, Tryz.ntmps60
    go_wp2_with fail
    go_loopw [5] (fun i wr => ∃ j : Nat, j ≤ l.length ∧ i = .int .i64 j ∧ (∀ i x y, i < j → l[i]? = some x → m[i]? = some y → eqN x y = true) ∧ Below w.heap.size w wr) (fun i _ => l.length - (intOf i).toNat)
    case atStart => exact ⟨0, Nat.zero_le _, rfl, fun i x y hi => absurd hi (Nat.not_lt_zero _), Below.refl _ _⟩
    case round =>
      obtain ⟨j, hj, rfl, ht, hb⟩ := hrel
      have HT := Lib.hid ht; clear ht
      by_cases hlt : j < l.length
      · have hlt2 : j < m.length := by have := HL.out; omega
        obtain ⟨b1, o1, x, ax, cx, rfl, hx, hat⟩ := (H.out.below hb).at_ hlt
        obtain ⟨b2, o2, y, ay, cy, rfl, hy, hay⟩ := (K.out.below hb).at_ hlt2
        have X := Lib.hid hx; have Y := Lib.hid hy; have HB := Lib.hid hb
        clear hx hy hb
        obtain ⟨c0, c1, c2, c3, c4, c5, c6, rd, cap, mx, nm⟩ := hat
        obtain ⟨d0, d1, d2, d3, d4, d5, d6, rd', cap', mx', nm'⟩ := hay
        have RD := Lib.hid rd; have RD' := Lib.hid rd'
        have E := Lib.hid (fun W => eqNode_any x y ax ay cx cy W)
        have l1 := Nat.le_trans cap mx; have l2 := Nat.le_trans cap' mx'
        clear rd rd' cap mx cap' mx' nm nm'
        have i1 : (j : Int) < (l.length : Int) := by omega
        have i2 : (j : Int) < (m.length : Int) := by omega
        cases hxy : eqN x y with
        | true =>
          have Q := Lib.hid hxy; clear hxy
          go_wp2_with fail
          go_region_with (go_at_call 141; refine (E.out _ ?_ ?_ l1 l2).mono ?_; exact RD.out; exact RD'.out; rintro e w1 ⟨rfl, b1⟩; rw [Q.out]; have T1 := Lib.hid (below_step HB.out.drew (Nat.le_refl _) b1); clear b1)
          all_goals
            go_wp2_with fail
            go_roundw
            case rel => exact ⟨j + 1, by omega, by go_num, fun i x' y' hi hx' hy' => by
              by_cases hij : i = j
              · subst hij; rw [X.out] at hx'; rw [Y.out] at hy'; cases hx'; cases hy'; exact Q.out
              · exact HT.out i x' y' (by omega) hx' hy', T1.out⟩
            case measure => simp [intOf]; omega
        | false =>
          have Q := Lib.hid hxy; clear hxy
          have F := Lib.hid (eqNs_no l m j x y X.out Y.out Q.out)
          go_wp2_with fail
          go_region_with (go_at_call 141; refine (E.out _ ?_ ?_ l1 l2).mono ?_; exact RD.out; exact RD'.out; rintro e w1 ⟨rfl, b1⟩; rw [Q.out]; have T1 := Lib.hid (below_step HB.out.drew (Nat.le_refl _) b1); clear b1)
          all_goals
            go_wp2_with fail
            go_ret
            exact ⟨ret_bool F.out.symm, T1.out⟩
      · have HB := Lib.hid hb; clear hb
        go_wp2_with fail
        go_ret
        refine ⟨ret_bool (eqNs_yes l m HL.out fun i x y hx hy => HT.out i x y ?_ hx hy).symm, HB.out⟩
        have : i < l.length := by
          rcases Nat.lt_or_ge i l.length with h1 | h1
          · exact h1
          · rw [List.getElem?_eq_none h1] at hx; cases hx
        omega
  · have hne : ((l.length : Int) != (m.length : Int)) = true := by simp; omega
    have HF := Lib.hid (eqNs_len l m hlen)
    go_enter Tryz.func60, Tryz.ntmps60
    go_wp2_with fail
    go_ret
    exact ⟨ret_bool HF.out.symm, Below.refl _ _⟩
end Go.Proofs.YtfpbhedophlnkaaGreatDoor
namespace Go.Proofs.YtfpbhedophlnkaaGreatDoor
open Go.RowKit
set_option linter.unusedSimpArgs false
set_option linter.unusedVariables false

set_option maxRecDepth 100000 in
set_option maxHeartbeats 1600000 in
theorem equalFunc_any (a b : Option Addr) (c d : Nat) (l m : List Nd) (w : World) (h : RdN w a l) (k : RdN w b m) (hn : l.length ≤ maxLen) (hm : m.length ≤ maxLen) :
    Calls Tryz.prog 122 #[.slice a l.length c, .slice b m.length d, .func (.func 123) #[] #[]] w fun e w' => e = .returned (.bool (eqNs l m)) ∧ Below w.heap.size w w' := by
  unfold maxLen at hn hm
  have H := Lib.hid h; clear h
  have K := Lib.hid k; clear k
  by_cases hlen : l.length = m.length
  · have hne : ((l.length : Int) != (m.length : Int)) = false := by simp [hlen]
    have HL := Lib.hid hlen; clear hlen
    go_enter Tryz.func122, Tryz.ntmps122
    go_wp2_with fail
    go_loopw [17] (fun i wr => ∃ j : Nat, j ≤ l.length ∧ i = .int .i64 j ∧ (∀ i x y, i < j → l[i]? = some x → m[i]? = some y → eqN x y = true) ∧ Below w.heap.size w wr) (fun i _ => l.length - (intOf i).toNat)
    case atStart => exact ⟨0, Nat.zero_le _, rfl, fun i x y hi => absurd hi (Nat.not_lt_zero _), Below.refl _ _⟩
    case round =>
      obtain ⟨j, hj, rfl, ht, hb⟩ := hrel
      have HT := Lib.hid ht; clear ht
      by_cases hlt : j < l.length
      · have hlt2 : j < m.length := by have := HL.out; omega
        obtain ⟨b1, o1, x, ax, cx, rfl, hx, hat⟩ := (H.out.below hb).at_ hlt
        obtain ⟨b2, o2, y, ay, cy, rfl, hy, hay⟩ := (K.out.below hb).at_ hlt2
        have X := Lib.hid hx; have Y := Lib.hid hy; have HB := Lib.hid hb
        clear hx hy hb
        have lt1 := hat.lt; have lt2 := hay.lt
        obtain ⟨c0, c1, c2, c3, c4, c5, c6, rd, cap, mx, nm⟩ := hat
        obtain ⟨d0, d1, d2, d3, d4, d5, d6, rd', cap', mx', nm'⟩ := hay
        have RD := Lib.hid rd; have RD' := Lib.hid rd'
        have E := Lib.hid (fun W => sameNode_any x y ax ay cx cy W)
        have l1 := Nat.le_trans cap mx; have l2 := Nat.le_trans cap' mx'
        clear rd rd' cap mx cap' mx' nm nm'
        cases hxy : eqN x y with
        | true =>
          have Q := Lib.hid hxy; clear hxy
          go_wp2_with fail
          refine (E.out _ (RD.out.below (((Below.refl _ wr).alloc (Nat.le_refl _) _).alloc (by simp) _)) (RD'.out.below (((Below.refl _ wr).alloc (Nat.le_refl _) _).alloc (by simp) _)) l1 l2).mono ?_
          rintro e w1 ⟨rfl, b1⟩
          rw [Q.out]
          have T1 := Lib.hid (below_step ((HB.out.alloc HB.out.size _).alloc (by have := HB.out.size; simp; omega) _) (Nat.le_refl _) b1)
          clear b1
          go_wp2_with fail
          go_roundw
          case rel => exact ⟨j + 1, by omega, by go_num, fun i x' y' hi hx' hy' => by
            by_cases hij : i = j
            · subst hij; rw [X.out] at hx'; rw [Y.out] at hy'; cases hx'; cases hy'; exact Q.out
            · exact HT.out i x' y' (by omega) hx' hy', T1.out⟩
          case measure => simp [intOf]; omega
        | false =>
          have Q := Lib.hid hxy; clear hxy
          have F := Lib.hid (eqNs_no l m j x y X.out Y.out Q.out)
          go_wp2_with fail
          refine (E.out _ (RD.out.below (((Below.refl _ wr).alloc (Nat.le_refl _) _).alloc (by simp) _)) (RD'.out.below (((Below.refl _ wr).alloc (Nat.le_refl _) _).alloc (by simp) _)) l1 l2).mono ?_
          rintro e w1 ⟨rfl, b1⟩
          rw [Q.out]
          have T1 := Lib.hid (below_step ((HB.out.alloc HB.out.size _).alloc (by have := HB.out.size; simp; omega) _) (Nat.le_refl _) b1)
          clear b1
          go_wp2_with fail
          go_ret
          exact ⟨ret_bool F.out.symm, T1.out⟩
      · have HB := Lib.hid hb; clear hb
        go_wp2_with fail
        go_ret
        refine ⟨ret_bool (eqNs_yes l m HL.out fun i x y hx hy => HT.out i x y ?_ hx hy).symm, HB.out⟩
        have : i < l.length := by
          rcases Nat.lt_or_ge i l.length with h1 | h1
          · exact h1
          · rw [List.getElem?_eq_none h1] at hx; cases hx
        omega
  · have hne : ((l.length : Int) != (m.length : Int)) = true := by simp; omega
    have HF := Lib.hid (eqNs_len l m hlen)
    go_enter Tryz.func122, Tryz.ntmps122
    go_wp2_with fail
    go_ret
    exact ⟨ret_bool HF.out.symm, Below.refl _ _⟩

theorem implSamePlan_any (a b : Option Addr) (c d : Nat) (l m : List Nd) (w : World) (h : RdN w a l) (k : RdN w b m) (hn : l.length ≤ maxLen) (hm : m.length ≤ maxLen) :
    Calls Tryz.prog 44 #[.slice a l.length c, .slice b m.length d] w fun e w' => e = .returned (.bool (eqNs l m)) ∧ Below w.heap.size w w' := by
  have H := Lib.hid h; clear h
  have K := Lib.hid k; clear k
  go_enter Tryz.func44, Tryz.ntmps44
  go_wp2_with fail
  refine (equalFunc_any a b c d l m _ H.out K.out hn hm).mono ?_
  rintro e w1 ⟨rfl, b1⟩
  go_wp2_with fail
  go_ret
  exact ⟨rfl, b1⟩
end Go.Proofs.YtfpbhedophlnkaaGreatDoor
