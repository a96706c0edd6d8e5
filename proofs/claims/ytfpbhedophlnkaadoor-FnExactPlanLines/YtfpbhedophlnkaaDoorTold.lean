/-
  Contracts of the kinds' fits and told, and of impl.sameNode. For every node.
-/
import Derived.Test.YtfpbhedophlnkaaDoorLibI
import Derived.Test.YtfpbhedophlnkaaDoorHE
import Derived.Test.YtfpbhedophlnkaaDoorWord
import Derived.Test.YtfpbhedophlnkaaDoorKind
namespace Go.Proofs.YtfpbhedophlnkaaDoor
open Go.RowKit
set_option linter.unusedSimpArgs false
set_option linter.unusedVariables false

def slotB (x : Int) : Bool := decide (0 ≤ x ∧ x ≤ 39)
def numI (x : Int) : Bool := decide (-1000000 ≤ x ∧ x ≤ 1000000)
theorem isSlot_any (x : Int) (w : World) : Calls Tryd.prog 100 #[.int .i64 x] w fun e w' => e = .returned (.bool (slotB x)) ∧ w = w' := by
  by_cases h1 : 0 ≤ x
  · by_cases h2 : x < 40
    · have HF := Lib.hid (show slotB x = true by unfold slotB; simp; omega)
      go_enter Tryd.func100, Tryd.ntmps100
      go_wp2
      go_ret
      exact ⟨ret_bool HF.out.symm, rfl⟩
    · have HF := Lib.hid (show slotB x = false by unfold slotB; simp; omega)
      have h3 : 40 ≤ x := by omega
      go_enter Tryd.func100, Tryd.ntmps100
      go_wp2
      go_ret
      exact ⟨ret_bool HF.out.symm, rfl⟩
  · have HF := Lib.hid (show slotB x = false by unfold slotB; simp; omega)
    have h3 : x < 0 := by omega
    go_enter Tryd.func100, Tryd.ntmps100
    go_wp2
    go_ret
    exact ⟨ret_bool HF.out.symm, rfl⟩
theorem isNum_any (x : Int) (w : World) : Calls Tryd.prog 101 #[.int .i64 x] w fun e w' => e = .returned (.bool (numI x)) ∧ w = w' := by
  by_cases h1 : -1000000 ≤ x
  · by_cases h2 : x ≤ 1000000
    · have HF := Lib.hid (show numI x = true by unfold numI; simp; omega)
      go_enter Tryd.func101, Tryd.ntmps101
      go_wp2
      go_ret
      exact ⟨ret_bool HF.out.symm, rfl⟩
    · have HF := Lib.hid (show numI x = false by unfold numI; simp; omega)
      have h3 : 1000000 < x := by omega
      go_enter Tryd.func101, Tryd.ntmps101
      go_wp2
      go_ret
      exact ⟨ret_bool HF.out.symm, rfl⟩
  · have HF := Lib.hid (show numI x = false by unfold numI; simp; omega)
    have h3 : x < -1000000 := by omega
    go_enter Tryd.func101, Tryd.ntmps101
    go_wp2
    go_ret
    exact ⟨ret_bool HF.out.symm, rfl⟩

/-- What fits answers for a filter. -/
def fitF (col op num : Int) (slot : Bool) : Bool :=
  colB col && decide (0 ≤ op ∧ op ≤ 3) && (if op = 3 then decide (num = 0) && !slot else if slot = true then slotB num else numI num)
def fitK (cols : List Int) : Bool := decide (1 ≤ cols.length ∧ cols.length ≤ 6) && cols.all colB
def fitL (num : Int) (slot : Bool) : Bool := if slot = true then slotB num else decide (0 ≤ num ∧ num ≤ 1000000)

theorem fitsScan_any (s : ByteArray) (w : World) (hs : s.size ≤ maxLen) :
    Calls Tryd.prog 92 #[.agg #[.string s]] w fun e w' => e = .returned (.bool (wordB s.data.toList)) ∧ Below w.heap.size w w' := by
  go_enter Tryd.func92, Tryd.ntmps92
  go_wp2_with fail
  refine (implWordOk_any _ _ hs).mono ?_
  rintro e w' ⟨rfl, rfl⟩
  go_wp2
  go_ret
  exact ⟨rfl, (Below.refl _ _).alloc (Nat.le_refl _) _⟩
set_option maxHeartbeats 800000 in
theorem fitsFilter_any (col op num : Int) (slot : Bool) (w : World) :
    Calls Tryd.prog 97 #[.agg #[.int .i64 col, .int .i64 op, .int .i64 num, .bool slot]] w fun e w' => e = .returned (.bool (fitF col op num slot)) ∧ Below w.heap.size w w' := by
  go_enter Tryd.func97, Tryd.ntmps97
  go_wp2_with (first
    | (go_at_call 99; refine (isCol_any _ _).mono ?_; rintro e w' ⟨rfl, rfl⟩)
    | (go_at_call 100; refine (isSlot_any _ _).mono ?_; rintro e w' ⟨rfl, rfl⟩)
    | (go_at_call 101; refine (isNum_any _ _).mono ?_; rintro e w' ⟨rfl, rfl⟩))
  all_goals
    go_ret
    refine ⟨ret_bool ?_, (Below.refl _ _).alloc (Nat.le_refl _) _⟩
    first
      | (simp_all [fitF]; done)
      | (simp_all [fitF]; omega)
theorem fitsKeep_any (a : Option Addr) (c : Nat) (l : List Int) (w : World) (h : Rd w .i64 a l) (hn : l.length ≤ maxLen) :
    Calls Tryd.prog 102 #[.agg #[.slice a l.length c]] w fun e w' => e = .returned (.bool (fitK l)) ∧ Below w.heap.size w w' := by
  have H := Lib.hid h; clear h
  have hn' := hn; unfold maxLen at hn'
  by_cases h1 : 1 ≤ l.length
  · by_cases h2 : l.length ≤ 6
    · have E : Hid (fitK l = l.all colB) := by show fitK l = l.all colB; simp [fitK, h1, h2]
      have B1 := Lib.hid (show Below w.heap.size w (w.alloc (.cells #[.slice a l.length c] 66)) from (Below.refl _ _).alloc (Nat.le_refl _) _)
      have h3 : (1 : Int) ≤ l.length := by omega
      have h4 : (l.length : Int) ≤ 6 := by omega
      go_enter Tryd.func102, Tryd.ntmps102
      go_wp2_with fail
      refine (libContains_any a c l _ (H.out.below B1.out) hn).mono ?_
      rintro e w1 ⟨rfl, b1⟩
      go_wp2
      go_ret
      exact ⟨ret_bool E.out.symm, B1.out.trans (b1.mono (by simp))⟩
    · have E : Hid (fitK l = false) := by show fitK l = false; simp [fitK, h2]
      have h3 : (1 : Int) ≤ l.length := by omega
      have h4 : 6 < (l.length : Int) := by omega
      go_enter Tryd.func102, Tryd.ntmps102
      go_wp2_with fail
      go_ret
      exact ⟨ret_bool E.out.symm, (Below.refl _ _).alloc (Nat.le_refl _) _⟩
  · have E : Hid (fitK l = false) := by show fitK l = false; simp [fitK, h1]
    have h3 : (l.length : Int) < 1 := by omega
    go_enter Tryd.func102, Tryd.ntmps102
    go_wp2_with fail
    go_ret
    exact ⟨ret_bool E.out.symm, (Below.refl _ _).alloc (Nat.le_refl _) _⟩
theorem fitsJoin_any (col num : Int) (w : World) :
    Calls Tryd.prog 108 #[.agg #[.int .i64 col, .int .i64 num]] w fun e w' => e = .returned (.bool (colB col && colB num)) ∧ Below w.heap.size w w' := by
  go_enter Tryd.func108, Tryd.ntmps108
  go_wp2_with (go_at_call 99; refine (isCol_any _ _).mono ?_; rintro e w' ⟨rfl, rfl⟩)
  all_goals
    go_ret
    exact ⟨ret_bool (by simp_all), (Below.refl _ _).alloc (Nat.le_refl _) _⟩
theorem fitsBoth_any (w : World) : Calls Tryd.prog 110 #[.agg #[]] w fun e w' => e = .returned (.bool true) ∧ Below w.heap.size w w' := by
  go_enter Tryd.func110, Tryd.ntmps110
  go_wp2_with fail
  go_ret
  exact ⟨rfl, by first | exact Below.refl _ _ | exact (Below.refl _ _).alloc (Nat.le_refl _) _⟩
theorem fitsOnce_any (w : World) : Calls Tryd.prog 116 #[.agg #[]] w fun e w' => e = .returned (.bool true) ∧ Below w.heap.size w w' := by
  go_enter Tryd.func116, Tryd.ntmps116
  go_wp2_with fail
  go_ret
  exact ⟨rfl, by first | exact Below.refl _ _ | exact (Below.refl _ _).alloc (Nat.le_refl _) _⟩
theorem fitsSort_any (col : Int) (w : World) :
    Calls Tryd.prog 112 #[.agg #[.int .i64 col]] w fun e w' => e = .returned (.bool (colB col)) ∧ Below w.heap.size w w' := by
  go_enter Tryd.func112, Tryd.ntmps112
  go_wp2_with (go_at_call 99; refine (isCol_any _ _).mono ?_; rintro e w' ⟨rfl, rfl⟩)
  go_ret
  exact ⟨rfl, (Below.refl _ _).alloc (Nat.le_refl _) _⟩
theorem fitsLimit_any (num : Int) (slot : Bool) (w : World) :
    Calls Tryd.prog 114 #[.agg #[.int .i64 num, .bool slot]] w fun e w' => e = .returned (.bool (fitL num slot)) ∧ Below w.heap.size w w' := by
  go_enter Tryd.func114, Tryd.ntmps114
  go_wp2_with (go_at_call 100; refine (isSlot_any _ _).mono ?_; rintro e w' ⟨rfl, rfl⟩)
  all_goals
    go_ret
    refine ⟨ret_bool ?_, (Below.refl _ _).alloc (Nat.le_refl _) _⟩
    first
      | (simp_all [fitL]; done)
      | (simp_all [fitL]; omega)

/-- The call returned the node m, and nothing that was there has turned. -/
def Told (w : World) (m : Nd) (en : Ending) (w' : World) : Prop :=
  ∃ a c, en = .returned (.agg #[.int .i64 m.kind, .string m.name, .int .i64 m.col, .int .i64 m.op, .int .i64 m.num, .bool m.slot, .slice a m.cols.length c]) ∧ Rd w' .i64 a m.cols ∧ Below w.heap.size w w'

theorem toldScan_any (s : ByteArray) (w : World) : Calls Tryd.prog 93 #[.agg #[.string s]] w (Told w ⟨0, s, 0, 0, 0, false, []⟩) := by
  go_enter Tryd.func93, Tryd.ntmps93
  go_wp2
  exact bodyPost_ret (v := .agg #[.int .i64 0, .string s, .int .i64 0, .int .i64 0, .int .i64 0, .bool false, .slice none 0 0]) (by simp [results, Tryd.results93, go_sem]) rfl ⟨none, 0, rfl, .inl rfl, ((Below.refl _ _).alloc (Nat.le_refl _) _).alloc (by simp) _⟩
theorem toldFilter_any (col op num : Int) (slot : Bool) (w : World) : Calls Tryd.prog 98 #[.agg #[.int .i64 col, .int .i64 op, .int .i64 num, .bool slot]] w (Told w ⟨1, ⟨#[]⟩, col, op, num, slot, []⟩) := by
  go_enter Tryd.func98, Tryd.ntmps98
  go_wp2
  exact bodyPost_ret (v := .agg #[.int .i64 1, .string ⟨#[]⟩, .int .i64 col, .int .i64 op, .int .i64 num, .bool slot, .slice none 0 0]) (by simp [results, Tryd.results98, go_sem]) rfl ⟨none, 0, rfl, .inl rfl, ((Below.refl _ _).alloc (Nat.le_refl _) _).alloc (by simp) _⟩
theorem toldJoin_any (col num : Int) (w : World) : Calls Tryd.prog 109 #[.agg #[.int .i64 col, .int .i64 num]] w (Told w ⟨3, ⟨#[]⟩, col, 0, num, false, []⟩) := by
  go_enter Tryd.func109, Tryd.ntmps109
  go_wp2
  exact bodyPost_ret (v := .agg #[.int .i64 3, .string ⟨#[]⟩, .int .i64 col, .int .i64 0, .int .i64 num, .bool false, .slice none 0 0]) (by simp [results, Tryd.results109, go_sem]) rfl ⟨none, 0, rfl, .inl rfl, ((Below.refl _ _).alloc (Nat.le_refl _) _).alloc (by simp) _⟩
theorem toldSort_any (col : Int) (w : World) : Calls Tryd.prog 113 #[.agg #[.int .i64 col]] w (Told w ⟨5, ⟨#[]⟩, col, 0, 0, false, []⟩) := by
  go_enter Tryd.func113, Tryd.ntmps113
  go_wp2
  exact bodyPost_ret (v := .agg #[.int .i64 5, .string ⟨#[]⟩, .int .i64 col, .int .i64 0, .int .i64 0, .bool false, .slice none 0 0]) (by simp [results, Tryd.results113, go_sem]) rfl ⟨none, 0, rfl, .inl rfl, ((Below.refl _ _).alloc (Nat.le_refl _) _).alloc (by simp) _⟩
theorem toldLimit_any (num : Int) (slot : Bool) (w : World) : Calls Tryd.prog 115 #[.agg #[.int .i64 num, .bool slot]] w (Told w ⟨6, ⟨#[]⟩, 0, 0, num, slot, []⟩) := by
  go_enter Tryd.func115, Tryd.ntmps115
  go_wp2
  exact bodyPost_ret (v := .agg #[.int .i64 6, .string ⟨#[]⟩, .int .i64 0, .int .i64 0, .int .i64 num, .bool slot, .slice none 0 0]) (by simp [results, Tryd.results115, go_sem]) rfl ⟨none, 0, rfl, .inl rfl, ((Below.refl _ _).alloc (Nat.le_refl _) _).alloc (by simp) _⟩
theorem toldBoth_any (w : World) : Calls Tryd.prog 111 #[.agg #[]] w (Told w ⟨4, ⟨#[]⟩, 0, 0, 0, false, []⟩) := by
  go_enter Tryd.func111, Tryd.ntmps111
  go_wp2
  exact bodyPost_ret (v := .agg #[.int .i64 4, .string ⟨#[]⟩, .int .i64 0, .int .i64 0, .int .i64 0, .bool false, .slice none 0 0]) (by simp [results, Tryd.results111, go_sem]) rfl ⟨none, 0, rfl, .inl rfl, by first | exact ((Below.refl _ _).alloc (Nat.le_refl _) _).alloc (by simp) _ | exact (Below.refl _ _).alloc (Nat.le_refl _) _⟩
theorem toldOnce_any (w : World) : Calls Tryd.prog 117 #[.agg #[]] w (Told w ⟨7, ⟨#[]⟩, 0, 0, 0, false, []⟩) := by
  go_enter Tryd.func117, Tryd.ntmps117
  go_wp2
  exact bodyPost_ret (v := .agg #[.int .i64 7, .string ⟨#[]⟩, .int .i64 0, .int .i64 0, .int .i64 0, .bool false, .slice none 0 0]) (by simp [results, Tryd.results117, go_sem]) rfl ⟨none, 0, rfl, .inl rfl, by first | exact ((Below.refl _ _).alloc (Nat.le_refl _) _).alloc (by simp) _ | exact (Below.refl _ _).alloc (Nat.le_refl _) _⟩
theorem toldKeep_any (a : Option Addr) (c : Nat) (l : List Int) (w : World) (h : Rd w .i64 a l) (hn : l.length ≤ 17592186044416) :
    Calls Tryd.prog 103 #[.agg #[.slice a l.length c]] w (Told w ⟨2, ⟨#[]⟩, 0, 0, 0, false, l⟩) := by
  have H := Lib.hid h; clear h
  go_enter Tryd.func103, Tryd.ntmps103
  go_wp2_with fail
  refine (libClone_any a c l _ (H.out.below (((Below.refl _ w).alloc (Nat.le_refl _) _).alloc (by simp) _)) hn).mono ?_
  rintro e w1 ⟨a1, c1, rfl, o1, b1⟩
  obtain ⟨hc, hf⟩ := bcell b1
  have hz : w.heap.size + 1 < w1.heap.size := by have := b1.size; simp at this; omega
  have O1 := Lib.hid o1
  have B1 := Lib.hid b1
  clear o1 b1
  go_wp2
  have hne : ∀ x, a1 = some x → w.heap.size + 1 < x.block := by intro x hx; have := (O1.out.lt x hx).1; simp at this; omega
  refine bodyPost_ret (v := .agg #[.int .i64 2, .string ⟨#[]⟩, .int .i64 0, .int .i64 0, .int .i64 0, .bool false, .slice a1 l.length c1]) (by simp [results, Tryd.results103, go_sem, hc]) rfl ⟨a1, c1, rfl, ?_, ?_⟩
  · refine Own.rd (base := w.heap.size + 1) (e := 3) (c := c1) ?_
    repeat (refine Own.far ?_ (fun x hx => by have := hne x hx; simp; omega) _)
    exact O1.out.base_le (by simp)
  · repeat (refine Below.setCell ?_ (by simp; try omega) _)
    exact (((Below.refl _ w).alloc (Nat.le_refl _) _).alloc (by simp) _).trans (B1.out.mono (by simp; omega))

set_option maxHeartbeats 800000 in
theorem sameNode_any (n m : Nd) (a b : Option Addr) (c d : Nat) (w : World) (h : Rd w .i64 a n.cols) (k : Rd w .i64 b m.cols) (hn : n.cols.length ≤ maxLen) (hm : m.cols.length ≤ maxLen) :
    Calls Tryd.prog 39 #[.agg #[.int .i64 n.kind, .string n.name, .int .i64 n.col, .int .i64 n.op, .int .i64 n.num, .bool n.slot, .slice a n.cols.length c], .agg #[.int .i64 m.kind, .string m.name, .int .i64 m.col, .int .i64 m.op, .int .i64 m.num, .bool m.slot, .slice b m.cols.length d]] w fun e w' => e = .returned (.bool (eqN n m)) ∧ Below w.heap.size w w' := by
  have H := Lib.hid h; clear h
  have K := Lib.hid k; clear k
  go_enter Tryd.func39, Tryd.ntmps39
  go_wp2_with fail
  all_goals try (go_ret; exact ⟨ret_bool (by simp_all [eqN]), ((Below.refl _ _).alloc (Nat.le_refl _) _).alloc (by simp) _⟩)
  have E : Hid (eqN n m = eqL n.cols m.cols) := by
    show eqN n m = eqL n.cols m.cols
    simp_all [eqN]
  refine (libEqual_any a b c d n.cols m.cols _ (H.out.below (((Below.refl _ w).alloc (Nat.le_refl _) _).alloc (by simp) _)) (K.out.below (((Below.refl _ w).alloc (Nat.le_refl _) _).alloc (by simp) _)) hn hm).mono ?_
  rintro e w1 ⟨rfl, b1⟩
  go_wp2
  go_ret
  exact ⟨ret_bool E.out.symm, (((Below.refl _ w).alloc (Nat.le_refl _) _).alloc (by simp) _).trans (b1.mono (by simp; omega))⟩
end Go.Proofs.YtfpbhedophlnkaaDoor
