/-
  The library's slices.Equal, slices.Clone and slices.ContainsFunc at slices of int, in the words of this seat. For every slice of int. Contract of eqNode. For every two nodes. Contracts of the kinds' fits and told, and of impl.sameNode. For every node. Contract of impl.NodeOk: it answers whether the node is one. For every node.
-/
import Derived.Test.YtanfllednlpbaaaGreatShelf
import Derived.Test.YtanfllednlpbaaaGreatM2x
import Derived.Test.YtanfllednlpbaaaGreatM1x
import Derived.Lib.SliceRun
import Derived.Test.YtanfllednlpbaaaGreatM3x
import Derived.Test.YtanfllednlpbaaaGreatM5x
import Derived.Deep.RegionWith
namespace Go.Proofs.YtanfllednlpbaaaGreat
open Go.RowKit Go.Shelf Go.Lib
set_option linter.unusedSimpArgs false
set_option linter.unusedVariables false
theorem libEqual_any (a b : Option Addr) (c d : Nat) (l m : List Int) (w : World) (h : Rd w .i64 a l) (k : Rd w .i64 b m) (hn : l.length ≤ maxLen) (hm : m.length ≤ maxLen) :
    Calls Tryz.prog 93 #[.slice a l.length c, .slice b m.length d] w fun e w' => e = .returned (.bool (eqL l m)) ∧ Below w.heap.size w w' := by
  have hn' : l.length ≤ 9223372036854775807 := by unfold maxLen at hn; omega
  have hm' : m.length ≤ 9223372036854775807 := by unfold maxLen at hm; omega
  by_cases hlen : l.length = m.length
  · rcases h with rfl | ⟨b1, o1, rfl, hc⟩
    · have hm0 : m = [] := List.eq_nil_of_length_eq_zero hlen.symm
      subst hm0
      exact (Any.slices_Equal_int_empty Tryz.lays111 a b c 0 d w (by omega)).mono fun e w' ⟨he, hw⟩ => ⟨by rw [he]; rfl, by rw [hw]; exact Below.refl _ _⟩
    · rcases k with rfl | ⟨b2, o2, rfl, kc⟩
      · have hl0 : l = [] := List.eq_nil_of_length_eq_zero hlen
        subst hl0
        exact (Any.slices_Equal_int_empty Tryz.lays111 _ b c 0 d w (by omega)).mono fun e w' ⟨he, hw⟩ => ⟨by rw [he]; rfl, by rw [hw]; exact Below.refl _ _⟩
      · refine (Any.slices_Equal_int Tryz.lays111 b1 o1 l.length c b2 o2 m.length d l m w (Nat.le_refl _) (Nat.le_refl _) hn' hm' hc kc).mono fun e w' ⟨he, q, hw⟩ => ⟨?_, ?_⟩
        · rw [he, List.take_length, List.take_length]; exact ret_bool (by unfold eqL; rw [Bool.eq_iff_iff]; simp)
        · rw [hw]; exact below_drewN (Below.refl _ _) q
  · refine (Any.slices_Equal_int_lens Tryz.lays111 a b l.length c m.length d w hlen).mono fun e w' ⟨he, hw⟩ => ⟨?_, by rw [hw]; exact Below.refl _ _⟩
    rw [he]; exact ret_bool (by symm; unfold eqL; simp; rintro rfl; exact hlen rfl)
theorem made_of_owns {w w' : World} {v : Value} {l : List Int} {e : TypeId} (h : w'.ownsRow w.heap.size e 1 v l.length (l.map (Value.int .i64))) (hb : Below w.heap.size w w') :
    Made w e .i64 l (.returned v) w' := by
  rcases h.2 with ⟨rfl, hn⟩ | ⟨g, cap, cur, rfl, r⟩
  · obtain rfl : l = [] := List.eq_nil_of_length_eq_zero hn
    exact ⟨none, 0, rfl, Own.none_, hb⟩
  · exact ⟨_, cap, rfl, h, hb⟩
theorem libClone_any (a : Option Addr) (c : Nat) (l : List Int) (w : World) (h : Rd w .i64 a l) (hn : l.length ≤ 17592186044416) :
    Calls Tryz.prog 92 #[.slice a l.length c] w (Made w 3 .i64 l) := by
  rcases h with rfl | ⟨b1, o1, rfl, hc⟩
  · cases a with
    | none =>
      refine (Any.slices_Clone_int_nil Tryz.laysNm215 0 c w).mono ?_
      rintro e w' ⟨he, hw⟩
      rw [he, hw]; exact ⟨none, 0, rfl, Own.none_, Below.refl _ _⟩
    | some x =>
      refine (Any.slices_Clone_int_zero Tryz.laysNm215 x c w).mono ?_
      rintro e w' ⟨v, he, ho, _, hb⟩
      rw [he]; exact made_of_owns (l := []) ho hb
  · refine (Any.slices_Clone_int Tryz.laysNm215 b1 o1 l.length c l w (Nat.le_refl _) (by omega) hc).mono ?_
    rintro e w' ⟨v, he, ho, _, hb⟩
    rw [he]; rw [List.take_length] at ho; exact made_of_owns ho hb
theorem isCol_any (x : Int) (w : World) : Calls Tryz.prog 209 #[.int .i64 x] w fun e w' => e = .returned (.bool (colB x)) ∧ w = w' := by
  by_cases h1 : 0 ≤ x
  · by_cases h2 : x ≤ 63
    · have HF := Lib.hid (colB_t h1 h2)
      go_enter Tryz.func209, Tryz.ntmps209
      go_wp2
      go_ret
      exact ⟨ret_bool HF.out.symm, rfl⟩
    · have HF := Lib.hid (colB_f (x := x) (by omega))
      have h3 : 63 < x := by omega
      go_enter Tryz.func209, Tryz.ntmps209
      go_wp2
      go_ret
      exact ⟨ret_bool HF.out.symm, rfl⟩
  · have HF := Lib.hid (colB_f (x := x) (by omega))
    have h3 : x < 0 := by omega
    go_enter Tryz.func209, Tryz.ntmps209
    go_wp2
    go_ret
    exact ⟨ret_bool HF.out.symm, rfl⟩
theorem isNoCol_any (x : Int) (w : World) : Calls Tryz.prog 213 #[.int .i64 x] w fun e w' => e = .returned (.bool (!colB x)) ∧ w = w' := by
  go_enter Tryz.func213, Tryz.ntmps213
  go_wp2_with fail
  refine (isCol_any _ _).mono ?_
  rintro e w' ⟨rfl, rfl⟩
  go_wp2
  go_ret
  exact ⟨rfl, rfl⟩
theorem libContains_any (a : Option Addr) (c : Nat) (l : List Int) (w : World) (h : Rd w .i64 a l) (hn : l.length ≤ maxLen) :
    Calls Tryz.prog 137 #[.slice a l.length c, .func (.func 213) #[] #[]] w fun e w' => e = .returned (.bool (!l.all colB)) ∧ Below w.heap.size w w' := by
  have hn' : l.length ≤ 9223372036854775807 := by unfold maxLen at hn; omega
  rcases h with rfl | ⟨b1, o1, rfl, hc⟩
  · exact (AnyE.slices_ContainsFunc_empty Tryz.laysContains a c _ w).mono fun e w' ⟨he, hw⟩ => ⟨by rw [he]; rfl, by rw [hw]; exact Below.refl _ _⟩
  · refine (AnyE.slices_ContainsFunc Tryz.laysContains (Value.int .i64) (fun x => !colB x) 213 #[] (enters_of Tryz.func213 (by kernel_rfl) rfl) b1 o1 l.length c l w
      (fun W x _ => (isNoCol_any x W).mono fun e w' ⟨he, hw⟩ => ⟨he, 0, by rw [← hw]; rfl⟩) (Nat.le_refl _) hn' (fun j hj => ?_)).mono fun e w' ⟨he, q, hw⟩ => ⟨?_, ?_⟩
    · rw [hc j hj, List.getD_eq_getElem?_getD, getElem!_def, List.getElem?_eq_getElem hj]; rfl
    · rw [he, List.take_length]; exact ret_bool (by rw [List.not_all_eq_any_not])
    · rw [hw]; exact below_drewN (Below.refl _ _) q
end Go.Proofs.YtanfllednlpbaaaGreat
namespace Go.Proofs.YtanfllednlpbaaaGreat
open Go.RowKit
set_option linter.unusedSimpArgs false
set_option linter.unusedVariables false
def eqN (n m : Nd) : Bool := (n.kind == m.kind) && (n.name.toList == m.name.toList) && (n.col == m.col) && (n.op == m.op) && (n.num == m.num) && (n.slot == m.slot) && eqL n.cols m.cols
def slotB (x : Int) : Bool := decide (0 ≤ x ∧ x ≤ 39)
def numI (x : Int) : Bool := decide (-1000000 ≤ x ∧ x ≤ 1000000)
theorem isSlot_any (x : Int) (w : World) : Calls Tryz.prog 210 #[.int .i64 x] w fun e w' => e = .returned (.bool (slotB x)) ∧ w = w' := by
  by_cases h1 : 0 ≤ x
  · by_cases h2 : x < 40
    · have HF := Lib.hid (show slotB x = true by unfold slotB; simp; omega)
      go_enter Tryz.func210, Tryz.ntmps210
      go_wp2
      go_ret
      exact ⟨ret_bool HF.out.symm, rfl⟩
    · have HF := Lib.hid (show slotB x = false by unfold slotB; simp; omega)
      have h3 : 40 ≤ x := by omega
      go_enter Tryz.func210, Tryz.ntmps210
      go_wp2
      go_ret
      exact ⟨ret_bool HF.out.symm, rfl⟩
  · have HF := Lib.hid (show slotB x = false by unfold slotB; simp; omega)
    have h3 : x < 0 := by omega
    go_enter Tryz.func210, Tryz.ntmps210
    go_wp2
    go_ret
    exact ⟨ret_bool HF.out.symm, rfl⟩
theorem isNum_any (x : Int) (w : World) : Calls Tryz.prog 181 #[.int .i64 x] w fun e w' => e = .returned (.bool (numI x)) ∧ w = w' := by
  by_cases h1 : -1000000 ≤ x
  · by_cases h2 : x ≤ 1000000
    · have HF := Lib.hid (show numI x = true by unfold numI; simp; omega)
      go_enter Tryz.func181, Tryz.ntmps181
      go_wp2
      go_ret
      exact ⟨ret_bool HF.out.symm, rfl⟩
    · have HF := Lib.hid (show numI x = false by unfold numI; simp; omega)
      have h3 : 1000000 < x := by omega
      go_enter Tryz.func181, Tryz.ntmps181
      go_wp2
      go_ret
      exact ⟨ret_bool HF.out.symm, rfl⟩
  · have HF := Lib.hid (show numI x = false by unfold numI; simp; omega)
    have h3 : x < -1000000 := by omega
    go_enter Tryz.func181, Tryz.ntmps181
    go_wp2
    go_ret
    exact ⟨ret_bool HF.out.symm, rfl⟩
def fitF (col op num : Int) (slot : Bool) : Bool :=
  colB col && decide (0 ≤ op ∧ op ≤ 3) && (if op = 3 then decide (num = 0) && !slot else if slot = true then slotB num else numI num)
def fitK (cols : List Int) : Bool := decide (1 ≤ cols.length ∧ cols.length ≤ 6) && cols.all colB
def fitL (num : Int) (slot : Bool) : Bool := if slot = true then slotB num else decide (0 ≤ num ∧ num ≤ 1000000)
theorem fitsScan_any (s : ByteArray) (w : World) (hs : s.size ≤ maxLen) :
    Calls Tryz.prog 220 #[.agg #[.string s]] w fun e w' => e = .returned (.bool (wordB s.data.toList)) ∧ Below w.heap.size w w' := by
  go_enter Tryz.func220, Tryz.ntmps220
  go_wp2_with fail
  refine (implWordOk_any _ _ hs).mono ?_
  rintro e w' ⟨rfl, rfl⟩
  go_wp2
  go_ret
  exact ⟨rfl, (Below.refl _ _).alloc (Nat.le_refl _) _⟩
set_option maxHeartbeats 800000 in
theorem fitsFilter_any (col op num : Int) (slot : Bool) (w : World) :
    Calls Tryz.prog 207 #[.agg #[.int .i64 col, .int .i64 op, .int .i64 num, .bool slot]] w fun e w' => e = .returned (.bool (fitF col op num slot)) ∧ Below w.heap.size w w' := by
  go_enter Tryz.func207, Tryz.ntmps207
  go_wp2_with (first
    | (go_at_call 209; refine (isCol_any _ _).mono ?_; rintro e w' ⟨rfl, rfl⟩)
    | (go_at_call 210; refine (isSlot_any _ _).mono ?_; rintro e w' ⟨rfl, rfl⟩)
    | (go_at_call 181; refine (isNum_any _ _).mono ?_; rintro e w' ⟨rfl, rfl⟩))
  all_goals
    go_ret
    refine ⟨ret_bool ?_, (Below.refl _ _).alloc (Nat.le_refl _) _⟩
    first
      | (simp_all [fitF]; done)
      | (simp_all [fitF]; omega)
theorem fitsKeep_any (a : Option Addr) (c : Nat) (l : List Int) (w : World) (h : Rd w .i64 a l) (hn : l.length ≤ maxLen) :
    Calls Tryz.prog 211 #[.agg #[.slice a l.length c]] w fun e w' => e = .returned (.bool (fitK l)) ∧ Below w.heap.size w w' := by
  have H := Lib.hid h; clear h
  have hn' := hn; unfold maxLen at hn'
  by_cases h1 : 1 ≤ l.length
  · by_cases h2 : l.length ≤ 6
    · have E : Hid (fitK l = l.all colB) := by show fitK l = l.all colB; simp [fitK, h1, h2]
      have B1 := Lib.hid (show Below w.heap.size w (w.alloc (.cells #[.slice a l.length c] 156)) from (Below.refl _ _).alloc (Nat.le_refl _) _)
      have h3 : (1 : Int) ≤ l.length := by omega
      have h4 : (l.length : Int) ≤ 6 := by omega
      go_enter Tryz.func211, Tryz.ntmps211
      go_wp2_with fail
      refine (libContains_any a c l _ (H.out.below B1.out) hn).mono ?_
      rintro e w1 ⟨rfl, b1⟩
      go_wp2
      go_ret
      exact ⟨ret_bool E.out.symm, B1.out.trans (b1.mono (by simp))⟩
    · have E : Hid (fitK l = false) := by show fitK l = false; simp [fitK, h2]
      have h3 : (1 : Int) ≤ l.length := by omega
      have h4 : 6 < (l.length : Int) := by omega
      go_enter Tryz.func211, Tryz.ntmps211
      go_wp2_with fail
      go_ret
      exact ⟨ret_bool E.out.symm, (Below.refl _ _).alloc (Nat.le_refl _) _⟩
  · have E : Hid (fitK l = false) := by show fitK l = false; simp [fitK, h1]
    have h3 : (l.length : Int) < 1 := by omega
    go_enter Tryz.func211, Tryz.ntmps211
    go_wp2_with fail
    go_ret
    exact ⟨ret_bool E.out.symm, (Below.refl _ _).alloc (Nat.le_refl _) _⟩
theorem fitsJoin_any (col num : Int) (w : World) :
    Calls Tryz.prog 214 #[.agg #[.int .i64 col, .int .i64 num]] w fun e w' => e = .returned (.bool (colB col && colB num)) ∧ Below w.heap.size w w' := by
  go_enter Tryz.func214, Tryz.ntmps214
  go_wp2_with (go_at_call 209; refine (isCol_any _ _).mono ?_; rintro e w' ⟨rfl, rfl⟩)
  all_goals
    go_ret
    exact ⟨ret_bool (by simp_all), (Below.refl _ _).alloc (Nat.le_refl _) _⟩
theorem fitsBoth_any (w : World) : Calls Tryz.prog 216 #[.agg #[]] w fun e w' => e = .returned (.bool true) ∧ Below w.heap.size w w' := by
  go_enter Tryz.func216, Tryz.ntmps216
  go_wp2_with fail
  go_ret
  exact ⟨rfl, by first | exact Below.refl _ _ | exact (Below.refl _ _).alloc (Nat.le_refl _) _⟩
theorem fitsOnce_any (w : World) : Calls Tryz.prog 224 #[.agg #[]] w fun e w' => e = .returned (.bool true) ∧ Below w.heap.size w w' := by
  go_enter Tryz.func224, Tryz.ntmps224
  go_wp2_with fail
  go_ret
  exact ⟨rfl, by first | exact Below.refl _ _ | exact (Below.refl _ _).alloc (Nat.le_refl _) _⟩
theorem fitsSort_any (col : Int) (w : World) :
    Calls Tryz.prog 218 #[.agg #[.int .i64 col]] w fun e w' => e = .returned (.bool (colB col)) ∧ Below w.heap.size w w' := by
  go_enter Tryz.func218, Tryz.ntmps218
  go_wp2_with (go_at_call 209; refine (isCol_any _ _).mono ?_; rintro e w' ⟨rfl, rfl⟩)
  go_ret
  exact ⟨rfl, (Below.refl _ _).alloc (Nat.le_refl _) _⟩
theorem fitsLimit_any (num : Int) (slot : Bool) (w : World) :
    Calls Tryz.prog 222 #[.agg #[.int .i64 num, .bool slot]] w fun e w' => e = .returned (.bool (fitL num slot)) ∧ Below w.heap.size w w' := by
  go_enter Tryz.func222, Tryz.ntmps222
  go_wp2_with (go_at_call 210; refine (isSlot_any _ _).mono ?_; rintro e w' ⟨rfl, rfl⟩)
  all_goals
    go_ret
    refine ⟨ret_bool ?_, (Below.refl _ _).alloc (Nat.le_refl _) _⟩
    first
      | (simp_all [fitL]; done)
      | (simp_all [fitL]; omega)
def Told (w : World) (m : Nd) (en : Ending) (w' : World) : Prop :=
  ∃ a c, en = .returned (.agg #[.int .i64 m.kind, .string m.name, .int .i64 m.col, .int .i64 m.op, .int .i64 m.num, .bool m.slot, .slice a m.cols.length c]) ∧ Rd w' .i64 a m.cols ∧ Below w.heap.size w w'
theorem toldScan_any (s : ByteArray) (w : World) : Calls Tryz.prog 221 #[.agg #[.string s]] w (Told w ⟨0, s, 0, 0, 0, false, []⟩) := by
  go_enter Tryz.func221, Tryz.ntmps221
  go_wp2
  exact bodyPost_ret (v := .agg #[.int .i64 0, .string s, .int .i64 0, .int .i64 0, .int .i64 0, .bool false, .slice none 0 0]) (by simp [results, Tryz.results221, go_sem]) rfl ⟨none, 0, rfl, .inl rfl, ((Below.refl _ _).alloc (Nat.le_refl _) _).alloc (by simp) _⟩
theorem toldFilter_any (col op num : Int) (slot : Bool) (w : World) : Calls Tryz.prog 208 #[.agg #[.int .i64 col, .int .i64 op, .int .i64 num, .bool slot]] w (Told w ⟨1, ⟨#[]⟩, col, op, num, slot, []⟩) := by
  go_enter Tryz.func208, Tryz.ntmps208
  go_wp2
  exact bodyPost_ret (v := .agg #[.int .i64 1, .string ⟨#[]⟩, .int .i64 col, .int .i64 op, .int .i64 num, .bool slot, .slice none 0 0]) (by simp [results, Tryz.results208, go_sem]) rfl ⟨none, 0, rfl, .inl rfl, ((Below.refl _ _).alloc (Nat.le_refl _) _).alloc (by simp) _⟩
theorem toldJoin_any (col num : Int) (w : World) : Calls Tryz.prog 215 #[.agg #[.int .i64 col, .int .i64 num]] w (Told w ⟨3, ⟨#[]⟩, col, 0, num, false, []⟩) := by
  go_enter Tryz.func215, Tryz.ntmps215
  go_wp2
  exact bodyPost_ret (v := .agg #[.int .i64 3, .string ⟨#[]⟩, .int .i64 col, .int .i64 0, .int .i64 num, .bool false, .slice none 0 0]) (by simp [results, Tryz.results215, go_sem]) rfl ⟨none, 0, rfl, .inl rfl, ((Below.refl _ _).alloc (Nat.le_refl _) _).alloc (by simp) _⟩
theorem toldSort_any (col : Int) (w : World) : Calls Tryz.prog 219 #[.agg #[.int .i64 col]] w (Told w ⟨5, ⟨#[]⟩, col, 0, 0, false, []⟩) := by
  go_enter Tryz.func219, Tryz.ntmps219
  go_wp2
  exact bodyPost_ret (v := .agg #[.int .i64 5, .string ⟨#[]⟩, .int .i64 col, .int .i64 0, .int .i64 0, .bool false, .slice none 0 0]) (by simp [results, Tryz.results219, go_sem]) rfl ⟨none, 0, rfl, .inl rfl, ((Below.refl _ _).alloc (Nat.le_refl _) _).alloc (by simp) _⟩
theorem toldLimit_any (num : Int) (slot : Bool) (w : World) : Calls Tryz.prog 223 #[.agg #[.int .i64 num, .bool slot]] w (Told w ⟨6, ⟨#[]⟩, 0, 0, num, slot, []⟩) := by
  go_enter Tryz.func223, Tryz.ntmps223
  go_wp2
  exact bodyPost_ret (v := .agg #[.int .i64 6, .string ⟨#[]⟩, .int .i64 0, .int .i64 0, .int .i64 num, .bool slot, .slice none 0 0]) (by simp [results, Tryz.results223, go_sem]) rfl ⟨none, 0, rfl, .inl rfl, ((Below.refl _ _).alloc (Nat.le_refl _) _).alloc (by simp) _⟩
theorem toldBoth_any (w : World) : Calls Tryz.prog 217 #[.agg #[]] w (Told w ⟨4, ⟨#[]⟩, 0, 0, 0, false, []⟩) := by
  go_enter Tryz.func217, Tryz.ntmps217
  go_wp2
  exact bodyPost_ret (v := .agg #[.int .i64 4, .string ⟨#[]⟩, .int .i64 0, .int .i64 0, .int .i64 0, .bool false, .slice none 0 0]) (by simp [results, Tryz.results217, go_sem]) rfl ⟨none, 0, rfl, .inl rfl, by first | exact ((Below.refl _ _).alloc (Nat.le_refl _) _).alloc (by simp) _ | exact (Below.refl _ _).alloc (Nat.le_refl _) _⟩
theorem toldOnce_any (w : World) : Calls Tryz.prog 225 #[.agg #[]] w (Told w ⟨7, ⟨#[]⟩, 0, 0, 0, false, []⟩) := by
  go_enter Tryz.func225, Tryz.ntmps225
  go_wp2
  exact bodyPost_ret (v := .agg #[.int .i64 7, .string ⟨#[]⟩, .int .i64 0, .int .i64 0, .int .i64 0, .bool false, .slice none 0 0]) (by simp [results, Tryz.results225, go_sem]) rfl ⟨none, 0, rfl, .inl rfl, by first | exact ((Below.refl _ _).alloc (Nat.le_refl _) _).alloc (by simp) _ | exact (Below.refl _ _).alloc (Nat.le_refl _) _⟩
theorem toldKeep_any (a : Option Addr) (c : Nat) (l : List Int) (w : World) (h : Rd w .i64 a l) (hn : l.length ≤ 17592186044416) :
    Calls Tryz.prog 212 #[.agg #[.slice a l.length c]] w (Told w ⟨2, ⟨#[]⟩, 0, 0, 0, false, l⟩) := by
  have H := Lib.hid h; clear h
  go_enter Tryz.func212, Tryz.ntmps212
  go_wp2_with fail
  refine (libClone_any a c l _ (H.out.below (((Below.refl _ w).alloc (Nat.le_refl _) _).alloc (by simp) _)) hn).mono ?_
  rintro e w1 ⟨a1, c1, rfl, o1, b1⟩
  obtain ⟨hc, hf⟩ := bcell b1
  have hz : w.heap.size + 1 < w1.heap.size := by have := b1.size; simp at this; omega
  have O1 := Lib.hid o1
  have B1 := Lib.hid b1
  clear o1 b1
  go_wp2
  have hne : ∀ x, a1 = some x → w.heap.size + 1 < x.block := by intro x hx; have := (O1.out.lt x hx).1; simp at this; omega
  refine bodyPost_ret (v := .agg #[.int .i64 2, .string ⟨#[]⟩, .int .i64 0, .int .i64 0, .int .i64 0, .bool false, .slice a1 l.length c1]) (by simp [results, Tryz.results212, go_sem, hc]) rfl ⟨a1, c1, rfl, ?_, ?_⟩
  · refine Own.rd (base := w.heap.size + 1) (e := 3) (c := c1) ?_
    repeat (refine Own.far ?_ (fun x hx => by have := hne x hx; simp; omega) _)
    exact O1.out.base_le (by simp)
  · repeat (refine Below.setCell ?_ (by simp; try omega) _)
    exact (((Below.refl _ w).alloc (Nat.le_refl _) _).alloc (by simp) _).trans (B1.out.mono (by simp; omega))
set_option maxHeartbeats 800000 in
theorem sameNode_any (n m : Nd) (a b : Option Addr) (c d : Nat) (w : World) (h : Rd w .i64 a n.cols) (k : Rd w .i64 b m.cols) (hn : n.cols.length ≤ maxLen) (hm : m.cols.length ≤ maxLen) :
    Calls Tryz.prog 153 #[.agg #[.int .i64 n.kind, .string n.name, .int .i64 n.col, .int .i64 n.op, .int .i64 n.num, .bool n.slot, .slice a n.cols.length c], .agg #[.int .i64 m.kind, .string m.name, .int .i64 m.col, .int .i64 m.op, .int .i64 m.num, .bool m.slot, .slice b m.cols.length d]] w fun e w' => e = .returned (.bool (eqN n m)) ∧ Below w.heap.size w w' := by
  have H := Lib.hid h; clear h
  have K := Lib.hid k; clear k
  go_enter Tryz.func153, Tryz.ntmps153
  go_wp2_with fail
  all_goals try (go_ret; exact ⟨ret_bool (by simp_all [eqN]), ((Below.refl _ _).alloc (Nat.le_refl _) _).alloc (by simp) _⟩)
  have E : Hid (eqN n m = eqL n.cols m.cols) := by
    show eqN n m = eqL n.cols m.cols
    simp_all [eqN]
  refine (libEqual_any a b c d n.cols m.cols _ (H.out.below (((Below.refl _ w).alloc (Nat.le_refl _) _).alloc (by simp) _)) (K.out.below (((Below.refl _ w).alloc (Nat.le_refl _) _).alloc (by simp) _)) hn hm).mono ?_
  rintro e w1 ⟨rfl, b1⟩
  go_wp2
  go_ret
  exact ⟨ret_bool E.out.symm, (((Below.refl _ w).alloc (Nat.le_refl _) _).alloc (by simp) _).trans (b1.mono (by simp; omega))⟩
def mName (d : Option TypeDesc) (i : Nat) : String :=
  match d with
  | some (.interface ms) => (ms.getD i default).1
  | _ => default
theorem Tryz.fits_scanNode (v : Value) (W : World) : (method 329 164 v (mName (Tryz.prog.underlying 121) 0)).run Tryz.prog W = .ok (220, v) W := by kernel_rfl
theorem Tryz.told_scanNode (v : Value) (W : World) : (method 329 164 v (mName (Tryz.prog.underlying 121) 1)).run Tryz.prog W = .ok (221, v) W := by kernel_rfl
theorem Tryz.fits_filterNode (v : Value) (W : World) : (method 329 153 v (mName (Tryz.prog.underlying 121) 0)).run Tryz.prog W = .ok (207, v) W := by kernel_rfl
theorem Tryz.told_filterNode (v : Value) (W : World) : (method 329 153 v (mName (Tryz.prog.underlying 121) 1)).run Tryz.prog W = .ok (208, v) W := by kernel_rfl
theorem Tryz.fits_keepNode (v : Value) (W : World) : (method 329 156 v (mName (Tryz.prog.underlying 121) 0)).run Tryz.prog W = .ok (211, v) W := by kernel_rfl
theorem Tryz.told_keepNode (v : Value) (W : World) : (method 329 156 v (mName (Tryz.prog.underlying 121) 1)).run Tryz.prog W = .ok (212, v) W := by kernel_rfl
theorem Tryz.fits_joinNode (v : Value) (W : World) : (method 329 158 v (mName (Tryz.prog.underlying 121) 0)).run Tryz.prog W = .ok (214, v) W := by kernel_rfl
theorem Tryz.told_joinNode (v : Value) (W : World) : (method 329 158 v (mName (Tryz.prog.underlying 121) 1)).run Tryz.prog W = .ok (215, v) W := by kernel_rfl
theorem Tryz.fits_bothNode (v : Value) (W : World) : (method 329 160 v (mName (Tryz.prog.underlying 121) 0)).run Tryz.prog W = .ok (216, v) W := by kernel_rfl
theorem Tryz.told_bothNode (v : Value) (W : World) : (method 329 160 v (mName (Tryz.prog.underlying 121) 1)).run Tryz.prog W = .ok (217, v) W := by kernel_rfl
theorem Tryz.fits_sortNode (v : Value) (W : World) : (method 329 162 v (mName (Tryz.prog.underlying 121) 0)).run Tryz.prog W = .ok (218, v) W := by kernel_rfl
theorem Tryz.told_sortNode (v : Value) (W : World) : (method 329 162 v (mName (Tryz.prog.underlying 121) 1)).run Tryz.prog W = .ok (219, v) W := by kernel_rfl
theorem Tryz.fits_limitNode (v : Value) (W : World) : (method 329 178 v (mName (Tryz.prog.underlying 121) 0)).run Tryz.prog W = .ok (222, v) W := by kernel_rfl
theorem Tryz.told_limitNode (v : Value) (W : World) : (method 329 178 v (mName (Tryz.prog.underlying 121) 1)).run Tryz.prog W = .ok (223, v) W := by kernel_rfl
theorem Tryz.fits_onceNode (v : Value) (W : World) : (method 329 180 v (mName (Tryz.prog.underlying 121) 0)).run Tryz.prog W = .ok (224, v) W := by kernel_rfl
theorem Tryz.told_onceNode (v : Value) (W : World) : (method 329 180 v (mName (Tryz.prog.underlying 121) 1)).run Tryz.prog W = .ok (225, v) W := by kernel_rfl
theorem nodeB_0 (name : ByteArray) (col op num : Int) (slot : Bool) (cols : List Int) :
    nodeB ⟨0, name, col, op, num, slot, cols⟩ = ((wordB name.data.toList) && eqN ⟨0, name, 0, 0, 0, false, []⟩ ⟨0, name, col, op, num, slot, cols⟩) := by
  rw [Bool.eq_iff_iff]
  simp [nodeB, eqN, eqL, fitF, fitK, fitL, colB, slotB, numI, ByteArray.toList_eq, and_assoc]
  try grind
theorem nodeB_1 (name : ByteArray) (col op num : Int) (slot : Bool) (cols : List Int) :
    nodeB ⟨1, name, col, op, num, slot, cols⟩ = ((fitF col op num slot) && eqN ⟨1, ⟨#[]⟩, col, op, num, slot, []⟩ ⟨1, name, col, op, num, slot, cols⟩) := by
  rw [Bool.eq_iff_iff]
  simp [nodeB, eqN, eqL, fitF, fitK, fitL, colB, slotB, numI, ByteArray.toList_eq, and_assoc]
  try grind
theorem nodeB_2 (name : ByteArray) (col op num : Int) (slot : Bool) (cols : List Int) :
    nodeB ⟨2, name, col, op, num, slot, cols⟩ = ((fitK cols) && eqN ⟨2, ⟨#[]⟩, 0, 0, 0, false, cols⟩ ⟨2, name, col, op, num, slot, cols⟩) := by
  rw [Bool.eq_iff_iff]
  simp [nodeB, eqN, eqL, fitF, fitK, fitL, colB, slotB, numI, ByteArray.toList_eq, and_assoc]
  try grind
theorem nodeB_3 (name : ByteArray) (col op num : Int) (slot : Bool) (cols : List Int) :
    nodeB ⟨3, name, col, op, num, slot, cols⟩ = ((colB col && colB num) && eqN ⟨3, ⟨#[]⟩, col, 0, num, false, []⟩ ⟨3, name, col, op, num, slot, cols⟩) := by
  rw [Bool.eq_iff_iff]
  simp [nodeB, eqN, eqL, fitF, fitK, fitL, colB, slotB, numI, ByteArray.toList_eq, and_assoc]
  try grind
theorem nodeB_4 (name : ByteArray) (col op num : Int) (slot : Bool) (cols : List Int) :
    nodeB ⟨4, name, col, op, num, slot, cols⟩ = ((true) && eqN ⟨4, ⟨#[]⟩, 0, 0, 0, false, []⟩ ⟨4, name, col, op, num, slot, cols⟩) := by
  rw [Bool.eq_iff_iff]
  simp [nodeB, eqN, eqL, fitF, fitK, fitL, colB, slotB, numI, ByteArray.toList_eq, and_assoc]
  try grind
theorem nodeB_5 (name : ByteArray) (col op num : Int) (slot : Bool) (cols : List Int) :
    nodeB ⟨5, name, col, op, num, slot, cols⟩ = ((colB col) && eqN ⟨5, ⟨#[]⟩, col, 0, 0, false, []⟩ ⟨5, name, col, op, num, slot, cols⟩) := by
  rw [Bool.eq_iff_iff]
  simp [nodeB, eqN, eqL, fitF, fitK, fitL, colB, slotB, numI, ByteArray.toList_eq, and_assoc]
  try grind
theorem nodeB_6 (name : ByteArray) (col op num : Int) (slot : Bool) (cols : List Int) :
    nodeB ⟨6, name, col, op, num, slot, cols⟩ = ((fitL num slot) && eqN ⟨6, ⟨#[]⟩, 0, 0, num, slot, []⟩ ⟨6, name, col, op, num, slot, cols⟩) := by
  rw [Bool.eq_iff_iff]
  simp [nodeB, eqN, eqL, fitF, fitK, fitL, colB, slotB, numI, ByteArray.toList_eq, and_assoc]
  try grind
theorem nodeB_7 (name : ByteArray) (col op num : Int) (slot : Bool) (cols : List Int) :
    nodeB ⟨7, name, col, op, num, slot, cols⟩ = ((true) && eqN ⟨7, ⟨#[]⟩, 0, 0, 0, false, []⟩ ⟨7, name, col, op, num, slot, cols⟩) := by
  rw [Bool.eq_iff_iff]
  simp [nodeB, eqN, eqL, fitF, fitK, fitL, colB, slotB, numI, ByteArray.toList_eq, and_assoc]
  try grind
end Go.Proofs.YtanfllednlpbaaaGreat
