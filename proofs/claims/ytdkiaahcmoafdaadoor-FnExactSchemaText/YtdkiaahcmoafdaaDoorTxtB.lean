/-
  Contract of spec.SchemaText. For every slice of tables.
-/
import Derived.Test.YtdkiaahcmoafdaaDoorTxtA
import Derived.Lib.Join
import Derived.Deep.RegionWith
namespace Go.Proofs.YtdkiaahcmoafdaaDoor
open Go.RowKit
set_option linter.unusedSimpArgs false
set_option linter.unusedVariables false

/-- A table as a text. -/
def tbT (t : Tb) : List UInt8 := t.name.data.toList ++ [47] ++ [UInt8.ofNat (48 + t.width.toNat)]
/-- Texts with a blank between them. -/
def jn : List (List UInt8) → List UInt8
  | [] => []
  | [x] => x
  | x :: y :: r => x ++ [32] ++ jn (y :: r)
theorem jn_join : ∀ l : List (List UInt8), Lib.join l [32] = jn l
  | [] => rfl
  | [x] => by simp [Lib.join, jn, List.intercalate]
  | x :: y :: r => by
    have := jn_join (y :: r)
    simp only [Lib.join, List.intercalate, jn] at this ⊢
    rw [← this]
    simp [List.intersperse]
theorem jn_snoc : ∀ (l : List (List UInt8)) (x : List UInt8), jn (l ++ [x]) = if l = [] then x else jn l ++ [32] ++ x
  | [], x => by simp [jn]
  | [y], x => by simp [jn]
  | y :: z :: r, x => by
    have := jn_snoc (z :: r) x
    simp only [List.cons_append, jn] at this ⊢
    rw [this]
    simp
/-- A schema as a text. -/
def schT (l : List Tb) : List UInt8 := jn (l.map tbT)
theorem schT_take {l : List Tb} {j : Nat} {t : Tb} (h : l[j]? = some t) : schT (l.take (j + 1)) = if j = 0 then tbT t else schT (l.take j) ++ [32] ++ tbT t := by
  have hj : j < l.length := (List.getElem?_eq_some_iff.1 h).1
  have e : l[j] = t := by rw [List.getElem?_eq_getElem hj] at h; injection h
  unfold schT
  rw [List.take_succ_eq_append_getElem hj, e, List.map_append, List.map_cons, List.map_nil, jn_snoc]
  have hl : (l.take j).length = j := by simp; omega
  by_cases h0 : j = 0
  · subst h0; simp
  · rw [if_neg (by intro hh; have hz := congrArg List.length hh; rw [List.length_map, hl] at hz; exact h0 hz), if_neg h0]

theorem tbT_len {t : Tb} (h : tableB t = true) : (tbT t).length ≤ 14 ∧ t.name.size ≤ 12 := by
  unfold tableB at h
  rw [Bool.and_eq_true] at h
  have hw := h.1
  simp only [wordB, Tb.key, Bool.and_eq_true, decide_eq_true_eq] at hw
  have hs : t.name.data.toList.length = t.name.size := by rw [Array.length_toList]; rfl
  have : t.name.data.toList.length ≤ 12 := of_decide_eq_true hw.1.1.2
  rw [hs] at this
  refine ⟨?_, this⟩
  unfold tbT
  simp only [List.length_append, List.length_cons, List.length_nil, hs]
  omega
theorem jn_len : ∀ (l : List (List UInt8)), (∀ x ∈ l, x.length ≤ 14) → (jn l).length ≤ 15 * l.length
  | [], _ => by simp [jn]
  | [x], h => by have := h x (by simp); simp [jn]; omega
  | x :: y :: r, h => by
    have h1 := h x (by simp)
    have h2 := jn_len (y :: r) (fun z hz => h z (List.mem_cons_of_mem _ hz))
    simp only [jn, List.length_append, List.length_cons, List.length_nil] at h2 ⊢
    omega
theorem schT_len {l : List Tb} (h : ∀ t ∈ l, tableB t = true) : (schT l).length ≤ 15 * l.length := by
  have := jn_len (l.map tbT) (fun x hx => by
    obtain ⟨t, ht, rfl⟩ := List.mem_map.1 hx
    exact (tbT_len (h t ht)).1)
  rw [List.length_map] at this
  exact this
theorem digS_size (x : Int) : (digS x).size = 1 := rfl

def TxtRel (w : World) (l : List Tb) (wr : World) (s i : Value) : Prop :=
  ∃ (j : Nat) (X : ByteArray), j ≤ l.length ∧ i = .int .i64 j ∧ s = .string X ∧ X.data.toList = schT (l.take j) ∧ Below w.heap.size w wr

set_option maxRecDepth 100000 in
set_option maxHeartbeats 1600000 in
theorem specText_yes (ao : Option Addr) (c : Nat) (l : List Tb) (w : World) (h : RdT w ao l) (hs : schemaB l = true) :
    Calls Tryd.prog 5 #[.slice ao l.length c] w fun e w' => e = .returned (.string ⟨(schT l).toArray⟩) ∧ Below w.heap.size w w' := by
  have hl8 := (schemaB_iff.1 hs).1
  have HT := Lib.hid (schemaB_iff.1 hs).2.1
  have H := Lib.hid h; have HB := Lib.hid hs; clear h hs
  go_enter Tryd.func5, Tryd.ntmps5
  go_wp2_with fail
  refine (specSchema_any ao c l _ H.out (by omega)).mono ?_
  rintro e w1 ⟨rfl, b1⟩
  rw [HB.out]
  have P0 := Lib.hid (show TxtRel w l w1 (.string ⟨#[]⟩) (.int .i64 0) from ⟨0, _, Nat.zero_le _, rfl, rfl, rfl, b1⟩)
  clear b1
  go_wp2_with fail
  go_loopw [3, 4] (fun s i wr => TxtRel w l wr s i) (fun _ i _ => l.length - (intOf i).toNat)
  case atStart => exact P0.out
  case round =>
    clear P0
    obtain ⟨j, X, hj, rfl, rfl, hX, hb⟩ := hrel
    have HX := Lib.hid hX; have HBL := Lib.hid hb
    by_cases hlt : j < l.length
    · obtain ⟨b, off, t, rfl, ht, hat⟩ := (H.out.below hb).at_ hlt
      have htb := HT.out t (List.mem_of_getElem? ht)
      unfold tableB at htb
      rw [Bool.and_eq_true, decide_eq_true_eq] at htb
      obtain ⟨hw1, hw2⟩ := htb.2
      have ST := Lib.hid (schT_take ht); have TM := Lib.hid (List.mem_of_getElem? ht)
      obtain ⟨c0, c1, nm⟩ := hat
      have hbl : b < wr.heap.size := World.block_lt_of_cell? wr ⟨b, off + j * 2, none⟩ c0
      have hlt' : (j : Int) < (l.length : Int) := by omega
      clear hX hb htb ht
      have NA := Lib.hid (fun W => num_any t.width W hw1 hw2)
      have hxs : X.size ≤ 120 := by
        have h1 : X.data.toList.length = X.size := by rw [Array.length_toList]; rfl
        have h2 := schT_len (l := l.take j) (fun t ht => HT.out t (List.mem_of_mem_take ht))
        rw [← HX.out, h1] at h2
        have : (l.take j).length ≤ 8 := by simp; omega
        omega
      have hns := (tbT_len (HT.out t TM.out)).2
      have hds := digS_size t.width
      by_cases h0 : j = 0
      · have hz : (j : Int) ≤ 0 := by omega
        have e1 : ¬ (9223372036854775807 < X.size + t.name.size) := by omega
        have e2 : ¬ (9223372036854775807 < X.size + t.name.size + 1) := by omega
        have e3 : ¬ (9223372036854775807 < X.size + t.name.size + 1 + (digS t.width).size) := by omega
        have HD := Lib.hid hds
        have R := Lib.hid (show ∀ W, Below w.heap.size w W → TxtRel w l W (.string (X ++ t.name ++ ⟨#[47]⟩ ++ digS t.width)) (.int .i64 ((j : Int) + 1)) from fun W hW => ⟨j + 1, _, hlt, by simp, rfl, by
          rw [ST.out, if_pos h0]
          have hX0 := HX.out
          rw [h0] at hX0
          have hX1 : X.data.toList = [] := by rw [hX0]; rfl
          simp [ByteArray.data_append, hX1, tbT, digS], hW⟩)
        clear h0 hds
        go_wp2_with fail
        first | go_region_with (go_at_call 11; refine (NA.out _).mono ?_; rintro e w2 ⟨rfl, b2⟩; have B2 := Lib.hid (below_step HBL.out.drew (Nat.le_refl _) b2); have d0 := (b2.cell (p := ⟨b, off + j * 2, none⟩) hbl).trans c0; clear b2) | fail
        all_goals
          go_wp2_with fail
          go_roundw
          case rel => exact R.out _ B2.out
          case measure => simp [intOf]; omega
      · have hz : (0 : Int) < (j : Int) := by omega
        have e0 : ¬ (9223372036854775807 < X.size + 1) := by omega
        have e1 : ¬ (9223372036854775807 < X.size + 1 + t.name.size) := by omega
        have e2 : ¬ (9223372036854775807 < X.size + 1 + t.name.size + 1) := by omega
        have e3 : ¬ (9223372036854775807 < X.size + 1 + t.name.size + 1 + (digS t.width).size) := by omega
        have HD := Lib.hid hds
        have R := Lib.hid (show ∀ W, Below w.heap.size w W → TxtRel w l W (.string (X ++ ⟨#[32]⟩ ++ t.name ++ ⟨#[47]⟩ ++ digS t.width)) (.int .i64 ((j : Int) + 1)) from fun W hW => ⟨j + 1, _, hlt, by simp, rfl, by
          rw [ST.out, if_neg h0]
          simp [ByteArray.data_append, HX.out, tbT, digS], hW⟩)
        clear h0 hds
        go_wp2_with fail
        first | go_region_with (go_at_call 11; refine (NA.out _).mono ?_; rintro e w2 ⟨rfl, b2⟩; have B2 := Lib.hid (below_step HBL.out.drew (Nat.le_refl _) b2); have d0 := (b2.cell (p := ⟨b, off + j * 2, none⟩) hbl).trans c0; clear b2) | fail
        all_goals
          go_wp2_with fail
          go_roundw
          case rel => exact R.out _ B2.out
          case measure => simp [intOf]; omega
    · obtain rfl : j = l.length := by omega
      have E := Lib.hid (show X = ⟨(schT l).toArray⟩ by
        have h1 := HX.out
        rw [List.take_length] at h1
        apply ByteArray.ext
        rw [← h1])
      clear hX hb
      go_wp2_with fail
      go_ret
      rw [E.out]
      exact ⟨rfl, HBL.out⟩

/-- What SchemaText answers. -/
def txtO (l : List Tb) : ByteArray := if schemaB l = true then ⟨(schT l).toArray⟩ else ⟨#[]⟩
set_option maxHeartbeats 1000000 in
theorem specText_any (ao : Option Addr) (c : Nat) (l : List Tb) (w : World) (h : RdT w ao l) (hl : l.length ≤ 1048576) :
    Calls Tryd.prog 5 #[.slice ao l.length c] w fun e w' => e = .returned (.string (txtO l)) ∧ Below w.heap.size w w' := by
  cases hs : schemaB l with
  | true => unfold txtO; rw [if_pos hs]; exact specText_yes ao c l w h hs
  | false =>
    have E := Lib.hid (show txtO l = ⟨#[]⟩ by unfold txtO; rw [if_neg (by rw [hs]; simp)])
    have H := Lib.hid h; have HB := Lib.hid hs; clear h hs
    go_enter Tryd.func5, Tryd.ntmps5
    go_wp2_with fail
    refine (specSchema_any ao c l _ H.out (by omega)).mono ?_
    rintro e w1 ⟨rfl, b1⟩
    rw [HB.out]
    have B1 := Lib.hid b1; clear b1
    go_wp2_with fail
    go_ret
    rw [E.out]
    exact ⟨rfl, B1.out⟩
end Go.Proofs.YtdkiaahcmoafdaaDoor
