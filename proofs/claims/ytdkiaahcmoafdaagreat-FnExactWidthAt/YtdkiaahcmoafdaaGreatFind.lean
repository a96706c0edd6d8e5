/-
  Contracts of l03Find and of FindTable, of the model and of the program. For every slice of tables and every text.
-/
import Derived.Test.YtdkiaahcmoafdaaGreatITold
import Derived.Test.YtdkiaahcmoafdaaGreatSSch
namespace Go.Proofs.YtdkiaahcmoafdaaGreat
open Go.RowKit Go.Maps
set_option linter.unusedSimpArgs false
set_option linter.unusedVariables false

/-- What l03Find finds. -/
def FoundAt (l : List Tb) (x : ByteArray) (r : Int) : Prop := (r = -1 ∧ ∀ t ∈ l, t.key ≠ x.data.toList) ∨ ∃ (i : Nat) (t : Tb), r = i ∧ l[i]? = some t ∧ t.name = x
theorem name_eq {x y : ByteArray} (h : x.toList = y.toList) : x = y := by
  rw [ByteArray.toList_eq, ByteArray.toList_eq] at h
  apply ByteArray.ext; exact Array.toList_inj.1 h

set_option maxRecDepth 100000 in
set_option maxHeartbeats 1600000 in
theorem l03Find_any (ao : Option Addr) (c : Nat) (l : List Tb) (x : ByteArray) (w : World) (h : RdT w ao l) (hl : l.length ≤ 1048576) :
    Calls Tryz.prog 29 #[.slice ao l.length c, .string x] w fun e w' => w = w' ∧ ∃ r : Int, e = .returned (.int .i64 r) ∧ FoundAt l x r := by
  have H := Lib.hid h; clear h
  go_enter Tryz.func29, Tryz.ntmps29
  go_wp2_with fail
  go_loop [5] (fun i => ∃ j : Nat, j ≤ l.length ∧ i = .int .i64 j ∧ ∀ t ∈ l.take j, t.key ≠ x.data.toList) (fun i => l.length - (intOf i).toNat)
  case atStart => exact ⟨0, Nat.zero_le _, rfl, fun t h => by cases h⟩
  case round =>
    obtain ⟨j, hj, rfl, ht⟩ := hrel
    have TA := Lib.hid ht; clear ht
    by_cases hlt : j < l.length
    · obtain ⟨b, off, t, rfl, hn, hat⟩ := H.out.at_ hlt
      have HN := Lib.hid hn; clear hn
      obtain ⟨c0, c1, nm⟩ := hat
      cases hb : (t.name.toList == x.toList) with
      | true =>
        have E := Lib.hid (show FoundAt l x (j : Int) from .inr ⟨j, t, rfl, HN.out, name_eq (by simpa using hb)⟩)
        go_wp2
        go_ret
        exact ⟨rfl, _, rfl, E.out⟩
      | false =>
        have E := Lib.hid (show ∀ s ∈ l.take (j + 1), s.key ≠ x.data.toList by
          intro s hs
          rw [List.take_add_one, HN.out] at hs
          rcases List.mem_append.1 hs with h1 | h1
          · exact TA.out s h1
          · simp at h1; subst h1
            intro e
            have : s.name.toList = x.toList := by rw [ByteArray.toList_eq, ByteArray.toList_eq]; exact e
            rw [this] at hb; simp at hb)
        go_wp2
        go_round
        case rel => exact ⟨j + 1, by omega, by go_num, E.out⟩
        case measure => simp [intOf]; omega
    · obtain rfl : j = l.length := by omega
      have E := Lib.hid (show FoundAt l x (-1) from .inl ⟨rfl, by have := TA.out; rwa [List.take_length] at this⟩)
      go_wp2
      go_ret
      exact ⟨rfl, _, rfl, E.out⟩

/-- What FindTable finds. -/
def findT (l : List Tb) (x : ByteArray) : Option Int := if schemaB l = true then fnOf l x.data.toList else none
def fdT (l : List Tb) (x : ByteArray) : Tb := match findT l x with | some v => ⟨x, v⟩ | none => ⟨⟨#[]⟩, 0⟩
def fdB (l : List Tb) (x : ByteArray) : Bool := (findT l x).isSome
theorem findT_no {l : List Tb} (h : schemaB l = false) (x : ByteArray) : findT l x = none := by unfold findT; rw [if_neg (by rw [h]; simp)]
theorem findT_none {l : List Tb} {x : ByteArray} (hs : schemaB l = true) (h : ∀ t ∈ l, t.key ≠ x.data.toList) : findT l x = none := by
  unfold findT; rw [if_pos hs]
  cases hv : fnOf l x.data.toList with
  | none => rfl
  | some v =>
    obtain ⟨t, ht, h1, _⟩ := ((told_self l (schemaB_iff.1 hs).2.2).2 _ _).1 hv
    exact absurd h1 (h t ht)
theorem findT_some {l : List Tb} {x : ByteArray} {i : Nat} {t : Tb} (hs : schemaB l = true) (h : l[i]? = some t) (hx : t.name = x) : findT l x = some t.width := by
  unfold findT; rw [if_pos hs]
  exact ((told_self l (schemaB_iff.1 hs).2.2).2 _ _).2 ⟨t, List.mem_of_getElem? h, by unfold Tb.key; rw [hx], rfl⟩
/-- Both answer so. -/
def FindPostT (w : World) (l : List Tb) (x : ByteArray) (e : Ending) (w' : World) : Prop :=
  e = .returned (.tuple #[.agg #[.string (fdT l x).name, .int .i64 (fdT l x).width], .bool (fdB l x)]) ∧ Below w.heap.size w w'
theorem fdNone {w w' : World} {l : List Tb} {x : ByteArray} {e : Ending} (h : findT l x = none) (he : e = .returned (.tuple #[.agg #[.string ⟨#[]⟩, .int .i64 0], .bool false])) (hb : Below w.heap.size w w') : FindPostT w l x e w' := by
  refine ⟨?_, hb⟩
  rw [he]; unfold fdT fdB; rw [h]; rfl
theorem fdSome {w w' : World} {l : List Tb} {x : ByteArray} {v : Int} {e : Ending} (h : findT l x = some v) (he : e = .returned (.tuple #[.agg #[.string x, .int .i64 v], .bool true])) (hb : Below w.heap.size w w') : FindPostT w l x e w' := by
  refine ⟨?_, hb⟩
  rw [he]; unfold fdT fdB; rw [h]; rfl

theorem Tryz.zeroInt (w : World) : (zeroValue 3).run Tryz.prog w = .ok (.int .i64 0) w := by kernel_rfl

end Go.Proofs.YtdkiaahcmoafdaaGreat
