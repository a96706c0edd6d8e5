/-
  Contracts of l03Find and of FindTable, of the model and of the program. For every slice of tables and every text.
-/
import Derived.Test.YtdkiaahcmoafdaaITold
import Derived.Test.YtdkiaahcmoafdaaSSch
namespace Go.Proofs.Ytdkiaahcmoafdaa
open Go.RowKit Go.Maps
set_option linter.unusedSimpArgs false
set_option linter.unusedVariables false

/-- What l03Find finds. -/
def FoundAt (l : List Tb) (x : ByteArray) (r : Int) : Prop := (r = -1 ∧ ∀ t ∈ l, t.key ≠ x.data.toList) ∨ ∃ (i : Nat) (t : Tb), r = i ∧ l[i]? = some t ∧ t.name = x
theorem name_eq {x y : ByteArray} (h : x.toList = y.toList) : x = y := by
  rw [ByteArray.toList_eq, ByteArray.toList_eq] at h
  apply ByteArray.ext; exact Array.toList_inj.1 h

set_option maxRecDepth 100000 in
set_option maxHeartbeats 1600000 in
theorem l03Find_any (ao : Option Addr) (c : Nat) (l : List Tb) (x : ByteArray) (w : World) (h : RdT w ao l) (hl : l.length ≤ 1048576) :
    Calls Try.prog 85 #[.slice ao l.length c, .string x] w fun e w' => w = w' ∧ ∃ r : Int, e = .returned (.int .i64 r) ∧ FoundAt l x r := by
  have H := Lib.hid h; clear h
  go_enter Try.func85, Try.ntmps85
  go_wp2_with fail
  go_loop [5] (fun i => ∃ j : Nat, j ≤ l.length ∧ i = .int .i64 j ∧ ∀ t ∈ l.take j, t.key ≠ x.data.toList) (fun i => l.length - (intOf i).toNat)
  case atStart => exact ⟨0, Nat.zero_le _, rfl, fun t h => by cases h⟩
  case round =>
    obtain ⟨j, hj, rfl, ht⟩ := hrel
    have TA := Lib.hid ht; clear ht
    by_cases hlt : j < l.length
    · obtain ⟨b, off, t, rfl, hn, hat⟩ := H.out.at_ hlt
      have HN := Lib.hid hn; clear hn
      obtain ⟨c0, c1, nm⟩ := hat
      cases hb : (t.name.toList == x.toList) with
      | true =>
        have E := Lib.hid (show FoundAt l x (j : Int) from .inr ⟨j, t, rfl, HN.out, name_eq (by simpa using hb)⟩)
        go_wp2
        go_ret
        exact ⟨rfl, _, rfl, E.out⟩
      | false =>
        have E := Lib.hid (show ∀ s ∈ l.take (j + 1), s.key ≠ x.data.toList by
          intro s hs
          rw [List.take_add_one, HN.out] at hs
          rcases List.mem_append.1 hs with h1 | h1
          · exact TA.out s h1
          · simp at h1; subst h1
            intro e
            have : s.name.toList = x.toList := by rw [ByteArray.toList_eq, ByteArray.toList_eq]; exact e
            rw [this] at hb; simp at hb)
        go_wp2
        go_round
        case rel => exact ⟨j + 1, by omega, by go_num, E.out⟩
        case measure => simp [intOf]; omega
    · obtain rfl : j = l.length := by omega
      have E := Lib.hid (show FoundAt l x (-1) from .inl ⟨rfl, by have := TA.out; rwa [List.take_length] at this⟩)
      go_wp2
      go_ret
      exact ⟨rfl, _, rfl, E.out⟩

/-- What FindTable finds. -/
def findT (l : List Tb) (x : ByteArray) : Option Int := if schemaB l = true then fnOf l x.data.toList else none
def fdT (l : List Tb) (x : ByteArray) : Tb := match findT l x with | some v => ⟨x, v⟩ | none => ⟨⟨#[]⟩, 0⟩
def fdB (l : List Tb) (x : ByteArray) : Bool := (findT l x).isSome
theorem findT_no {l : List Tb} (h : schemaB l = false) (x : ByteArray) : findT l x = none := by unfold findT; rw [if_neg (by rw [h]; simp)]
theorem findT_none {l : List Tb} {x : ByteArray} (hs : schemaB l = true) (h : ∀ t ∈ l, t.key ≠ x.data.toList) : findT l x = none := by
  unfold findT; rw [if_pos hs]
  cases hv : fnOf l x.data.toList with
  | none => rfl
  | some v =>
    obtain ⟨t, ht, h1, _⟩ := ((told_self l (schemaB_iff.1 hs).2.2).2 _ _).1 hv
    exact absurd h1 (h t ht)
theorem findT_some {l : List Tb} {x : ByteArray} {i : Nat} {t : Tb} (hs : schemaB l = true) (h : l[i]? = some t) (hx : t.name = x) : findT l x = some t.width := by
  unfold findT; rw [if_pos hs]
  exact ((told_self l (schemaB_iff.1 hs).2.2).2 _ _).2 ⟨t, List.mem_of_getElem? h, by unfold Tb.key; rw [hx], rfl⟩
/-- Both answer so. -/
def FindPostT (w : World) (l : List Tb) (x : ByteArray) (e : Ending) (w' : World) : Prop :=
  e = .returned (.tuple #[.agg #[.string (fdT l x).name, .int .i64 (fdT l x).width], .bool (fdB l x)]) ∧ Below w.heap.size w w'
theorem fdNone {w w' : World} {l : List Tb} {x : ByteArray} {e : Ending} (h : findT l x = none) (he : e = .returned (.tuple #[.agg #[.string ⟨#[]⟩, .int .i64 0], .bool false])) (hb : Below w.heap.size w w') : FindPostT w l x e w' := by
  refine ⟨?_, hb⟩
  rw [he]; unfold fdT fdB; rw [h]; rfl
theorem fdSome {w w' : World} {l : List Tb} {x : ByteArray} {v : Int} {e : Ending} (h : findT l x = some v) (he : e = .returned (.tuple #[.agg #[.string x, .int .i64 v], .bool true])) (hb : Below w.heap.size w w') : FindPostT w l x e w' := by
  refine ⟨?_, hb⟩
  rw [he]; unfold fdT fdB; rw [h]; rfl

set_option maxRecDepth 100000 in
set_option maxHeartbeats 1600000 in
theorem specFind_any (ao : Option Addr) (c : Nat) (l : List Tb) (x : ByteArray) (w : World) (h : RdT w ao l) (hl : l.length ≤ 1048576) :
    Calls Try.prog 44 #[.slice ao l.length c, .string x] w (FindPostT w l x) := by
  have H := Lib.hid h; clear h
  have A0 := Lib.hid (fun o => (Below.refl w.heap.size w).alloc (Nat.le_refl _) o)
  cases hs : schemaB l with
  | false =>
    have HS := Lib.hid hs
    have E := Lib.hid (findT_no hs x)
    clear hs
    go_enter Try.func44, Try.ntmps44
    go_wp2_with fail
    refine (l03Find_any ao c l x _ (H.out.below (A0.out _)) hl).mono ?_
    rintro e w' ⟨rfl, r, rfl, hr⟩
    clear hr
    go_wp2_with fail
    refine (specSchema_any ao c l _ (H.out.below (A0.out _)) (by omega)).mono ?_
    rintro e w1 ⟨rfl, b1⟩
    rw [HS.out]
    obtain ⟨hc, hf⟩ := bcell b1
    have hz : w.heap.size < w1.heap.size := by have := b1.size; simp at this; omega
    have B1 := Lib.hid ((A0.out _).trans (b1.mono (by simp)))
    clear b1
    go_wp2
    refine bodyPost_ret (v := .tuple #[.agg #[.string ⟨#[]⟩, .int .i64 0], .bool false]) (by simp [results, Try.results44, go_sem, hc]) rfl (fdNone E.out rfl ?_)
    repeat (refine Below.setCell ?_ (by simp; try omega) _)
    exact B1.out
  | true =>
    have HS := Lib.hid hs; clear hs
    go_enter Try.func44, Try.ntmps44
    go_wp2_with fail
    refine (l03Find_any ao c l x _ (H.out.below (A0.out _)) hl).mono ?_
    rintro e w' ⟨rfl, r, rfl, hr⟩
    rcases hr with ⟨rfl, hno⟩ | ⟨i, t, rfl, hi, hx⟩
    · have E := Lib.hid (findT_none HS.out hno)
      clear hno
      go_wp2_with fail
      refine (specSchema_any ao c l _ (H.out.below (A0.out _)) (by omega)).mono ?_
      rintro e w1 ⟨rfl, b1⟩
      rw [HS.out]
      obtain ⟨hc, hf⟩ := bcell b1
      have hz : w.heap.size < w1.heap.size := by have := b1.size; simp at this; omega
      have B1 := Lib.hid ((A0.out _).trans (b1.mono (by simp)))
      clear b1
      go_wp2
      refine bodyPost_ret (v := .tuple #[.agg #[.string ⟨#[]⟩, .int .i64 0], .bool false]) (by simp [results, Try.results44, go_sem, hc]) rfl (fdNone E.out rfl ?_)
      repeat (refine Below.setCell ?_ (by simp; try omega) _)
      exact B1.out
    · have E := Lib.hid (findT_some HS.out hi hx)
      have hil : i < l.length := (List.getElem?_eq_some_iff.1 hi).1
      have HI := Lib.hid hi
      subst hx
      clear hi
      go_wp2_with fail
      refine (specSchema_any ao c l _ (H.out.below (A0.out _)) (by omega)).mono ?_
      rintro e w1 ⟨rfl, b1⟩
      rw [HS.out]
      obtain ⟨hc, hf⟩ := bcell b1
      have hz : w.heap.size < w1.heap.size := by have := b1.size; simp at this; omega
      have B1 := Lib.hid ((A0.out _).trans (b1.mono (by simp)))
      clear b1
      obtain ⟨b, off, t', rfl, hn, hat⟩ := (H.out.below B1.out).at_ hil
      rw [HI.out] at hn
      obtain rfl : t = t' := by injection hn
      obtain ⟨c0, c1, nm⟩ := hat
      clear hn
      go_wp2
      refine bodyPost_ret (v := .tuple #[.agg #[.string t.name, .int .i64 t.width], .bool true]) (by simp [results, Try.results44, go_sem, hc]) rfl (fdSome E.out rfl ?_)
      repeat (refine Below.setCell ?_ (by simp; try omega) _)
      exact B1.out

theorem Try.zeroInt (w : World) : (zeroValue 3).run Try.prog w = .ok (.int .i64 0) w := by kernel_rfl

set_option maxRecDepth 100000 in
set_option maxHeartbeats 1600000 in
theorem implFind_any (ao : Option Addr) (c : Nat) (l : List Tb) (x : ByteArray) (w : World) (h : RdT w ao l) (hl : l.length ≤ 1048576) (hx : x.size ≤ maxLen) :
    Calls Try.prog 45 #[.slice ao l.length c, .string x] w (FindPostT w l x) := by
  have H := Lib.hid h; clear h
  have A0 := Lib.hid (fun o => (Below.refl w.heap.size w).alloc (Nat.le_refl _) o)
  have WI := Lib.hid (fun W (hr : RdT W ao l) => widthsIn_any ao c l W hr hl)
  cases hs : schemaB l with
  | false =>
    have HS := Lib.hid hs
    have E := Lib.hid (findT_no hs x)
    clear hs
    go_enter Try.func45, Try.ntmps45
    go_wp2_with fail
    refine (WI.out _ (H.out.below (A0.out _))).mono ?_
    rintro e w1 ⟨b1, hp⟩
    rw [HS.out] at hp
    obtain ⟨m, rfl⟩ := hp
    obtain ⟨hc, hf⟩ := bcell b1
    have hz : w.heap.size < w1.heap.size := by have := b1.size; simp at this; omega
    have B1 := Lib.hid ((A0.out _).trans (b1.mono (by simp)))
    clear b1
    go_wp2
    refine bodyPost_ret (v := .tuple #[.agg #[.string ⟨#[]⟩, .int .i64 0], .bool false]) (by simp [results, Try.results45, go_sem, hc]) rfl (fdNone E.out rfl ?_)
    repeat (refine Below.setCell ?_ (by simp; try omega) _)
    exact B1.out
  | true =>
    have HS := Lib.hid hs
    have EF := Lib.hid (show findT l x = fnOf l x.data.toList from if_pos hs)
    clear hs
    go_enter Try.func45, Try.ntmps45
    go_wp2_with fail
    refine (WI.out _ (H.out.below (A0.out _))).mono ?_
    rintro e w1 ⟨b1, hp⟩
    rw [HS.out] at hp
    obtain ⟨bm, hbm, rfl, D, hown, hD⟩ := hp
    have HD := Lib.hid hD; clear hD
    obtain ⟨hc, hf⟩ := bcell b1
    have hz : w.heap.size < w1.heap.size := by have := b1.size; simp at this; omega
    have B1 := Lib.hid ((A0.out _).trans (b1.mono (by simp)))
    clear b1 hbm
    cases hv : fnOf l x.data.toList with
    | none =>
      have HH := Lib.hid (show has D (.string x.data.toList) = false by rw [(HD.out.2 _).1, hv]; rfl)
      have E := Lib.hid (EF.out.trans hv)
      clear hv
      go_wp2_with (first | (at_lookup; refine wpList_lookup_own_ok_int _ rfl _ _ 106 rfl 9 3 .i64 Try.keyed Try.underlying106 Try.underlying3 (Try.zeroInt _) bm 8 _ rfl hown _ _ rfl (WideMaps.keyOf_string_mk Try.underlying9 hx) ?_; intro v hat hwv; rw [HH.out]) | go_in)
      refine bodyPost_ret (v := .tuple #[.agg #[.string ⟨#[]⟩, .int .i64 0], .bool false]) (by simp [results, Try.results45, go_sem, hc]) rfl (fdNone E.out rfl ?_)
      repeat (refine Below.setCell ?_ (by simp; try omega) _)
      exact B1.out
    | some u =>
      have HH := Lib.hid (show has D (.string x.data.toList) = true by rw [(HD.out.2 _).1, hv]; rfl)
      have HA := Lib.hid ((HD.out.2 _).2 u hv (.lit (.int .i64 0)))
      have E := Lib.hid (EF.out.trans hv)
      clear hv
      go_wp2_with (first | (at_lookup; refine wpList_lookup_own_ok_int _ rfl _ _ 106 rfl 9 3 .i64 Try.keyed Try.underlying106 Try.underlying3 (Try.zeroInt _) bm 8 _ rfl hown _ _ rfl (WideMaps.keyOf_string_mk Try.underlying9 hx) ?_; intro v hat hwv; rw [HH.out]; rw [HA.out] at hat; obtain rfl : u = v := (by injection hat with hat; injection hat)) | go_in)
      refine bodyPost_ret (v := .tuple #[.agg #[.string x, .int .i64 u], .bool true]) (by simp [results, Try.results45, go_sem, hc]) rfl (fdSome E.out rfl ?_)
      repeat (refine Below.setCell ?_ (by simp; try omega) _)
      exact B1.out
end Go.Proofs.Ytdkiaahcmoafdaa
