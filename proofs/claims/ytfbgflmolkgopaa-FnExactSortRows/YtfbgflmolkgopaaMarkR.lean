/-
  Contracts of markIntSS and heldIntSS: they write marks into rows of the call's own and into nothing else, and find them there. For every such slice of rows.
-/
import Derived.Test.YtfbgflmolkgopaaHR
import Derived.Test.YtfbgflmolkgopaaMarkN
namespace Go.Proofs.Ytfbgflmolkgopaa
open Go.RowKit
set_option linter.unusedSimpArgs false
set_option linter.unusedVariables false

/-- Rows with their marks from k on. -/
def marksR : List (List Int) → Int → List (List Int)
  | [], _ => []
  | r :: l, k => marksL id k r.length :: marksR l (k + r.length)
theorem totR_nil : totR [] = 0 := rfl
theorem totR_cons (r : List Int) (l : List (List Int)) : totR (r :: l) = r.length + totR l := by simp [totR]
theorem totR_app (l m : List (List Int)) : totR (l ++ m) = totR l + totR m := by simp [totR]
theorem totR_take_le (l : List (List Int)) (j : Nat) : totR (l.take j) ≤ totR l := by
  have := totR_app (l.take j) (l.drop j)
  rw [List.take_append_drop] at this; omega
theorem marksR_len : ∀ (l : List (List Int)) (k : Int), (marksR l k).length = l.length
  | [], _ => rfl
  | n :: l, k => by simp [marksR, marksR_len l]
theorem marksR_app : ∀ (l m : List (List Int)) (k : Int), marksR (l ++ m) k = marksR l k ++ marksR m (k + totR l)
  | [], m, k => by simp [marksR, totR_nil]
  | n :: l, m, k => by
    simp only [List.cons_append, marksR]
    rw [marksR_app l m, totR_cons]
    rw [show k + (n.length : Int) + (totR l : Int) = k + ((n.length + totR l : Nat) : Int) by omega]
theorem marksR_at : ∀ (l : List (List Int)) (k : Int) (j : Nat) (r : List Int), l[j]? = some r → (marksR l k)[j]? = some (marksL id (k + totR (l.take j)) r.length)
  | [], _, j, n, h => by simp at h
  | m :: l, k, 0, n, h => by simp at h; subst h; simp [marksR, totR_nil]
  | m :: l, k, j + 1, n, h => by
    simp only [List.getElem?_cons_succ] at h
    simp only [marksR, List.getElem?_cons_succ, List.take_succ_cons]
    rw [marksR_at l _ j n h, totR_cons]
    rw [show k + (m.length : Int) + (totR (l.take j) : Int) = k + ((m.length + totR (l.take j) : Nat) : Int) by omega]
theorem marksR_tot : ∀ (l : List (List Int)) (k : Int), totR (marksR l k) = totR l
  | [], _ => rfl
  | r :: l, k => by simp only [marksR]; rw [totR_cons, totR_cons, marksL_len, marksR_tot l]
/-- The rows of which the first j are marked. -/
def mixR (l : List (List Int)) (j : Nat) (k : Int) : List (List Int) := marksR (l.take j) k ++ l.drop j
theorem mixR_len (l : List (List Int)) (j : Nat) (k : Int) : (mixR l j k).length = l.length := by simp [mixR, marksR_len]; omega
theorem mixR_at {l : List (List Int)} {j : Nat} {k : Int} {r : List Int} (h : l[j]? = some r) : (mixR l j k)[j]? = some r := by
  have hj := lt_of_get h
  unfold mixR
  rw [List.getElem?_append_right (by simp [marksR_len]; omega), marksR_len, List.length_take, Nat.min_eq_left (by omega), Nat.sub_self, List.getElem?_drop]; simpa using h
theorem mixR_step {l : List (List Int)} {j : Nat} {k : Int} {r : List Int} (h : l[j]? = some r) : (mixR l j k).set j (marksL id (k + totR (l.take j)) r.length) = mixR l (j + 1) k := by
  have hj := lt_of_get h
  have hn : l[j] = r := by rw [List.getElem?_eq_getElem hj] at h; injection h
  unfold mixR
  rw [List.set_append_right _ _ (by simp [marksR_len]; omega), marksR_len, List.length_take, Nat.min_eq_left (by omega), Nat.sub_self, List.drop_eq_getElem_cons hj, List.take_succ_eq_append_getElem hj, hn, marksR_app]
  simp [marksR]

/-- A slice of rows of the call's own, all of it below hi. -/
def OwnRH (w : World) (lo hi : Nat) (ao : Option Addr) (c : Nat) (l : List (List Int)) : Prop :=
  l = [] ∨ ∃ g xs A C, ao = some ⟨g, 0, none⟩ ∧ PartR w lo g c l.length l l.length xs A C ∧ g < hi ∧ ∀ (i : Nat) (x : Addr), i < l.length → A i = some x → x.block < hi

section
variable {w w' : World} {lo hi base c : Nat} {ao : Option Addr} {l : List (List Int)}
theorem OwnR.top (h : OwnR w base ao c l) : OwnRH w base w.heap.size ao c l := by
  rcases h with h | ⟨g, xs, A, C, he, hp⟩
  · exact .inl h
  · exact .inr ⟨g, xs, A, C, he, hp, (owns_block hp.own).2, fun i x hi hx => ((hp.cols i _ hi (List.getElem?_eq_getElem hi)).lt x hx).2⟩
theorem OwnRH.below (h : OwnRH w lo hi ao c l) (hb : Below w.heap.size w w') : OwnRH w' lo hi ao c l := by
  rcases h with h | ⟨g, xs, A, C, he, hp, h1, h2⟩
  · exact .inl h
  · exact .inr ⟨g, xs, A, C, he, hp.below hb, h1, h2⟩
theorem OwnRH.own (h : OwnRH w lo hi ao c l) : OwnR w lo ao c l := by
  rcases h with h | ⟨g, xs, A, C, he, hp, _⟩
  · exact .inl h
  · exact .inr ⟨g, xs, A, C, he, hp⟩
theorem OwnRH.rd (h : OwnRH w lo hi ao c l) : RdR w ao l := h.own.rd
theorem OwnRH.frame {lo' hi' : Nat} (h : OwnRH w lo hi ao c l) (hf : Frame lo' hi' w w') (hd : hi ≤ lo' ∨ hi' ≤ lo) : OwnRH w' lo hi ao c l := by
  rcases h with h | ⟨g, xs, A, C, he, hp, h1, h2⟩
  · exact .inl h
  · have hg := owns_block hp.own
    refine .inr ⟨g, xs, A, C, he, ⟨owns_keep hp.own (hf.block g hg.2 (by omega)), hp.cells, fun i n hi hn => ?_, hp.row, hp.apart⟩, h1, h2⟩
    have ho := hp.cols i n hi hn
    exact ho.keep fun x hx hlt => hf.block x.block hlt (by have := (ho.lt x hx).1; have := h2 i x hi hx; omega)
end

section
variable {w w' : World} {base g c m : Nat} {l : List (List Int)} {j : Nat} {xs : List Value} {A : Nat → Option Addr} {C : Nat → Nat}
/-- One row is written anew. -/
theorem PartR.marked (h : PartR w base g c m l j xs A C) {k : Nat} {n zs : List Int} (hk : k < j) (hn : l[k]? = some n) (hz : zs.length = n.length) (hg : w.grownBy w' ((A k).map (·.block))) (ho : Own w' base 3 .i64 (A k) (C k) zs) :
    PartR w' base g c m (l.set k zs) j xs A C := by
  have hkl := lt_of_get hn
  have hlen : (l.set k zs).length = l.length := by simp
  have hne : ∀ i, i ≠ k → ∀ x, A i = some x → i < j → i < l.length → some x.block ≠ (A k).map (·.block) := by
    intro i hik x hx hi hil
    cases hA : A k with
    | none => simp
    | some y => simp; exact h.apart i k x y hi hk hil hkl hik hx hA
  refine ⟨owns_keep h.own (hg.block g (owns_block h.own).2 ?_), ?_, ?_, ?_, ?_⟩
  · cases hA : A k with
    | none => simp
    | some y => simp; exact Ne.symm (h.row k y hk hkl hA)
  · intro i m' hi hm
    by_cases hik : i = k
    · subst hik
      rw [List.getElem?_set_self hkl] at hm; cases hm
      rw [h.cells i n hi hn, hz]
    · rw [List.getElem?_set_ne (by omega)] at hm
      exact h.cells i m' hi hm
  · intro i m' hi hm
    have hil : i < l.length := by have := lt_of_get hm; omega
    by_cases hik : i = k
    · subst hik
      rw [List.getElem?_set_self hil] at hm; cases hm
      exact ho
    · rw [List.getElem?_set_ne (by omega)] at hm
      exact (h.cols i m' hi hm).grown hg (fun x hx => hne i hik x hx hi hil)
  · intro i x hi hil hx'; exact h.row i x hi (by omega) hx'
  · intro i k' x y h1 h2 h3 h4; exact h.apart i k' x y h1 h2 (by omega) (by omega)
end

set_option maxRecDepth 100000 in
set_option maxHeartbeats 1600000 in
theorem markIntSS_any (lo hi : Nat) (ao : Option Addr) (c : Nat) (l : List (List Int)) (k : Int) (w : World) (h : OwnRH w lo hi ao c l) (hl : l.length ≤ 1048576) (h0 : 0 ≤ k) (hk : k + totR l ≤ 1000000000) :
    Calls Try.prog 25 #[.slice ao l.length c, .int .i64 k] w fun e w' => e = .returned (.int .i64 (k + totR l)) ∧ OwnRH w' lo hi ao c (marksR l k) ∧ Frame lo hi w w' := by
  rcases h with rfl | ⟨g, xs, A, C, rfl, hp, hgh, hA⟩
  · go_enter Try.func25, Try.ntmps25
    go_wp2_with fail
    refine wp_loop_rounds 1 ?_; rw [rounds_succ]; go_wp2_with fail
    go_ret
    exact ⟨ret_int (by simp [totR]), .inl rfl, Frame.refl _ _ _⟩
  · have hs : PartR w lo g c l.length (mixR l 0 k) l.length xs A C := by simpa [mixR, marksR] using hp
    have HA := Lib.hid hA; clear hA hp
    go_enter Try.func25, Try.ntmps25
    go_wp2_with fail
    go_loopw [1, 5] (fun q i wr => ∃ j : Nat, j ≤ l.length ∧ i = .int .i64 j ∧ q = .int .i64 (k + totR (l.take j)) ∧ PartR wr lo g c l.length (mixR l j k) l.length xs A C ∧ Frame lo hi w wr) (fun _ i _ => l.length - (intOf i).toNat)
    case atStart => exact ⟨0, Nat.zero_le _, rfl, by simp [totR], hs, Frame.refl _ _ _⟩
    case round =>
      clear hs
      obtain ⟨j, hj, rfl, rfl, hp, hf⟩ := hrel
      have m1 := totR_take_le l j
      by_cases hlt : j < l.length
      · have hn0 : l[j]? = some l[j] := List.getElem?_eq_getElem hlt
        generalize l[j] = r at hn0
        have hat := hp.at_ hlt hlt (mixR_at (k := k) hn0)
        have ho := hp.cols j r hlt (mixR_at (k := k) hn0)
        have HP := Lib.hid hp; have HF := Lib.hid hf; clear hp hf
        have MT := Lib.hid (totR_take hn0)
        have ST := Lib.hid (mixR_step (k := k) hn0)
        have AT := Lib.hid (mixR_at (k := k) hn0)
        have m2 : k + ((totR (l.take j) : Int) + r.length) ≤ 1000000000 := by have := totR_take_le l (j + 1); rw [MT.out] at this; omega
        have hblk : ∀ y, A j = some y → lo ≤ y.block ∧ y.block < hi := fun y hy => ⟨(ho.lt y hy).1, HA.out j y hlt hy⟩
        have HBK := Lib.hid hblk
        obtain ⟨c0, _, _, _⟩ := hat
        rw [Nat.zero_add] at c0
        have OJ := Lib.hid ho
        clear hn0 ho hblk
        generalize hkk : k + (totR (l.take j) : Int) = kk at ST ⊢
        have hk0 : 0 ≤ kk := by omega
        have hk1 : kk + r.length ≤ 4611686018427387904 := by omega
        have KK := Lib.hid hkk; clear hkk
        generalize hAj : A j = aj at c0 OJ HBK
        generalize hCj : C j = cj at c0 OJ
        have EA := Lib.hid hAj; have EC := Lib.hid hCj; clear hAj hCj
        go_wp2_with fail
        refine (markIntS_own lo aj cj r kk _ OJ.out hk0 hk1).mono ?_
        rintro e w1 ⟨rfl, o1, g1⟩
        have P1 := Lib.hid (HP.out.marked hlt AT.out (marksL_len id kk r.length) (by rw [EA.out]; exact g1) (by rw [EA.out, EC.out]; exact o1))
        have F1 := Lib.hid (HF.out.trans (Frame.of_grown g1 (fun y hy => by
          cases aj with
          | none => cases hy
          | some z => simp at hy; subst hy; exact HBK.out z rfl)))
        clear o1 g1
        go_wp2_with fail
        go_roundw
        case rel => exact ⟨j + 1, by omega, by go_num, by rw [MT.out]; have := KK.out; congr 1; omega, by rw [← ST.out]; exact P1.out, F1.out⟩
        case measure => simp [intOf]; omega
      · obtain rfl : j = l.length := by omega
        have HP := Lib.hid hp; have HF := Lib.hid hf; clear hp hf
        go_wp2_with fail
        go_ret
        have e1 : mixR l l.length k = marksR l k := by simp [mixR]
        refine ⟨ret_int (by simp), ?_, HF.out⟩
        have h1 := HP.out
        rw [e1] at h1
        refine .inr ⟨g, xs, A, C, rfl, by rw [marksR_len]; exact h1, hgh, fun i x hi hx => HA.out i x (by rw [marksR_len] at hi; exact hi) hx⟩

set_option maxRecDepth 100000 in
set_option maxHeartbeats 1600000 in
theorem heldIntSS_any (ao : Option Addr) (c : Nat) (l : List (List Int)) (k : Int) (w : World) (h : RdR w ao (marksR l k)) (hl : l.length ≤ 1048576) (h0 : 0 ≤ k) (hk : k + totR l ≤ 1000000000) :
    Calls Try.prog 26 #[.slice ao l.length c, .int .i64 k] w fun e w' => e = .returned (.int .i64 (k + totR l)) ∧ w = w' := by
  have H := Lib.hid h; clear h
  go_enter Try.func26, Try.ntmps26
  go_wp2_with fail
  go_loop [1, 5] (fun q i => ∃ j : Nat, j ≤ l.length ∧ i = .int .i64 j ∧ q = .int .i64 (k + totR (l.take j))) (fun _ i => l.length - (intOf i).toNat)
  case atStart => exact ⟨0, Nat.zero_le _, rfl, by simp [totR]⟩
  case round =>
    obtain ⟨j, hj, rfl, rfl⟩ := hrel
    have m1 := totR_take_le l j
    by_cases hlt : j < l.length
    · have hn0 : l[j]? = some l[j] := List.getElem?_eq_getElem hlt
      generalize l[j] = r at hn0
      obtain ⟨b, off, x, a, c', rfl, hx, ⟨c0, rd, _, _⟩⟩ := H.out.at_ (i := j) (by rw [marksR_len]; exact hlt)
      rw [marksR_at l k j r hn0] at hx
      cases hx
      have MT := Lib.hid (totR_take hn0)
      have m2 : k + ((totR (l.take j) : Int) + r.length) ≤ 1000000000 := by have := totR_take_le l (j + 1); rw [MT.out] at this; omega
      clear hn0
      generalize hkk : k + (totR (l.take j) : Int) = kk at c0 rd ⊢
      have hk0 : 0 ≤ kk := by omega
      have hk1 : kk + r.length ≤ 4611686018427387904 := by omega
      have KK := Lib.hid hkk
      rw [marksL_len] at c0
      have RD := Lib.hid rd; clear rd hkk
      go_wp2_with fail
      refine (heldIntS_any a c' r.length kk _ RD.out hk0 hk1).mono ?_
      rintro e w' ⟨rfl, rfl⟩
      go_wp2_with fail
      go_round
      case rel => exact ⟨j + 1, by omega, by go_num, by rw [MT.out]; have := KK.out; congr 1; omega⟩
      case measure => simp [intOf]; omega
    · obtain rfl : j = l.length := by omega
      go_wp2_with fail
      go_ret
      exact ⟨ret_int (by simp), rfl⟩
end Go.Proofs.Ytfbgflmolkgopaa
