/-
  Contract of markNodeS: it writes marks into a row of nodes of the call's own and into its columns, and into nothing else. For every such row. Some nodes in a row of the draw's own that may have been bent: words, and plain facts. No walk.
-/
import Derived.Test.YtfpbhedophlnkaaGreatDoorJW37x
import Derived.Test.YtfpbhedophlnkaaGreatDoorJW4x
import Derived.Test.YtfpbhedophlnkaaGreatDoorJW11x
namespace Go.Proofs.YtfpbhedophlnkaaGreatDoor
open Go.RowKit
set_option linter.unusedSimpArgs false
set_option linter.unusedVariables false

/-- A node with its marks from k on. -/
def mkNd (n : Nd) (k : Int) : Nd := ⟨k, mtext (k + 1), k + 1 + 1, k + 1 + 1 + 1, k + 1 + 1 + 1 + 1, (k + 1 + 1 + 1 + 1 + 1) % 3 == 0, marksL id (k + 1 + 1 + 1 + 1 + 1 + 1) n.cols.length⟩
def markL : List Nd → Int → List Nd
  | [], _ => []
  | n :: l, k => mkNd n k :: markL l (k + 6 + n.cols.length)
/-- How many marks a list of nodes takes. -/
def mlen (l : List Nd) : Int := (6 * l.length + (l.map fun n => n.cols.length).sum : Nat)
theorem mlen_nil : mlen [] = 0 := rfl
theorem mlen_cons (n : Nd) (l : List Nd) : mlen (n :: l) = 6 + n.cols.length + mlen l := by simp [mlen]; omega
theorem mlen_pos (l : List Nd) : 0 ≤ mlen l := by unfold mlen; omega
theorem mlen_app (l m : List Nd) : mlen (l ++ m) = mlen l + mlen m := by simp [mlen]; omega
theorem markL_len : ∀ (l : List Nd) (k : Int), (markL l k).length = l.length
  | [], _ => rfl
  | n :: l, k => by simp [markL, markL_len l]
theorem markL_app : ∀ (l m : List Nd) (k : Int), markL (l ++ m) k = markL l k ++ markL m (k + mlen l)
  | [], m, k => by simp [markL, mlen_nil]
  | n :: l, m, k => by
    simp only [List.cons_append, markL]
    rw [markL_app l m, mlen_cons]
    rw [show k + 6 + (n.cols.length : Int) + mlen l = k + (6 + (n.cols.length : Int) + mlen l) by omega]
/-- The list of which the first j are marked. -/
def mixL (l : List Nd) (j : Nat) (k : Int) : List Nd := markL (l.take j) k ++ l.drop j
theorem mixL_len (l : List Nd) (j : Nat) (k : Int) : (mixL l j k).length = l.length := by simp [mixL, markL_len]; omega
theorem mixL_at {l : List Nd} {j : Nat} {k : Int} {n : Nd} (h : l[j]? = some n) : (mixL l j k)[j]? = some n := by
  have hj : j < l.length := by
    rcases Nat.lt_or_ge j l.length with h1 | h1
    · exact h1
    · rw [List.getElem?_eq_none h1] at h; cases h
  unfold mixL
  rw [List.getElem?_append_right (by simp [markL_len]; omega), markL_len, List.length_take, Nat.min_eq_left (by omega), Nat.sub_self, List.getElem?_drop]; simpa using h
theorem mixL_step {l : List Nd} {j : Nat} {k : Int} {n : Nd} (h : l[j]? = some n) : (mixL l j k).set j (mkNd n (k + mlen (l.take j))) = mixL l (j + 1) k := by
  have hj : j < l.length := by
    rcases Nat.lt_or_ge j l.length with h1 | h1
    · exact h1
    · rw [List.getElem?_eq_none h1] at h; cases h
  have hn : l[j] = n := by rw [List.getElem?_eq_getElem hj] at h; injection h
  unfold mixL
  rw [List.set_append_right _ _ (by simp [markL_len]; omega), markL_len, List.length_take, Nat.min_eq_left (by omega), Nat.sub_self, List.drop_eq_getElem_cons hj, List.take_succ_eq_append_getElem hj, hn, markL_app]
  simp [markL]
theorem mlen_take {l : List Nd} {j : Nat} {n : Nd} (h : l[j]? = some n) : mlen (l.take (j + 1)) = mlen (l.take j) + 6 + n.cols.length := by
  have hj : j < l.length := by
    rcases Nat.lt_or_ge j l.length with h1 | h1
    · exact h1
    · rw [List.getElem?_eq_none h1] at h; cases h
  have hn : l[j] = n := by rw [List.getElem?_eq_getElem hj] at h; injection h
  rw [List.take_succ_eq_append_getElem hj, hn, mlen_app, mlen_cons, mlen_nil]; omega
theorem mlen_take_le (l : List Nd) (j : Nat) : mlen (l.take j) ≤ mlen l := by
  have := mlen_app (l.take j) (l.drop j)
  rw [List.take_append_drop] at this
  have := mlen_pos (l.drop j); omega

section
variable {w : World} {base g c m : Nat} {l : List Nd} {j : Nat} {xs : List Value} {A : Nat → Option Addr} {C : Nat → Nat}
theorem PartN.st0 (h : PartN w base g c m l j xs A C) {k : Nat} {n : Nd} (hk : k < j) (hn : l[k]? = some n) (hm : k < m) (v : Int) :
    PartN (w.setCell ⟨g, k * 7, none⟩ (.int .i64 v)) base g c m (l.set k { n with kind := v }) j (xs.set (k * 7) (.int .i64 v)) A C := by
  have hlen := h.own.1
  exact h.store (k := k) (t := 0) (n' := { n with kind := v }) (v := .int .i64 v) hk hn (by omega) rfl (h.name k n hk hn) (fun hc => ⟨by simp [List.getElem?_set]; omega, by rw [List.getElem?_set_ne (by omega)]; exact hc.c1, by rw [List.getElem?_set_ne (by omega)]; exact hc.c2, by rw [List.getElem?_set_ne (by omega)]; exact hc.c3, by rw [List.getElem?_set_ne (by omega)]; exact hc.c4, by rw [List.getElem?_set_ne (by omega)]; exact hc.c5, by rw [List.getElem?_set_ne (by omega)]; exact hc.c6⟩)
theorem PartN.st1 (h : PartN w base g c m l j xs A C) {k : Nat} {n : Nd} (hk : k < j) (hn : l[k]? = some n) (hm : k < m) (v : ByteArray) (hs : v.size ≤ maxLen) :
    PartN (w.setCell ⟨g, k * 7 + 1, none⟩ (.string v)) base g c m (l.set k { n with name := v }) j (xs.set (k * 7 + 1) (.string v)) A C := by
  have hlen := h.own.1
  exact h.store (k := k) (t := 1) (n' := { n with name := v }) (v := .string v) hk hn (by omega) rfl hs (fun hc => ⟨by rw [List.getElem?_set_ne (by omega)]; exact hc.c0, by simp [List.getElem?_set]; omega, by rw [List.getElem?_set_ne (by omega)]; exact hc.c2, by rw [List.getElem?_set_ne (by omega)]; exact hc.c3, by rw [List.getElem?_set_ne (by omega)]; exact hc.c4, by rw [List.getElem?_set_ne (by omega)]; exact hc.c5, by rw [List.getElem?_set_ne (by omega)]; exact hc.c6⟩)
theorem PartN.st2 (h : PartN w base g c m l j xs A C) {k : Nat} {n : Nd} (hk : k < j) (hn : l[k]? = some n) (hm : k < m) (v : Int) :
    PartN (w.setCell ⟨g, k * 7 + 2, none⟩ (.int .i64 v)) base g c m (l.set k { n with col := v }) j (xs.set (k * 7 + 2) (.int .i64 v)) A C := by
  have hlen := h.own.1
  exact h.store (k := k) (t := 2) (n' := { n with col := v }) (v := .int .i64 v) hk hn (by omega) rfl (h.name k n hk hn) (fun hc => ⟨by rw [List.getElem?_set_ne (by omega)]; exact hc.c0, by rw [List.getElem?_set_ne (by omega)]; exact hc.c1, by simp [List.getElem?_set]; omega, by rw [List.getElem?_set_ne (by omega)]; exact hc.c3, by rw [List.getElem?_set_ne (by omega)]; exact hc.c4, by rw [List.getElem?_set_ne (by omega)]; exact hc.c5, by rw [List.getElem?_set_ne (by omega)]; exact hc.c6⟩)
theorem PartN.st3 (h : PartN w base g c m l j xs A C) {k : Nat} {n : Nd} (hk : k < j) (hn : l[k]? = some n) (hm : k < m) (v : Int) :
    PartN (w.setCell ⟨g, k * 7 + 3, none⟩ (.int .i64 v)) base g c m (l.set k { n with op := v }) j (xs.set (k * 7 + 3) (.int .i64 v)) A C := by
  have hlen := h.own.1
  exact h.store (k := k) (t := 3) (n' := { n with op := v }) (v := .int .i64 v) hk hn (by omega) rfl (h.name k n hk hn) (fun hc => ⟨by rw [List.getElem?_set_ne (by omega)]; exact hc.c0, by rw [List.getElem?_set_ne (by omega)]; exact hc.c1, by rw [List.getElem?_set_ne (by omega)]; exact hc.c2, by simp [List.getElem?_set]; omega, by rw [List.getElem?_set_ne (by omega)]; exact hc.c4, by rw [List.getElem?_set_ne (by omega)]; exact hc.c5, by rw [List.getElem?_set_ne (by omega)]; exact hc.c6⟩)
theorem PartN.st4 (h : PartN w base g c m l j xs A C) {k : Nat} {n : Nd} (hk : k < j) (hn : l[k]? = some n) (hm : k < m) (v : Int) :
    PartN (w.setCell ⟨g, k * 7 + 4, none⟩ (.int .i64 v)) base g c m (l.set k { n with num := v }) j (xs.set (k * 7 + 4) (.int .i64 v)) A C := by
  have hlen := h.own.1
  exact h.store (k := k) (t := 4) (n' := { n with num := v }) (v := .int .i64 v) hk hn (by omega) rfl (h.name k n hk hn) (fun hc => ⟨by rw [List.getElem?_set_ne (by omega)]; exact hc.c0, by rw [List.getElem?_set_ne (by omega)]; exact hc.c1, by rw [List.getElem?_set_ne (by omega)]; exact hc.c2, by rw [List.getElem?_set_ne (by omega)]; exact hc.c3, by simp [List.getElem?_set]; omega, by rw [List.getElem?_set_ne (by omega)]; exact hc.c5, by rw [List.getElem?_set_ne (by omega)]; exact hc.c6⟩)
theorem PartN.st5 (h : PartN w base g c m l j xs A C) {k : Nat} {n : Nd} (hk : k < j) (hn : l[k]? = some n) (hm : k < m) (v : Bool) :
    PartN (w.setCell ⟨g, k * 7 + 5, none⟩ (.bool v)) base g c m (l.set k { n with slot := v }) j (xs.set (k * 7 + 5) (.bool v)) A C := by
  have hlen := h.own.1
  exact h.store (k := k) (t := 5) (n' := { n with slot := v }) (v := .bool v) hk hn (by omega) rfl (h.name k n hk hn) (fun hc => ⟨by rw [List.getElem?_set_ne (by omega)]; exact hc.c0, by rw [List.getElem?_set_ne (by omega)]; exact hc.c1, by rw [List.getElem?_set_ne (by omega)]; exact hc.c2, by rw [List.getElem?_set_ne (by omega)]; exact hc.c3, by rw [List.getElem?_set_ne (by omega)]; exact hc.c4, by simp [List.getElem?_set]; omega, by rw [List.getElem?_set_ne (by omega)]; exact hc.c6⟩)
end

/-- What markNodeS answers and leaves. -/
def MarkedN (w : World) (lo hi : Nat) (ao : Option Addr) (c : Nat) (l : List Nd) (k : Int) (e : Ending) (w' : World) : Prop :=
  e = .returned (.int .i64 (k + mlen l)) ∧ OwnH w' lo hi ao c (markL l k) ∧ Frame lo hi w w'

set_option maxRecDepth 100000 in
set_option maxHeartbeats 4000000 in
theorem markNodeS_any (lo hi : Nat) (ao : Option Addr) (c : Nat) (l : List Nd) (k : Int) (w : World) (h : OwnH w lo hi ao c l) (hl : l.length ≤ 1048576) (h0 : 0 ≤ k) (hk : k + mlen l ≤ 1000000000) :
    Calls Tryz.prog 63 #[.slice ao l.length c, .int .i64 k] w (MarkedN w lo hi ao c l k) := by
  rcases h with rfl | ⟨g, xs, A, C, rfl, hp, hg, hA⟩
  · go_enter Tryz.func63, Tryz.ntmps63
    go_wp2_with fail
    refine wp_loop_rounds 1 ?_; rw [rounds_succ]; go_wp2_with fail
    go_ret
    exact ⟨ret_int (by simp [mlen_nil]), .inl rfl, Frame.refl _ _ _⟩
  · have HA := Lib.hid hA; clear hA
    have hlo := (owns_block hp.own).1
    have P0 : Hid (∃ xs, PartN w lo g c l.length (mixL l 0 k) l.length xs A C) := by
      refine ⟨xs, ?_⟩
      have e : mixL l 0 k = l := by simp [mixL, markL]
      rw [e]; exact hp
    clear hp
    go_enter Tryz.func63, Tryz.ntmps63
    go_wp2_with fail
    go_loopw [1, 5] (fun q i wr => ∃ j : Nat, j ≤ l.length ∧ i = .int .i64 j ∧ q = .int .i64 (k + mlen (l.take j)) ∧ (∃ xs, PartN wr lo g c l.length (mixL l j k) l.length xs A C) ∧ Frame lo hi w wr) (fun _ i _ => l.length - (intOf i).toNat)
    case atStart => exact ⟨0, Nat.zero_le _, rfl, by simp [mlen_nil], P0.out, Frame.refl _ _ _⟩
    case round =>
      clear P0
      obtain ⟨j, hj, rfl, rfl, ⟨ys, hp⟩, hf⟩ := hrel
      have HF := Lib.hid hf; clear hf
      have m0 := mlen_pos (l.take j)
      have m1 := mlen_take_le l j
      by_cases hlt : j < l.length
      · have hn0 : l[j]? = some l[j] := List.getElem?_eq_getElem hlt
        generalize l[j] = n at hn0
        have hn := mixL_at (k := k) hn0
        have MT := Lib.hid (mlen_take hn0)
        have MS := Lib.hid (mixL_step (k := k) hn0)
        have m2 : k + (mlen (l.take j) + 6 + n.cols.length) ≤ 1000000000 := by have := mlen_take_le l (j + 1); rw [MT.out] at this; omega
        clear hn0
        generalize hkk : k + mlen (l.take j) = kk at MS ⊢
        have hk0 : 0 ≤ kk := by omega
        have hk1 : kk + 6 + n.cols.length ≤ 1000000000 := by omega
        have KK := Lib.hid hkk; clear hkk
        obtain ⟨y0, e0⟩ := hp.some_ (o := j * 7) (by omega)
        have hf0 := hp.frozen
        have HN := Lib.hid hn; clear hn
        have HP := Lib.hid hp; clear hp
        go_wp2_with fail
        refine (markText_any (kk + 1) _ (by omega)).mono ?_
        rintro e w1 ⟨rfl, b1⟩
        have P1 := Lib.hid ((HP.out.st0 hlt HN.out hlt kk).below b1)
        have F1 := Lib.hid ((HF.out.trans (Frame.setCell (p := ⟨g, j * 7 + 0, none⟩) hlo hg (.int .i64 kk))).trans (Frame.of_below b1))
        clear b1
        obtain ⟨y1, e1⟩ := P1.out.some_ (o := j * 7 + 1) (by omega)
        obtain ⟨y2, e2⟩ := P1.out.some_ (o := j * 7 + 2) (by omega)
        obtain ⟨y3, e3⟩ := P1.out.some_ (o := j * 7 + 3) (by omega)
        obtain ⟨y4, e4⟩ := P1.out.some_ (o := j * 7 + 4) (by omega)
        obtain ⟨y5, e5⟩ := P1.out.some_ (o := j * 7 + 5) (by omega)
        have hf1 := P1.out.frozen
        have HN1 := Lib.hid (show ((mixL l j k).set j { n with kind := kk })[j]? = some { n with kind := kk } from List.getElem?_set_self (by rw [mixL_len]; exact hlt))
        have e6 : w1.cell? ⟨g, j * 7 + 6, none⟩ = some (.slice (A j) n.cols.length (C j)) := (P1.out.cellAt (by omega)).trans (P1.out.cells j _ hlt HN1.out).c6
        have z0 : ∀ n' : Nd, ((mixL l j k).set j n')[j]? = some n' := fun n' => List.getElem?_set_self (by rw [mixL_len]; exact hlt)
        have Q1 := Lib.hid (P1.out.st1 hlt HN1.out hlt (mtext (kk + 1)) (by have := mtext_size (kk + 1); unfold maxLen; omega))
        have Q2 := Lib.hid (Q1.out.st2 hlt (by rw [List.set_set]; exact z0 _) hlt (kk + 1 + 1))
        have Q3 := Lib.hid (Q2.out.st3 hlt (by rw [List.set_set, List.set_set]; exact z0 _) hlt (kk + 1 + 1 + 1))
        have Q4 := Lib.hid (Q3.out.st4 hlt (by rw [List.set_set, List.set_set, List.set_set]; exact z0 _) hlt (kk + 1 + 1 + 1 + 1))
        have Q5 := Lib.hid (Q4.out.st5 hlt (by rw [List.set_set, List.set_set, List.set_set, List.set_set]; exact z0 _) hlt ((kk + 1 + 1 + 1 + 1 + 1) % 3 == 0))
        have N5 := Lib.hid (show ((((((mixL l j k).set j { n with kind := kk }).set j { n with kind := kk, name := mtext (kk + 1) }).set j { n with kind := kk, name := mtext (kk + 1), col := kk + 1 + 1 }).set j { n with kind := kk, name := mtext (kk + 1), col := kk + 1 + 1, op := kk + 1 + 1 + 1 }).set j { n with kind := kk, name := mtext (kk + 1), col := kk + 1 + 1, op := kk + 1 + 1 + 1, num := kk + 1 + 1 + 1 + 1 }).set j { n with kind := kk, name := mtext (kk + 1), col := kk + 1 + 1, op := kk + 1 + 1 + 1, num := kk + 1 + 1 + 1 + 1, slot := (kk + 1 + 1 + 1 + 1 + 1) % 3 == 0 } = (mixL l j k).set j { n with kind := kk, name := mtext (kk + 1), col := kk + 1 + 1, op := kk + 1 + 1 + 1, num := kk + 1 + 1 + 1 + 1, slot := (kk + 1 + 1 + 1 + 1 + 1) % 3 == 0 } by rw [List.set_set, List.set_set, List.set_set, List.set_set, List.set_set])
        have F2 := Lib.hid (((((F1.out.trans (Frame.setCell (p := ⟨g, j * 7 + 1, none⟩) hlo hg (.string (mtext (kk + 1))))).trans (Frame.setCell (p := ⟨g, j * 7 + 2, none⟩) hlo hg (.int .i64 (kk + 1 + 1)))).trans (Frame.setCell (p := ⟨g, j * 7 + 3, none⟩) hlo hg (.int .i64 (kk + 1 + 1 + 1)))).trans (Frame.setCell (p := ⟨g, j * 7 + 4, none⟩) hlo hg (.int .i64 (kk + 1 + 1 + 1 + 1)))).trans (Frame.setCell (p := ⟨g, j * 7 + 5, none⟩) hlo hg (.bool ((kk + 1 + 1 + 1 + 1 + 1) % 3 == 0))))
        clear P1 F1 Q1 Q2 Q3 Q4 HN1 z0
        go_wp2_with fail
        have hz5 := N5.out ▸ Q5.out
        have hn5 : ((mixL l j k).set j { n with kind := kk, name := mtext (kk + 1), col := kk + 1 + 1, op := kk + 1 + 1 + 1, num := kk + 1 + 1 + 1 + 1, slot := (kk + 1 + 1 + 1 + 1 + 1) % 3 == 0 })[j]? = some { n with kind := kk, name := mtext (kk + 1), col := kk + 1 + 1, op := kk + 1 + 1 + 1, num := kk + 1 + 1 + 1 + 1, slot := (kk + 1 + 1 + 1 + 1 + 1) % 3 == 0 } := List.getElem?_set_self (by rw [mixL_len]; exact hlt)
        have O5 := Lib.hid (hz5.cols j _ hlt hn5)
        have Z5 := Lib.hid hz5
        have HN5 := Lib.hid hn5
        clear hz5 hn5
        refine (markIntS_own lo (A j) (C j) n.cols (kk + 1 + 1 + 1 + 1 + 1 + 1) _ O5.out (by omega) (by omega)).mono ?_
        rintro e w3 ⟨rfl, o3, g3⟩
        have P3 := Lib.hid (Z5.out.marked hlt HN5.out (by rw [marksL_len]) g3 o3)
        have hAj : ∀ x, A j = some x → lo ≤ x.block ∧ x.block < hi := fun x hx => ⟨(O5.out.lt x hx).1, HA.out j x hlt hx⟩
        have F3 := Lib.hid (F2.out.trans (Frame.of_grown g3 (by
          intro gg hgg
          cases hA : A j with
          | none => rw [hA] at hgg; cases hgg
          | some x => rw [hA] at hgg; simp at hgg; subst hgg; exact hAj x hA)))
        clear o3 g3 hAj F2
        go_wp2_with fail
        go_roundw
        case rel => exact ⟨j + 1, by omega, by go_num, by rw [MT.out]; have := KK.out; congr 1; omega, ⟨_, by
          have := P3.out
          rw [List.set_set] at this
          rw [← MS.out]
          exact this⟩, F3.out⟩
        case measure => simp [intOf]; omega
      · obtain rfl : j = l.length := by omega
        have HP := Lib.hid hp; clear hp
        go_wp2_with fail
        go_ret
        have e : mixL l l.length k = markL l k := by simp [mixL]
        refine ⟨ret_int (by rw [List.take_length]), .inr ⟨g, ys, A, C, rfl, ?_, hg, ?_⟩, HF.out⟩
        · have := HP.out; rw [e] at this; rw [markL_len]; exact this
        · rw [markL_len]; exact HA.out
end Go.Proofs.YtfpbhedophlnkaaGreatDoor
namespace Go.Proofs.YtfpbhedophlnkaaGreatDoor
open Go.RowKit
set_option linter.unusedSimpArgs false
set_option linter.unusedVariables false

/-- Some nodes, they and their columns in blocks from base on. -/
structure LooseN (w : World) (base b c : Nat) (l : List Nd) : Prop where
  lt : base ≤ b
  cap : l.length ≤ c
  mx : c ≤ maxLen
  nd : ∀ (i : Nat) (n : Nd), l[i]? = some n → ∃ a d, NdAt w b (0 + i * 7) n a d ∧ ∀ x, a = some x → base ≤ x.block
section
variable {w w' : World} {base b c : Nat} {l : List Nd}
theorem LooseN.rd (h : LooseN w base b c l) : RdN w (some ⟨b, 0, none⟩) l :=
  .inr ⟨b, 0, rfl, fun i n hi => by obtain ⟨a, d, hn, _⟩ := h.nd i n hi; exact ⟨a, d, hn⟩⟩
theorem NdAt.grown {o : Nat} {n : Nd} {a : Option Addr} {d : Nat} {row : Option Nat} (h : NdAt w b o n a d) (hg : w.grownBy w' row) (h1 : some b ≠ row) (h2 : ∀ x, a = some x → some x.block ≠ row) : NdAt w' b o n a d := by
  have hk : ∀ o, w'.cell? ⟨b, o, none⟩ = w.cell? ⟨b, o, none⟩ := fun o => World.cell?_of_block (hg.block b h.lt h1)
  exact ⟨(hk _).trans h.c0, (hk _).trans h.c1, (hk _).trans h.c2, (hk _).trans h.c3, (hk _).trans h.c4, (hk _).trans h.c5, (hk _).trans h.c6, h.rd.grown hg h2, h.cap, h.mx, h.nm⟩
theorem LooseN.draw {g : Nat} (h : LooseN w base b c l) (hg : w.grownBy w' (some g)) (hlt : g < base) : LooseN w' base b c l :=
  ⟨h.lt, h.cap, h.mx, fun i n hi => by
    obtain ⟨a, d, hn, ha⟩ := h.nd i n hi
    exact ⟨a, d, hn.grown hg (by have := h.lt; simp; omega) (fun x hx => by have := ha x hx; simp; omega), ha⟩⟩
theorem LooseN.below (h : LooseN w base b c l) (hb : Below w.heap.size w w') : LooseN w' base b c l :=
  ⟨h.lt, h.cap, h.mx, fun i n hi => by
    obtain ⟨a, d, hn, ha⟩ := h.nd i n hi
    exact ⟨a, d, hn.below hb, ha⟩⟩
theorem owns_cap {e : TypeId} {size m : Nat} {xs : List Value} (h : w.ownsRow base e size (.slice (some ⟨b, 0, none⟩) m c) m xs) : m ≤ c ∧ c ≤ maxLen := by
  rcases h.2 with ⟨hv, _⟩ | ⟨g', cap, cur, hv, _, _, h1, h2, _⟩
  · simp at hv
  · simp only [Value.slice.injEq] at hv
    rw [hv.2.2]; exact ⟨h1, h2⟩
theorem LooseN.of_part {m : Nat} {xs : List Value} {A : Nat → Option Addr} {C : Nat → Nat} (h : PartN w base b c m l m xs A C) (hm : l.length = m) : LooseN w base b c l := by
  have hc := owns_cap h.own
  refine ⟨(owns_block h.own).1, by omega, hc.2, fun i n hi => ?_⟩
  have hl := some_lt hi
  exact ⟨A i, C i, h.at_ (by omega) (by omega) hi, fun x hx => ((h.cols i n (by omega) hi).lt x hx).1⟩
theorem LooseN.take (h : LooseN w base b c l) (k : Nat) : LooseN w base b c (l.take k) :=
  ⟨h.lt, by have := h.cap; simp; omega, h.mx, fun i n hi => by
    rw [List.getElem?_take] at hi
    split at hi
    · exact h.nd i n hi
    · cases hi⟩
end
/-- What a drawn plan is known to be that may have been bent. -/
def LooseP (w : World) (g : Nat) (xo : Option Addr) (d : Nat) (code : List Int) (e : Ending) (w' : World) : Prop :=
  ∃ (l : List Nd) (b c : Nat), e = .returned (.slice (some ⟨b, 0, none⟩) l.length c) ∧ l.length ≤ 82 ∧ (∀ m ∈ l, m.cols.length ≤ 4) ∧ LooseN w' w.heap.size b c l ∧ Drew w g xo d code w'
theorem loose_part {w0 w : World} {g : Nat} {xo : Option Addr} {d : Nat} {code : List Int} {b c m : Nat} {l : List Nd} {xs : List Value} {A : Nat → Option Addr} {C : Nat → Nat} {e : Ending} (hp : PartN w w0.heap.size b c m l m xs A C) (hm : l.length = m) (hd : Drew w0 g xo d code w) (h81 : m ≤ 82) (h4 : ∀ n ∈ l, n.cols.length ≤ 4) (he : e = .returned (.slice (some ⟨b, 0, none⟩) m c)) : LooseP w0 g xo d code e w :=
  ⟨l, b, c, by rw [he, hm], by omega, h4, LooseN.of_part hp hm, hd⟩
theorem set_four {l : List Nd} {i : Nat} {n n' : Nd} (h : ∀ m ∈ l, m.cols.length ≤ 3) (hn : l[i]? = some n) (hc : n'.cols = n.cols) : ∀ m ∈ l.set i n', m.cols.length ≤ 4 := by
  intro m hm
  rcases List.mem_or_eq_of_mem_set hm with hm | rfl
  · have := h m hm; omega
  · rw [hc]; have := h n (List.mem_of_getElem? hn); omega
theorem drew_once {w0 w w' : World} {g : Nat} {xo : Option Addr} {d : Nat} {code : List Int} (h : Drew w0 g xo d code w) (hc : Cur w' g xo d code) (hg : w.grownBy w' (some g)) : Drew w0 g xo d code w' := ⟨hc, grownBy_trans h.2 hg⟩
/-- A number that is picked out of a row just made. -/
theorem pick_new (g : Nat) (xo : Option Addr) (d : Nat) (code : List Int) (w : World) (hc : Cur w g xo d code) (hl : code.length ≤ 1048577) (l : List Int) (n : Nat) (hn : l.length = n) (h0 : 1 ≤ n) (h1 : n ≤ 256) (cs : Array Value) (hcs : cs = (l.map (Value.int .i64)).toArray) :
    Calls Tryz.prog 146 #[.pointer (some ⟨g, 0, none⟩), .slice (some ⟨w.heap.size, 0, none⟩) n n] (w.alloc (.cells cs 3)) fun e w' => ∃ z : Int, e = .returned (.int .i64 z) ∧ Drew w g xo d code w' := by
  subst hcs
  refine (l01PickInt_n g xo d code w.heap.size n n l _ (hc.keepB ((Below.refl _ _).alloc (Nat.le_refl _) _)) hl (row_cells w 3 l) (by have := hc.lt; omega) (by omega) (by omega) hn).mono ?_
  rintro e w' ⟨z, _, rfl, hc2, hg2⟩
  exact ⟨z, rfl, hc2, grownBy_trans (below_grown ((Below.refl w.heap.size w).alloc (Nat.le_refl _) _)) hg2⟩
theorem nd_new (w : World) (n : Nd) (a : Option Addr) (c : Nat) (hr : Rd w .i64 a n.cols) (hc : n.cols.length ≤ c) (hm : c ≤ maxLen) (hs : n.name.size ≤ maxLen) : ∀ j k, [n][j]? = some k → NdAt (w.alloc (.cells (ndCells n a c).toArray 92)) w.heap.size (0 + j * 7) k a c := by
  intro j k hk
  have h0 : j = 0 := by have := some_lt hk; simp at this; omega
  subst h0
  simp at hk; subst hk
  have key := cells_new w n a c
  exact ⟨key 0 _ rfl, key 1 _ rfl, key 2 _ rfl, key 3 _ rfl, key 4 _ rfl, key 5 _ rfl, key 6 _ rfl, hr.below ((Below.refl _ w).alloc (Nat.le_refl _) _), hc, hm, hs⟩
theorem row_form {w : World} {base : Nat} {e : TypeId} {size n : Nat} {v : Value} {xs : List Value} (h : w.ownsRow base e size v n xs) (hn : 0 < n) : ∃ b c, v = .slice (some ⟨b, 0, none⟩) n c := by
  rcases h.2 with ⟨_, hz⟩ | ⟨g', cap, cur, hv, _⟩
  · omega
  · exact ⟨g', cap, hv⟩
/-- A node is appended that lies in the row already. -/
theorem loose_app {w0 w W w' : World} {g : Nat} {xo : Option Addr} {d : Nat} {code : List Int} {b c m i : Nat} {l : List Nd} {n : Nd} {xs : List Value} {A : Nat → Option Addr} {C : Nat → Nat} {v' : Value} (h0 : Cur w0 g xo d code) (hp : PartN w w0.heap.size b c m l m xs A C) (hm : l.length = m) (hd : Drew w0 g xo d code w) (hn : l[i]? = some n) (hW : Below w.heap.size w W)
    (ho : w'.ownsRow w0.heap.size 92 7 v' (m + 1) (xs ++ allCells [n] (fun _ => A i) (fun _ => C i))) (hg : W.grownBy w' (some b)) (h81 : m ≤ 81) (h4 : ∀ n ∈ l, n.cols.length ≤ 4) : LooseP w0 g xo d code (.returned v') w' := by
  obtain ⟨b', c', rfl⟩ : ∃ b' c', v' = .slice (some ⟨b', 0, none⟩) (m + 1) c' := by
    rcases ho.2 with ⟨_, hz⟩ | ⟨g', cap, cur, hv, _⟩
    · omega
    · exact ⟨g', cap, hv⟩
  have hc := owns_cap ho
  have hb := owns_block hp.own
  have hil := some_lt hn
  have hlen : xs.length = m * 7 := hp.own.1
  have hcol : ∀ j k, l[j]? = some k → Rd w' .i64 (A j) k.cols := fun j k hk => by
    have hjl := some_lt hk
    have hoj := hp.cols j k (by omega) hk
    exact ((hoj.rd.below hW).grown hg (fun x hx => by have := hp.row j x (by omega) hjl hx; simpa using this))
  refine ⟨l ++ [n], b', c', by rw [List.length_append, hm]; rfl, by simp; omega, ?_, ⟨(owns_block ho).1, by simp; omega, hc.2, ?_⟩, ?_⟩
  · intro k hk
    rcases List.mem_append.1 hk with hk | hk
    · exact h4 k hk
    · simp at hk; subst hk; exact h4 k (List.mem_of_getElem? hn)
  · intro j k hk
    have hx : ∀ t, t < 7 → j < m + 1 → w'.cell? ⟨b', 0 + j * 7 + t, none⟩ = (xs ++ allCells [n] (fun _ => A i) (fun _ => C i))[j * 7 + t]? := fun t ht hj => by
      rw [Nat.zero_add, World.ownsRow.cellAt ho _ (by omega)]
    by_cases hj : j < l.length
    · rw [List.getElem?_append_left hj] at hk
      have hcj := hp.cells j k (by omega) hk
      have hoj := hp.cols j k (by omega) hk
      have key : ∀ t, t < 7 → w'.cell? ⟨b', 0 + j * 7 + t, none⟩ = xs[j * 7 + t]? := fun t ht => by
        rw [hx t ht (by omega), List.getElem?_append_left (by omega)]
      exact ⟨A j, C j, ⟨(key 0 (by omega)).trans hcj.c0, (key 1 (by omega)).trans hcj.c1, (key 2 (by omega)).trans hcj.c2, (key 3 (by omega)).trans hcj.c3, (key 4 (by omega)).trans hcj.c4, (key 5 (by omega)).trans hcj.c5, (key 6 (by omega)).trans hcj.c6, hcol j k hk, hoj.cap_ge, hoj.cap_le, hp.name j k (by omega) hk⟩, fun x hx => (hoj.lt x hx).1⟩
    · rw [List.getElem?_append_right (by omega)] at hk
      have hj0 : j - l.length = 0 := by have := some_lt hk; simp at this; omega
      rw [hj0] at hk
      simp at hk; subst hk
      have hjm : j = m := by omega
      have hoi := hp.cols i n (by omega) hn
      have key : ∀ t, t < 7 → w'.cell? ⟨b', 0 + j * 7 + t, none⟩ = (ndCells n (A i) (C i))[t]? := fun t ht => by
        rw [hx t ht (by omega), List.getElem?_append_right (by omega), show j * 7 + t - xs.length = t by omega]
        simp [allCells, List.getElem?_append_left, ndCells, ht]
      exact ⟨A i, C i, ⟨key 0 (by omega), key 1 (by omega), key 2 (by omega), key 3 (by omega), key 4 (by omega), key 5 (by omega), key 6 (by omega), hcol i n hn, hoi.cap_ge, hoi.cap_le, hp.name i n (by omega) hn⟩, fun x hx => (hoi.lt x hx).1⟩
  · have hz := hd.2.size
    have hk : ∀ q, q < w0.heap.size → w'.heap[q]? = w.heap[q]? := fun q hq => (hg.block q (by have := hW.size; omega) (by simp; omega)).trans (hW.block q (by omega))
    exact ⟨hd.1.keepI h0.lt h0.code_lt hk, ⟨hg.os.trans (hW.os.trans hd.2.os), hg.tape.trans (hW.tape.trans hd.2.tape), hg.output.trans (hW.output.trans hd.2.output), Nat.le_trans hz (Nat.le_trans hW.size hg.size), fun q hq hne => (hk q hq).trans (hd.2.block q hq hne)⟩⟩
/-- A column is appended to those of one node. -/
theorem loose_col {w0 w W w' : World} {g : Nat} {xo : Option Addr} {d : Nat} {code : List Int} {b c m i : Nat} {l : List Nd} {n : Nd} {xs : List Value} {A : Nat → Option Addr} {C : Nat → Nat} {ao : Option Addr} {co : Nat} {z : Int} {e : Ending} (h0 : Cur w0 g xo d code) (hp : PartN w w0.heap.size b c m l m xs A C) (hm : l.length = m) (hd : Drew w0 g xo d code w) (hn : l[i]? = some n) (hW : Below w.heap.size w W)
    (ho : Own w' w0.heap.size 3 .i64 ao co (n.cols ++ [z])) (hg : W.grownBy w' ((A i).map (·.block))) (h81 : m ≤ 82) (h3 : ∀ n ∈ l, n.cols.length ≤ 3) (he : e = .returned (.slice (some ⟨b, 0, none⟩) m c)) :
    w'.cell? ⟨b, i * 7 + 6, none⟩ = some (.slice (A i) n.cols.length (C i)) ∧ w'.frozen? ⟨b, i * 7 + 6, none⟩ = false ∧ LooseP w0 g xo d code e (w'.setCell ⟨b, i * 7 + 6, none⟩ (.slice ao (n.cols.length + 1) co)) := by
  have hb := owns_block hp.own
  have hil := some_lt hn
  have hlen : xs.length = m * 7 := hp.own.1
  have hbne : some b ≠ (A i).map (·.block) := by
    cases hA : A i with
    | none => simp
    | some y => simp; exact Ne.symm (hp.row i y (by omega) hil hA)
  have hbk : w'.heap[b]? = w.heap[b]? := (hg.block b (by have := hW.size; omega) hbne).trans (hW.block b hb.2)
  have ow := owns_keep hp.own hbk
  have cc : ∀ o, o < m * 7 → w'.cell? ⟨b, o, none⟩ = xs[o]? := fun o hh => World.ownsRow.cellAt ow o hh
  -- the columns' row is not the nodes'
  have hao : ∀ x, ao = some x → x.block ≠ b := by
    intro x hx hxb
    rcases ho.2 with ⟨hv, _⟩ | ⟨g1, cap1, cur1, hv1, _, hg1, _⟩
    · simp only [Value.slice.injEq] at hv; rw [hv.1] at hx; cases hx
    · simp only [Value.slice.injEq] at hv1
      rw [hv1.1] at hx; cases hx
      simp only at hxb
      rcases ow.2 with ⟨hv2, _⟩ | ⟨g2, cap2, cur2, hv2, _, hg2, _⟩
      · simp at hv2
      · simp only [Value.slice.injEq, Option.some.injEq, Addr.mk.injEq, and_true] at hv2
        rw [← hv2.1, ← hxb, hg1] at hg2
        simp at hg2
  have hs := (ow.stored (i * 7 + 6) (.slice ao (n.cols.length + 1) co)).1
  have hcs := owns_cap ow
  have far : ∀ (x : Nat), x ≠ b → (w'.setCell ⟨b, i * 7 + 6, none⟩ (.slice ao (n.cols.length + 1) co)).heap[x]? = w'.heap[x]? := fun x hx => Below.heap_setCell w' ⟨b, i * 7 + 6, none⟩ _ x hx
  refine ⟨(cc _ (by omega)).trans (hp.cells i n (by omega) hn).c6, World.ownsRow.frozenAt ow _, ⟨l.set i { n with cols := n.cols ++ [z] }, b, c, by rw [he, List.length_set, hm], by simp; omega, ?_, ⟨hb.1, by simp; omega, hcs.2, ?_⟩, ?_⟩⟩
  · intro k hk
    rcases List.mem_or_eq_of_mem_set hk with hk | rfl
    · have := h3 k hk; omega
    · have := h3 n (List.mem_of_getElem? hn); simp; omega
  · intro j k hk
    have hjl : j < l.length := by have := some_lt hk; simpa using this
    have key : ∀ t, t < 7 → (w'.setCell ⟨b, i * 7 + 6, none⟩ (.slice ao (n.cols.length + 1) co)).cell? ⟨b, 0 + j * 7 + t, none⟩ = (xs.set (i * 7 + 6) (.slice ao (n.cols.length + 1) co))[j * 7 + t]? := fun t ht => by
      rw [Nat.zero_add, World.ownsRow.cellAt hs _ (by omega)]
    by_cases hji : j = i
    · subst hji
      rw [List.getElem?_set_self hil] at hk; cases hk
      have hcj := hp.cells j n (by omega) hn
      have k2 : ∀ t, t < 6 → (w'.setCell ⟨b, j * 7 + 6, none⟩ (.slice ao (n.cols.length + 1) co)).cell? ⟨b, 0 + j * 7 + t, none⟩ = xs[j * 7 + t]? := fun t ht => by
        rw [key t (by omega), List.getElem?_set_ne (by omega)]
      have o2 : Own (w'.setCell ⟨b, j * 7 + 6, none⟩ (.slice ao (n.cols.length + 1) co)) w0.heap.size 3 .i64 ao co (n.cols ++ [z]) := ho.keep fun x hx _ => far x.block (hao x hx)
      refine ⟨ao, co, ⟨(k2 0 (by omega)).trans hcj.c0, (k2 1 (by omega)).trans hcj.c1, (k2 2 (by omega)).trans hcj.c2, (k2 3 (by omega)).trans hcj.c3, (k2 4 (by omega)).trans hcj.c4, (k2 5 (by omega)).trans hcj.c5, ?_, o2.rd, o2.cap_ge, o2.cap_le, hp.name j n (by omega) hn⟩, fun x hx => (ho.lt x hx).1⟩
      rw [key 6 (by omega), List.getElem?_set_self (by omega)]; simp
    · rw [List.getElem?_set_ne (by omega)] at hk
      have hcj := hp.cells j k (by omega) hk
      have hoj := hp.cols j k (by omega) hk
      have k2 : ∀ t, t < 7 → (w'.setCell ⟨b, i * 7 + 6, none⟩ (.slice ao (n.cols.length + 1) co)).cell? ⟨b, 0 + j * 7 + t, none⟩ = xs[j * 7 + t]? := fun t ht => by
        rw [key t (by omega), List.getElem?_set_ne (by omega)]
      have hoW := hoj.below hW
      have hne : ∀ x, A j = some x → some x.block ≠ (A i).map (·.block) := by
        intro x hx
        cases hA : A i with
        | none => simp
        | some y => simp; exact hp.apart j i x y (by omega) (by omega) hjl hil hji hx hA
      have o2 := (hoW.grown hg hne).keep (w' := w'.setCell ⟨b, i * 7 + 6, none⟩ (.slice ao (n.cols.length + 1) co)) fun x hx _ => far x.block (hp.row j x (by omega) hjl hx)
      exact ⟨A j, C j, ⟨(k2 0 (by omega)).trans hcj.c0, (k2 1 (by omega)).trans hcj.c1, (k2 2 (by omega)).trans hcj.c2, (k2 3 (by omega)).trans hcj.c3, (k2 4 (by omega)).trans hcj.c4, (k2 5 (by omega)).trans hcj.c5, (k2 6 (by omega)).trans hcj.c6, o2.rd, o2.cap_ge, o2.cap_le, hp.name j k (by omega) hk⟩, fun x hx => (hoj.lt x hx).1⟩
  · have hz := hd.2.size
    have hk : ∀ q, q < w0.heap.size → w'.heap[q]? = w.heap[q]? := fun q hq => (hg.block q (by have := hW.size; omega) (by
      cases hA : A i with
      | none => simp
      | some y => have := ((hp.cols i n (by omega) hn).lt y hA).1; simp; omega)).trans (hW.block q (by omega))
    exact drew_set h0 ⟨hd.1.keepI h0.lt h0.code_lt hk, ⟨hg.os.trans (hW.os.trans hd.2.os), hg.tape.trans (hW.tape.trans hd.2.tape), hg.output.trans (hW.output.trans hd.2.output), Nat.le_trans hz (Nat.le_trans hW.size hg.size), fun q hq hne => (hk q hq).trans (hd.2.block q hq hne)⟩⟩ hb.1
end Go.Proofs.YtfpbhedophlnkaaGreatDoor
