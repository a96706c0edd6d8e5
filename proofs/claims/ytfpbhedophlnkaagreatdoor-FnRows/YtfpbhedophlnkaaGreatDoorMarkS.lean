/-
  Contract of markNodeS: it writes marks into a row of nodes of the call's own and into its columns, and into nothing else. For every such row.
-/
import Derived.Test.YtfpbhedophlnkaaGreatDoorJR43x
import Derived.Test.YtfpbhedophlnkaaGreatDoorJR23x
namespace Go.Proofs.YtfpbhedophlnkaaGreatDoor
open Go.RowKit
set_option linter.unusedSimpArgs false
set_option linter.unusedVariables false

/-- A node with its marks from k on. -/
def mkNd (n : Nd) (k : Int) : Nd := ⟨k, mtext (k + 1), k + 1 + 1, k + 1 + 1 + 1, k + 1 + 1 + 1 + 1, (k + 1 + 1 + 1 + 1 + 1) % 3 == 0, marksL id (k + 1 + 1 + 1 + 1 + 1 + 1) n.cols.length⟩
def markL : List Nd → Int → List Nd
  | [], _ => []
  | n :: l, k => mkNd n k :: markL l (k + 6 + n.cols.length)
/-- How many marks a list of nodes takes. -/
def mlen (l : List Nd) : Int := (6 * l.length + (l.map fun n => n.cols.length).sum : Nat)
theorem mlen_nil : mlen [] = 0 := rfl
theorem mlen_cons (n : Nd) (l : List Nd) : mlen (n :: l) = 6 + n.cols.length + mlen l := by simp [mlen]; omega
theorem mlen_pos (l : List Nd) : 0 ≤ mlen l := by unfold mlen; omega
theorem mlen_app (l m : List Nd) : mlen (l ++ m) = mlen l + mlen m := by simp [mlen]; omega
theorem markL_len : ∀ (l : List Nd) (k : Int), (markL l k).length = l.length
  | [], _ => rfl
  | n :: l, k => by simp [markL, markL_len l]
theorem markL_app : ∀ (l m : List Nd) (k : Int), markL (l ++ m) k = markL l k ++ markL m (k + mlen l)
  | [], m, k => by simp [markL, mlen_nil]
  | n :: l, m, k => by
    simp only [List.cons_append, markL]
    rw [markL_app l m, mlen_cons]
    rw [show k + 6 + (n.cols.length : Int) + mlen l = k + (6 + (n.cols.length : Int) + mlen l) by omega]
/-- The list of which the first j are marked. -/
def mixL (l : List Nd) (j : Nat) (k : Int) : List Nd := markL (l.take j) k ++ l.drop j
theorem mixL_len (l : List Nd) (j : Nat) (k : Int) : (mixL l j k).length = l.length := by simp [mixL, markL_len]; omega
theorem mixL_at {l : List Nd} {j : Nat} {k : Int} {n : Nd} (h : l[j]? = some n) : (mixL l j k)[j]? = some n := by
  have hj : j < l.length := by
    rcases Nat.lt_or_ge j l.length with h1 | h1
    · exact h1
    · rw [List.getElem?_eq_none h1] at h; cases h
  unfold mixL
  rw [List.getElem?_append_right (by simp [markL_len]; omega), markL_len, List.length_take, Nat.min_eq_left (by omega), Nat.sub_self, List.getElem?_drop]; simpa using h
theorem mixL_step {l : List Nd} {j : Nat} {k : Int} {n : Nd} (h : l[j]? = some n) : (mixL l j k).set j (mkNd n (k + mlen (l.take j))) = mixL l (j + 1) k := by
  have hj : j < l.length := by
    rcases Nat.lt_or_ge j l.length with h1 | h1
    · exact h1
    · rw [List.getElem?_eq_none h1] at h; cases h
  have hn : l[j] = n := by rw [List.getElem?_eq_getElem hj] at h; injection h
  unfold mixL
  rw [List.set_append_right _ _ (by simp [markL_len]; omega), markL_len, List.length_take, Nat.min_eq_left (by omega), Nat.sub_self, List.drop_eq_getElem_cons hj, List.take_succ_eq_append_getElem hj, hn, markL_app]
  simp [markL]
theorem mlen_take {l : List Nd} {j : Nat} {n : Nd} (h : l[j]? = some n) : mlen (l.take (j + 1)) = mlen (l.take j) + 6 + n.cols.length := by
  have hj : j < l.length := by
    rcases Nat.lt_or_ge j l.length with h1 | h1
    · exact h1
    · rw [List.getElem?_eq_none h1] at h; cases h
  have hn : l[j] = n := by rw [List.getElem?_eq_getElem hj] at h; injection h
  rw [List.take_succ_eq_append_getElem hj, hn, mlen_app, mlen_cons, mlen_nil]; omega
theorem mlen_take_le (l : List Nd) (j : Nat) : mlen (l.take j) ≤ mlen l := by
  have := mlen_app (l.take j) (l.drop j)
  rw [List.take_append_drop] at this
  have := mlen_pos (l.drop j); omega

section
variable {w : World} {base g c m : Nat} {l : List Nd} {j : Nat} {xs : List Value} {A : Nat → Option Addr} {C : Nat → Nat}
theorem PartN.st0 (h : PartN w base g c m l j xs A C) {k : Nat} {n : Nd} (hk : k < j) (hn : l[k]? = some n) (hm : k < m) (v : Int) :
    PartN (w.setCell ⟨g, k * 7, none⟩ (.int .i64 v)) base g c m (l.set k { n with kind := v }) j (xs.set (k * 7) (.int .i64 v)) A C := by
  have hlen := h.own.1
  exact h.store (k := k) (t := 0) (n' := { n with kind := v }) (v := .int .i64 v) hk hn (by omega) rfl (h.name k n hk hn) (fun hc => ⟨by simp [List.getElem?_set]; omega, by rw [List.getElem?_set_ne (by omega)]; exact hc.c1, by rw [List.getElem?_set_ne (by omega)]; exact hc.c2, by rw [List.getElem?_set_ne (by omega)]; exact hc.c3, by rw [List.getElem?_set_ne (by omega)]; exact hc.c4, by rw [List.getElem?_set_ne (by omega)]; exact hc.c5, by rw [List.getElem?_set_ne (by omega)]; exact hc.c6⟩)
theorem PartN.st1 (h : PartN w base g c m l j xs A C) {k : Nat} {n : Nd} (hk : k < j) (hn : l[k]? = some n) (hm : k < m) (v : ByteArray) (hs : v.size ≤ maxLen) :
    PartN (w.setCell ⟨g, k * 7 + 1, none⟩ (.string v)) base g c m (l.set k { n with name := v }) j (xs.set (k * 7 + 1) (.string v)) A C := by
  have hlen := h.own.1
  exact h.store (k := k) (t := 1) (n' := { n with name := v }) (v := .string v) hk hn (by omega) rfl hs (fun hc => ⟨by rw [List.getElem?_set_ne (by omega)]; exact hc.c0, by simp [List.getElem?_set]; omega, by rw [List.getElem?_set_ne (by omega)]; exact hc.c2, by rw [List.getElem?_set_ne (by omega)]; exact hc.c3, by rw [List.getElem?_set_ne (by omega)]; exact hc.c4, by rw [List.getElem?_set_ne (by omega)]; exact hc.c5, by rw [List.getElem?_set_ne (by omega)]; exact hc.c6⟩)
theorem PartN.st2 (h : PartN w base g c m l j xs A C) {k : Nat} {n : Nd} (hk : k < j) (hn : l[k]? = some n) (hm : k < m) (v : Int) :
    PartN (w.setCell ⟨g, k * 7 + 2, none⟩ (.int .i64 v)) base g c m (l.set k { n with col := v }) j (xs.set (k * 7 + 2) (.int .i64 v)) A C := by
  have hlen := h.own.1
  exact h.store (k := k) (t := 2) (n' := { n with col := v }) (v := .int .i64 v) hk hn (by omega) rfl (h.name k n hk hn) (fun hc => ⟨by rw [List.getElem?_set_ne (by omega)]; exact hc.c0, by rw [List.getElem?_set_ne (by omega)]; exact hc.c1, by simp [List.getElem?_set]; omega, by rw [List.getElem?_set_ne (by omega)]; exact hc.c3, by rw [List.getElem?_set_ne (by omega)]; exact hc.c4, by rw [List.getElem?_set_ne (by omega)]; exact hc.c5, by rw [List.getElem?_set_ne (by omega)]; exact hc.c6⟩)
theorem PartN.st3 (h : PartN w base g c m l j xs A C) {k : Nat} {n : Nd} (hk : k < j) (hn : l[k]? = some n) (hm : k < m) (v : Int) :
    PartN (w.setCell ⟨g, k * 7 + 3, none⟩ (.int .i64 v)) base g c m (l.set k { n with op := v }) j (xs.set (k * 7 + 3) (.int .i64 v)) A C := by
  have hlen := h.own.1
  exact h.store (k := k) (t := 3) (n' := { n with op := v }) (v := .int .i64 v) hk hn (by omega) rfl (h.name k n hk hn) (fun hc => ⟨by rw [List.getElem?_set_ne (by omega)]; exact hc.c0, by rw [List.getElem?_set_ne (by omega)]; exact hc.c1, by rw [List.getElem?_set_ne (by omega)]; exact hc.c2, by simp [List.getElem?_set]; omega, by rw [List.getElem?_set_ne (by omega)]; exact hc.c4, by rw [List.getElem?_set_ne (by omega)]; exact hc.c5, by rw [List.getElem?_set_ne (by omega)]; exact hc.c6⟩)
theorem PartN.st4 (h : PartN w base g c m l j xs A C) {k : Nat} {n : Nd} (hk : k < j) (hn : l[k]? = some n) (hm : k < m) (v : Int) :
    PartN (w.setCell ⟨g, k * 7 + 4, none⟩ (.int .i64 v)) base g c m (l.set k { n with num := v }) j (xs.set (k * 7 + 4) (.int .i64 v)) A C := by
  have hlen := h.own.1
  exact h.store (k := k) (t := 4) (n' := { n with num := v }) (v := .int .i64 v) hk hn (by omega) rfl (h.name k n hk hn) (fun hc => ⟨by rw [List.getElem?_set_ne (by omega)]; exact hc.c0, by rw [List.getElem?_set_ne (by omega)]; exact hc.c1, by rw [List.getElem?_set_ne (by omega)]; exact hc.c2, by rw [List.getElem?_set_ne (by omega)]; exact hc.c3, by simp [List.getElem?_set]; omega, by rw [List.getElem?_set_ne (by omega)]; exact hc.c5, by rw [List.getElem?_set_ne (by omega)]; exact hc.c6⟩)
theorem PartN.st5 (h : PartN w base g c m l j xs A C) {k : Nat} {n : Nd} (hk : k < j) (hn : l[k]? = some n) (hm : k < m) (v : Bool) :
    PartN (w.setCell ⟨g, k * 7 + 5, none⟩ (.bool v)) base g c m (l.set k { n with slot := v }) j (xs.set (k * 7 + 5) (.bool v)) A C := by
  have hlen := h.own.1
  exact h.store (k := k) (t := 5) (n' := { n with slot := v }) (v := .bool v) hk hn (by omega) rfl (h.name k n hk hn) (fun hc => ⟨by rw [List.getElem?_set_ne (by omega)]; exact hc.c0, by rw [List.getElem?_set_ne (by omega)]; exact hc.c1, by rw [List.getElem?_set_ne (by omega)]; exact hc.c2, by rw [List.getElem?_set_ne (by omega)]; exact hc.c3, by rw [List.getElem?_set_ne (by omega)]; exact hc.c4, by simp [List.getElem?_set]; omega, by rw [List.getElem?_set_ne (by omega)]; exact hc.c6⟩)
end

/-- What markNodeS answers and leaves. -/
def MarkedN (w : World) (lo hi : Nat) (ao : Option Addr) (c : Nat) (l : List Nd) (k : Int) (e : Ending) (w' : World) : Prop :=
  e = .returned (.int .i64 (k + mlen l)) ∧ OwnH w' lo hi ao c (markL l k) ∧ Frame lo hi w w'

set_option maxRecDepth 100000 in
set_option maxHeartbeats 4000000 in
theorem markNodeS_any (lo hi : Nat) (ao : Option Addr) (c : Nat) (l : List Nd) (k : Int) (w : World) (h : OwnH w lo hi ao c l) (hl : l.length ≤ 1048576) (h0 : 0 ≤ k) (hk : k + mlen l ≤ 1000000000) :
    Calls Tryz.prog 63 #[.slice ao l.length c, .int .i64 k] w (MarkedN w lo hi ao c l k) := by
  rcases h with rfl | ⟨g, xs, A, C, rfl, hp, hg, hA⟩
  · go_enter Tryz.func63, Tryz.ntmps63
    go_wp2_with fail
    refine wp_loop_rounds 1 ?_; rw [rounds_succ]; go_wp2_with fail
    go_ret
    exact ⟨ret_int (by simp [mlen_nil]), .inl rfl, Frame.refl _ _ _⟩
  · have HA := Lib.hid hA; clear hA
    have hlo := (owns_block hp.own).1
    have P0 : Hid (∃ xs, PartN w lo g c l.length (mixL l 0 k) l.length xs A C) := by
      refine ⟨xs, ?_⟩
      have e : mixL l 0 k = l := by simp [mixL, markL]
      rw [e]; exact hp
    clear hp
    go_enter Tryz.func63, Tryz.ntmps63
    go_wp2_with fail
    go_loopw [1, 5] (fun q i wr => ∃ j : Nat, j ≤ l.length ∧ i = .int .i64 j ∧ q = .int .i64 (k + mlen (l.take j)) ∧ (∃ xs, PartN wr lo g c l.length (mixL l j k) l.length xs A C) ∧ Frame lo hi w wr) (fun _ i _ => l.length - (intOf i).toNat)
    case atStart => exact ⟨0, Nat.zero_le _, rfl, by simp [mlen_nil], P0.out, Frame.refl _ _ _⟩
    case round =>
      clear P0
      obtain ⟨j, hj, rfl, rfl, ⟨ys, hp⟩, hf⟩ := hrel
      have HF := Lib.hid hf; clear hf
      have m0 := mlen_pos (l.take j)
      have m1 := mlen_take_le l j
      by_cases hlt : j < l.length
      · have hn0 : l[j]? = some l[j] := List.getElem?_eq_getElem hlt
        generalize l[j] = n at hn0
        have hn := mixL_at (k := k) hn0
        have MT := Lib.hid (mlen_take hn0)
        have MS := Lib.hid (mixL_step (k := k) hn0)
        have m2 : k + (mlen (l.take j) + 6 + n.cols.length) ≤ 1000000000 := by have := mlen_take_le l (j + 1); rw [MT.out] at this; omega
        clear hn0
        generalize hkk : k + mlen (l.take j) = kk at MS ⊢
        have hk0 : 0 ≤ kk := by omega
        have hk1 : kk + 6 + n.cols.length ≤ 1000000000 := by omega
        have KK := Lib.hid hkk; clear hkk
        obtain ⟨y0, e0⟩ := hp.some_ (o := j * 7) (by omega)
        have hf0 := hp.frozen
        have HN := Lib.hid hn; clear hn
        have HP := Lib.hid hp; clear hp
        go_wp2_with fail
        refine (markText_any (kk + 1) _ (by omega)).mono ?_
        rintro e w1 ⟨rfl, b1⟩
        have P1 := Lib.hid ((HP.out.st0 hlt HN.out hlt kk).below b1)
        have F1 := Lib.hid ((HF.out.trans (Frame.setCell (p := ⟨g, j * 7 + 0, none⟩) hlo hg (.int .i64 kk))).trans (Frame.of_below b1))
        clear b1
        obtain ⟨y1, e1⟩ := P1.out.some_ (o := j * 7 + 1) (by omega)
        obtain ⟨y2, e2⟩ := P1.out.some_ (o := j * 7 + 2) (by omega)
        obtain ⟨y3, e3⟩ := P1.out.some_ (o := j * 7 + 3) (by omega)
        obtain ⟨y4, e4⟩ := P1.out.some_ (o := j * 7 + 4) (by omega)
        obtain ⟨y5, e5⟩ := P1.out.some_ (o := j * 7 + 5) (by omega)
        have hf1 := P1.out.frozen
        have HN1 := Lib.hid (show ((mixL l j k).set j { n with kind := kk })[j]? = some { n with kind := kk } from List.getElem?_set_self (by rw [mixL_len]; exact hlt))
        have e6 : w1.cell? ⟨g, j * 7 + 6, none⟩ = some (.slice (A j) n.cols.length (C j)) := (P1.out.cellAt (by omega)).trans (P1.out.cells j _ hlt HN1.out).c6
        have z0 : ∀ n' : Nd, ((mixL l j k).set j n')[j]? = some n' := fun n' => List.getElem?_set_self (by rw [mixL_len]; exact hlt)
        have Q1 := Lib.hid (P1.out.st1 hlt HN1.out hlt (mtext (kk + 1)) (by have := mtext_size (kk + 1); unfold maxLen; omega))
        have Q2 := Lib.hid (Q1.out.st2 hlt (by rw [List.set_set]; exact z0 _) hlt (kk + 1 + 1))
        have Q3 := Lib.hid (Q2.out.st3 hlt (by rw [List.set_set, List.set_set]; exact z0 _) hlt (kk + 1 + 1 + 1))
        have Q4 := Lib.hid (Q3.out.st4 hlt (by rw [List.set_set, List.set_set, List.set_set]; exact z0 _) hlt (kk + 1 + 1 + 1 + 1))
        have Q5 := Lib.hid (Q4.out.st5 hlt (by rw [List.set_set, List.set_set, List.set_set, List.set_set]; exact z0 _) hlt ((kk + 1 + 1 + 1 + 1 + 1) % 3 == 0))
        have N5 := Lib.hid (show ((((((mixL l j k).set j { n with kind := kk }).set j { n with kind := kk, name := mtext (kk + 1) }).set j { n with kind := kk, name := mtext (kk + 1), col := kk + 1 + 1 }).set j { n with kind := kk, name := mtext (kk + 1), col := kk + 1 + 1, op := kk + 1 + 1 + 1 }).set j { n with kind := kk, name := mtext (kk + 1), col := kk + 1 + 1, op := kk + 1 + 1 + 1, num := kk + 1 + 1 + 1 + 1 }).set j { n with kind := kk, name := mtext (kk + 1), col := kk + 1 + 1, op := kk + 1 + 1 + 1, num := kk + 1 + 1 + 1 + 1, slot := (kk + 1 + 1 + 1 + 1 + 1) % 3 == 0 } = (mixL l j k).set j { n with kind := kk, name := mtext (kk + 1), col := kk + 1 + 1, op := kk + 1 + 1 + 1, num := kk + 1 + 1 + 1 + 1, slot := (kk + 1 + 1 + 1 + 1 + 1) % 3 == 0 } by rw [List.set_set, List.set_set, List.set_set, List.set_set, List.set_set])
        have F2 := Lib.hid (((((F1.out.trans (Frame.setCell (p := ⟨g, j * 7 + 1, none⟩) hlo hg (.string (mtext (kk + 1))))).trans (Frame.setCell (p := ⟨g, j * 7 + 2, none⟩) hlo hg (.int .i64 (kk + 1 + 1)))).trans (Frame.setCell (p := ⟨g, j * 7 + 3, none⟩) hlo hg (.int .i64 (kk + 1 + 1 + 1)))).trans (Frame.setCell (p := ⟨g, j * 7 + 4, none⟩) hlo hg (.int .i64 (kk + 1 + 1 + 1 + 1)))).trans (Frame.setCell (p := ⟨g, j * 7 + 5, none⟩) hlo hg (.bool ((kk + 1 + 1 + 1 + 1 + 1) % 3 == 0))))
        clear P1 F1 Q1 Q2 Q3 Q4 HN1 z0
        go_wp2_with fail
        have hz5 := N5.out ▸ Q5.out
        have hn5 : ((mixL l j k).set j { n with kind := kk, name := mtext (kk + 1), col := kk + 1 + 1, op := kk + 1 + 1 + 1, num := kk + 1 + 1 + 1 + 1, slot := (kk + 1 + 1 + 1 + 1 + 1) % 3 == 0 })[j]? = some { n with kind := kk, name := mtext (kk + 1), col := kk + 1 + 1, op := kk + 1 + 1 + 1, num := kk + 1 + 1 + 1 + 1, slot := (kk + 1 + 1 + 1 + 1 + 1) % 3 == 0 } := List.getElem?_set_self (by rw [mixL_len]; exact hlt)
        have O5 := Lib.hid (hz5.cols j _ hlt hn5)
        have Z5 := Lib.hid hz5
        have HN5 := Lib.hid hn5
        clear hz5 hn5
        refine (markIntS_own lo (A j) (C j) n.cols (kk + 1 + 1 + 1 + 1 + 1 + 1) _ O5.out (by omega) (by omega)).mono ?_
        rintro e w3 ⟨rfl, o3, g3⟩
        have P3 := Lib.hid (Z5.out.marked hlt HN5.out (by rw [marksL_len]) g3 o3)
        have hAj : ∀ x, A j = some x → lo ≤ x.block ∧ x.block < hi := fun x hx => ⟨(O5.out.lt x hx).1, HA.out j x hlt hx⟩
        have F3 := Lib.hid (F2.out.trans (Frame.of_grown g3 (by
          intro gg hgg
          cases hA : A j with
          | none => rw [hA] at hgg; cases hgg
          | some x => rw [hA] at hgg; simp at hgg; subst hgg; exact hAj x hA)))
        clear o3 g3 hAj F2
        go_wp2_with fail
        go_roundw
        case rel => exact ⟨j + 1, by omega, by go_num, by rw [MT.out]; have := KK.out; congr 1; omega, ⟨_, by
          have := P3.out
          rw [List.set_set] at this
          rw [← MS.out]
          exact this⟩, F3.out⟩
        case measure => simp [intOf]; omega
      · obtain rfl : j = l.length := by omega
        have HP := Lib.hid hp; clear hp
        go_wp2_with fail
        go_ret
        have e : mixL l l.length k = markL l k := by simp [mixL]
        refine ⟨ret_int (by rw [List.take_length]), .inr ⟨g, ys, A, C, rfl, ?_, hg, ?_⟩, HF.out⟩
        · have := HP.out; rw [e] at this; rw [markL_len]; exact this
        · rw [markL_len]; exact HA.out
end Go.Proofs.YtfpbhedophlnkaaGreatDoor
