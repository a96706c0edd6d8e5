/-
  Contract of markNodeS: it writes marks into a row of nodes of the call's own and into its columns, and into nothing else. For every such row. Contract of markIntSSS: it writes marks into lists of rows of the call's own and into nothing else. For every such slice.
-/
import Derived.Test.YtanfllednlpbaaaGreatJ4x
import Derived.Test.YtanfllednlpbaaaGreatJ5x
import Derived.Test.YtanfllednlpbaaaGreatJ38x
namespace Go.Proofs.YtanfllednlpbaaaGreat
open Go.RowKit
set_option linter.unusedSimpArgs false
set_option linter.unusedVariables false

/-- A node with its marks from k on. -/
def mkNd (n : Nd) (k : Int) : Nd := ⟨k, mtext (k + 1), k + 1 + 1, k + 1 + 1 + 1, k + 1 + 1 + 1 + 1, (k + 1 + 1 + 1 + 1 + 1) % 3 == 0, marksL id (k + 1 + 1 + 1 + 1 + 1 + 1) n.cols.length⟩
def markL : List Nd → Int → List Nd
  | [], _ => []
  | n :: l, k => mkNd n k :: markL l (k + 6 + n.cols.length)
/-- How many marks a list of nodes takes. -/
def mlen (l : List Nd) : Int := (6 * l.length + (l.map fun n => n.cols.length).sum : Nat)
theorem mlen_nil : mlen [] = 0 := rfl
theorem mlen_cons (n : Nd) (l : List Nd) : mlen (n :: l) = 6 + n.cols.length + mlen l := by simp [mlen]; omega
theorem mlen_pos (l : List Nd) : 0 ≤ mlen l := by unfold mlen; omega
theorem mlen_app (l m : List Nd) : mlen (l ++ m) = mlen l + mlen m := by simp [mlen]; omega
theorem markL_len : ∀ (l : List Nd) (k : Int), (markL l k).length = l.length
  | [], _ => rfl
  | n :: l, k => by simp [markL, markL_len l]
theorem markL_app : ∀ (l m : List Nd) (k : Int), markL (l ++ m) k = markL l k ++ markL m (k + mlen l)
  | [], m, k => by simp [markL, mlen_nil]
  | n :: l, m, k => by
    simp only [List.cons_append, markL]
    rw [markL_app l m, mlen_cons]
    rw [show k + 6 + (n.cols.length : Int) + mlen l = k + (6 + (n.cols.length : Int) + mlen l) by omega]
/-- The list of which the first j are marked. -/
def mixL (l : List Nd) (j : Nat) (k : Int) : List Nd := markL (l.take j) k ++ l.drop j
theorem mixL_len (l : List Nd) (j : Nat) (k : Int) : (mixL l j k).length = l.length := by simp [mixL, markL_len]; omega
theorem mixL_at {l : List Nd} {j : Nat} {k : Int} {n : Nd} (h : l[j]? = some n) : (mixL l j k)[j]? = some n := by
  have hj : j < l.length := by
    rcases Nat.lt_or_ge j l.length with h1 | h1
    · exact h1
    · rw [List.getElem?_eq_none h1] at h; cases h
  unfold mixL
  rw [List.getElem?_append_right (by simp [markL_len]; omega), markL_len, List.length_take, Nat.min_eq_left (by omega), Nat.sub_self, List.getElem?_drop]; simpa using h
theorem mixL_step {l : List Nd} {j : Nat} {k : Int} {n : Nd} (h : l[j]? = some n) : (mixL l j k).set j (mkNd n (k + mlen (l.take j))) = mixL l (j + 1) k := by
  have hj : j < l.length := by
    rcases Nat.lt_or_ge j l.length with h1 | h1
    · exact h1
    · rw [List.getElem?_eq_none h1] at h; cases h
  have hn : l[j] = n := by rw [List.getElem?_eq_getElem hj] at h; injection h
  unfold mixL
  rw [List.set_append_right _ _ (by simp [markL_len]; omega), markL_len, List.length_take, Nat.min_eq_left (by omega), Nat.sub_self, List.drop_eq_getElem_cons hj, List.take_succ_eq_append_getElem hj, hn, markL_app]
  simp [markL]
theorem mlen_take {l : List Nd} {j : Nat} {n : Nd} (h : l[j]? = some n) : mlen (l.take (j + 1)) = mlen (l.take j) + 6 + n.cols.length := by
  have hj : j < l.length := by
    rcases Nat.lt_or_ge j l.length with h1 | h1
    · exact h1
    · rw [List.getElem?_eq_none h1] at h; cases h
  have hn : l[j] = n := by rw [List.getElem?_eq_getElem hj] at h; injection h
  rw [List.take_succ_eq_append_getElem hj, hn, mlen_app, mlen_cons, mlen_nil]; omega
theorem mlen_take_le (l : List Nd) (j : Nat) : mlen (l.take j) ≤ mlen l := by
  have := mlen_app (l.take j) (l.drop j)
  rw [List.take_append_drop] at this
  have := mlen_pos (l.drop j); omega

section
variable {w : World} {base g c m : Nat} {l : List Nd} {j : Nat} {xs : List Value} {A : Nat → Option Addr} {C : Nat → Nat}
theorem PartN.st0 (h : PartN w base g c m l j xs A C) {k : Nat} {n : Nd} (hk : k < j) (hn : l[k]? = some n) (hm : k < m) (v : Int) :
    PartN (w.setCell ⟨g, k * 7, none⟩ (.int .i64 v)) base g c m (l.set k { n with kind := v }) j (xs.set (k * 7) (.int .i64 v)) A C := by
  have hlen := h.own.1
  exact h.store (k := k) (t := 0) (n' := { n with kind := v }) (v := .int .i64 v) hk hn (by omega) rfl (h.name k n hk hn) (fun hc => ⟨by simp [List.getElem?_set]; omega, by rw [List.getElem?_set_ne (by omega)]; exact hc.c1, by rw [List.getElem?_set_ne (by omega)]; exact hc.c2, by rw [List.getElem?_set_ne (by omega)]; exact hc.c3, by rw [List.getElem?_set_ne (by omega)]; exact hc.c4, by rw [List.getElem?_set_ne (by omega)]; exact hc.c5, by rw [List.getElem?_set_ne (by omega)]; exact hc.c6⟩)
theorem PartN.st1 (h : PartN w base g c m l j xs A C) {k : Nat} {n : Nd} (hk : k < j) (hn : l[k]? = some n) (hm : k < m) (v : ByteArray) (hs : v.size ≤ maxLen) :
    PartN (w.setCell ⟨g, k * 7 + 1, none⟩ (.string v)) base g c m (l.set k { n with name := v }) j (xs.set (k * 7 + 1) (.string v)) A C := by
  have hlen := h.own.1
  exact h.store (k := k) (t := 1) (n' := { n with name := v }) (v := .string v) hk hn (by omega) rfl hs (fun hc => ⟨by rw [List.getElem?_set_ne (by omega)]; exact hc.c0, by simp [List.getElem?_set]; omega, by rw [List.getElem?_set_ne (by omega)]; exact hc.c2, by rw [List.getElem?_set_ne (by omega)]; exact hc.c3, by rw [List.getElem?_set_ne (by omega)]; exact hc.c4, by rw [List.getElem?_set_ne (by omega)]; exact hc.c5, by rw [List.getElem?_set_ne (by omega)]; exact hc.c6⟩)
theorem PartN.st2 (h : PartN w base g c m l j xs A C) {k : Nat} {n : Nd} (hk : k < j) (hn : l[k]? = some n) (hm : k < m) (v : Int) :
    PartN (w.setCell ⟨g, k * 7 + 2, none⟩ (.int .i64 v)) base g c m (l.set k { n with col := v }) j (xs.set (k * 7 + 2) (.int .i64 v)) A C := by
  have hlen := h.own.1
  exact h.store (k := k) (t := 2) (n' := { n with col := v }) (v := .int .i64 v) hk hn (by omega) rfl (h.name k n hk hn) (fun hc => ⟨by rw [List.getElem?_set_ne (by omega)]; exact hc.c0, by rw [List.getElem?_set_ne (by omega)]; exact hc.c1, by simp [List.getElem?_set]; omega, by rw [List.getElem?_set_ne (by omega)]; exact hc.c3, by rw [List.getElem?_set_ne (by omega)]; exact hc.c4, by rw [List.getElem?_set_ne (by omega)]; exact hc.c5, by rw [List.getElem?_set_ne (by omega)]; exact hc.c6⟩)
theorem PartN.st3 (h : PartN w base g c m l j xs A C) {k : Nat} {n : Nd} (hk : k < j) (hn : l[k]? = some n) (hm : k < m) (v : Int) :
    PartN (w.setCell ⟨g, k * 7 + 3, none⟩ (.int .i64 v)) base g c m (l.set k { n with op := v }) j (xs.set (k * 7 + 3) (.int .i64 v)) A C := by
  have hlen := h.own.1
  exact h.store (k := k) (t := 3) (n' := { n with op := v }) (v := .int .i64 v) hk hn (by omega) rfl (h.name k n hk hn) (fun hc => ⟨by rw [List.getElem?_set_ne (by omega)]; exact hc.c0, by rw [List.getElem?_set_ne (by omega)]; exact hc.c1, by rw [List.getElem?_set_ne (by omega)]; exact hc.c2, by simp [List.getElem?_set]; omega, by rw [List.getElem?_set_ne (by omega)]; exact hc.c4, by rw [List.getElem?_set_ne (by omega)]; exact hc.c5, by rw [List.getElem?_set_ne (by omega)]; exact hc.c6⟩)
theorem PartN.st4 (h : PartN w base g c m l j xs A C) {k : Nat} {n : Nd} (hk : k < j) (hn : l[k]? = some n) (hm : k < m) (v : Int) :
    PartN (w.setCell ⟨g, k * 7 + 4, none⟩ (.int .i64 v)) base g c m (l.set k { n with num := v }) j (xs.set (k * 7 + 4) (.int .i64 v)) A C := by
  have hlen := h.own.1
  exact h.store (k := k) (t := 4) (n' := { n with num := v }) (v := .int .i64 v) hk hn (by omega) rfl (h.name k n hk hn) (fun hc => ⟨by rw [List.getElem?_set_ne (by omega)]; exact hc.c0, by rw [List.getElem?_set_ne (by omega)]; exact hc.c1, by rw [List.getElem?_set_ne (by omega)]; exact hc.c2, by rw [List.getElem?_set_ne (by omega)]; exact hc.c3, by simp [List.getElem?_set]; omega, by rw [List.getElem?_set_ne (by omega)]; exact hc.c5, by rw [List.getElem?_set_ne (by omega)]; exact hc.c6⟩)
theorem PartN.st5 (h : PartN w base g c m l j xs A C) {k : Nat} {n : Nd} (hk : k < j) (hn : l[k]? = some n) (hm : k < m) (v : Bool) :
    PartN (w.setCell ⟨g, k * 7 + 5, none⟩ (.bool v)) base g c m (l.set k { n with slot := v }) j (xs.set (k * 7 + 5) (.bool v)) A C := by
  have hlen := h.own.1
  exact h.store (k := k) (t := 5) (n' := { n with slot := v }) (v := .bool v) hk hn (by omega) rfl (h.name k n hk hn) (fun hc => ⟨by rw [List.getElem?_set_ne (by omega)]; exact hc.c0, by rw [List.getElem?_set_ne (by omega)]; exact hc.c1, by rw [List.getElem?_set_ne (by omega)]; exact hc.c2, by rw [List.getElem?_set_ne (by omega)]; exact hc.c3, by rw [List.getElem?_set_ne (by omega)]; exact hc.c4, by simp [List.getElem?_set]; omega, by rw [List.getElem?_set_ne (by omega)]; exact hc.c6⟩)
end

/-- What markNodeS answers and leaves. -/
def MarkedN (w : World) (lo hi : Nat) (ao : Option Addr) (c : Nat) (l : List Nd) (k : Int) (e : Ending) (w' : World) : Prop :=
  e = .returned (.int .i64 (k + mlen l)) ∧ OwnH w' lo hi ao c (markL l k) ∧ Frame lo hi w w'

set_option maxRecDepth 100000 in
set_option maxHeartbeats 4000000 in
theorem markNodeS_any (lo hi : Nat) (ao : Option Addr) (c : Nat) (l : List Nd) (k : Int) (w : World) (h : OwnH w lo hi ao c l) (hl : l.length ≤ 1048576) (h0 : 0 ≤ k) (hk : k + mlen l ≤ 1000000000) :
    Calls Tryz.prog 30 #[.slice ao l.length c, .int .i64 k] w (MarkedN w lo hi ao c l k) := by
  rcases h with rfl | ⟨g, xs, A, C, rfl, hp, hg, hA⟩
  · go_enter Tryz.func30, Tryz.ntmps30
    go_wp2_with fail
    refine wp_loop_rounds 1 ?_; rw [rounds_succ]; go_wp2_with fail
    go_ret
    exact ⟨ret_int (by simp [mlen_nil]), .inl rfl, Frame.refl _ _ _⟩
  · have HA := Lib.hid hA; clear hA
    have hlo := (owns_block hp.own).1
    have P0 : Hid (∃ xs, PartN w lo g c l.length (mixL l 0 k) l.length xs A C) := by
      refine ⟨xs, ?_⟩
      have e : mixL l 0 k = l := by simp [mixL, markL]
      rw [e]; exact hp
    clear hp
    go_enter Tryz.func30, Tryz.ntmps30
    go_wp2_with fail
    go_loopw [1, 5] (fun q i wr => ∃ j : Nat, j ≤ l.length ∧ i = .int .i64 j ∧ q = .int .i64 (k + mlen (l.take j)) ∧ (∃ xs, PartN wr lo g c l.length (mixL l j k) l.length xs A C) ∧ Frame lo hi w wr) (fun _ i _ => l.length - (intOf i).toNat)
    case atStart => exact ⟨0, Nat.zero_le _, rfl, by simp [mlen_nil], P0.out, Frame.refl _ _ _⟩
    case round =>
      clear P0
      obtain ⟨j, hj, rfl, rfl, ⟨ys, hp⟩, hf⟩ := hrel
      have HF := Lib.hid hf; clear hf
      have m0 := mlen_pos (l.take j)
      have m1 := mlen_take_le l j
      by_cases hlt : j < l.length
      · have hn0 : l[j]? = some l[j] := List.getElem?_eq_getElem hlt
        generalize l[j] = n at hn0
        have hn := mixL_at (k := k) hn0
        have MT := Lib.hid (mlen_take hn0)
        have MS := Lib.hid (mixL_step (k := k) hn0)
        have m2 : k + (mlen (l.take j) + 6 + n.cols.length) ≤ 1000000000 := by have := mlen_take_le l (j + 1); rw [MT.out] at this; omega
        clear hn0
        generalize hkk : k + mlen (l.take j) = kk at MS ⊢
        have hk0 : 0 ≤ kk := by omega
        have hk1 : kk + 6 + n.cols.length ≤ 1000000000 := by omega
        have KK := Lib.hid hkk; clear hkk
        obtain ⟨y0, e0⟩ := hp.some_ (o := j * 7) (by omega)
        have hf0 := hp.frozen
        have HN := Lib.hid hn; clear hn
        have HP := Lib.hid hp; clear hp
        go_wp2_with fail
        refine (markText_any (kk + 1) _ (by omega)).mono ?_
        rintro e w1 ⟨rfl, b1⟩
        have P1 := Lib.hid ((HP.out.st0 hlt HN.out hlt kk).below b1)
        have F1 := Lib.hid ((HF.out.trans (Frame.setCell (p := ⟨g, j * 7 + 0, none⟩) hlo hg (.int .i64 kk))).trans (Frame.of_below b1))
        clear b1
        obtain ⟨y1, e1⟩ := P1.out.some_ (o := j * 7 + 1) (by omega)
        obtain ⟨y2, e2⟩ := P1.out.some_ (o := j * 7 + 2) (by omega)
        obtain ⟨y3, e3⟩ := P1.out.some_ (o := j * 7 + 3) (by omega)
        obtain ⟨y4, e4⟩ := P1.out.some_ (o := j * 7 + 4) (by omega)
        obtain ⟨y5, e5⟩ := P1.out.some_ (o := j * 7 + 5) (by omega)
        have hf1 := P1.out.frozen
        have HN1 := Lib.hid (show ((mixL l j k).set j { n with kind := kk })[j]? = some { n with kind := kk } from List.getElem?_set_self (by rw [mixL_len]; exact hlt))
        have e6 : w1.cell? ⟨g, j * 7 + 6, none⟩ = some (.slice (A j) n.cols.length (C j)) := (P1.out.cellAt (by omega)).trans (P1.out.cells j _ hlt HN1.out).c6
        have z0 : ∀ n' : Nd, ((mixL l j k).set j n')[j]? = some n' := fun n' => List.getElem?_set_self (by rw [mixL_len]; exact hlt)
        have Q1 := Lib.hid (P1.out.st1 hlt HN1.out hlt (mtext (kk + 1)) (by have := mtext_size (kk + 1); unfold maxLen; omega))
        have Q2 := Lib.hid (Q1.out.st2 hlt (by rw [List.set_set]; exact z0 _) hlt (kk + 1 + 1))
        have Q3 := Lib.hid (Q2.out.st3 hlt (by rw [List.set_set, List.set_set]; exact z0 _) hlt (kk + 1 + 1 + 1))
        have Q4 := Lib.hid (Q3.out.st4 hlt (by rw [List.set_set, List.set_set, List.set_set]; exact z0 _) hlt (kk + 1 + 1 + 1 + 1))
        have Q5 := Lib.hid (Q4.out.st5 hlt (by rw [List.set_set, List.set_set, List.set_set, List.set_set]; exact z0 _) hlt ((kk + 1 + 1 + 1 + 1 + 1) % 3 == 0))
        have N5 := Lib.hid (show ((((((mixL l j k).set j { n with kind := kk }).set j { n with kind := kk, name := mtext (kk + 1) }).set j { n with kind := kk, name := mtext (kk + 1), col := kk + 1 + 1 }).set j { n with kind := kk, name := mtext (kk + 1), col := kk + 1 + 1, op := kk + 1 + 1 + 1 }).set j { n with kind := kk, name := mtext (kk + 1), col := kk + 1 + 1, op := kk + 1 + 1 + 1, num := kk + 1 + 1 + 1 + 1 }).set j { n with kind := kk, name := mtext (kk + 1), col := kk + 1 + 1, op := kk + 1 + 1 + 1, num := kk + 1 + 1 + 1 + 1, slot := (kk + 1 + 1 + 1 + 1 + 1) % 3 == 0 } = (mixL l j k).set j { n with kind := kk, name := mtext (kk + 1), col := kk + 1 + 1, op := kk + 1 + 1 + 1, num := kk + 1 + 1 + 1 + 1, slot := (kk + 1 + 1 + 1 + 1 + 1) % 3 == 0 } by rw [List.set_set, List.set_set, List.set_set, List.set_set, List.set_set])
        have F2 := Lib.hid (((((F1.out.trans (Frame.setCell (p := ⟨g, j * 7 + 1, none⟩) hlo hg (.string (mtext (kk + 1))))).trans (Frame.setCell (p := ⟨g, j * 7 + 2, none⟩) hlo hg (.int .i64 (kk + 1 + 1)))).trans (Frame.setCell (p := ⟨g, j * 7 + 3, none⟩) hlo hg (.int .i64 (kk + 1 + 1 + 1)))).trans (Frame.setCell (p := ⟨g, j * 7 + 4, none⟩) hlo hg (.int .i64 (kk + 1 + 1 + 1 + 1)))).trans (Frame.setCell (p := ⟨g, j * 7 + 5, none⟩) hlo hg (.bool ((kk + 1 + 1 + 1 + 1 + 1) % 3 == 0))))
        clear P1 F1 Q1 Q2 Q3 Q4 HN1 z0
        go_wp2_with fail
        have hz5 := N5.out ▸ Q5.out
        have hn5 : ((mixL l j k).set j { n with kind := kk, name := mtext (kk + 1), col := kk + 1 + 1, op := kk + 1 + 1 + 1, num := kk + 1 + 1 + 1 + 1, slot := (kk + 1 + 1 + 1 + 1 + 1) % 3 == 0 })[j]? = some { n with kind := kk, name := mtext (kk + 1), col := kk + 1 + 1, op := kk + 1 + 1 + 1, num := kk + 1 + 1 + 1 + 1, slot := (kk + 1 + 1 + 1 + 1 + 1) % 3 == 0 } := List.getElem?_set_self (by rw [mixL_len]; exact hlt)
        have O5 := Lib.hid (hz5.cols j _ hlt hn5)
        have Z5 := Lib.hid hz5
        have HN5 := Lib.hid hn5
        clear hz5 hn5
        refine (markIntS_own lo (A j) (C j) n.cols (kk + 1 + 1 + 1 + 1 + 1 + 1) _ O5.out (by omega) (by omega)).mono ?_
        rintro e w3 ⟨rfl, o3, g3⟩
        have P3 := Lib.hid (Z5.out.marked hlt HN5.out (by rw [marksL_len]) g3 o3)
        have hAj : ∀ x, A j = some x → lo ≤ x.block ∧ x.block < hi := fun x hx => ⟨(O5.out.lt x hx).1, HA.out j x hlt hx⟩
        have F3 := Lib.hid (F2.out.trans (Frame.of_grown g3 (by
          intro gg hgg
          cases hA : A j with
          | none => rw [hA] at hgg; cases hgg
          | some x => rw [hA] at hgg; simp at hgg; subst hgg; exact hAj x hA)))
        clear o3 g3 hAj F2
        go_wp2_with fail
        go_roundw
        case rel => exact ⟨j + 1, by omega, by go_num, by rw [MT.out]; have := KK.out; congr 1; omega, ⟨_, by
          have := P3.out
          rw [List.set_set] at this
          rw [← MS.out]
          exact this⟩, F3.out⟩
        case measure => simp [intOf]; omega
      · obtain rfl : j = l.length := by omega
        have HP := Lib.hid hp; clear hp
        go_wp2_with fail
        go_ret
        have e : mixL l l.length k = markL l k := by simp [mixL]
        refine ⟨ret_int (by rw [List.take_length]), .inr ⟨g, ys, A, C, rfl, ?_, hg, ?_⟩, HF.out⟩
        · have := HP.out; rw [e] at this; rw [markL_len]; exact this
        · rw [markL_len]; exact HA.out
end Go.Proofs.YtanfllednlpbaaaGreat
namespace Go.Proofs.YtanfllednlpbaaaGreat
open Go.RowKit
set_option linter.unusedSimpArgs false
set_option linter.unusedVariables false

theorem Frame.widen {lo hi lo' hi' : Nat} {w w' : World} (h : Frame lo hi w w') (h1 : lo' ≤ lo) (h2 : hi ≤ hi') : Frame lo' hi' w w' :=
  ⟨h.os, h.tape, h.output, h.size, fun i hi0 h3 => h.block i hi0 (by omega)⟩
/-- A slice of lists of rows of the call's own, all of it below hi. -/
def OwnRRH (w : World) (lo hi : Nat) (ao : Option Addr) (c : Nat) (l : List (List (List Int))) : Prop :=
  l = [] ∨ ∃ g xs A C R, ao = some ⟨g, 0, none⟩ ∧ PartRR w lo g c l.length l l.length xs A C R ∧ R l.length ≤ hi
section
variable {w w' : World} {base g c m : Nat} {l : List (List (List Int))} {j : Nat} {xs : List Value} {A : Nat → Option Addr} {C R : Nat → Nat}
theorem PartRR.upto (h : PartRR w base g c m l j xs A C R) : ∀ d i, i + d ≤ j → R i ≤ R (i + d) := by
  intro d
  induction d with
  | zero => intro i _; exact Nat.le_refl _
  | succ d ih => intro i hi; exact Nat.le_trans (ih i (by omega)) (h.mono (i + d) (by omega))
end
section
variable {w w' : World} {base lo hi c : Nat} {ao : Option Addr} {l : List (List (List Int))}
theorem OwnRR.top (h : OwnRR w base ao c l) : OwnRRH w base w.heap.size ao c l := by
  rcases h with h | ⟨g, xs, A, C, R, he, hp⟩
  · exact .inl h
  · exact .inr ⟨g, xs, A, C, R, he, hp, hp.last⟩
theorem OwnRRH.below (h : OwnRRH w lo hi ao c l) (hb : Below w.heap.size w w') : OwnRRH w' lo hi ao c l := by
  rcases h with h | ⟨g, xs, A, C, R, he, hp, h1⟩
  · exact .inl h
  · exact .inr ⟨g, xs, A, C, R, he, hp.below hb, h1⟩
theorem OwnRRH.rd (h : OwnRRH w lo hi ao c l) : RdRR w ao l := by
  rcases h with h | ⟨g, xs, A, C, R, he, hp, _⟩
  · exact .inl h
  · exact OwnRR.rd (base := lo) (c := c) (.inr ⟨g, xs, A, C, R, he, hp⟩)
theorem OwnRRH.frame {lo' hi' : Nat} (h : OwnRRH w lo hi ao c l) (hf : Frame lo' hi' w w') (hd : hi ≤ lo' ∨ hi' ≤ lo) : OwnRRH w' lo hi ao c l := by
  rcases h with h | ⟨g, xs, A, C, R, he, hp, h1⟩
  · exact .inl h
  · have hg := owns_block hp.own
    have h0 := hp.first
    have hup : ∀ i, i ≤ l.length → R 0 ≤ R i ∧ R i ≤ R l.length := fun i hi => ⟨hp.ge i hi, by have := hp.upto (l.length - i) i (by omega); rwa [show i + (l.length - i) = l.length by omega] at this⟩
    have h2 := (hup l.length (Nat.le_refl _)).1
    refine .inr ⟨g, xs, A, C, R, he, ⟨owns_keep hp.own (hf.block g hg.2 (by omega)), hp.cells, fun i n hi hn => ?_, hp.mono, hp.first, Nat.le_trans hp.last hf.size⟩, h1⟩
    have hr := hp.rows i n hi hn
    refine ⟨hr.1.frame hf ?_, hr.2⟩
    have h3 := hup (i + 1) (by omega)
    have h4 := hup i (by omega)
    omega
end

set_option maxRecDepth 100000 in
set_option maxHeartbeats 1600000 in
theorem markIntSSS_any (lo hi : Nat) (ao : Option Addr) (c : Nat) (l : List (List (List Int))) (k : Int) (w : World) (h : OwnRRH w lo hi ao c l) (hl : l.length ≤ 1048576) (hc : ∀ r ∈ l, r.length ≤ 1048576) (h0 : 0 ≤ k) (hk : k + totRR l ≤ 1000000000) :
    Calls Tryz.prog 29 #[.slice ao l.length c, .int .i64 k] w fun e w' => ∃ r : Int, e = .returned (.int .i64 r) ∧ 0 ≤ r ∧ r ≤ k + totRR l ∧ Frame lo hi w w' := by
  rcases h with rfl | ⟨g, xs, A, C, R, rfl, hp, hh⟩
  · go_enter Tryz.func29, Tryz.ntmps29
    go_wp2_with fail
    refine wp_loop_rounds 1 ?_; rw [rounds_succ]; go_wp2_with fail
    go_ret
    exact ⟨k, rfl, h0, by simp [totRR], Frame.refl _ _ _⟩
  · have HP := Lib.hid hp
    have HC := Lib.hid hc
    have hgw : g < w.heap.size := (owns_block hp.own).2
    have hlo : lo ≤ R 0 := by have := (owns_block hp.own).1; have := hp.first; omega
    clear hp hc
    go_enter Tryz.func29, Tryz.ntmps29
    go_wp2_with fail
    go_loopw [1, 5] (fun q i wr => ∃ (j : Nat) (m : Int), j ≤ l.length ∧ i = .int .i64 j ∧ q = .int .i64 m ∧ 0 ≤ m ∧ m ≤ k + totRR (l.take j) ∧ Frame (R 0) (R j) w wr) (fun _ i _ => l.length - (intOf i).toNat)
    case atStart => exact ⟨0, k, Nat.zero_le _, rfl, rfl, h0, by simp [totRR], Frame.refl _ _ _⟩
    case round =>
      obtain ⟨j, m, hj, rfl, rfl, hm0, hm1, hf⟩ := hrel
      have M1 := Lib.hid hm1; clear hm1
      by_cases hlt : j < l.length
      · have hn0 : l[j]? = some l[j] := List.getElem?_eq_getElem hlt
        generalize l[j] = r at hn0
        have hat := (HP.out.at_ hlt hlt hn0).1
        rw [Nat.zero_add] at hat
        have c0 := (World.cell?_of_block (a := ⟨g, j, none⟩) (hf.block g hgw (.inl HP.out.first))).trans hat
        have OJ := Lib.hid ((HP.out.rows j r hlt hn0).1.frame hf (.inr (Nat.le_refl _)))
        have HF := Lib.hid hf
        have MT := Lib.hid (totRR_take hn0)
        have hrl := HC.out r (List.mem_of_getElem? hn0)
        have tk : totRR (l.take (j + 1)) ≤ totRR l := by
          have e := fun a b : List (List (List Int)) => (show totRR (a ++ b) = totRR a + totRR b by simp [totRR])
          have e := e (l.take (j + 1)) (l.drop (j + 1))
          rw [List.take_append_drop] at e
          omega
        have m2 : m + totR r ≤ 1000000000 := by have := MT.out; have := M1.out; omega
        clear hn0 hf hat tk
        generalize hAj : A j = aj at c0 OJ
        generalize hCj : C j = cj at c0 OJ
        clear hAj hCj
        go_wp2_with fail
        refine (markIntSS_any (R j) (R (j + 1)) aj cj r m _ OJ.out hrl hm0 m2).mono ?_
        rintro e w1 ⟨rfl, _, f1⟩
        have F1 := Lib.hid ((HF.out.widen (Nat.le_refl _) (HP.out.mono j hlt)).trans (f1.widen (HP.out.ge j hj) (Nat.le_refl _)))
        clear f1
        go_wp2_with fail
        go_roundw
        case rel => exact ⟨j + 1, m + totR r, by omega, by go_num, rfl, by omega, by have := MT.out; have := M1.out; omega, F1.out⟩
        case measure => simp [intOf]; omega
      · obtain rfl : j = l.length := by omega
        have HF := Lib.hid hf; clear hf
        go_wp2_with fail
        go_ret
        exact ⟨m, rfl, hm0, by have := M1.out; rwa [List.take_length] at this, HF.out.widen hlo hh⟩
end Go.Proofs.YtanfllednlpbaaaGreat
