/-
  A schema's bytes, as plain lists. No program, no walk. Contract of spec.SchemaOk. For every slice of tables. Contract of spec.EncodeSchema. For every slice of tables.
-/
import Derived.Test.YtcegekkhlfpgfaaIPutWord
import Derived.Test.YtcegekkhlfpgfaaFrame
import Derived.Test.YtcegekkhlfpgfaaPutNums
import Derived.Test.YtcegekkhlfpgfaaTbP
import Derived.Test.YtcegekkhlfpgfaaWord
import Derived.Deep.RegionWith
import Derived.Deep.QuietTactic
import Derived.Test.YtcegekkhlfpgfaaPutWord
import Derived.Deep.RegionHeld3
namespace Go.Proofs.Ytcegekkhlfpgfaa
open Go.RowKit
set_option linter.unusedSimpArgs false
set_option linter.unusedVariables false

def putTb (t : Tb) : List Int := putW t.name ++ putN t.width
def preQ (l : List Tb) (j : Nat) : List Int := putN l.length ++ (l.take j).flatMap putTb
def encQ (l : List Tb) : List Int := if schemaB l then frameL (preQ l l.length) else []
theorem putTb_len (t : Tb) : (putTb t).length ≤ 18 := by
  have := putW_len t.name; have := putN_len t.width
  simp only [putTb, List.length_append]; omega
theorem putTb_by (t : Tb) : By (putTb t) := (putW_by _).app (putN_by _)
theorem preQ_zero (l : List Tb) : preQ l 0 = putN l.length := by simp [preQ]
theorem preQ_succ {l : List Tb} {j : Nat} {t : Tb} (h : l[j]? = some t) : preQ l (j + 1) = preQ l j ++ putTb t := by
  simp [preQ, List.take_add_one, h, List.flatMap_append]
theorem flatQ_len : ∀ l : List Tb, (l.flatMap putTb).length ≤ 18 * l.length
  | [] => by simp
  | t :: l => by
    have := flatQ_len l
    have := putTb_len t
    simp only [List.flatMap_cons, List.length_append, List.length_cons]; omega
theorem flatQ_by : ∀ l : List Tb, By (l.flatMap putTb)
  | [] => by simp [By.nil]
  | t :: l => by rw [List.flatMap_cons]; exact (putTb_by t).app (flatQ_by l)
theorem preQ_by (l : List Tb) (j : Nat) : By (preQ l j) := (putN_by _).app (flatQ_by _)
theorem preQ_len {l : List Tb} (j : Nat) (h : l.length ≤ 8) : (preQ l j).length ≤ 147 := by
  have h1 := putN_len l.length
  have h2 := flatQ_len (l.take j)
  have h3 : (l.take j).length ≤ l.length := by simp; omega
  simp only [preQ, List.length_append]; omega
theorem encQ_yes {l : List Tb} (h : schemaB l = true) : encQ l = frameL (preQ l l.length) := by unfold encQ; rw [if_pos h]
theorem encQ_no {l : List Tb} (h : schemaB l = false) : encQ l = [] := by unfold encQ; rw [if_neg (by simp [h])]
theorem encQ_by (l : List Tb) : By (encQ l) := by
  unfold encQ; split
  · exact frameL_by (preQ_by _ _)
  · exact By.nil
theorem encQ_len (l : List Tb) : (encQ l).length ≤ 4008 := by
  unfold encQ; split
  · exact frameL_len _
  · simp
theorem schemaB_l8 {l : List Tb} (h : schemaB l = true) : l.length ≤ 8 := (schemaB_iff.1 h).1
end Go.Proofs.Ytcegekkhlfpgfaa
namespace Go.Proofs.Ytcegekkhlfpgfaa
open Go.RowKit
set_option linter.unusedSimpArgs false
set_option linter.unusedVariables false

theorem specWordOk_is {s : ByteArray} {r : Bool} (hr : wordB s.data.toList = r) (w : World) (hs : s.size ≤ maxLen) :
    Calls Try.prog 60 #[.string s] w fun e w' => e = .returned (.bool r) ∧ ∃ m, w' = w.drewN m := by
  rw [← hr]
  refine (specWordOk_any s w hs).mono ?_
  rintro e w' ⟨rfl, rfl⟩; exact ⟨rfl, 0, rfl⟩
theorem l01In_is {x a b : Int} {r : Bool} (hr : (decide (a ≤ x) && decide (x ≤ b)) = r) (w : World) :
    Calls Try.prog 59 #[.int .i64 x, .int .i64 a, .int .i64 b] w fun e w' => e = .returned (.bool r) ∧ ∃ m, w' = w.drewN m := by
  rw [← hr]
  refine (l01In_any x a b w).mono ?_
  rintro e w' ⟨rfl, rfl⟩; exact ⟨rfl, 0, rfl⟩
theorem schema_table {l : List Tb} {j : Nat} {t : Tb} (ht : l[j]? = some t) (h : tableB t = false) : schemaB l = false :=
  schemaB_no fun hh => by have := hh.2.1 t (List.mem_of_getElem? ht); rw [h] at this; cases this
theorem schema_order {l : List Tb} {j : Nat} {s t : Tb} (hs : l[j]? = some s) (ht : l[j + 1]? = some t) (h : lessS s.name t.name = false) : schemaB l = false :=
  schemaB_no fun hh => by
    have := ascT_neigh hh.2.2 hs ht
    unfold lessS at h
    simp only [decide_eq_false_iff_not] at h
    exact h this

set_option maxRecDepth 100000 in
set_option maxHeartbeats 4000000 in
theorem specSchema_any (ao : Option Addr) (c : Nat) (l : List Tb) (w : World) (h : RdT w ao l) (hl : l.length ≤ 4194304) :
    Calls Try.prog 54 #[.slice ao l.length c] w fun e w' => e = .returned (.bool (schemaB l)) ∧ Below w.heap.size w w' := by
  have H := Lib.hid h; clear h
  by_cases h8 : 8 < l.length
  · have h8' : (8 : Int) < l.length := by omega
    have E := Lib.hid (schemaB_no (l := l) fun hh => by omega)
    go_enter Try.func54, Try.ntmps54
    go_wp2_with fail
    go_ret
    exact ⟨ret_bool E.out.symm, Below.refl _ _⟩
  have h8' : (l.length : Int) ≤ 8 := by omega
  clear h8 hl
  go_enter Try.func54, Try.ntmps54
  go_wp2_with fail
  go_loopw [3] (fun i wr => ∃ j : Nat, j ≤ l.length ∧ i = .int .i64 j ∧ (∀ t ∈ l.take j, tableB t = true) ∧ AscT (l.take j) ∧ Below w.heap.size w wr) (fun i _ => l.length - (intOf i).toNat)
  case atStart => exact ⟨0, Nat.zero_le _, rfl, (fun t h => by cases h), List.Pairwise.nil, Below.refl _ _⟩
  case round =>
    obtain ⟨j, hj, rfl, ht, ha, hb⟩ := hrel
    have TA := Lib.hid ht; have AS := Lib.hid ha; have HB := Lib.hid hb
    have HR := Lib.hid (H.out.below hb)
    clear ht ha hb
    by_cases hlt : j < l.length
    · obtain ⟨b, off, t, rfl, hn, hat⟩ := HR.out.at_ hlt
      have HN := Lib.hid hn; clear hn
      obtain ⟨c0, c1, nm⟩ := hat
      have hlt' : (j : Int) < l.length := by omega
      cases hw : wordB t.key with
      | false =>
        have HW := Lib.hid (show wordB t.name.data.toList = false from hw)
        have E := Lib.hid (schema_table HN.out (by unfold tableB; rw [hw]; rfl))
        clear hw
        go_wp2_with fail
        go_quiet ((go_at_call 60; exact Calls.quiet_of (specWordOk_is HW.out _ nm)))
        all_goals
          go_wp2_with fail
          go_ret
          exact ⟨ret_bool E.out.symm, below_drewN HB.out _⟩
      | true =>
        have HW := Lib.hid (show wordB t.name.data.toList = true from hw)
        cases hi : (decide (1 ≤ t.width) && decide (t.width ≤ 6)) with
        | false =>
          have HI := Lib.hid hi
          have E := Lib.hid (schema_table HN.out (by unfold tableB; rw [hw, Bool.true_and]; simpa using hi))
          clear hw hi
          go_wp2_with fail
          go_quiet (first | (go_at_call 60; exact Calls.quiet_of (specWordOk_is HW.out _ nm)) | (go_at_call 59; exact Calls.quiet_of (l01In_is HI.out _)))
          all_goals
            go_wp2_with fail
            go_ret
            exact ⟨ret_bool E.out.symm, below_drewN HB.out _⟩
        | true =>
          have HI := Lib.hid hi
          have TT := Lib.hid (show tableB t = true by unfold tableB; rw [hw, Bool.true_and]; simpa using hi)
          clear hw hi
          have TN := Lib.hid (show ∀ s ∈ l.take (j + 1), tableB s = true by
            intro s hs
            rw [List.take_add_one, HN.out] at hs
            rcases List.mem_append.1 hs with h1 | h1
            · exact TA.out s h1
            · simp at h1; subst h1; exact TT.out)
          by_cases hj0 : j = 0
          · have AN := Lib.hid (ascT_succ AS.out HN.out fun s h => by omega)
            have hz : (j : Int) ≤ 0 := by omega
            have hd : decide (0 < j) = false := by simp; omega
            clear hj0
            go_wp2_with fail
            go_quiet (first | (go_at_call 60; exact Calls.quiet_of (specWordOk_is HW.out _ nm)) | (go_at_call 59; exact Calls.quiet_of (l01In_is HI.out _)))
            all_goals
              go_wp2_with fail
              go_roundw
              case rel => exact ⟨j + 1, by omega, by go_num, TN.out, AN.out, below_drewN HB.out _⟩
              case measure => simp [intOf]; omega
          · obtain ⟨i, rfl⟩ : ∃ i, j = i + 1 := ⟨j - 1, by omega⟩
            obtain ⟨b', off', s, hbo, hs, has⟩ := HR.out.at_ (i := i) (by omega)
            simp only [Option.some.injEq, Addr.mk.injEq, and_true] at hbo
            obtain ⟨rfl, rfl⟩ := hbo
            have HS := Lib.hid hs; clear hs
            obtain ⟨d0, d1, ns⟩ := has
            have hi1 : (0 : Int) ≤ (i + 1 : Nat) - 1 := by omega
            have hi2 : (((i + 1 : Nat) : Int) - 1) < l.length := by omega
            have hi3 : (((i + 1 : Nat) : Int) - 1).toNat = i := by omega
            cases hls : lessS s.name t.name with
            | true =>
              have LS := Lib.hid hls
              have AN := Lib.hid (ascT_succ AS.out HN.out fun s' _ hs' => by
                rw [show i + 1 - 1 = i by omega, HS.out] at hs'
                injection hs' with hs'; subst hs'
                exact of_decide_eq_true hls)
              clear hls
              go_wp2_with fail
              go_quiet (first | (go_at_call 60; exact Calls.quiet_of (specWordOk_is HW.out _ nm)) | (go_at_call 59; exact Calls.quiet_of (l01In_is HI.out _)) | (go_at_call 74; exact Calls.quiet_of (l01Less_is LS.out _ ns nm)))
              all_goals
                go_wp2_with fail
                go_roundw
                case rel => exact ⟨i + 1 + 1, by omega, by go_num, TN.out, AN.out, below_drewN HB.out _⟩
                case measure => simp [intOf]; omega
            | false =>
              have LS := Lib.hid hls
              have E := Lib.hid (schema_order HS.out HN.out hls)
              clear hls
              go_wp2_with fail
              go_quiet (first | (go_at_call 60; exact Calls.quiet_of (specWordOk_is HW.out _ nm)) | (go_at_call 59; exact Calls.quiet_of (l01In_is HI.out _)) | (go_at_call 74; exact Calls.quiet_of (l01Less_is LS.out _ ns nm)))
              all_goals
                go_wp2_with fail
                go_ret
                exact ⟨ret_bool E.out.symm, below_drewN HB.out _⟩
    · obtain rfl : j = l.length := by omega
      have E := Lib.hid (schemaB_iff.2 ⟨show l.length ≤ 8 by omega, by have := TA.out; rwa [List.take_length] at this, by have := AS.out; rwa [List.take_length] at this⟩)
      go_wp2_with fail
      go_ret
      exact ⟨ret_bool E.out.symm, HB.out⟩
end Go.Proofs.Ytcegekkhlfpgfaa
namespace Go.Proofs.Ytcegekkhlfpgfaa
open Go.RowKit
set_option linter.unusedSimpArgs false
set_option linter.unusedVariables false

def EzRel (w wr : World) (p : List Tb) (v i : Value) : Prop :=
  ∃ (ao : Option Addr) (c n j : Nat), v = .slice ao n c ∧ i = .int .i64 j ∧ n = (preQ p j).length ∧ j ≤ p.length ∧ Own wr w.heap.size 5 .u8 ao c (preQ p j) ∧ Below w.heap.size w wr

set_option maxRecDepth 100000 in
set_option maxHeartbeats 1600000 in
theorem specEncodeSchema_any (ao : Option Addr) (c : Nat) (p : List Tb) (w : World) (h : RdT w ao p) (hp : p.length ≤ 4194304) :
    Calls Try.prog 25 #[.slice ao p.length c] w (Made2 w 5 .u8 (encQ p) (schemaB p)) := by
  have H := Lib.hid h; clear h
  have PO := Lib.hid (fun w h => specSchema_any ao c p w h hp)
  cases hg : schemaB p with
  | false =>
    rw [encQ_no hg]
    rw [hg] at PO
    clear hg
    go_enter Try.func25, Try.ntmps25
    go_wp2_with fail
    refine (PO.out _ H.out).mono ?_
    rintro e w1 ⟨rfl, b1⟩
    go_wp2_with fail
    go_ret2
    exact ⟨none, 0, rfl, Own.none_, b1⟩
  | true =>
    rw [hg] at PO
    have hl8 := schemaB_l8 hg
    have E := Lib.hid (encQ_yes hg)
    clear hg
    obtain ⟨q0, hq0⟩ : ∃ q, q = putN (p.length : Int) := ⟨_, rfl⟩
    have P0 : Hid (∀ w : World, Calls Try.prog 32 #[.int .i64 p.length] w (Made w 5 .u8 q0)) := by rw [hq0]; exact fun w => specPutNum_any _ w
    have HQ0 := Lib.hid hq0; clear hq0
    go_enter Try.func25, Try.ntmps25
    go_wp2_with fail
    refine (PO.out _ H.out).mono ?_
    rintro e w1 ⟨rfl, b1⟩
    have B1 := Lib.hid b1; clear b1
    go_wp2_with fail
    refine (P0.out _).mono ?_
    rintro e w2 ⟨a2, c2, rfl, o2, b2⟩
    have B2 := Lib.hid (below_step B1.out (Nat.le_refl _) b2); have O2 := Lib.hid (o2.base_le B1.out.size)
    clear o2 b2
    go_wp2_with fail
    go_loopw [4, 5] (fun v i wr => EzRel w wr p v i) (fun _ i _ => p.length - (intOf i).toNat)
    case atStart => exact ⟨a2, c2, _, 0, rfl, rfl, by rw [preQ_zero, ← HQ0.out], Nat.zero_le _, by rw [preQ_zero, ← HQ0.out]; exact O2.out, B2.out⟩
    case round =>
      obtain ⟨a3, c3, n3, j, rfl, rfl, hn3, hj, ho, hb⟩ := hrel
      have hpl := preQ_len j hl8
      have hpby := preQ_by p j
      obtain ⟨acc, hacc⟩ : ∃ acc, acc = preQ p j := ⟨_, rfl⟩
      rw [← hacc] at hn3 ho hpl hpby
      subst hn3
      have HACC := Lib.hid hacc; have HO := Lib.hid ho; have HB := Lib.hid hb; have HBY := Lib.hid hpby; clear hacc ho hb hpby
      by_cases hlt : j < p.length
      · obtain ⟨b, off, t, rfl, hn, hat⟩ := (H.out.below HB.out).at_ hlt
        have HN := Lib.hid hn; clear hn
        obtain ⟨c0, c1, nm⟩ := hat
        have hql := putTb_len t
        obtain ⟨q, hq⟩ : ∃ q, q = putW t.name := ⟨_, rfl⟩
        obtain ⟨u, hu⟩ : ∃ u, u = putN t.width := ⟨_, rfl⟩
        have HQ : Hid (putTb t = q ++ u) := by show _ = _; rw [hq, hu]; rfl
        rw [HQ.out, List.length_append] at hql
        have PW : Hid (∀ w : World, Calls Try.prog 34 #[.string t.name] w (Made w 5 .u8 q)) := by rw [hq]; exact fun w => specPutWord_any _ w nm
        have PN : Hid (∀ w : World, Calls Try.prog 32 #[.int .i64 t.width] w (Made w 5 .u8 u)) := by rw [hu]; exact fun w => specPutNum_any _ w
        have hbl : b < wr.heap.size := World.block_lt_of_cell? wr ⟨b, off + j * 2, none⟩ c0
        obtain ⟨J, hJ⟩ : ∃ J, J = acc ++ q := ⟨_, rfl⟩
        obtain ⟨K, hK⟩ : ∃ K, K = J ++ u := ⟨_, rfl⟩
        have J1 : Hid (∀ (W : World) (x y : Option Addr) (c c' : Nat), Rd W .u8 x acc → Rd W .u8 y q → Calls Try.prog 33 #[.slice x acc.length c, .slice y q.length c'] W (Made W 5 .u8 J)) := by rw [hJ]; exact fun W x y c c' h h' => l01Join_any x y c c' acc q W h h' (by omega)
        have J2 : Hid (∀ (W : World) (x y : Option Addr) (c c' : Nat), Rd W .u8 x J → Rd W .u8 y u → Calls Try.prog 33 #[.slice x J.length c, .slice y u.length c'] W (Made W 5 .u8 K)) := by rw [hK]; exact fun W x y c c' h h' => l01Join_any x y c c' J u W h h' (by rw [hJ, List.length_append]; omega)
        have HJK : Hid (K = acc ++ q ++ u) := by show _ = _; rw [hK, hJ]
        clear hq hu hJ hK
        have hj0 : (0 : Int) ≤ (j : Int) := Int.natCast_nonneg _
        have hj1 : (j : Int) < (p.length : Int) := by omega
        have KP : Hid (∀ w', Below wr.heap.size wr w' → w'.cell? ⟨b, off + j * 2, none⟩ = some (.string t.name) ∧ w'.cell? ⟨b, off + j * 2 + 1, none⟩ = some (.int .i64 t.width)) := fun w' hw => ⟨(hw.cell (p := ⟨b, off + j * 2, none⟩) hbl).trans c0, (hw.cell (p := ⟨b, off + j * 2 + 1, none⟩) hbl).trans c1⟩
        have D0 := Lib.hid (Below.refl wr.heap.size wr).drew
        go_wp2_with fail
        go_region_held3 (fun w' => w'.cell? ⟨b, off + j * 2, none⟩ = some (.string t.name) ∧ w'.cell? ⟨b, off + j * 2 + 1, none⟩ = some (.int .i64 t.width))
          (first | exact KP.out _ D7 | exact KP.out _ D6 | exact KP.out _ D5 | exact KP.out _ D4 | go_keep)
          (first
            | (go_at_call 34; refine (PW.out _).mono ?_; rintro e w4 ⟨a4, c4', rfl, o4, b4⟩; have D4 := below_step D0.out (Nat.le_refl _) b4)
            | (go_at_call 33; refine (J2.out _ a5 a6 c5 c6 (o5.below b6).rd o6.rd).mono ?_; rintro e w7 ⟨a7, c7, rfl, o7, b7⟩; have D7 := below_step D6 (Nat.le_refl _) b7)
            | (go_at_call 32; refine (PN.out _).mono ?_; rintro e w6 ⟨a6, c6, rfl, o6, b6⟩; have D6 := below_step D5 (Nat.le_refl _) b6)
            | (go_at_call 33; refine (J1.out _ a3 a4 c3 c4' (HO.out.below D4).rd o4.rd).mono ?_; rintro e w5 ⟨a5, c5, rfl, o5, b5⟩; have D5 := below_step D4 (Nat.le_refl _) b5))
        all_goals
          have hz6 := D6.size
          have O7 := Lib.hid (o7.base_le (base' := w.heap.size) (Nat.le_trans HB.out.size hz6))
          have B7 := Lib.hid (below_step HB.out (Nat.le_refl _) D7)
          clear o7 b7 D7 D6 D5 D4 o6 b6 o5 b5 o4 b4 hz6
          go_wp2_with fail
          go_roundw
          case rel =>
            have e1 : K = preQ p (j + 1) := by rw [HJK.out, preQ_succ HN.out, HACC.out, HQ.out, List.append_assoc]
            refine ⟨a7, c7, _, j + 1, rfl, by go_num, by rw [← e1], by omega, ?_, B7.out⟩
            rw [← e1]
            exact O7.out
          case measure => simp [intOf]; omega
      · have e : encQ p = frameL acc := by rw [E.out, HACC.out, show j = p.length by omega]
        have FR := Lib.hid (specFrame_any a3 c3 acc wr HO.out.rd HBY.out (by unfold maxLen; omega))
        rw [show decide (acc.length ≤ 4000) = true by simp; omega, ← e] at FR
        clear e
        go_wp2_with fail
        refine FR.out.mono ?_
        rintro e w4 ⟨a4, c4, rfl, o4, b4⟩
        have O4 := Lib.hid (o4.base_le HB.out.size); have B4 := Lib.hid (below_step HB.out (Nat.le_refl _) b4)
        clear o4 b4
        go_wp2_with fail
        go_ret2
        exact ⟨a4, c4, rfl, O4.out, B4.out⟩

end Go.Proofs.Ytcegekkhlfpgfaa
