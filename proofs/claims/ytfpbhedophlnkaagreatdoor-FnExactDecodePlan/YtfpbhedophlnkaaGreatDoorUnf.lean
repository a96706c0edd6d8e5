/-
  The contract of spec.Unframe. For every slice of bytes.
-/
import Derived.Test.YtfpbhedophlnkaaGreatDoorITake
import Derived.Test.YtfpbhedophlnkaaGreatDoorKD1
import Derived.Test.YtfpbhedophlnkaaGreatDoorWord
namespace Go.Proofs.YtfpbhedophlnkaaGreatDoor
open Go.RowKit
set_option linter.unusedSimpArgs false
set_option linter.unusedVariables false

/-- What stands behind the head: the number of bytes, these, and their sum, and nothing more. -/
def unfT (l : List Int) : Option (List Int) :=
  if (takeN l 2).2 < 0 ∨ (takeN l 2).1 < 0 ∨ 4000 < (takeN l 2).1 ∨ (l.length : Int) - (takeN l 2).2 < (takeN l 2).1 then none
  else if (takeN l ((takeN l 2).2 + (takeN l 2).1)).2 = l.length ∧ (takeN l ((takeN l 2).2 + (takeN l 2).1)).1 = chk ((l.drop (takeN l 2).2.toNat).take (takeN l 2).1.toNat) then some ((l.drop (takeN l 2).2.toNat).take (takeN l 2).1.toNat) else none
def unfL (l : List Int) : Option (List Int) := if l[0]? = some 80 ∧ l[1]? = some 83 then unfT l else none
def UnfPost (r : Option (List Int)) (w : World) (en : Ending) (w' : World) : Prop := Made2 w 5 .u8 (r.getD []) r.isSome en w'
theorem unf_no {r : Option (List Int)} {w w' : World} (h : r = none) (hb : Below w.heap.size w w') : UnfPost r w (.returned (.tuple #[.slice none 0 0, .bool false])) w' := by
  rw [h]; exact ⟨none, 0, rfl, Own.none_, hb⟩
theorem specCheckOf_n (ao : Option Addr) (c n : Nat) (l : List Int) (w : World) (h : Rd w .u8 ao l) (hb : By l) (hn : l.length ≤ maxLen) (e : l.length = n) :
    Calls Tryz.prog 119 #[.slice ao n c] w fun e w' => e = .returned (.int .i64 (chk l)) ∧ w = w' := by subst e; exact specCheckOf_any ao c l w h hb hn
theorem implCheckOf_n (ao : Option Addr) (c n : Nat) (l : List Int) (w : World) (h : Rd w .u8 ao l) (hb : By l) (hn : l.length ≤ maxLen) (e : l.length = n) :
    Calls Tryz.prog 118 #[.slice ao n c] w fun e w' => e = .returned (.int .i64 (chk l)) ∧ w = w' := by subst e; exact implCheckOf_any ao c l w h hb hn
theorem l01Bytes_n (b : Option Addr) (d n : Nat) (l : List Int) (w : World) (h : Rd w .u8 b l) (hn : l.length ≤ 70368744177664) (e : l.length = n) :
    Calls Tryz.prog 189 #[.slice b n d] w (Made w 5 .u8 l) := by subst e; exact l01Bytes_any b d l w h hn
theorem By.take_drop {l : List Int} (h : By l) (p q : Nat) : By ((l.drop p).take q) := fun z hz => h z (List.mem_of_mem_drop (List.mem_of_mem_take hz))
theorem rd_part {w : World} {b off p q : Nat} {l : List Int} (hc : ∀ i, i < l.length → w.cell? ⟨b, off + i, none⟩ = some (.int .u8 (l.getD i 0))) (hpq : p + q ≤ l.length) : Rd w .u8 (some ⟨b, off + p, none⟩) ((l.drop p).take q) := by
  refine .inr ⟨b, off + p, rfl, fun i hi => ?_⟩
  have hi' : i < q := by simp at hi; omega
  have h1 := hc (p + i) (by omega)
  rw [Nat.add_assoc, h1, List.getD_eq_getElem?_getD, List.getD_eq_getElem?_getD, List.getElem?_take, if_pos hi', List.getElem?_drop]

set_option maxRecDepth 100000 in
set_option maxHeartbeats 1600000 in
theorem specUnframe_any (b : Option Addr) (d : Nat) (l : List Int) (w : World) (h : Rd w .u8 b l) (hby : By l) (hl : l.length ≤ maxLen) (hd : l.length ≤ d) (hd2 : d ≤ maxLen) (hlim : l.length ≤ 1048576) :
    Calls Tryz.prog 125 #[.slice b l.length d] w (UnfPost (unfL l) w) := by
  have HL := Lib.hid hl
  unfold maxLen at hl hd2
  obtain ⟨r, hr⟩ : ∃ r, r = unfL l := ⟨_, rfl⟩
  rw [← hr]
  unfold unfL at hr
  by_cases h2 : l.length < 2
  · have hb2 : decide ((l.length : Int) < 2) = true := by simp; omega
    have e : r = none := by rw [hr, if_neg (by rw [List.getElem?_eq_none (show l.length ≤ 1 by omega)]; simp)]
    have HE := Lib.hid e; clear e hr h hby HL
    go_enter Tryz.func125, Tryz.ntmps125
    go_wp2
    go_ret2
    exact unf_no HE.out (Below.refl _ _)
  have hb2 : decide ((l.length : Int) < 2) = false := by simp; omega
  have i1 : (1 : Int) < l.length := by omega
  rcases h with rfl | ⟨b1, off, rfl, hc⟩
  · simp at h2
  have hx0 := List.getElem?_eq_getElem (show 0 < l.length by omega)
  have hx1 := List.getElem?_eq_getElem (show 1 < l.length by omega)
  have c0 : w.cell? ⟨b1, off, none⟩ = some (.int .u8 l[0]) := by have := hc 0 (by omega); rwa [List.getD_eq_getElem?_getD, hx0] at this
  have c1 : w.cell? ⟨b1, off + 1, none⟩ = some (.int .u8 l[1]) := by have := hc 1 (by omega); rwa [List.getD_eq_getElem?_getD, hx1] at this
  generalize l[0] = x0 at hx0 c0
  generalize l[1] = x1 at hx1 c1
  by_cases e0 : x0 = 80
  · by_cases e1 : x1 = 83
    · subst e0; subst e1
      rw [if_pos ⟨hx0, hx1⟩] at hr
      unfold unfT at hr
      have H : Hid (∀ w', Below w.heap.size w w' → Rd w' .u8 (some ⟨b1, off, none⟩) l) := fun w' hb => Rd.below (.inr ⟨b1, off, rfl, hc⟩) hb
      have C := Lib.hid (specTakeNum_any (some ⟨b1, off, none⟩) d l 2 w (.inr ⟨b1, off, rfl, hc⟩) hby HL.out (by omega))
      have CA : Hid (∀ p : Int, p ≤ 9223372036854775807 → Calls Tryz.prog 126 #[.slice (some ⟨b1, off, none⟩) l.length d, .int .i64 p] w (Took (takeN l p) w)) := fun p hp => specTakeNum_any _ d l p w (.inr ⟨b1, off, rfl, hc⟩) hby HL.out hp
      have bd := takeN_bd hby 2
      obtain ⟨⟨n, nx⟩, hnx⟩ : ∃ x, x = takeN l 2 := ⟨_, rfl⟩
      rw [← hnx] at C bd hr
      simp only at hr bd
      have HR := Lib.hid hr; have HC := Lib.hid hc; have HBY := Lib.hid hby; clear hr hnx hc hby hx0 hx1 h2
      by_cases h0 : nx < 0
      · have e : r = none := by rw [HR.out, if_pos (.inl h0)]
        have HE := Lib.hid e; clear e
        have hb0 : decide (nx < 0) = true := by simpa using h0
        go_enter Tryz.func125, Tryz.ntmps125
        go_wp2_with (go_at_call 126; refine C.out.mono ?_; rintro e w' ⟨rfl, rfl⟩)
        go_ret2
        exact unf_no HE.out (Below.refl _ _)
      have hb0 : decide (nx < 0) = false := by simpa using h0
      by_cases hn : 0 ≤ n ∧ n ≤ 4000
      · have hin : (decide (0 ≤ n) && decide (n ≤ 4000)) = true := by simp; omega
        have HIN := Lib.hid hin; clear hin
        by_cases hlen : (l.length : Int) - nx < n
        · have e : r = none := by rw [HR.out, if_pos (by omega)]
          have HE := Lib.hid e; clear e
          have hb3 : decide ((l.length : Int) - nx < n) = true := by simpa using hlen
          go_enter Tryz.func125, Tryz.ntmps125
          go_wp2_with (first | (go_at_call 126; refine C.out.mono ?_; rintro e w' ⟨rfl, rfl⟩) | (go_at_call 97; refine (l01In_any _ _ _ _).mono ?_; rintro e w' ⟨rfl, rfl⟩; rw [HIN.out]))
          go_ret2
          exact unf_no HE.out (Below.refl _ _)
        · obtain ⟨p, rfl⟩ : ∃ p : Nat, nx = p := ⟨nx.toNat, by omega⟩
          obtain ⟨q, rfl⟩ : ∃ q : Nat, n = q := ⟨n.toNat, by omega⟩
          have hb3 : decide ((l.length : Int) - p < q) = false := by simp; omega
          have hpq : (p : Int) + q ≤ l.length := by omega
          have e : r = if (takeN l ((p : Int) + q)).2 = l.length ∧ (takeN l ((p : Int) + q)).1 = chk ((l.drop p).take q) then some ((l.drop p).take q) else none := by rw [HR.out, if_neg (by omega)]; rfl
          have CP := Lib.hid (CA.out ((p : Int) + q) (by omega))
          have bq := takeN_bd HBY.out ((p : Int) + q)
          obtain ⟨⟨sm, en⟩, hse⟩ : ∃ x, x = takeN l ((p : Int) + q) := ⟨_, rfl⟩
          rw [← hse] at CP e bq
          simp only at e bq
          have HE := Lib.hid e; have BQ := Lib.hid bq; clear e hse bd bq h0 HR
          by_cases hen : en = l.length
          · have hnb : (en != (l.length : Int)) = false := by simp [hen]
            have hdp : ¬ d = p := by have := BQ.out; omega
            have hml : ((l.drop p).take q).length = q := by simp; omega
            have RD2 := rd_part HC.out (show p + q ≤ l.length by omega)
            have CK := Lib.hid (specCheckOf_n (some ⟨b1, off + p, none⟩) (d - p) q _ w RD2 (HBY.out.take_drop p q) (by unfold maxLen; omega) hml)
            have CB := Lib.hid (l01Bytes_n (some ⟨b1, off + p, none⟩) (d - p) q _ w RD2 (by omega) hml)
            have cb := chk_bd ((l.drop p).take q)
            generalize hm : (l.drop p).take q = m at CK CB HE cb hml
            generalize hck : chk m = ck at CK HE cb
            have HML := Lib.hid hml
            clear hm hml RD2 hck
            by_cases hs : sm = ck
            · have hsb : (sm != ck) = false := by simp [hs]
              have HE1 : Hid (r = some m) := by
                show r = _
                rw [HE.out, if_pos ⟨hen, hs⟩]
              clear hs hen hlen
              go_enter Tryz.func125, Tryz.ntmps125
              go_wp2_with fail
              refine C.out.mono ?_
              rintro e w' ⟨rfl, rfl⟩
              simp only
              go_wp2_with (go_at_call 97; refine (l01In_any _ _ _ _).mono ?_; rintro e w' ⟨rfl, rfl⟩; rw [HIN.out])
              refine CP.out.mono ?_
              rintro e w' ⟨rfl, rfl⟩
              simp only
              go_wp2_with fail
              refine CK.out.mono ?_
              rintro e w' ⟨rfl, rfl⟩
              go_wp2_with fail
              refine CB.out.mono ?_
              rintro e w1 ⟨ao, c, rfl, ho, hb⟩
              have HO := Lib.hid ho; have HB := Lib.hid hb; clear ho hb
              go_wp2
              go_ret2
              rw [HE1.out]
              exact ⟨ao, c, rfl, HO.out, HB.out⟩
            · have hsb : (sm != ck) = true := by simp [hs]
              have HE1 : Hid (r = none) := by
                show r = _
                rw [HE.out, if_neg (fun hh => hs hh.2)]
              clear hs hen hlen
              go_enter Tryz.func125, Tryz.ntmps125
              go_wp2_with fail
              refine C.out.mono ?_
              rintro e w' ⟨rfl, rfl⟩
              simp only
              go_wp2_with (go_at_call 97; refine (l01In_any _ _ _ _).mono ?_; rintro e w' ⟨rfl, rfl⟩; rw [HIN.out])
              refine CP.out.mono ?_
              rintro e w' ⟨rfl, rfl⟩
              simp only
              go_wp2_with fail
              refine CK.out.mono ?_
              rintro e w' ⟨rfl, rfl⟩
              go_wp2
              go_ret2
              exact unf_no HE1.out (Below.refl _ _)
          · have hnb : (en != (l.length : Int)) = true := by simp [hen]
            have HE1 : Hid (r = none) := by
              show r = _
              rw [HE.out, if_neg (fun hh => hen hh.1)]
            clear hen
            by_cases hdp : d = p
            · subst hdp
              go_enter Tryz.func125, Tryz.ntmps125
              go_wp2_with fail
              refine C.out.mono ?_
              rintro e w' ⟨rfl, rfl⟩
              simp only
              go_wp2_with (go_at_call 97; refine (l01In_any _ _ _ _).mono ?_; rintro e w' ⟨rfl, rfl⟩; rw [HIN.out])
              refine CP.out.mono ?_
              rintro e w' ⟨rfl, rfl⟩
              simp only
              go_wp2
              go_ret2
              exact unf_no HE1.out (Below.refl _ _)
            · go_enter Tryz.func125, Tryz.ntmps125
              go_wp2_with fail
              refine C.out.mono ?_
              rintro e w' ⟨rfl, rfl⟩
              simp only
              go_wp2_with (go_at_call 97; refine (l01In_any _ _ _ _).mono ?_; rintro e w' ⟨rfl, rfl⟩; rw [HIN.out])
              refine CP.out.mono ?_
              rintro e w' ⟨rfl, rfl⟩
              simp only
              go_wp2
              go_ret2
              exact unf_no HE1.out (Below.refl _ _)
      · have e : r = none := by rw [HR.out, if_pos (by omega)]
        have HE := Lib.hid e; clear e
        have hin : (decide (0 ≤ n) && decide (n ≤ 4000)) = false := by simp; omega
        have HIN := Lib.hid hin; clear hin
        go_enter Tryz.func125, Tryz.ntmps125
        go_wp2_with (first | (go_at_call 126; refine C.out.mono ?_; rintro e w' ⟨rfl, rfl⟩) | (go_at_call 97; refine (l01In_any _ _ _ _).mono ?_; rintro e w' ⟨rfl, rfl⟩; rw [HIN.out]))
        go_ret2
        exact unf_no HE.out (Below.refl _ _)
    · subst e0
      have e : r = none := by rw [hr, if_neg (by rw [hx1]; simp [e1])]
      have HE := Lib.hid e
      have hb1 : (x1 != 83) = true := by simp [e1]
      clear e hr hc hby hx0 hx1 e1 HL
      go_enter Tryz.func125, Tryz.ntmps125
      go_wp2
      go_ret2
      exact unf_no HE.out (Below.refl _ _)
  · have e : r = none := by rw [hr, if_neg (by rw [hx0]; simp [e0])]
    have HE := Lib.hid e
    have hb0 : (x0 != 80) = true := by simp [e0]
    clear e hr hc hby hx0 hx1 e0 HL
    go_enter Tryz.func125, Tryz.ntmps125
    go_wp2
    go_ret2
    exact unf_no HE.out (Below.refl _ _)
end Go.Proofs.YtfpbhedophlnkaaGreatDoor
