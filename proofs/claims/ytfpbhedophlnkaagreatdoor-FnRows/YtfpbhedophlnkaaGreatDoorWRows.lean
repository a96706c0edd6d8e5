/-
  The walk of FnRows.
-/
import Derived.Test.YtfpbhedophlnkaaGreatDoorRows
import Derived.Test.YtfpbhedophlnkaaGreatDoorJR23x
import Derived.Test.YtfpbhedophlnkaaGreatDoorJR47x
import Derived.Test.YtfpbhedophlnkaaGreatDoorJR51x
import Derived.Test.YtfpbhedophlnkaaGreatDoorJR53x
import Derived.Test.YtfpbhedophlnkaaGreatDoorJR54x
namespace Go.Proofs.YtfpbhedophlnkaaGreatDoor.fnRows
open Go.RowKit
set_option linter.unusedSimpArgs false
set_option linter.unusedVariables false
set_option linter.unusedVariables false

theorem same_row {s : ByteArray} {r : List Int} {w : World} {e : Ending} {w' : World} (hv : Vals r) (hs : s = ⟨(rowT r).toArray⟩) (h : RowPost s w e w') :
    ∃ ao c, e = .returned (.tuple #[.slice ao r.length c, .bool true]) ∧ Rd w' .i64 ao r ∧ Below w.heap.size w w' := by
  have hd : s.data.toList = rowT r := by rw [hs]
  rcases h with ⟨l, ao, c, he, _, hl, ho, hb⟩ | ⟨_, _, hno⟩
  · obtain rfl := rowT_inj (hd.symm.trans hl)
    exact ⟨ao, c, he, ho.rd, hb⟩
  · exact absurd hd (hno r hv)

set_option maxRecDepth 100000 in
set_option maxHeartbeats 8000000 in
theorem walk (w : World) (a0 : Option Addr) (cap0 : Nat) (code : List Int) (hn : code.length ≤ maxLen) (rd0 : Rd w .u8 a0 code) (hby : By code) (hg : Glob w) :
    Calls Tryz.prog 4 #[.slice a0 code.length cap0] w fun e w' => e = .returned (.bool true) ∧ Below w.heap.size w w' := by
  by_cases h : 1048576 < code.length
  · have B := Lib.hid (big_t a0 code.length cap0 w h hn)
    clear hg
    go_enter Tryz.func4, Tryz.ntmps4
    go_wp2_with fail
    refine B.out.mono ?_
    rintro e w' ⟨rfl, rfl⟩
    go_wp2_with fail
    go_ret
    exact ⟨rfl, Below.refl _ _⟩
  have B := Lib.hid (big_f a0 code.length cap0 w h)
  have DR := Lib.hid (drawSortRows_any a0 cap0 code w rd0 hby (by omega))
  have G := Lib.hid hg
  clear rd0 hby hn h hg
  generalize code.length = cn at *
  go_enter Tryz.func4, Tryz.ntmps4
  go_wp2_with fail
  refine B.out.mono ?_
  rintro e w' ⟨rfl, rfl⟩
  go_wp2_with fail
  refine DR.out.mono ?_
  rintro e w1 ⟨l, b, c, rfl, hl3, hlr, rd, b1⟩
  have R1 := Lib.hid rd; have B1 := Lib.hid b1; have HLR := Lib.hid hlr
  have hl6 : l.length ≤ 1048576 := by omega
  have hlm : l.length ≤ maxLen := by unfold maxLen; omega
  have hr6 : ∀ r ∈ l, r.length ≤ 1048576 := fun r hr => by have := (hlr r hr).1.2; omega
  clear rd b1 DR B hlr
  have IS := Lib.hid (fun W h => implSortRows_any (some ⟨b, 0, none⟩) c l W h hl6 hr6)
  have SS := Lib.hid (fun W h => specSortRows_any (some ⟨b, 0, none⟩) c l W h hl6 hr6)
  have hsl := sortO_len l
  have FM : Hid (∀ r ∈ sortO l, r ∈ l) := fun r hr => by
    by_cases h2 : 200 < l.length
    · rw [sortO_many h2] at hr; simp at hr
    · rw [sortO_few (by omega)] at hr; exact sortL_mem hr
  have HR6 := Lib.hid hr6
  have F0 : Hid (200 < l.length → (sortO l).length = 0) := fun h2 => by rw [sortO_many h2]; rfl
  have F1 : Hid (l.length ≤ 200 → (sortO l).length = l.length) := fun h2 => by rw [sortO_few h2, sortL_len]
  have F2 : Hid (l.length ≤ 200 → ∀ r, countL (sortO l) r = countL l r) := fun h2 r => by rw [sortO_few h2, countL_sort]
  have F3 : Hid (l.length ≤ 200 → ∀ i x y, (sortO l)[i]? = some x → (sortO l)[i + 1]? = some y → lessL y x = false) := fun h2 i x y hx hy => by rw [sortO_few h2] at hx hy; exact sort_step hx hy
  have F4 : Hid (l.length ≤ 200 → bagB l (sortO l) = true) := fun h2 => bag_sort h2
  have F5 : Hid ((colO l 0).length = l.length) := colO_all (fun r hr => (HLR.out r hr).1.1)
  generalize sortO l = s at *
  have hsm : s.length ≤ maxLen := by unfold maxLen; omega
  have hs6 : s.length ≤ 1048576 := by omega
  clear hr6
  go_wp2_with fail
  refine (IS.out _ R1.out).mono ?_
  rintro e w2 ⟨sa, sc, rfl, os, _, _, b2⟩
  have B2 := Lib.hid (below_step B1.out (Nat.le_refl _) b2); have R2 := Lib.hid (R1.out.below b2); have S2 := Lib.hid os.rd; clear os b2
  go_wp2_with fail
  refine (SS.out _ R2.out).mono ?_
  rintro e w3 ⟨ta, tc, rfl, ot, _, _, b3⟩
  have B3 := Lib.hid (below_step B2.out (Nat.le_refl _) b3); have R3 := Lib.hid (R2.out.below b3); have S3 := Lib.hid (S2.out.below b3); have T3 := Lib.hid ot.rd; clear ot b3
  go_wp2_with fail
  refine (implSameRows_any sa ta sc tc s s _ S3.out T3.out hsm hsm).mono ?_
  rintro e w4 ⟨rfl, b4⟩
  rw [eqR_refl]
  have B4 := Lib.hid (below_step B3.out (Nat.le_refl _) b4); have R4 := Lib.hid (R3.out.below b4); have S4 := Lib.hid (S3.out.below b4); clear b4
  clear IS SS T3 R1 R2 R3 S2 S3 B1 B2 B3
  by_cases h2 : 200 < l.length
  · have h2' : (200 : Int) < (l.length : Int) := by omega
    have hs0 := F0.out h2
    have hs0' : ((s.length : Int) == 0) = true := by simp; exact List.eq_nil_of_length_eq_zero hs0
    go_wp2_with fail
    go_ret
    exact ⟨rfl, B4.out⟩
  have h2' : (l.length : Int) ≤ 200 := by omega
  have h200 : l.length ≤ 200 := by omega
  have HSL := Lib.hid (F1.out h200); have FC := Lib.hid (F2.out h200); have FS := Lib.hid (F3.out h200); have FB := Lib.hid (F4.out h200)
  clear F0 F1 F2 F3 F4 hsl h2
  go_wp2_with fail
  go_loopw [5] (fun i wr => ∃ k : Nat, i = .int .i64 k ∧ k ≤ l.length ∧ Below w4.heap.size w4 wr) (fun i _ => l.length - (intOf i).toNat)
  case atStart => exact ⟨0, rfl, Nat.zero_le _, Below.refl _ _⟩
  case round =>
    obtain ⟨k, rfl, hk, hb⟩ := hrel
    have HB := Lib.hid hb; clear hb
    by_cases hlt : k < l.length
    · have k1 : (k : Int) < (l.length : Int) := by omega
      obtain ⟨br, off, r, ar, cr, hbr, hrn, hat⟩ := (R4.out.below HB.out).at_ hlt
      simp only [Option.some.injEq, Addr.mk.injEq, and_true] at hbr
      obtain ⟨rfl, rfl⟩ := hbr
      obtain ⟨q0, qr, qc, qm⟩ := hat
      rw [Nat.zero_add] at q0
      have hrv := HLR.out r (List.mem_of_getElem? hrn)
      have hvals : Vals r := ⟨hrv.2, by omega⟩
      have h64 : I64s r := fun z hz => by rcases hrv.2 z hz with h | h <;> omega
      have hrl : r.length ≤ 1048576 := by omega
      have hrm : r.length ≤ maxLen := by unfold maxLen; omega
      have RT := Lib.hid (fun W (h : Rd W .i64 ar r) g => implRowText_any ar cr r W h hrl h64 g)
      have hsz : (⟨(rowT r).toArray⟩ : ByteArray).size ≤ 1048576 := by
        have e1 : (⟨(rowT r).toArray⟩ : ByteArray).size = (rowT r).length := by show (rowT r).toArray.size = _; simp
        have := rowT_small hvals
        rw [e1]; omega
      have PR := Lib.hid (fun W (g : Glob W) => (implParseRow_any ⟨(rowT r).toArray⟩ W hsz g).mono fun e w' h => same_row hvals rfl h)
      have CN : Hid (countL s r = countL l r) := FC.out r
      obtain ⟨cnt, hcnt⟩ : ∃ cnt, cnt = countL l r := ⟨_, rfl⟩
      have QR := Lib.hid qr
      have S5 := Lib.hid (S4.out.below HB.out)
      generalize (⟨(rowT r).toArray⟩ : ByteArray) = X at RT PR
      have R5 := Lib.hid (R4.out.below HB.out)
      clear hvals h64 hsz hrv qr
      go_wp2_with fail
      refine (RT.out _ QR.out (G.out.below (B4.out.trans (HB.out.mono B4.out.size))).tab).mono ?_
      rintro e w5 ⟨rfl, b5⟩
      have D5 := Lib.hid b5
      clear b5
      go_wp2_with fail
      refine (PR.out _ (G.out.below (B4.out.trans ((below_step HB.out (Nat.le_refl _) D5.out).mono B4.out.size)))).mono ?_
      rintro e w6 ⟨ab, cb, rfl, rb, b6⟩
      have D6 := Lib.hid (below_step D5.out (Nat.le_refl _) b6)
      have RB := Lib.hid rb
      clear b6 rb D5
      have HZ6 := Lib.hid (below_step HB.out (Nat.le_refl _) D6.out)
      have SM : Hid (∀ q, Calls Tryz.prog 31 #[.slice ab r.length cb, .slice ar r.length cr] (w6.drewN q) fun e w' => e = .returned (.bool true) ∧ ∃ m, w' = (w6.drewN q).drewN m) := fun q => by
        have := same_q ab ar cb cr r r (w6.drewN q) (RB.out.drewN q) ((QR.out.below D6.out).drewN q) hrm hrm
        rwa [eqL_refl] at this
      have CR : Hid (∀ (v : Value) q, v = .slice (some ⟨b, 0, none⟩) l.length c → Calls Tryz.prog 32 #[v, .slice ar r.length cr] (w6.drewN q) fun e w' => e = .returned (.int .i64 cnt) ∧ ∃ m, w' = (w6.drewN q).drewN m) := fun v q hv => by
        subst hv
        have := countSame_q (some ⟨b, 0, none⟩) ar c cr l r (w6.drewN q) ((R5.out.below D6.out).drewN q) ((QR.out.below D6.out).drewN q) hl6 hrm
        rwa [← hcnt] at this
      have CS : Hid (∀ (v : Value) q, v = .slice sa s.length sc → Calls Tryz.prog 32 #[v, .slice ar r.length cr] (w6.drewN q) fun e w' => e = .returned (.int .i64 cnt) ∧ ∃ m, w' = (w6.drewN q).drewN m) := fun v q hv => by
        subst hv
        have := countSame_q sa ar sc cr s r (w6.drewN q) ((S5.out.below D6.out).drewN q) ((QR.out.below D6.out).drewN q) hs6 hrm
        rwa [CN.out, ← hcnt] at this
      clear hcnt CN PR RT
      by_cases hk0 : k = 0
      · subst hk0
        have k2 : (0 : Int) < (l.length : Int) := by omega
        have t6 := (D6.out.cell (p := ⟨b, 0, none⟩) (World.block_lt_of_cell? wr ⟨b, 0, none⟩ q0)).trans q0
        go_wp2_with fail
        go_quiet (first
          | (go_at_call 31; exact Calls.quiet_of (SM.out _))
          | (go_at_call 32; exact Calls.quiet_of (CR.out _ _ (by with_reducible rfl)))
          | (go_at_call 32; exact Calls.quiet_of (CS.out _ _ (by with_reducible rfl))))
        go_wp2_with fail
        go_roundw
        case rel => exact ⟨1, by go_num, by omega, below_drewN HZ6.out _⟩
        case measure => simp [intOf]; omega
      · obtain ⟨i, rfl⟩ : ∃ i, k = i + 1 := ⟨k - 1, by omega⟩
        have hsk : i + 1 < s.length := by rw [HSL.out]; exact hlt
        obtain ⟨bs, offs, x, ax, cx, rfl, hxn, hxt⟩ := S5.out.at_ hsk
        obtain ⟨bs2, offs2, y, ay, cy, hbs, hyn, hyt⟩ := S5.out.at_ (show i < s.length by omega)
        simp only [Option.some.injEq, Addr.mk.injEq, and_true] at hbs
        obtain ⟨rfl, rfl⟩ := hbs
        have HLS := FS.out i y x hyn hxn
        obtain ⟨p0, px, _, _⟩ := hxt
        obtain ⟨p1, py, _, _⟩ := hyt
        have hxm : x.length ≤ maxLen := by have := HR6.out x (FM.out x (List.mem_of_getElem? hxn)); unfold maxLen; omega
        have hym : y.length ≤ maxLen := by have := HR6.out y (FM.out y (List.mem_of_getElem? hyn)); unfold maxLen; omega
        have LS : Hid (∀ q, Calls Tryz.prog 33 #[.slice ax x.length cx, .slice ay y.length cy] (w6.drewN q) fun e w' => e = .returned (.bool false) ∧ ∃ m, w' = (w6.drewN q).drewN m) := fun q => by
          have := (implRowLess_q ax ay cx cy x y (w6.drewN q) ((px.below D6.out).drewN q) ((py.below D6.out).drewN q) hxm hym).mono fun e w' ⟨h1, h2⟩ => (⟨h1, 0, h2.symm⟩ : e = Ending.returned (.bool (lessL x y)) ∧ ∃ m, w' = (w6.drewN q).drewN m)
          rwa [HLS] at this
        have h1 := (D6.out.cell (p := ⟨b, i + 1, none⟩) (World.block_lt_of_cell? wr ⟨b, i + 1, none⟩ q0)).trans q0
        have h2 := (D6.out.cell (p := ⟨bs, offs + (i + 1), none⟩) (World.block_lt_of_cell? wr ⟨bs, offs + (i + 1), none⟩ p0)).trans p0
        have h3 := (D6.out.cell (p := ⟨bs, offs + i, none⟩) (World.block_lt_of_cell? wr ⟨bs, offs + i, none⟩ p1)).trans p1
        have hsk' : (i : Int) + 1 < (s.length : Int) := by omega
        have hsk2 : (i : Int) < (s.length : Int) := by omega
        have hlk : (i : Int) + 1 < (l.length : Int) := by omega
        have hkz : decide ((0 : Int) < (i : Int) + 1) = true := by rw [decide_eq_true_eq]; omega
        clear HLS px py hxn hyn p0 p1
        go_wp2_with fail
        go_quiet (first
          | (go_at_call 31; exact Calls.quiet_of (SM.out _))
          | (go_at_call 32; exact Calls.quiet_of (CR.out _ _ (by with_reducible rfl)))
          | (go_at_call 32; exact Calls.quiet_of (CS.out _ _ (by with_reducible rfl)))
          | (go_at_call 33; exact Calls.quiet_of (LS.out _)))
        go_wp2_with fail
        go_roundw
        case rel => exact ⟨i + 2, by go_num, by omega, below_drewN HZ6.out _⟩
        case measure => simp [intOf]; omega
    · have k1 : ¬ ((k : Int) < (l.length : Int)) := by omega
      have CO := Lib.hid (implColumn_any (some ⟨b, 0, none⟩) c l 0 wr (R4.out.below HB.out) hl6)
      go_wp2_with fail
      refine CO.out.mono ?_
      rintro e w5 ⟨a5, c5, rfl, o5, b5⟩
      rw [F5.out]
      have B5 := Lib.hid (below_step HB.out (Nat.le_refl _) b5)
      clear o5 b5
      go_wp2_with fail
      refine (implSameBag_any (some ⟨b, 0, none⟩) sa c sc l s _ (R4.out.below B5.out) (S4.out.below B5.out) hl6 hs6 HR6.out (fun r hr => HR6.out r (FM.out r hr))).mono ?_
      rintro e w6 ⟨rfl, b6⟩
      rw [FB.out]
      have B6 := Lib.hid (below_step B5.out (Nat.le_refl _) b6); clear b6
      go_wp2_with fail
      go_ret
      exact ⟨rfl, B4.out.trans (B6.out.mono B4.out.size)⟩
end Go.Proofs.YtfpbhedophlnkaaGreatDoor.fnRows
