/-
  The contracts of slices.Clone at the program's wire and of impl.Unframe. For every slice of bytes. Contract of impl.DecodeSchema. For every slice of bytes. Small contracts for the wires' law: laws.big. For every slice of bytes. The contracts of the law's own helpers: same, sameBytes, at, alt; and of the model's draws of a list, a word and a body: some list, some text, in memory of its own. For every slice of bytes.
-/
import Derived.Test.YtfpbhedophlnkaaGreatDoorJW52x
import Derived.Test.YtfpbhedophlnkaaGreatDoorJW33x
import Derived.Test.YtfpbhedophlnkaaGreatDoorJW8x
import Derived.Test.YtfpbhedophlnkaaGreatDoorJW7x
import Derived.Test.YtfpbhedophlnkaaGreatDoorJW35x
import Derived.Test.YtfpbhedophlnkaaGreatDoorJW26x
namespace Go.Proofs.YtfpbhedophlnkaaGreatDoor
open Go.RowKit
set_option linter.unusedSimpArgs false
set_option linter.unusedVariables false

set_option maxRecDepth 100000 in
theorem clone_any (ao : Option Addr) (n : Nat) (m : List Int) (w : World) (h : Rd w .u8 ao m) (hn : m.length = n) (hz : ao = none → n = 0) (hl : n ≤ 70368744177664) :
    Calls Tryz.prog 178 #[.slice ao n n] w (Made w 5 .u8 m) := by
  have hq := fun (w : World) (a : Option Addr) (n c : Nat) => Lib.run_eql_slice_nil (P := Tryz.prog) w 112 5 a n c 0 0 Tryz.underlying112
  cases ao with
  | none =>
    obtain rfl : n = 0 := hz rfl
    obtain rfl : m = [] := List.eq_nil_of_length_eq_zero hn
    clear hz h hn
    go_enter Tryz.func178, Tryz.ntmps178
    go_wp2
    go_ret
    exact ⟨none, 0, rfl, Own.none_, Below.refl _ _⟩
  | some a =>
    have hst : Own (w.alloc (Obj.cells #[] 5)) w.heap.size 5 .u8 (some ⟨w.heap.size, 0, none⟩) 0 [] := World.ownsRow_lit w #[] 0 (Nat.le_refl _) (Nat.zero_le _) rfl
    have HST := Lib.hid hst; have H := Lib.hid (h.below ((Below.refl _ _).alloc (Nat.le_refl _) (Obj.cells #[] 5))); have HN := Lib.hid hn
    have hll : (n : Int) ≤ 70368744177664 := by omega
    clear hst h hn hz hl
    go_enter Tryz.func178, Tryz.ntmps178
    go_wp2_with (at_builtin; refine wpList_appendR _ rfl (.tmp 5) (.tmp 6) 112 112 rfl w.heap.size 5 5 .u8 1 Tryz.underlying112 Tryz.underlying112 Tryz.infoU8 (some ⟨w.heap.size, 0, none⟩) 0 0 [] rfl rfl HST.out (some a) n n m rfl HN.out.symm H.out (by intro hh; cases hh) (by have := HN.out; unfold maxLen; simp; omega) (by have := HN.out; simp; omega) (by simp) ?_; intro ao' c' w1 ho' hg'; have HO' := Lib.hid ho'; have HG' := Lib.hid hg'; clear ho' hg')
    go_ret
    refine ⟨ao', c', ret_slice (by simp), HO'.out, ?_⟩
    exact ((Below.refl _ _).alloc (Nat.le_refl _) _).grown HG'.out (by simp) (by intro g hg; simp at hg; omega)

set_option maxRecDepth 100000 in
theorem implUnframe_any (b : Option Addr) (d : Nat) (l : List Int) (w : World) (hg : ErrT w) (h : Rd w .u8 b l) (hby : By l) (hl : l.length ≤ maxLen) (hd : l.length ≤ d) (hd2 : d ≤ maxLen) :
    Calls Tryz.prog 92 #[.slice b l.length d] w (UnfPost (unfL l) w) := by
  have C := Lib.hid (frame_any b d l w h hby hl hd hd2)
  have G := Lib.hid hg
  have hlen : Hid (∀ m, unfL l = some m → m.length ≤ 4000) := by
    intro m hm
    unfold unfL unfT at hm
    split at hm
    · split at hm
      · cases hm
      · split at hm
        · injection hm with hm
          rw [← hm]; simp; omega
        · cases hm
    · cases hm
  obtain ⟨r, hr⟩ : ∃ r, r = unfL l := ⟨_, rfl⟩
  rw [← hr] at C hlen ⊢
  clear hr hg h hby hl hd hd2
  go_enter Tryz.func92, Tryz.ntmps92
  go_wp2_with fail
  refine C.out.mono ?_
  rintro e w' ⟨h | h, hb0⟩
  · obtain ⟨h1, k1, k2, rfl⟩ := h
    have H1 := Lib.hid h1; have B0 := Lib.hid hb0; clear h1 hb0
    go_wp2_with fail
    refine (isMissing_hit _ _ _ (G.out.below B0.out)).mono ?_
    rintro e w1 ⟨rfl, hb⟩
    have HB := Lib.hid (below_step B0.out (Nat.le_refl _) hb); clear hb
    go_wp2
    go_ret2
    exact unf_no H1.out HB.out
  · obtain ⟨ao, n, m, h1, rfl, hrd, hn, hz⟩ := h
    have H1 := Lib.hid h1; have RD := Lib.hid hrd; have HN := Lib.hid hn; have HZ := Lib.hid hz; have B0 := Lib.hid hb0; clear h1 hrd hn hz hb0
    go_wp2_with fail
    refine (isMissing_nil _).mono ?_
    rintro e w1 ⟨rfl, hb⟩
    have RD1 := Lib.hid (RD.out.below hb); have HB := Lib.hid (below_step B0.out (Nat.le_refl _) hb); clear hb
    go_wp2_with fail
    refine (clone_any ao n m w1 RD1.out HN.out HZ.out (by have := hlen.out m H1.out; have := HN.out; omega)).mono ?_
    rintro e w2 ⟨a2, c2, rfl, o2, b2⟩
    have O2 := Lib.hid o2; have B2 := Lib.hid (below_step HB.out (Nat.le_refl _) b2); clear o2 b2
    go_wp2
    go_ret2
    rw [H1.out]
    exact ⟨a2, c2, rfl, O2.out.base_le HB.out.size, B2.out⟩
end Go.Proofs.YtfpbhedophlnkaaGreatDoor
namespace Go.Proofs.YtfpbhedophlnkaaGreatDoor
open Go.RowKit
set_option linter.unusedSimpArgs false
set_option linter.unusedVariables false

set_option maxRecDepth 100000 in
set_option maxHeartbeats 1600000 in
theorem implDecodeSchema_any (b : Option Addr) (d : Nat) (l : List Int) (w : World) (hg : ErrT w) (h : Rd w .u8 b l) (hby : By l) (hl : l.length ≤ maxLen) (hd : l.length ≤ d) (hd2 : d ≤ maxLen) :
    Calls Tryz.prog 23 #[.slice b l.length d] w (MadeT2 (decQ l) w) := by
  have U := Lib.hid (implUnframe_any b d l w hg h hby hl hd hd2)
  have hmf : ∀ (fn : Go.Fn) (first cap : Array Value) (w : World), (Instr.makeFunc fn first cap).run Tryz.prog w = .ok (.func fn first cap) w := fun _ _ _ _ => rfl
  have D : Hid (decQ l = match unfL l with | none => none | some m => match countT m (some 0) 8 with | none => none | some (acc, q) => if q = m.length ∧ schemaB acc = true then some acc else none) := rfl
  have h4 : Hid (∀ m, unfL l = some m → m.length ≤ 4000 ∧ By m) := fun m hm => ⟨unfL_4000 hm, unfL_by hby hm⟩
  obtain ⟨res, hres⟩ : ∃ r, r = decQ l := ⟨_, rfl⟩
  rw [← hres] at D ⊢
  clear hres h hg hby hl hd hd2
  cases hu : unfL l with
  | none =>
    have E : Hid (res = none) := by show _ = _; rw [D.out, hu]
    rw [hu] at U
    clear hu
    go_enter Tryz.func23, Tryz.ntmps23
    go_wp2_with fail
    refine U.out.mono ?_
    rintro e w1 ⟨a1, c1, rfl, o1, b1⟩
    clear o1
    go_wp2_with fail
    go_ret2
    exact madeT2_no E.out b1
  | some m =>
    obtain ⟨hm4, hmb⟩ := h4.out m hu
    rw [hu] at U D
    simp only at D
    have HMB := Lib.hid hmb
    obtain ⟨cn, hcn⟩ : ∃ cn, cn = countT m (some 0) 8 := ⟨_, rfl⟩
    have TK := Lib.hid (fun W R b d (h : Rdr W R b d m (some 0)) => takeTabs_any R b d m (some 0) W h)
    rw [← hcn] at D TK
    have CL : Hid (∀ acc q, cn = some (acc, q) → acc.length ≤ 8) := fun acc q hq => countT_8 (hcn.symm.trans hq)
    clear hu hmb hcn h4
    go_enter Tryz.func23, Tryz.ntmps23
    go_wp2_with fail
    refine U.out.mono ?_
    rintro e w1 ⟨a1, c1, rfl, o1, b1⟩
    have o1' : Own w1 w.heap.size 5 .u8 a1 c1 m := o1
    have RB := Lib.hid (rdr_box (d := c1) o1'.rd HMB.out ⟨o1'.cap_ge, o1'.cap_le⟩ (fun a ha => (o1'.lt a ha).2))
    have B1 := Lib.hid (b1.alloc b1.size (.cells #[.slice a1 m.length c1, .int .i64 0, .nilIface] 116))
    have hz1 := b1.size
    clear o1 o1' b1 U
    go_wp2_with fail
    refine (TK.out _ _ _ _ RB.out).mono ?_
    rintro e w2 ⟨g2, hp⟩
    have B2 := Lib.hid (B1.out.grown g2 B1.out.size (by intro g hg; cases hg; exact hz1))
    have hz2 := g2.size
    clear g2
    cases cn with
    | none =>
      obtain ⟨rfl, s', hr⟩ := hp
      have E : Hid (res = none) := D.out
      clear hr
      go_wp2_with fail
      go_ret2
      exact madeT2_no E.out B2.out
    | some x =>
      obtain ⟨acc, q⟩ := x
      obtain ⟨ao, c, rfl, ho, hr⟩ := hp
      simp only at ho hr ⊢
      have HO := Lib.hid ho
      have hal := CL.out acc q rfl
      have EN := Lib.hid (rEnd_any _ _ _ _ q _ hr)
      have D' : Hid (res = if q = m.length ∧ schemaB acc = true then some acc else none) := D.out
      clear ho hr D
      by_cases hq : q = m.length
      · have hqb : (q == (m.length : Int)) = true := by simp [hq]
        go_wp2_with fail
        refine EN.out.mono ?_
        rintro e w3 ⟨rfl, b3⟩
        rw [hqb]
        have B3 := Lib.hid (below_step B2.out (Nat.le_refl _) b3)
        have O3 := Lib.hid (HO.out.below b3)
        clear b3
        go_wp2_with fail
        refine (implSchema_any ao c acc w3 O3.out.rd (by omega)).mono ?_
        rintro e w4 ⟨rfl, b4⟩
        have B4 := Lib.hid (below_step B3.out (Nat.le_refl _) b4)
        have O4 := Lib.hid ((O3.out.below b4).base_le (base' := w.heap.size) (by simp; omega))
        clear b4
        cases hs : schemaB acc with
        | true =>
          have E : Hid (res = some acc) := by show _ = _; rw [D'.out, if_pos ⟨hq, hs⟩]
          go_wp2_with fail
          go_ret2
          exact madeT2_yes E.out rfl O4.out B4.out
        | false =>
          have E : Hid (res = none) := by show _ = _; rw [D'.out, if_neg (by rw [hs]; simp)]
          go_wp2_with fail
          go_ret2
          exact madeT2_no E.out B4.out
      · have hqb : (q == (m.length : Int)) = false := by simp [hq]
        have E : Hid (res = none) := by show _ = _; rw [D'.out, if_neg (fun h => hq h.1)]
        go_wp2_with fail
        refine EN.out.mono ?_
        rintro e w3 ⟨rfl, b3⟩
        rw [hqb]
        have B3 := Lib.hid (below_step B2.out (Nat.le_refl _) b3)
        clear b3
        go_wp2_with fail
        go_ret2
        exact madeT2_no E.out B3.out
end Go.Proofs.YtfpbhedophlnkaaGreatDoor
namespace Go.Proofs.YtfpbhedophlnkaaGreatDoor
open Go.RowKit
set_option linter.unusedSimpArgs false
set_option linter.unusedVariables false
set_option maxRecDepth 100000 in
theorem big_t (a : Option Addr) (n c : Nat) (w : World) (h : 1048576 < n) (hn : n ≤ maxLen) : Calls Tryz.prog 11 #[.slice a n c] w fun e w' => e = .returned (.bool true) ∧ w = w' := by
  unfold maxLen at hn
  have h' : decide ((1048576 : Int) < n) = true := by simp; omega
  go_enter Tryz.func11, Tryz.ntmps11
  go_wp2
  go_ret
  exact ⟨rfl, rfl⟩
set_option maxRecDepth 100000 in
theorem big_f (a : Option Addr) (n c : Nat) (w : World) (h : ¬ 1048576 < n) : Calls Tryz.prog 11 #[.slice a n c] w fun e w' => e = .returned (.bool false) ∧ w = w' := by
  have h' : decide ((1048576 : Int) < n) = false := by simp; omega
  go_enter Tryz.func11, Tryz.ntmps11
  go_wp2
  go_ret
  exact ⟨rfl, rfl⟩
end Go.Proofs.YtfpbhedophlnkaaGreatDoor
namespace Go.Proofs.YtfpbhedophlnkaaGreatDoor
open Go.RowKit
set_option linter.unusedSimpArgs false
set_option linter.unusedVariables false

set_option maxHeartbeats 800000 in
theorem sameBytes_any (a b : Option Addr) (c d : Nat) (l m : List Int) (w : World) (h : Rd w .u8 a l) (k : Rd w .u8 b m) (hn : l.length ≤ maxLen) (hm : m.length ≤ maxLen) :
    Calls Tryz.prog 39 #[.slice a l.length c, .slice b m.length d] w fun e w' => e = .returned (.bool (eqL l m)) ∧ Below w.heap.size w w' := by
  unfold maxLen at hn hm
  by_cases hlen : l.length = m.length
  · have hne : ((l.length : Int) != (m.length : Int)) = false := by simp [hlen]
    have HL := Lib.hid hlen; clear hlen
    rcases h with rfl | ⟨b1, o1, rfl, hc⟩
    · have hm0 : m = [] := List.eq_nil_of_length_eq_zero HL.out.symm
      subst hm0
      clear hne
      go_enter Tryz.func39, Tryz.ntmps39
      go_wp2
      refine wp_loop_rounds 1 ?_; rw [rounds_succ]; go_wp2
      go_ret
      exact ⟨rfl, Below.refl _ _⟩
    · rcases k with rfl | ⟨b2, o2, rfl, kc⟩
      · have hl0 : l = [] := List.eq_nil_of_length_eq_zero HL.out
        subst hl0
        clear hne hc
        go_enter Tryz.func39, Tryz.ntmps39
        go_wp2
        refine wp_loop_rounds 1 ?_; rw [rounds_succ]; go_wp2
        go_ret
        exact ⟨rfl, Below.refl _ _⟩
      · have HC := Lib.hid hc; have KC := Lib.hid kc; clear hc kc
        go_enter Tryz.func39, Tryz.ntmps39
        go_wp2
        go_loopw [5] (fun i wr => ∃ j q : Nat, j ≤ l.length ∧ i = .int .i64 j ∧ l.take j = m.take j ∧ wr = w.drewN q) (fun i _ => l.length - (intOf i).toNat)
        case atStart => exact ⟨0, 0, Nat.zero_le _, rfl, rfl, rfl⟩
        case round =>
          obtain ⟨j, q, hj, rfl, ht, rfl⟩ := hrel
          have HT := Lib.hid ht; clear ht
          by_cases hlt : j < l.length
          · have hlt2 : j < m.length := by have := HL.out; omega
            obtain ⟨x, _, hx, hcx, htx⟩ := Rd.at_ HC.out hlt
            obtain ⟨y, _, hy, hcy, hty⟩ := Rd.at_ KC.out hlt2
            have X := Lib.hid hx; have Y := Lib.hid hy; have TX := Lib.hid htx; have TY := Lib.hid hty
            clear hx hy htx hty
            have i1 : (j : Int) < (l.length : Int) := by omega
            have i2 : (j : Int) < (m.length : Int) := by omega
            by_cases hxy : x = y
            · subst hxy
              have hb : (x != x) = false := by simp
              go_wp2
              go_quiet (fail)
              go_wp2
              go_roundw
              case rel => exact ⟨j + 1, _, by omega, by go_num, by rw [TX.out, TY.out, HT.out], by first | rfl | rw [World.drewN_drewN]⟩
              case measure => simp [intOf]; omega
            · have hb : (x != y) = true := by simp [hxy]
              have HF := Lib.hid (eqL_no hxy X.out Y.out)
              clear hxy
              go_wp2
              go_quiet (fail)
              go_wp2
              go_ret
              exact ⟨ret_bool HF.out.symm, by first | exact below_drewN (Below.refl _ _) _ | exact below_drewN (below_drewN (Below.refl _ _) _) _⟩
          · go_wp2
            go_ret
            exact ⟨ret_bool (eqL_yes HL.out (by omega) HT.out).symm, below_drewN (Below.refl _ _) _⟩
  · have hne : ((l.length : Int) != (m.length : Int)) = true := by simp; omega
    have HF : Hid (eqL l m = false) := by
      show eqL l m = false
      unfold eqL; simp; rintro rfl; exact hlen rfl
    go_enter Tryz.func39, Tryz.ntmps39
    go_wp2
    go_ret
    exact ⟨ret_bool HF.out.symm, Below.refl _ _⟩
set_option maxHeartbeats 800000 in
theorem same_any (a b : Option Addr) (c d : Nat) (l m : List Int) (w : World) (h : Rd w .i64 a l) (k : Rd w .i64 b m) (hn : l.length ≤ maxLen) (hm : m.length ≤ maxLen) :
    Calls Tryz.prog 31 #[.slice a l.length c, .slice b m.length d] w fun e w' => e = .returned (.bool (eqL l m)) ∧ Below w.heap.size w w' := by
  unfold maxLen at hn hm
  by_cases hlen : l.length = m.length
  · have hne : ((l.length : Int) != (m.length : Int)) = false := by simp [hlen]
    have HL := Lib.hid hlen; clear hlen
    rcases h with rfl | ⟨b1, o1, rfl, hc⟩
    · have hm0 : m = [] := List.eq_nil_of_length_eq_zero HL.out.symm
      subst hm0
      clear hne
      go_enter Tryz.func31, Tryz.ntmps31
      go_wp2
      refine wp_loop_rounds 1 ?_; rw [rounds_succ]; go_wp2
      go_ret
      exact ⟨rfl, Below.refl _ _⟩
    · rcases k with rfl | ⟨b2, o2, rfl, kc⟩
      · have hl0 : l = [] := List.eq_nil_of_length_eq_zero HL.out
        subst hl0
        clear hne hc
        go_enter Tryz.func31, Tryz.ntmps31
        go_wp2
        refine wp_loop_rounds 1 ?_; rw [rounds_succ]; go_wp2
        go_ret
        exact ⟨rfl, Below.refl _ _⟩
      · have HC := Lib.hid hc; have KC := Lib.hid kc; clear hc kc
        go_enter Tryz.func31, Tryz.ntmps31
        go_wp2
        go_loopw [5] (fun i wr => ∃ j q : Nat, j ≤ l.length ∧ i = .int .i64 j ∧ l.take j = m.take j ∧ wr = w.drewN q) (fun i _ => l.length - (intOf i).toNat)
        case atStart => exact ⟨0, 0, Nat.zero_le _, rfl, rfl, rfl⟩
        case round =>
          obtain ⟨j, q, hj, rfl, ht, rfl⟩ := hrel
          have HT := Lib.hid ht; clear ht
          by_cases hlt : j < l.length
          · have hlt2 : j < m.length := by have := HL.out; omega
            obtain ⟨x, _, hx, hcx, htx⟩ := Rd.at_ HC.out hlt
            obtain ⟨y, _, hy, hcy, hty⟩ := Rd.at_ KC.out hlt2
            have X := Lib.hid hx; have Y := Lib.hid hy; have TX := Lib.hid htx; have TY := Lib.hid hty
            clear hx hy htx hty
            have i1 : (j : Int) < (l.length : Int) := by omega
            have i2 : (j : Int) < (m.length : Int) := by omega
            by_cases hxy : x = y
            · subst hxy
              have hb : (x != x) = false := by simp
              go_wp2
              go_quiet (fail)
              go_wp2
              go_roundw
              case rel => exact ⟨j + 1, _, by omega, by go_num, by rw [TX.out, TY.out, HT.out], by first | rfl | rw [World.drewN_drewN]⟩
              case measure => simp [intOf]; omega
            · have hb : (x != y) = true := by simp [hxy]
              have HF := Lib.hid (eqL_no hxy X.out Y.out)
              clear hxy
              go_wp2
              go_quiet (fail)
              go_wp2
              go_ret
              exact ⟨ret_bool HF.out.symm, by first | exact below_drewN (Below.refl _ _) _ | exact below_drewN (below_drewN (Below.refl _ _) _) _⟩
          · go_wp2
            go_ret
            exact ⟨ret_bool (eqL_yes HL.out (by omega) HT.out).symm, below_drewN (Below.refl _ _) _⟩
  · have hne : ((l.length : Int) != (m.length : Int)) = true := by simp; omega
    have HF : Hid (eqL l m = false) := by
      show eqL l m = false
      unfold eqL; simp; rintro rfl; exact hlen rfl
    go_enter Tryz.func31, Tryz.ntmps31
    go_wp2
    go_ret
    exact ⟨ret_bool HF.out.symm, Below.refl _ _⟩

set_option maxRecDepth 100000 in
theorem at_any (ao : Option Addr) (d : Nat) (code : List Int) (i : Int) (w : World) (hr : Rd w .u8 ao code) (hby : By code) (hl : code.length ≤ 1048576) (h0 : 0 ≤ i) (h1 : i ≤ 2) :
    Calls Tryz.prog 43 #[.slice ao code.length d, .int .i64 i] w fun e w' => (∃ x : Int, 0 ≤ x ∧ x ≤ 255 ∧ e = .returned (.int .i64 x)) ∧ w = w' := by
  have hl' : (code.length : Int) ≤ 1048576 := by omega
  obtain ⟨k, rfl⟩ : ∃ k : Nat, i = k := ⟨i.toNat, by omega⟩
  by_cases hlt : k < code.length
  · rcases hr with rfl | ⟨b1, off, rfl, hc⟩
    · simp at hlt
    · obtain ⟨z, hz, _, hcz, _⟩ := Rd.at_ hc hlt
      have zb := hby z hz
      clear hz hc hby hl
      go_enter Tryz.func43, Tryz.ntmps43
      go_wp2
      go_ret
      exact ⟨⟨z, by omega, by omega, rfl⟩, rfl⟩
  · clear hr hby hl
    go_enter Tryz.func43, Tryz.ntmps43
    go_wp2
    go_ret
    exact ⟨⟨_, by omega, by omega, rfl⟩, rfl⟩

def AltRel (w wr : World) (v i : Value) (m : Nat) : Prop :=
  ∃ (k : Nat) (acc : List Int) (ao : Option Addr) (c n : Nat), v = .slice ao n c ∧ i = .int .i64 k ∧ n = acc.length ∧ acc.length = k + 1 ∧ k ≤ m ∧ k ≤ 3000 ∧ By acc ∧ Own wr w.heap.size 5 .u8 ao c acc ∧ Below w.heap.size w wr
def SomeP (w : World) (m : Nat) (e : Ending) (w' : World) : Prop :=
  ∃ (l : List Int) (ao : Option Addr) (c : Nat), e = .returned (.slice ao l.length c) ∧ l.length ≤ m ∧ By l ∧ Own w' w.heap.size 5 .u8 ao c l ∧ Below w.heap.size w w'
theorem by_snoc {acc : List Int} {z : Int} (h : By acc) (h0 : 0 ≤ z) (h1 : z < 256) : By (acc ++ [z]) := h.app (By.one h0 h1)

set_option maxRecDepth 100000 in
set_option maxHeartbeats 1600000 in
theorem alt_any (xo : Option Addr) (d : Nat) (code : List Int) (x : Int) (w : World) (hr : Rd w .u8 xo code) (hby : By code) (hl : code.length ≤ 1048576) (h0 : 0 ≤ x) (h1 : x ≤ 2) :
    Calls Tryz.prog 17 #[.slice xo code.length d, .int .i64 x] w (SomeP w 3001) := by
  have HR := Lib.hid hr; have HBY := Lib.hid hby
  have hst : Own (w.alloc (Obj.cells #[.int .u8 x] 5)) w.heap.size 5 .u8 (some ⟨w.heap.size, 0, none⟩) 1 [x] := World.ownsRow_lit w #[.int .u8 x] 1 (Nat.le_refl _) (by unfold maxLen; omega) rfl
  have HST := Lib.hid hst
  have hl' : (code.length : Int) ≤ 1048576 := by omega
  clear hst hby
  rcases hr with rfl | ⟨b1, off, rfl, hc⟩
  · go_enter Tryz.func17, Tryz.ntmps17
    go_wp2
    refine wp_loop_rounds 1 ?_; rw [rounds_succ]; go_wp2
    go_ret
    exact ⟨[x], _, _, rfl, by simp, By.one h0 (by omega), HST.out, (Below.refl _ _).alloc (Nat.le_refl _) _⟩
  · clear hc
    go_enter Tryz.func17, Tryz.ntmps17
    go_wp2
    go_loopw [5, 6] (fun v i wr => AltRel w wr v i code.length) (fun _ i _ => code.length - (intOf i).toNat)
    case atStart => exact ⟨0, [x], _, _, _, rfl, rfl, rfl, rfl, Nat.zero_le _, by omega, By.one h0 (by omega), HST.out, (Below.refl _ _).alloc (Nat.le_refl _) _⟩
    case round =>
      obtain ⟨k, acc, ao, c, n', rfl, rfl, hn', hak, hkm, hk3, hacc, ho, hb⟩ := hrel
      have HNN := Lib.hid hn'; have HAK := Lib.hid hak; have HALL := Lib.hid hacc; have HO := Lib.hid ho; have HB := Lib.hid hb
      have hal : acc.length ≤ 3001 := by omega
      clear hn' hak hacc ho hb
      have fin : Hid (∀ W, W = wr → SomeP w 3001 (.returned (.slice ao n' c)) W) := by
        intro W hW
        rw [hW, HNN.out]
        exact ⟨acc, ao, c, rfl, hal, HALL.out, HO.out, HB.out⟩
      by_cases hlt : k < code.length
      · have hbl : decide (k < code.length) = true := by simpa using hlt
        by_cases h3 : k < 3000
        · have h3' : (k : Int) < 3000 := by omega
          obtain ⟨b', off', heq, hc⟩ : ∃ b' off', (some ⟨b1, off, none⟩ : Option Addr) = some ⟨b', off', none⟩ ∧ ∀ i, i < code.length → wr.cell? ⟨b', off' + i, none⟩ = some (.int .u8 (code.getD i 0)) := by
            rcases HR.out.below HB.out with rfl | h'
            · simp at hlt
            · exact h'
          simp only [Option.some.injEq, Addr.mk.injEq, and_true] at heq
          obtain ⟨rfl, rfl⟩ := heq
          obtain ⟨z, hz, _, hcz, _⟩ := Rd.at_ hc hlt
          have zb := HBY.out z hz
          clear hz hc
          go_wp2_with (at_builtin; refine wpList_append1 _ rfl (.tmp 20) (.tmp 25) 22 rfl w.heap.size 5 .u8 1 Tryz.underlying22 Tryz.infoU8 ao c n' acc rfl HNN.out (HO.out.alloc _) wr.heap.size 1 z rfl (cell_one _ _ _) (by unfold maxLen; omega) (by omega) (base_le HB.out) ?_; intro ao' c' w1 ho' hg'; have HO' := Lib.hid ho'; have HG' := Lib.hid hg'; clear ho' hg')
          go_roundw
          case rel => exact ⟨k + 1, acc ++ [z], ao', c', _, rfl, by go_num, by simp, by simp; exact HAK.out, by omega, by omega, by_snoc HALL.out zb.1 zb.2, HO'.out, below_app1 HB.out HO.out HG'.out⟩
          case measure => simp [intOf]; omega
        · have h3' : (3000 : Int) ≤ k := by omega
          go_wp2
          go_ret
          exact fin.out _ rfl
      · have hbl : decide (k < code.length) = false := by simpa using hlt
        go_wp2
        go_ret
        exact fin.out _ rfl
end Go.Proofs.YtfpbhedophlnkaaGreatDoor
