/-
  Contract of impl.DecodePlan. For every slice of bytes.
-/
import Derived.Test.YtfpbhedophlnkaaGreatDoorRCntM
import Derived.Test.YtfpbhedophlnkaaGreatDoorREnd
import Derived.Test.YtfpbhedophlnkaaGreatDoorDecN
import Derived.Test.YtfpbhedophlnkaaGreatDoorIUnf
import Derived.Test.YtfpbhedophlnkaaGreatDoorKT5
namespace Go.Proofs.YtfpbhedophlnkaaGreatDoor
open Go.RowKit
set_option linter.unusedSimpArgs false
set_option linter.unusedVariables false

set_option maxRecDepth 100000 in
set_option maxHeartbeats 1600000 in
theorem implDecodePlan_any (b : Option Addr) (d : Nat) (l : List Int) (w : World) (hg : ErrT w) (h : Rd w .u8 b l) (hby : By l) (hl : l.length ≤ maxLen) (hd : l.length ≤ d) (hd2 : d ≤ maxLen) :
    Calls Tryz.prog 42 #[.slice b l.length d] w (MadeN2 (decP l) w) := by
  have U := Lib.hid (implUnframe_any b d l w hg h hby hl hd hd2)
  have hmf : ∀ (fn : Go.Fn) (first cap : Array Value) (w : World), (Instr.makeFunc fn first cap).run Tryz.prog w = .ok (.func fn first cap) w := fun _ _ _ _ => rfl
  have D : Hid (decP l = match unfL l with | none => ([], 1) | some m => match countNd m (some 0) 40 with | none => ([], 2) | some (acc, q) => if q ≠ m.length then ([], 4) else if planB acc = true then (acc, 0) else ([], 3)) := rfl
  have h4 : Hid (∀ m, unfL l = some m → m.length ≤ 4000 ∧ By m) := fun m hm => ⟨unfL_4000 hm, unfL_by hby hm⟩
  obtain ⟨res, hres⟩ : ∃ r, r = decP l := ⟨_, rfl⟩
  rw [← hres] at D ⊢
  clear hres h hg hby hl hd hd2
  cases hu : unfL l with
  | none =>
    have E : Hid (res = ([], 1)) := by show _ = _; rw [D.out, hu]
    rw [hu] at U
    clear hu
    go_enter Tryz.func42, Tryz.ntmps42
    go_wp2_with fail
    refine U.out.mono ?_
    rintro e w1 ⟨a1, c1, rfl, o1, b1⟩
    clear o1
    go_wp2_with fail
    go_ret2
    exact madeN2_no E.out b1
  | some m =>
    obtain ⟨hm4, hmb⟩ := h4.out m hu
    rw [hu] at U D
    simp only at D
    have HMB := Lib.hid hmb
    obtain ⟨cn, hcn⟩ : ∃ cn, cn = countNd m (some 0) 40 := ⟨_, rfl⟩
    have TK := Lib.hid (fun W R b d (h : Rdr W R b d m (some 0)) => takeNods_any R b d m (some 0) W h)
    rw [← hcn] at D TK
    have CL : Hid (∀ acc q, cn = some (acc, q) → acc.length ≤ 40 ∧ ∀ n ∈ acc, n.cols.length ≤ 300) := fun acc q hq => ⟨countNd_40 (hcn.symm.trans hq), countNd_cols hmb (hcn.symm.trans hq)⟩
    clear hu hmb hcn h4
    go_enter Tryz.func42, Tryz.ntmps42
    go_wp2_with fail
    refine U.out.mono ?_
    rintro e w1 ⟨a1, c1, rfl, o1, b1⟩
    have o1' : Own w1 w.heap.size 5 .u8 a1 c1 m := o1
    have RB := Lib.hid (rdr_box (d := c1) o1'.rd HMB.out ⟨o1'.cap_ge, o1'.cap_le⟩ (fun a ha => (o1'.lt a ha).2))
    have B1 := Lib.hid (b1.alloc b1.size (.cells #[.slice a1 m.length c1, .int .i64 0, .nilIface] 116))
    have hz1 := b1.size
    clear o1 o1' b1 U
    go_wp2_with fail
    refine (TK.out _ _ _ _ RB.out).mono ?_
    rintro e w2 ⟨g2, hp⟩
    have B2 := Lib.hid (B1.out.grown g2 B1.out.size (by intro g hg; cases hg; exact hz1))
    have hz2 := g2.size
    clear g2
    cases cn with
    | none =>
      obtain ⟨rfl, s', hr⟩ := hp
      have E : Hid (res = ([], 2)) := D.out
      clear hr
      go_wp2_with fail
      go_ret2
      exact madeN2_no E.out B2.out
    | some x =>
      obtain ⟨acc, q⟩ := x
      obtain ⟨ao, c, rfl, ho, hr⟩ := hp
      simp only at ho hr ⊢
      have HO := Lib.hid ho
      obtain ⟨hal, hcl⟩ := CL.out acc q rfl
      have SM := Lib.hid (show Small acc from ⟨by omega, fun n hn => by have := hcl n hn; omega⟩)
      clear hcl CL
      have EN := Lib.hid (rEnd_any _ _ _ _ q _ hr)
      have D' : Hid (res = if q ≠ m.length then ([], 4) else if planB acc = true then (acc, 0) else ([], 3)) := D.out
      clear ho hr D
      by_cases hq : q = m.length
      · have hqb : (q == (m.length : Int)) = true := by simp [hq]
        go_wp2_with fail
        refine EN.out.mono ?_
        rintro e w3 ⟨rfl, b3⟩
        rw [hqb]
        have B3 := Lib.hid (below_step B2.out (Nat.le_refl _) b3)
        have O3 := Lib.hid (HO.out.below b3)
        clear b3
        go_wp2_with fail
        refine (implPlanOk_any ao c acc SM.out w3 O3.out.rd).mono ?_
        rintro e w4 ⟨rfl, b4⟩
        have B4 := Lib.hid (below_step B3.out (Nat.le_refl _) b4)
        have O4 := Lib.hid ((O3.out.below b4).base_le (base' := w.heap.size) (by simp; omega))
        clear b4
        cases hs : planB acc with
        | true =>
          have E : Hid (res = (acc, 0)) := by show _ = _; rw [D'.out, if_neg (fun h => h hq), if_pos hs]
          go_wp2_with fail
          go_ret2
          exact madeN2_yes E.out rfl O4.out B4.out
        | false =>
          have E : Hid (res = ([], 3)) := by show _ = _; rw [D'.out, if_neg (fun h => h hq), if_neg (by rw [hs]; simp)]
          go_wp2_with fail
          go_ret2
          exact madeN2_no E.out B4.out
      · have hqb : (q == (m.length : Int)) = false := by simp [hq]
        have E : Hid (res = ([], 4)) := by show _ = _; rw [D'.out, if_pos hq]
        go_wp2_with fail
        refine EN.out.mono ?_
        rintro e w3 ⟨rfl, b3⟩
        rw [hqb]
        have B3 := Lib.hid (below_step B2.out (Nat.le_refl _) b3)
        clear b3
        go_wp2_with fail
        go_ret2
        exact madeN2_no E.out B3.out
end Go.Proofs.YtfpbhedophlnkaaGreatDoor
