/-
  Contract of impl.DecodeSchema. For every slice of bytes.
-/
import Derived.Test.YtcegekkhlfpgfaaDoorRCntT
import Derived.Test.YtcegekkhlfpgfaaDoorDecP
import Derived.Test.YtcegekkhlfpgfaaDoorIUnf
import Derived.Test.YtcegekkhlfpgfaaDoorITold
namespace Go.Proofs.YtcegekkhlfpgfaaDoor
open Go.RowKit
set_option linter.unusedSimpArgs false
set_option linter.unusedVariables false

theorem rdr_box {w : World} {b : Option Addr} {d : Nat} {l : List Int} (h : Rd w .u8 b l) (hby : By l) (hd : l.length ≤ d ∧ d ≤ maxLen) (hlt : ∀ a, b = some a → a.block < w.heap.size) : Rdr (w.alloc (.cells #[.slice b l.length d, .int .i64 0, .nilIface] 63)) w.heap.size b d l (some 0) :=
  ⟨0, .nilIface, heap_alloc_new w _, by decide, .inl ⟨rfl, rfl⟩, h.below ((Below.refl _ w).alloc (Nat.le_refl _) _), hby, hd, fun a ha _ => by have := hlt a ha; omega⟩

set_option maxRecDepth 100000 in
set_option maxHeartbeats 1600000 in
theorem implDecodeSchema_any (b : Option Addr) (d : Nat) (l : List Int) (w : World) (hg : ErrT w) (h : Rd w .u8 b l) (hby : By l) (hl : l.length ≤ maxLen) (hd : l.length ≤ d) (hd2 : d ≤ maxLen) :
    Calls Tryd.prog 16 #[.slice b l.length d] w (MadeT2 (decQ l) w) := by
  have U := Lib.hid (implUnframe_any b d l w hg h hby hl hd hd2)
  have hmf : ∀ (fn : Go.Fn) (first cap : Array Value) (w : World), (Instr.makeFunc fn first cap).run Tryd.prog w = .ok (.func fn first cap) w := fun _ _ _ _ => rfl
  have D : Hid (decQ l = match unfL l with | none => none | some m => match countT m (some 0) 8 with | none => none | some (acc, q) => if q = m.length ∧ schemaB acc = true then some acc else none) := rfl
  have h4 : Hid (∀ m, unfL l = some m → m.length ≤ 4000 ∧ By m) := fun m hm => ⟨unfL_4000 hm, unfL_by hby hm⟩
  obtain ⟨res, hres⟩ : ∃ r, r = decQ l := ⟨_, rfl⟩
  rw [← hres] at D ⊢
  clear hres h hg hby hl hd hd2
  cases hu : unfL l with
  | none =>
    have E : Hid (res = none) := by show _ = _; rw [D.out, hu]
    rw [hu] at U
    clear hu
    go_enter Tryd.func16, Tryd.ntmps16
    go_wp2_with fail
    refine U.out.mono ?_
    rintro e w1 ⟨a1, c1, rfl, o1, b1⟩
    clear o1
    go_wp2_with fail
    go_ret2
    exact madeT2_no E.out b1
  | some m =>
    obtain ⟨hm4, hmb⟩ := h4.out m hu
    rw [hu] at U D
    simp only at D
    have HMB := Lib.hid hmb
    obtain ⟨cn, hcn⟩ : ∃ cn, cn = countT m (some 0) 8 := ⟨_, rfl⟩
    have TK := Lib.hid (fun W R b d (h : Rdr W R b d m (some 0)) => takeTabs_any R b d m (some 0) W h)
    rw [← hcn] at D TK
    have CL : Hid (∀ acc q, cn = some (acc, q) → acc.length ≤ 8) := fun acc q hq => countT_8 (hcn.symm.trans hq)
    clear hu hmb hcn h4
    go_enter Tryd.func16, Tryd.ntmps16
    go_wp2_with fail
    refine U.out.mono ?_
    rintro e w1 ⟨a1, c1, rfl, o1, b1⟩
    have o1' : Own w1 w.heap.size 5 .u8 a1 c1 m := o1
    have RB := Lib.hid (rdr_box (d := c1) o1'.rd HMB.out ⟨o1'.cap_ge, o1'.cap_le⟩ (fun a ha => (o1'.lt a ha).2))
    have B1 := Lib.hid (b1.alloc b1.size (.cells #[.slice a1 m.length c1, .int .i64 0, .nilIface] 63))
    have hz1 := b1.size
    clear o1 o1' b1 U
    go_wp2_with fail
    refine (TK.out _ _ _ _ RB.out).mono ?_
    rintro e w2 ⟨g2, hp⟩
    have B2 := Lib.hid (B1.out.grown g2 B1.out.size (by intro g hg; cases hg; exact hz1))
    have hz2 := g2.size
    clear g2
    cases cn with
    | none =>
      obtain ⟨rfl, s', hr⟩ := hp
      have E : Hid (res = none) := D.out
      clear hr
      go_wp2_with fail
      go_ret2
      exact madeT2_no E.out B2.out
    | some x =>
      obtain ⟨acc, q⟩ := x
      obtain ⟨ao, c, rfl, ho, hr⟩ := hp
      simp only at ho hr ⊢
      have HO := Lib.hid ho
      have hal := CL.out acc q rfl
      have EN := Lib.hid (rEnd_any _ _ _ _ q _ hr)
      have D' : Hid (res = if q = m.length ∧ schemaB acc = true then some acc else none) := D.out
      clear ho hr D
      by_cases hq : q = m.length
      · have hqb : (q == (m.length : Int)) = true := by simp [hq]
        go_wp2_with fail
        refine EN.out.mono ?_
        rintro e w3 ⟨rfl, b3⟩
        rw [hqb]
        have B3 := Lib.hid (below_step B2.out (Nat.le_refl _) b3)
        have O3 := Lib.hid (HO.out.below b3)
        clear b3
        go_wp2_with fail
        refine (implSchema_any ao c acc w3 O3.out.rd (by omega)).mono ?_
        rintro e w4 ⟨rfl, b4⟩
        have B4 := Lib.hid (below_step B3.out (Nat.le_refl _) b4)
        have O4 := Lib.hid ((O3.out.below b4).base_le (base' := w.heap.size) (by simp; omega))
        clear b4
        cases hs : schemaB acc with
        | true =>
          have E : Hid (res = some acc) := by show _ = _; rw [D'.out, if_pos ⟨hq, hs⟩]
          go_wp2_with fail
          go_ret2
          exact madeT2_yes E.out rfl O4.out B4.out
        | false =>
          have E : Hid (res = none) := by show _ = _; rw [D'.out, if_neg (by rw [hs]; simp)]
          go_wp2_with fail
          go_ret2
          exact madeT2_no E.out B4.out
      · have hqb : (q == (m.length : Int)) = false := by simp [hq]
        have E : Hid (res = none) := by show _ = _; rw [D'.out, if_neg (fun h => hq h.1)]
        go_wp2_with fail
        refine EN.out.mono ?_
        rintro e w3 ⟨rfl, b3⟩
        rw [hqb]
        have B3 := Lib.hid (below_step B2.out (Nat.le_refl _) b3)
        clear b3
        go_wp2_with fail
        go_ret2
        exact madeT2_no E.out B3.out
end Go.Proofs.YtcegekkhlfpgfaaDoor
