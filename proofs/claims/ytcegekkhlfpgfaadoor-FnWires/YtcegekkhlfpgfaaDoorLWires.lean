/-
  For every slice of bytes, FnWires answers true (what is put is taken again; cut it is not there; a frame is opened to what it holds, and turned it is not opened as it) and leaves its argument as it was. The condition: errors.errorType holds what the program starts with (the card ties it to the text).
-/
import Derived.Test.YtcegekkhlfpgfaaDoorRows
import Derived.Test.YtcegekkhlfpgfaaDoorCards
import Derived.Test.YtcegekkhlfpgfaaDoorTie
import Derived.Test.YtcegekkhlfpgfaaDoorArg
import Derived.Test.YtcegekkhlfpgfaaDoorBig
import Derived.Test.YtcegekkhlfpgfaaDoorAt
import Derived.Test.YtcegekkhlfpgfaaDoorRound2
import Derived.Test.YtcegekkhlfpgfaaDoorDraw5
import Derived.Test.YtcegekkhlfpgfaaDoorIUnf
import Derived.Test.YtcegekkhlfpgfaaDoorListAt
import Derived.Test.YtcegekkhlfpgfaaDoorWordAt
import Derived.Test.YtcegekkhlfpgfaaDoorSlice
import Derived.WalkKit
import Derived.StillTailTactics
import Derived.ProofKit
import Derived.OpenShut
import Derived.ShutString
import Derived.ChangeOld
import Derived.Below
import Derived.ChangeSame
import Derived.ChangeVars
import Derived.JoinedOf
import Derived.RowKit
import Derived.RowKitTokens
import Derived.LaidLaws
import Derived.LaidHandle
import Derived.Stop.Joined
import Derived.SevenTiedAt
namespace Go.Proofs.YtcegekkhlfpgfaaDoor.fnWires
open Go.ChangeShapes Go.WideShapes Go.ChangeAt Go.RowKit
set_option linter.unusedSimpArgs false
set_option linter.unusedVariables false
open Go.ChangeMaps (open_string shut_string)
set_option linter.unusedVariables false

theorem own : ownKnob Tryd.prog.godebug = none := by kernel_rfl
theorem laidOut : laidOutB Tryd.prog = true := by kernel_rfl
theorem et : Tryd.prog.globalNamed "errors.errorType" = some 0 := by kernel_rfl
theorem rt : (Tryd.prog.cutTypes.find? (·.1 == "internal/reflectlite.rtype")).map (·.2) = some 164 := by kernel_rfl
theorem oneRow : ((List.range 232).filter fun t => Tryd.prog.rowNamed t [101, 114, 114, 111, 114]) = [61] := by kernel_rfl
theorem size : Tryd.prog.types.size = 232 := by kernel_rfl

/-- What the row's list gives a walk: the variable's one cell. -/
theorem errT_of_laid {W : World} (h : laidMetH Tryd.prog Rows.fnWiresRow.laid W) : ErrT W := by
  have h' : laidMet Tryd.prog [] W ∧ handlesMet Tryd.prog Rows.fnWiresRow.laid W := h
  obtain ⟨name, u, ty, e1, e2, e3, e4, e5⟩ := h'.2 _ (List.mem_singleton.2 rfl)
  have en : name = [101, 114, 114, 111, 114] := (Option.some.inj e1).symm
  subst en
  obtain rfl := Option.some.inj (rt.symm.trans e2)
  have hm : ty ∈ (List.range 232).filter fun t => Tryd.prog.rowNamed t [101, 114, 114, 111, 114] := List.mem_filter.2 ⟨List.mem_range.2 (by rw [← size]; exact e3), e4⟩
  rw [oneRow] at hm
  obtain rfl := List.mem_singleton.1 hm
  have hh : typeHandle Tryd.prog 61 = .pointer (some ⟨2, 61, none⟩) := by kernel_rfl
  rw [hh] at e5
  unfold ErrT
  simpa using World.var?_cell et e5 0

/-- A world that meets the condition: the settled one, the variable's cell laid. -/
noncomputable def laidWorld (os : Os) : World :=
  let w0 := World.holding Tryd.prog os ⟨#[], #[], []⟩
  { w0 with heap := w0.heap.modify 0 fun
      | .cells _ t frozen => .cells #[.iface 164 (.agg #[.pointer (some ⟨2, 61, none⟩)])] t frozen
      | o => o }
theorem laidWorld_met (os : Os) (args : Array Value) : laidMetH Tryd.prog Rows.fnWiresRow.laid ((laidWorld os).forCall (fun _ _ => 0) ⟨#[], args, []⟩).memory :=
  laidMetH_of_parts (laidMet_nil _ _) (by kernel_rfl)

theorem rd_dropLast {w : World} {k : IntKind} {ao : Option Addr} {l : List Int} (h : Rd w k ao l) : Rd w k ao l.dropLast := by
  rcases h with rfl | ⟨b, off, rfl, hc⟩
  · exact .inl rfl
  · refine .inr ⟨b, off, rfl, fun i hi => ?_⟩
    have hi' : i < l.length - 1 := by simpa using hi
    rw [hc i (by omega), List.getD_eq_getElem?_getD, List.getD_eq_getElem?_getD, List.getElem?_dropLast, if_pos hi']
theorem own_empty (w : World) : Own (w.alloc (.cells #[] 5)) w.heap.size 5 .u8 (some ⟨w.heap.size, 0, none⟩) 0 [] :=
  World.ownsRow_lit w #[] 0 (Nat.le_refl _) (by unfold maxLen; omega) rfl
theorem below_empty {w w1 : World} {o : Obj} (hg : (w.alloc o).grownBy w1 ((some (⟨w.heap.size, 0, none⟩ : Addr)).map (·.block))) : Below w.heap.size w w1 := by
  refine ((Below.refl w.heap.size w).alloc (Nat.le_refl _) o).grown hg (by simp) ?_
  intro g hg'
  simp at hg'
  omega
theorem mul_small {x y : Int} (h : 0 ≤ x ∧ x ≤ 255) (k : 0 ≤ y ∧ y ≤ 255) : x * (1 + y) ≤ 65280 := by
  have := Int.mul_le_mul h.2 (show 1 + y ≤ 256 by omega) (by omega) (by omega)
  omega
theorem mod_nat {a : Int} {n : Nat} (h : 0 ≤ a) (hn : 0 < n) : ∃ k : Nat, a % (n : Int) = k ∧ k < n := by
  have h1 := Int.emod_nonneg a (show (n : Int) ≠ 0 by omega)
  have h2 := Int.emod_lt_of_pos a (show (0 : Int) < n by omega)
  exact ⟨(a % (n : Int)).toNat, by omega, by omega⟩
theorem by_getD {l : List Int} (h : By l) {k : Nat} : 0 ≤ l.getD k 0 ∧ l.getD k 0 ≤ 255 := by
  rw [List.getD_eq_getElem?_getD]
  rcases hk : l[k]? with _ | z
  · simp
  · have := h z (List.mem_of_getElem? hk)
    simp
    omega
theorem xor_ne {z c : Int} (hz : 0 ≤ z ∧ z ≤ 255) (hc : 1 ≤ c ∧ c ≤ 255) : (0 ≤ bits .xor .u8 z c ∧ bits .xor .u8 z c ≤ 255) ∧ bits .xor .u8 z c ≠ z := by
  have hlt := (BitVec.ofInt 8 z ^^^ BitVec.ofInt 8 c).isLt
  have e : bits .xor .u8 z c = ((BitVec.ofInt 8 z ^^^ BitVec.ofInt 8 c).toNat : Int) := by
    show IntKind.wrap .u8 ((BitVec.ofInt 8 z ^^^ BitVec.ofInt 8 c).toNat : Int) = _
    rw [IntKind.wrap_u8]
    omega
  rw [e]
  refine ⟨by omega, fun h => ?_⟩
  have h1 : BitVec.ofInt 8 z ^^^ BitVec.ofInt 8 c = BitVec.ofInt 8 z := BitVec.eq_of_toNat_eq (by rw [BitVec.toNat_ofInt]; omega)
  have h2 : BitVec.ofInt 8 c = 0#8 := by
    have := congrArg (BitVec.ofInt 8 z ^^^ ·) h1
    simpa [← BitVec.xor_assoc] using this
  have h3 := congrArg BitVec.toNat h2
  rw [BitVec.toNat_ofInt] at h3
  simp at h3
  omega
theorem by_set {l : List Int} (h : By l) {k : Nat} {v : Int} (hv : 0 ≤ v ∧ v ≤ 255) : By (l.set k v) := by
  intro z hz
  rcases List.mem_or_eq_of_mem_set hz with h' | rfl
  · exact h z h'
  · omega
theorem own_set {w : World} {base g c : Nat} {e : TypeId} {k : IntKind} {l : List Int} (h : Own w base e k (some ⟨g, 0, none⟩) c l) (j : Nat) (v : Int) :
    Own (w.setCell ⟨g, j, none⟩ (.int k v)) base e k (some ⟨g, 0, none⟩) c (l.set j v) ∧ w.grownBy (w.setCell ⟨g, j, none⟩ (.int k v)) ((some (⟨g, 0, none⟩ : Addr)).map (·.block)) := by
  have h1 := World.ownsRow.stored (h := h) j (.int k v)
  rw [map_set_int] at h1
  refine ⟨?_, h1.2⟩
  unfold Own
  rw [List.length_set]
  exact h1.1
theorem unfL_len (l : List Int) : ((unfL l).getD []).length ≤ 4000 := by
  unfold unfL unfT
  split
  · split
    · simp
    · split
      · simp; omega
      · simp
  · simp
theorem bent_unf {g base c : Nat} {w : World} {f : List Int} {k : Nat} {v : Int} (hg : ErrT w) (h : Own w base 5 .u8 (some ⟨g, 0, none⟩) c (f.set k v)) (hb : By (f.set k v)) (hf : f.length ≤ maxLen) :
    Calls Tryd.prog 21 #[.slice (some ⟨g, 0, none⟩) f.length c] w (Made2 w 5 .u8 ((unfL (f.set k v)).getD []) (unfL (f.set k v)).isSome) := by
  have := implUnframe_any _ c (f.set k v) w hg h.rd hb (by rw [List.length_set]; exact hf) h.cap_ge h.cap_le
  rw [List.length_set] at this
  exact this
set_option maxRecDepth 100000 in
set_option maxHeartbeats 6400000 in
theorem walk (a0 : Option Addr) (len0 cap0 : Nat) (z0 : List Int) (w : World) (w0 : IsRow .u8 w a0 len0 cap0 z0) (hg : ErrT w) :
    Calls Tryd.prog 6 #[.slice a0 len0 cap0] w fun e w' => e = .returned (.bool true) ∧ Below w.heap.size w w' := by
  obtain ⟨l, rfl, hn, hr, hwf⟩ := w0.rd
  have hby := by_of_wf hwf
  clear w0 hwf
  by_cases h : 1048576 < l.length
  · have B := Lib.hid (big_t a0 l.length cap0 w h hn)
    clear hg
    go_enter Tryd.func6, Tryd.ntmps6
    go_wp2_with (refine B.out.mono ?_; rintro e w' ⟨rfl, rfl⟩)
    go_ret
    exact ⟨rfl, Below.refl _ _⟩
  have B := Lib.hid (big_f a0 l.length cap0 w h)
  have HL : Hid (l.length ≤ 1048576) := Lib.hid (by omega)
  have R0 := Lib.hid hr; have G0 := Lib.hid hg; have HBY := Lib.hid hby
  have D1 : Hid (∀ w, Rd w .u8 a0 l → Calls Tryd.prog 24 #[.slice a0 l.length cap0] w (ListP w)) := fun w h => drawPutNums_any a0 cap0 l w h HBY.out (by have := HL.out; omega)
  clear h hn hr hg hby
  go_enter Tryd.func6, Tryd.ntmps6
  go_wp2_with fail
  refine B.out.mono ?_
  rintro e w' ⟨rfl, rfl⟩
  go_wp2_with fail
  refine (D1.out _ R0.out).mono ?_
  rintro e w1 ⟨L, aL, cL, rfl, hL, hbd, oL, b1⟩
  have T1 := Lib.hid b1; have XL := Lib.hid oL; have HLL : Hid (L.length ≤ maxLen) := Lib.hid (by unfold maxLen; omega)
  clear b1 oL hbd hL D1 B
  go_wp2_with fail
  refine (implPutNums_any _ _ _ _ XL.out.rd HLL.out).mono ?_
  rintro e w2 ⟨ab, cb, rfl, oB, b2⟩
  have T2 := Lib.hid (below_step T1.out (Nat.le_refl _) b2); have XL2 := Lib.hid (XL.out.below b2); have XB := Lib.hid oB
  clear b2 oB T1 XL
  go_wp2_with fail
  refine (specPutNums_any _ _ _ _ XL2.out.rd HLL.out).mono ?_
  rintro e w3 ⟨aS, cS, rfl, oS, b3⟩
  have T3 := Lib.hid (below_step T2.out (Nat.le_refl _) b3); have XL3 := Lib.hid (XL2.out.below b3); have XB3 := Lib.hid (XB.out.below b3); have XS := Lib.hid oS
  clear b3 oS T2 XL2 XB
  have hpl := putNs_len L
  have HPL : Hid ((putNs L).length ≤ maxLen) := Lib.hid (by unfold maxLen; omega)
  go_wp2_with fail
  refine (sameBytes_any _ _ _ _ _ _ _ XB3.out.rd XS.out.rd HPL.out HPL.out).mono ?_
  rintro e w4 ⟨rfl, b4⟩
  rw [eqL_refl]
  have T4 := Lib.hid (below_step T3.out (Nat.le_refl _) b4); have XL4 := Lib.hid (XL3.out.below b4); have XB4 := Lib.hid (XB3.out.below b4)
  clear b4 T3 XL3 XB3 XS
  by_cases hpos : 0 < (putNs L).length
  · skip
    have hok := putNs_pos hpos
    have hdec : decide ((0 : Int) < ((putNs L).length : Int)) = true := by simpa using hpos
    have hpl' : ((putNs L).length : Int) ≤ 903 := by omega
    have TK : Hid (∀ (w : World) (b : Option Addr) (d : Nat), ErrT w → Rd w .u8 b (putNs L) → (putNs L).length ≤ d → d ≤ maxLen → Calls Tryd.prog 28 #[.slice b (putNs L).length d, .int .i64 0] w (TookL (L, ((putNs L).length : Int)) w)) := by
      intro w b d g h h1 h2
      have := implTakeNums_any b d (putNs L) 0 w g h (putNs_by L) HPL.out h1 h2 (by omega) (by omega)
      rwa [takeNs_put hok] at this
    have TC : Hid (∀ (w : World) (b : Option Addr) (n d : Nat), ErrT w → Rd w .u8 b (putNs L).dropLast → n = (putNs L).length - 1 → n ≤ d → d ≤ maxLen → Calls Tryd.prog 28 #[.slice b n d, .int .i64 0] w (TookL ([], -1) w)) := by
      intro w b n d g h hn h1 h2
      have hnl : n = (putNs L).dropLast.length := by simp; omega
      subst hnl
      have := implTakeNums_any b d (putNs L).dropLast 0 w g h (fun z hz => putNs_by L z (List.dropLast_subset _ hz)) (by unfold maxLen; simp; omega) h1 h2 (by omega) (by omega)
      rwa [takeNs_cut hok] at this
    unfold TookL at TK TC
    dsimp only [List.length_nil] at TK TC
    obtain ⟨bb, bo, rfl⟩ : ∃ b o, ab = some ⟨b, o, none⟩ := by
      rcases XB4.out.rd with h | ⟨b, o, h, _⟩
      · rw [h] at hpos; simp at hpos
      · exact ⟨b, o, h⟩
    have hcb : (putNs L).length ≤ cb := XB4.out.cap_ge
    have HCB := Lib.hid XB4.out.cap_le
    go_wp2_with fail
    refine (TK.out _ _ _ (G0.out.below T4.out) XB4.out.rd XB4.out.cap_ge XB4.out.cap_le).mono ?_
    rintro e w5 ⟨a5, c5, rfl, o5, b5⟩
    have T5 := Lib.hid (below_step T4.out (Nat.le_refl _) b5); have XL5 := Lib.hid (XL4.out.below b5); have XB5 := Lib.hid (XB4.out.below b5); have K5 := Lib.hid o5
    clear b5 o5 T4 XL4 XB4
    go_wp2_with fail
    refine (TC.out _ _ _ _ (G0.out.below T5.out) (rd_dropLast XB5.out.rd) rfl (by omega) HCB.out).mono ?_
    rintro e w6 ⟨a6, c6, rfl, _, b6⟩
    have T6 := Lib.hid (below_step T5.out (Nat.le_refl _) b6); have XL6 := Lib.hid (XL5.out.below b6); have K6 := Lib.hid (K5.out.below b6)
    clear b6 T5 XL5 XB5 K5
    go_wp2_with fail
    refine (same_any _ _ _ _ _ _ _ K6.out.rd XL6.out.rd HLL.out HLL.out).mono ?_
    rintro e w7 ⟨rfl, b7⟩
    rw [eqL_refl]
    have T7 := Lib.hid (below_step T6.out (Nat.le_refl _) b7)
    clear b7 T6 XL6 K6 TK TC HCB hcb hpl hpl' HPL HLL
    have A1 : Hid (∀ w, Rd w .u8 a0 l → Calls Tryd.prog 31 #[.slice a0 l.length cap0, .int .i64 1] w (SomeP w 3001)) := fun w h => alt_any a0 cap0 l 1 w h HBY.out HL.out (by omega) (by omega)
    go_wp2_with fail
    refine (A1.out _ (R0.out.below T7.out)).mono ?_
    rintro e w10 ⟨q1, aq1, cq1, rfl, hq1, byq1, oq1, b10⟩
    have T10 := Lib.hid (below_step T7.out (Nat.le_refl _) b10); have Q1 := Lib.hid oq1; have BQ1 := Lib.hid byq1; have HQ1 : Hid (q1.length ≤ 1048577) := Lib.hid (by omega)
    clear b10 oq1 byq1 hq1 T7 A1
    go_wp2_with fail
    refine (drawPutWord_any _ _ _ _ Q1.out.rd BQ1.out HQ1.out).mono ?_
    rintro e w11 ⟨s, hs, rfl, b11⟩
    have T11 := Lib.hid (below_step T10.out (Nat.le_refl _) b11); have HS : Hid (s.size ≤ maxLen) := Lib.hid (by unfold maxLen; omega)
    clear b11 T10 Q1 BQ1 HQ1
    go_wp2_with fail
    refine (implPutWord_any _ _ HS.out).mono ?_
    rintro e w12 ⟨ap, cp, rfl, oP, b12⟩
    have T12 := Lib.hid (below_step T11.out (Nat.le_refl _) b12); have XP := Lib.hid oP
    clear b12 oP T11
    have hpw := putW_pos s
    have hpwl := putW_len s
    go_wp2_with fail
    refine (specWordOk_any _ _ HS.out).mono ?_
    rintro e w' ⟨rfl, rfl⟩
    cases hwb : wordB s.data.toList with
    | true =>
      have hpw1 : 0 < (putW s).length := by rw [hwb] at hpw; simpa using hpw
      have hpwl' : ((putW s).length : Int) ≤ 15 := by omega
      have hdw : decide ((0 : Int) < ((putW s).length : Int)) = true := by simpa using hpw1
      have TW : Hid (∀ (w : World) (b : Option Addr) (d : Nat), ErrT w → Rd w .u8 b (putW s) → (putW s).length ≤ d → d ≤ maxLen → Calls Tryd.prog 34 #[.slice b (putW s).length d, .int .i64 0] w (TookSB (s, ((putW s).length : Int)) w)) := by
        intro w b d g h h1 h2
        have := implTakeWord_any b d (putW s) 0 w g h (putW_by s) (by unfold maxLen; omega) h1 h2 (by omega) (by omega)
        rwa [takeW_put hwb] at this
      unfold TookSB at TW
      dsimp only at TW
      clear hpw hwb
      go_wp2_with fail
      refine (TW.out _ _ _ (G0.out.below T12.out) XP.out.rd XP.out.cap_ge XP.out.cap_le).mono ?_
      rintro e w13 ⟨rfl, b13⟩
      have T13 := Lib.hid (below_step T12.out (Nat.le_refl _) b13)
      clear b13 T12 XP TW
      have A2 : Hid (∀ w, Rd w .u8 a0 l → Calls Tryd.prog 31 #[.slice a0 l.length cap0, .int .i64 2] w (SomeP w 3001)) := fun w h => alt_any a0 cap0 l 2 w h HBY.out HL.out (by omega) (by omega)
      go_wp2_with fail
      refine (A2.out _ (R0.out.below T13.out)).mono ?_
      rintro e w20 ⟨q2, aq2, cq2, rfl, hq2, byq2, oq2, b20⟩
      have T20 := Lib.hid (below_step T13.out (Nat.le_refl _) b20); have Q2 := Lib.hid oq2; have BQ2 := Lib.hid byq2; have HQ2 : Hid (q2.length ≤ 1048577) := Lib.hid (by omega)
      clear b20 oq2 byq2 hq2 T13 A2
      go_wp2_with fail
      refine (drawFrame_any _ _ _ _ Q2.out.rd BQ2.out HQ2.out).mono ?_
      rintro e w21 ⟨y, ay, cy, rfl, hy, byy, oy, b21⟩
      have T21 := Lib.hid (below_step T20.out (Nat.le_refl _) b21); have Y := Lib.hid oy; have BY := Lib.hid byy; have HY : Hid (y.length ≤ maxLen) := Lib.hid (by unfold maxLen; omega)
      clear b21 oy byy T20 Q2 BQ2 HQ2
      have hfl := frameL_len y
      have HF : Hid ((frameL y).length ≤ maxLen) := Lib.hid (by unfold maxLen; omega)
      go_wp2_with fail
      refine (implFrame_any _ _ _ _ Y.out.rd Y.out.nilcap BY.out HY.out).mono ?_
      rintro e w22 ⟨af, cf, rfl, of, b22⟩
      have T22 := Lib.hid (below_step T21.out (Nat.le_refl _) b22); have Y22 := Lib.hid (Y.out.below b22); have F22 := Lib.hid of
      clear b22 of T21 Y
      go_wp2_with fail
      refine (specFrame_any _ _ _ _ Y22.out.rd BY.out HY.out).mono ?_
      rintro e w23 ⟨ag, cg, rfl, og, b23⟩
      have T23 := Lib.hid (below_step T22.out (Nat.le_refl _) b23); have Y23 := Lib.hid (Y22.out.below b23); have F23 := Lib.hid (F22.out.below b23); have G23 := Lib.hid og
      clear b23 og T22 Y22 F22
      generalize hfin : decide (y.length ≤ 4000) = fine
      have hff : (fine != fine) = false := by cases fine <;> rfl
      go_wp2_with fail
      refine (sameBytes_any _ _ _ _ _ _ _ F23.out.rd G23.out.rd HF.out HF.out).mono ?_
      rintro e w24 ⟨rfl, b24⟩
      rw [eqL_refl]
      have T24 := Lib.hid (below_step T23.out (Nat.le_refl _) b24); have Y24 := Lib.hid (Y23.out.below b24); have F24 := Lib.hid (F23.out.below b24)
      clear b24 T23 Y23 F23 G23
      cases fine with
      | false =>
        go_wp2
        go_ret
        exact ⟨rfl, T24.out⟩
      | true =>
        have hy4 : y.length ≤ 4000 := by simpa using hfin
        clear hfin
        have UN : Hid (∀ (w : World) (b : Option Addr) (d : Nat), ErrT w → Rd w .u8 b (frameL y) → (frameL y).length ≤ d → d ≤ maxLen → Calls Tryd.prog 21 #[.slice b (frameL y).length d] w (Made2 w 5 .u8 y true)) := by
          intro w b d g h h1 h2
          have := implUnframe_any b d (frameL y) w g h (frameL_by BY.out) HF.out h1 h2
          rwa [unfL_frame hy4] at this
        go_wp2_with fail
        refine (UN.out _ _ _ (G0.out.below T24.out) F24.out.rd F24.out.cap_ge F24.out.cap_le).mono ?_
        rintro e w25 ⟨ai, ci, rfl, oi, b25⟩
        have T25 := Lib.hid (below_step T24.out (Nat.le_refl _) b25); have Y25 := Lib.hid (Y24.out.below b25); have F25 := Lib.hid (F24.out.below b25); have I25 := Lib.hid oi
        clear b25 oi T24 Y24 F24 UN
        have HE := Lib.hid (own_empty w25)
        go_wp2_with (at_builtin; refine wpList_appendR _ rfl (.tmp 123) (.tmp 124) 22 22 rfl w25.heap.size 5 5 .u8 1 Tryd.underlying22 Tryd.underlying22 Tryd.infoU8 (some ⟨w25.heap.size, 0, none⟩) 0 0 [] rfl rfl HE.out af cf (frameL y).length (frameL y) rfl rfl (F25.out.alloc _).rd F25.out.nilcap (by unfold maxLen; simp; omega) (by simp; omega) (by simp) ?_; intro ao' c' w26 ho' hg'; have HO' := Lib.hid ho'; have HG' := Lib.hid hg'; clear ho' hg')
        have b26 := below_empty HG'.out
        have T26 := Lib.hid (below_step T25.out (Nat.le_refl _) b26); have Y26 := Lib.hid (Y25.out.below b26); have I26 := Lib.hid (I25.out.below b26)
        have B26 : Hid (Own w26 w25.heap.size 5 .u8 ao' c' (frameL y)) := Lib.hid HO'.out
        have hfp : 0 < (frameL y).length := by rw [frameL_yes hy4]; simp
        obtain ⟨g, rfl, hg1, hg2⟩ : ∃ g, ao' = some ⟨g, 0, none⟩ ∧ w25.heap.size ≤ g ∧ g < w26.heap.size := by
          rcases B26.out.form with ⟨_, _, h⟩ | h
          · rw [h] at hfp; simp at hfp
          · exact h
        have GG := Lib.hid (And.intro hg1 hg2); have GW : Hid (w.heap.size ≤ g) := Lib.hid (Nat.le_trans T25.out.size hg1)
        have NY : Hid (∀ a, ay = some a → a.block ≠ g) := Lib.hid (fun a ha => by have := (Y25.out.lt a ha).2; omega)
        have NI : Hid (∀ a, ai = some a → a.block ≠ g) := Lib.hid (fun a ha => by have := (I25.out.lt a ha).2; omega)
        clear b26 T25 Y25 I25 F25 HO' HG' HE hg1 hg2
        obtain ⟨x0, hx0⟩ : ∃ x, x = atV l 0 := ⟨_, rfl⟩
        obtain ⟨x1, hx1⟩ : ∃ x, x = atV l 1 := ⟨_, rfl⟩
        obtain ⟨x2, hx2⟩ : ∃ x, x = atV l 2 := ⟨_, rfl⟩
        have C0 : Hid (∀ w : World, Rd w .u8 a0 l → Calls Tryd.prog 38 #[.slice a0 l.length cap0, .int .i64 0] w fun e w' => e = .returned (.int .i64 x0) ∧ w = w') := fun w h => by rw [hx0]; exact (at_val a0 cap0 l 0 0 w rfl h HBY.out HL.out (by omega)).mono fun e w' h => ⟨h.1, h.2.symm⟩
        have C1 : Hid (∀ w : World, Rd w .u8 a0 l → Calls Tryd.prog 38 #[.slice a0 l.length cap0, .int .i64 1] w fun e w' => e = .returned (.int .i64 x1) ∧ w = w') := fun w h => by rw [hx1]; exact (at_val a0 cap0 l 1 1 w rfl h HBY.out HL.out (by omega)).mono fun e w' h => ⟨h.1, h.2.symm⟩
        have C2 : Hid (∀ w : World, Rd w .u8 a0 l → Calls Tryd.prog 38 #[.slice a0 l.length cap0, .int .i64 2] w fun e w' => e = .returned (.int .i64 x2) ∧ w' = w) := fun w h => by rw [hx2]; exact at_val a0 cap0 l 2 2 w rfl h HBY.out HL.out (by omega)
        have d0 : 0 ≤ x0 ∧ x0 ≤ 255 := by rw [hx0]; exact atV_bd HBY.out 0
        have d1 : 0 ≤ x1 ∧ x1 ≤ 255 := by rw [hx1]; exact atV_bd HBY.out 1
        have d2 : 0 ≤ x2 ∧ x2 ≤ 255 := by rw [hx2]; exact atV_bd HBY.out 2
        clear hx0 hx1 hx2
        have hm1 : 0 ≤ x0 * (1 + x1) := Int.mul_nonneg (by omega) (by omega)
        have hm2 : x0 * (1 + x1) ≤ 65280 := mul_small d0 d1
        have hfp' : (0 : Int) < (frameL y).length := by omega
        have hfl' : ((frameL y).length : Int) ≤ 4008 := by omega
        refine (C0.out _ (R0.out.below T26.out)).mono ?_
        rintro e w' ⟨rfl, rfl⟩
        go_wp2_with fail
        refine (C1.out _ (R0.out.below T26.out)).mono ?_
        rintro e w' ⟨rfl, rfl⟩
        go_wp2_with fail
        obtain ⟨k, hk, hkl⟩ : ∃ k : Nat, x0 * (1 + x1) % ((frameL y).length : Int) = k ∧ k < (frameL y).length := mod_nat hm1 hfp
        rw [hk]
        clear hk hm1 hm2 d0 d1 C0 C1 hfp hfp'
        have hz := B26.out.cell k hkl
        have hfz := B26.out.frozenAt k
        have zb := by_getD (frameL_by BY.out) (k := k)
        obtain ⟨z, hzd⟩ : ∃ z, z = (frameL y).getD k 0 := ⟨_, rfl⟩
        rw [← hzd] at hz zb
        have HZ := Lib.hid hzd; clear hzd
        refine wp_region_still_tail 13 (by kernel_rfl) (by kernel_rfl) ?_
        simp only [List.take_succ_cons, List.take_zero, List.drop_succ_cons, List.drop_zero]
        have bd : Below w26.heap.size w26 { w26 with drawn := w26.drawn + 1 } := ⟨rfl, rfl, rfl, Nat.le_refl _, fun _ _ => rfl⟩
        generalize ({ w26 with drawn := w26.drawn + 1 } : World) = w27 at bd ⊢
        have hc27 : w27.cell? ⟨g, k, none⟩ = some (.int .u8 z) := (bd.cell GG.out.2).trans hz
        have hf27 : w27.frozen? ⟨g, k, none⟩ = false := (bd.frozen GG.out.2).trans hfz
        have T27 := Lib.hid (below_step T26.out (Nat.le_refl _) bd); have Y27 := Lib.hid (Y26.out.below bd); have I27 := Lib.hid (I26.out.below bd); have B27 := Lib.hid (B26.out.below bd)
        clear bd hz hfz T26 Y26 I26 B26
        have hki : (k : Int) < (frameL y).length := by omega
        repeat still_step
        still_call (C2.out w27 (R0.out.below T27.out))
        repeat still_step
        refine wpStill_nil ?_
        clear C2
        go_wp2_with fail
        have hvv := xor_ne zb (show 1 ≤ 1 + x2 % 255 ∧ 1 + x2 % 255 ≤ 255 by omega)
        generalize bits BinOp.xor IntKind.u8 z (1 + x2 % 255) = v at hvv ⊢
        have S := own_set B27.out k v
        generalize w27.setCell ⟨g, k, none⟩ (.int .u8 v) = w28 at S ⊢
        have T28 := Lib.hid (below_grow T27.out (Nat.le_refl _) S.2 (fun b hb => by injection hb with hb; rw [← hb]; exact GW.out))
        have Y28 := Lib.hid (Y27.out.apart S.2 (fun a b ha hb => by injection hb with hb; rw [← hb]; exact NY.out a ha)); have I28 := Lib.hid (I27.out.apart S.2 (fun a b ha hb => by injection hb with hb; rw [← hb]; exact NI.out a ha))
        have hbent : unfL ((frameL y).set k v) ≠ some y := unfL_bent (frameL_by BY.out) hkl hvv.1 (by rw [← HZ.out]; exact hvv.2) rfl
        have U := bent_unf (g := g) (w := w28) (G0.out.below T28.out) S.1 (by_set (frameL_by BY.out) hvv.1) HF.out
        clear hvv S T27 Y27 I27 B27 hc27 hf27 HZ zb hkl hki GG GW NY NI d2
        generalize (frameL y).set k v = m at U hbent
        have hul := unfL_len m
        rcases hu : unfL m with _ | y'
        · rw [hu] at U
          have U' := Lib.hid U; clear U hu hbent hul
          refine U'.out.mono ?_
          rintro e w29 ⟨at_, ct, rfl, ot, b29⟩
          have T29 := Lib.hid (below_step T28.out (Nat.le_refl _) b29); have Y29 := Lib.hid (Y28.out.below b29); have I29 := Lib.hid (I28.out.below b29)
          clear b29 ot T28 Y28 I28 U'
          go_wp2_with fail
          refine (sameBytes_any _ _ _ _ _ _ _ I29.out.rd Y29.out.rd HY.out HY.out).mono ?_
          rintro e w30 ⟨rfl, b30⟩
          rw [eqL_refl]
          have T30 := Lib.hid (below_step T29.out (Nat.le_refl _) b30)
          clear b30 T29 Y29 I29
          go_wp2
          go_ret
          exact ⟨rfl, T30.out⟩
        · rw [hu] at U hul hbent
          have HNE : Hid (eqL y' y = false) := Lib.hid (by unfold eqL; simpa using hbent)
          have HYL : Hid (y'.length ≤ maxLen) := Lib.hid (by unfold maxLen; simp at hul; omega)
          have U' := Lib.hid U; clear U hu hbent hul
          refine U'.out.mono ?_
          rintro e w29 ⟨at_, ct, rfl, ot, b29⟩
          have T29 := Lib.hid (below_step T28.out (Nat.le_refl _) b29); have Y29 := Lib.hid (Y28.out.below b29); have I29 := Lib.hid (I28.out.below b29); have V29 : Hid (Own w29 w28.heap.size 5 .u8 at_ ct y') := Lib.hid ot
          clear b29 ot T28 Y28 I28 U'
          go_wp2_with fail
          refine (sameBytes_any _ _ _ _ _ _ _ I29.out.rd Y29.out.rd HY.out HY.out).mono ?_
          rintro e w30 ⟨rfl, b30⟩
          rw [eqL_refl]
          have T30 := Lib.hid (below_step T29.out (Nat.le_refl _) b30); have Y30 := Lib.hid (Y29.out.below b30); have V30 := Lib.hid (V29.out.below b30)
          clear b30 T29 Y29 I29 V29
          go_wp2_with fail
          refine (sameBytes_any _ _ _ _ _ _ _ V30.out.rd Y30.out.rd HYL.out HY.out).mono ?_
          rintro e w31 ⟨rfl, b31⟩
          rw [HNE.out]
          have T31 := Lib.hid (below_step T30.out (Nat.le_refl _) b31)
          clear b31 T30 Y30 V30
          go_wp2
          go_ret
          exact ⟨rfl, T31.out⟩
    | false =>
      have hpw0 : (putW s).length = 0 := by rw [hwb] at hpw; simpa using hpw
      have T13 := T12
      clear hpw hwb T12 XP
      have A2 : Hid (∀ w, Rd w .u8 a0 l → Calls Tryd.prog 31 #[.slice a0 l.length cap0, .int .i64 2] w (SomeP w 3001)) := fun w h => alt_any a0 cap0 l 2 w h HBY.out HL.out (by omega) (by omega)
      go_wp2_with fail
      refine (A2.out _ (R0.out.below T13.out)).mono ?_
      rintro e w20 ⟨q2, aq2, cq2, rfl, hq2, byq2, oq2, b20⟩
      have T20 := Lib.hid (below_step T13.out (Nat.le_refl _) b20); have Q2 := Lib.hid oq2; have BQ2 := Lib.hid byq2; have HQ2 : Hid (q2.length ≤ 1048577) := Lib.hid (by omega)
      clear b20 oq2 byq2 hq2 T13 A2
      go_wp2_with fail
      refine (drawFrame_any _ _ _ _ Q2.out.rd BQ2.out HQ2.out).mono ?_
      rintro e w21 ⟨y, ay, cy, rfl, hy, byy, oy, b21⟩
      have T21 := Lib.hid (below_step T20.out (Nat.le_refl _) b21); have Y := Lib.hid oy; have BY := Lib.hid byy; have HY : Hid (y.length ≤ maxLen) := Lib.hid (by unfold maxLen; omega)
      clear b21 oy byy T20 Q2 BQ2 HQ2
      have hfl := frameL_len y
      have HF : Hid ((frameL y).length ≤ maxLen) := Lib.hid (by unfold maxLen; omega)
      go_wp2_with fail
      refine (implFrame_any _ _ _ _ Y.out.rd Y.out.nilcap BY.out HY.out).mono ?_
      rintro e w22 ⟨af, cf, rfl, of, b22⟩
      have T22 := Lib.hid (below_step T21.out (Nat.le_refl _) b22); have Y22 := Lib.hid (Y.out.below b22); have F22 := Lib.hid of
      clear b22 of T21 Y
      go_wp2_with fail
      refine (specFrame_any _ _ _ _ Y22.out.rd BY.out HY.out).mono ?_
      rintro e w23 ⟨ag, cg, rfl, og, b23⟩
      have T23 := Lib.hid (below_step T22.out (Nat.le_refl _) b23); have Y23 := Lib.hid (Y22.out.below b23); have F23 := Lib.hid (F22.out.below b23); have G23 := Lib.hid og
      clear b23 og T22 Y22 F22
      generalize hfin : decide (y.length ≤ 4000) = fine
      have hff : (fine != fine) = false := by cases fine <;> rfl
      go_wp2_with fail
      refine (sameBytes_any _ _ _ _ _ _ _ F23.out.rd G23.out.rd HF.out HF.out).mono ?_
      rintro e w24 ⟨rfl, b24⟩
      rw [eqL_refl]
      have T24 := Lib.hid (below_step T23.out (Nat.le_refl _) b24); have Y24 := Lib.hid (Y23.out.below b24); have F24 := Lib.hid (F23.out.below b24)
      clear b24 T23 Y23 F23 G23
      cases fine with
      | false =>
        go_wp2
        go_ret
        exact ⟨rfl, T24.out⟩
      | true =>
        have hy4 : y.length ≤ 4000 := by simpa using hfin
        clear hfin
        have UN : Hid (∀ (w : World) (b : Option Addr) (d : Nat), ErrT w → Rd w .u8 b (frameL y) → (frameL y).length ≤ d → d ≤ maxLen → Calls Tryd.prog 21 #[.slice b (frameL y).length d] w (Made2 w 5 .u8 y true)) := by
          intro w b d g h h1 h2
          have := implUnframe_any b d (frameL y) w g h (frameL_by BY.out) HF.out h1 h2
          rwa [unfL_frame hy4] at this
        go_wp2_with fail
        refine (UN.out _ _ _ (G0.out.below T24.out) F24.out.rd F24.out.cap_ge F24.out.cap_le).mono ?_
        rintro e w25 ⟨ai, ci, rfl, oi, b25⟩
        have T25 := Lib.hid (below_step T24.out (Nat.le_refl _) b25); have Y25 := Lib.hid (Y24.out.below b25); have F25 := Lib.hid (F24.out.below b25); have I25 := Lib.hid oi
        clear b25 oi T24 Y24 F24 UN
        have HE := Lib.hid (own_empty w25)
        go_wp2_with (at_builtin; refine wpList_appendR _ rfl (.tmp 123) (.tmp 124) 22 22 rfl w25.heap.size 5 5 .u8 1 Tryd.underlying22 Tryd.underlying22 Tryd.infoU8 (some ⟨w25.heap.size, 0, none⟩) 0 0 [] rfl rfl HE.out af cf (frameL y).length (frameL y) rfl rfl (F25.out.alloc _).rd F25.out.nilcap (by unfold maxLen; simp; omega) (by simp; omega) (by simp) ?_; intro ao' c' w26 ho' hg'; have HO' := Lib.hid ho'; have HG' := Lib.hid hg'; clear ho' hg')
        have b26 := below_empty HG'.out
        have T26 := Lib.hid (below_step T25.out (Nat.le_refl _) b26); have Y26 := Lib.hid (Y25.out.below b26); have I26 := Lib.hid (I25.out.below b26)
        have B26 : Hid (Own w26 w25.heap.size 5 .u8 ao' c' (frameL y)) := Lib.hid HO'.out
        have hfp : 0 < (frameL y).length := by rw [frameL_yes hy4]; simp
        obtain ⟨g, rfl, hg1, hg2⟩ : ∃ g, ao' = some ⟨g, 0, none⟩ ∧ w25.heap.size ≤ g ∧ g < w26.heap.size := by
          rcases B26.out.form with ⟨_, _, h⟩ | h
          · rw [h] at hfp; simp at hfp
          · exact h
        have GG := Lib.hid (And.intro hg1 hg2); have GW : Hid (w.heap.size ≤ g) := Lib.hid (Nat.le_trans T25.out.size hg1)
        have NY : Hid (∀ a, ay = some a → a.block ≠ g) := Lib.hid (fun a ha => by have := (Y25.out.lt a ha).2; omega)
        have NI : Hid (∀ a, ai = some a → a.block ≠ g) := Lib.hid (fun a ha => by have := (I25.out.lt a ha).2; omega)
        clear b26 T25 Y25 I25 F25 HO' HG' HE hg1 hg2
        obtain ⟨x0, hx0⟩ : ∃ x, x = atV l 0 := ⟨_, rfl⟩
        obtain ⟨x1, hx1⟩ : ∃ x, x = atV l 1 := ⟨_, rfl⟩
        obtain ⟨x2, hx2⟩ : ∃ x, x = atV l 2 := ⟨_, rfl⟩
        have C0 : Hid (∀ w : World, Rd w .u8 a0 l → Calls Tryd.prog 38 #[.slice a0 l.length cap0, .int .i64 0] w fun e w' => e = .returned (.int .i64 x0) ∧ w = w') := fun w h => by rw [hx0]; exact (at_val a0 cap0 l 0 0 w rfl h HBY.out HL.out (by omega)).mono fun e w' h => ⟨h.1, h.2.symm⟩
        have C1 : Hid (∀ w : World, Rd w .u8 a0 l → Calls Tryd.prog 38 #[.slice a0 l.length cap0, .int .i64 1] w fun e w' => e = .returned (.int .i64 x1) ∧ w = w') := fun w h => by rw [hx1]; exact (at_val a0 cap0 l 1 1 w rfl h HBY.out HL.out (by omega)).mono fun e w' h => ⟨h.1, h.2.symm⟩
        have C2 : Hid (∀ w : World, Rd w .u8 a0 l → Calls Tryd.prog 38 #[.slice a0 l.length cap0, .int .i64 2] w fun e w' => e = .returned (.int .i64 x2) ∧ w' = w) := fun w h => by rw [hx2]; exact at_val a0 cap0 l 2 2 w rfl h HBY.out HL.out (by omega)
        have d0 : 0 ≤ x0 ∧ x0 ≤ 255 := by rw [hx0]; exact atV_bd HBY.out 0
        have d1 : 0 ≤ x1 ∧ x1 ≤ 255 := by rw [hx1]; exact atV_bd HBY.out 1
        have d2 : 0 ≤ x2 ∧ x2 ≤ 255 := by rw [hx2]; exact atV_bd HBY.out 2
        clear hx0 hx1 hx2
        have hm1 : 0 ≤ x0 * (1 + x1) := Int.mul_nonneg (by omega) (by omega)
        have hm2 : x0 * (1 + x1) ≤ 65280 := mul_small d0 d1
        have hfp' : (0 : Int) < (frameL y).length := by omega
        have hfl' : ((frameL y).length : Int) ≤ 4008 := by omega
        refine (C0.out _ (R0.out.below T26.out)).mono ?_
        rintro e w' ⟨rfl, rfl⟩
        go_wp2_with fail
        refine (C1.out _ (R0.out.below T26.out)).mono ?_
        rintro e w' ⟨rfl, rfl⟩
        go_wp2_with fail
        obtain ⟨k, hk, hkl⟩ : ∃ k : Nat, x0 * (1 + x1) % ((frameL y).length : Int) = k ∧ k < (frameL y).length := mod_nat hm1 hfp
        rw [hk]
        clear hk hm1 hm2 d0 d1 C0 C1 hfp hfp'
        have hz := B26.out.cell k hkl
        have hfz := B26.out.frozenAt k
        have zb := by_getD (frameL_by BY.out) (k := k)
        obtain ⟨z, hzd⟩ : ∃ z, z = (frameL y).getD k 0 := ⟨_, rfl⟩
        rw [← hzd] at hz zb
        have HZ := Lib.hid hzd; clear hzd
        refine wp_region_still_tail 13 (by kernel_rfl) (by kernel_rfl) ?_
        simp only [List.take_succ_cons, List.take_zero, List.drop_succ_cons, List.drop_zero]
        have bd : Below w26.heap.size w26 { w26 with drawn := w26.drawn + 1 } := ⟨rfl, rfl, rfl, Nat.le_refl _, fun _ _ => rfl⟩
        generalize ({ w26 with drawn := w26.drawn + 1 } : World) = w27 at bd ⊢
        have hc27 : w27.cell? ⟨g, k, none⟩ = some (.int .u8 z) := (bd.cell GG.out.2).trans hz
        have hf27 : w27.frozen? ⟨g, k, none⟩ = false := (bd.frozen GG.out.2).trans hfz
        have T27 := Lib.hid (below_step T26.out (Nat.le_refl _) bd); have Y27 := Lib.hid (Y26.out.below bd); have I27 := Lib.hid (I26.out.below bd); have B27 := Lib.hid (B26.out.below bd)
        clear bd hz hfz T26 Y26 I26 B26
        have hki : (k : Int) < (frameL y).length := by omega
        repeat still_step
        still_call (C2.out w27 (R0.out.below T27.out))
        repeat still_step
        refine wpStill_nil ?_
        clear C2
        go_wp2_with fail
        have hvv := xor_ne zb (show 1 ≤ 1 + x2 % 255 ∧ 1 + x2 % 255 ≤ 255 by omega)
        generalize bits BinOp.xor IntKind.u8 z (1 + x2 % 255) = v at hvv ⊢
        have S := own_set B27.out k v
        generalize w27.setCell ⟨g, k, none⟩ (.int .u8 v) = w28 at S ⊢
        have T28 := Lib.hid (below_grow T27.out (Nat.le_refl _) S.2 (fun b hb => by injection hb with hb; rw [← hb]; exact GW.out))
        have Y28 := Lib.hid (Y27.out.apart S.2 (fun a b ha hb => by injection hb with hb; rw [← hb]; exact NY.out a ha)); have I28 := Lib.hid (I27.out.apart S.2 (fun a b ha hb => by injection hb with hb; rw [← hb]; exact NI.out a ha))
        have hbent : unfL ((frameL y).set k v) ≠ some y := unfL_bent (frameL_by BY.out) hkl hvv.1 (by rw [← HZ.out]; exact hvv.2) rfl
        have U := bent_unf (g := g) (w := w28) (G0.out.below T28.out) S.1 (by_set (frameL_by BY.out) hvv.1) HF.out
        clear hvv S T27 Y27 I27 B27 hc27 hf27 HZ zb hkl hki GG GW NY NI d2
        generalize (frameL y).set k v = m at U hbent
        have hul := unfL_len m
        rcases hu : unfL m with _ | y'
        · rw [hu] at U
          have U' := Lib.hid U; clear U hu hbent hul
          refine U'.out.mono ?_
          rintro e w29 ⟨at_, ct, rfl, ot, b29⟩
          have T29 := Lib.hid (below_step T28.out (Nat.le_refl _) b29); have Y29 := Lib.hid (Y28.out.below b29); have I29 := Lib.hid (I28.out.below b29)
          clear b29 ot T28 Y28 I28 U'
          go_wp2_with fail
          refine (sameBytes_any _ _ _ _ _ _ _ I29.out.rd Y29.out.rd HY.out HY.out).mono ?_
          rintro e w30 ⟨rfl, b30⟩
          rw [eqL_refl]
          have T30 := Lib.hid (below_step T29.out (Nat.le_refl _) b30)
          clear b30 T29 Y29 I29
          go_wp2
          go_ret
          exact ⟨rfl, T30.out⟩
        · rw [hu] at U hul hbent
          have HNE : Hid (eqL y' y = false) := Lib.hid (by unfold eqL; simpa using hbent)
          have HYL : Hid (y'.length ≤ maxLen) := Lib.hid (by unfold maxLen; simp at hul; omega)
          have U' := Lib.hid U; clear U hu hbent hul
          refine U'.out.mono ?_
          rintro e w29 ⟨at_, ct, rfl, ot, b29⟩
          have T29 := Lib.hid (below_step T28.out (Nat.le_refl _) b29); have Y29 := Lib.hid (Y28.out.below b29); have I29 := Lib.hid (I28.out.below b29); have V29 : Hid (Own w29 w28.heap.size 5 .u8 at_ ct y') := Lib.hid ot
          clear b29 ot T28 Y28 I28 U'
          go_wp2_with fail
          refine (sameBytes_any _ _ _ _ _ _ _ I29.out.rd Y29.out.rd HY.out HY.out).mono ?_
          rintro e w30 ⟨rfl, b30⟩
          rw [eqL_refl]
          have T30 := Lib.hid (below_step T29.out (Nat.le_refl _) b30); have Y30 := Lib.hid (Y29.out.below b30); have V30 := Lib.hid (V29.out.below b30)
          clear b30 T29 Y29 I29 V29
          go_wp2_with fail
          refine (sameBytes_any _ _ _ _ _ _ _ V30.out.rd Y30.out.rd HYL.out HY.out).mono ?_
          rintro e w31 ⟨rfl, b31⟩
          rw [HNE.out]
          have T31 := Lib.hid (below_step T30.out (Nat.le_refl _) b31)
          clear b31 T30 Y30 V30
          go_wp2
          go_ret
          exact ⟨rfl, T31.out⟩
  · skip
    have hz : (putNs L).length = 0 := by omega
    have T7 := T4
    clear XL4 XB4 T4 hpl HPL HLL
    have A1 : Hid (∀ w, Rd w .u8 a0 l → Calls Tryd.prog 31 #[.slice a0 l.length cap0, .int .i64 1] w (SomeP w 3001)) := fun w h => alt_any a0 cap0 l 1 w h HBY.out HL.out (by omega) (by omega)
    go_wp2_with fail
    refine (A1.out _ (R0.out.below T7.out)).mono ?_
    rintro e w10 ⟨q1, aq1, cq1, rfl, hq1, byq1, oq1, b10⟩
    have T10 := Lib.hid (below_step T7.out (Nat.le_refl _) b10); have Q1 := Lib.hid oq1; have BQ1 := Lib.hid byq1; have HQ1 : Hid (q1.length ≤ 1048577) := Lib.hid (by omega)
    clear b10 oq1 byq1 hq1 T7 A1
    go_wp2_with fail
    refine (drawPutWord_any _ _ _ _ Q1.out.rd BQ1.out HQ1.out).mono ?_
    rintro e w11 ⟨s, hs, rfl, b11⟩
    have T11 := Lib.hid (below_step T10.out (Nat.le_refl _) b11); have HS : Hid (s.size ≤ maxLen) := Lib.hid (by unfold maxLen; omega)
    clear b11 T10 Q1 BQ1 HQ1
    go_wp2_with fail
    refine (implPutWord_any _ _ HS.out).mono ?_
    rintro e w12 ⟨ap, cp, rfl, oP, b12⟩
    have T12 := Lib.hid (below_step T11.out (Nat.le_refl _) b12); have XP := Lib.hid oP
    clear b12 oP T11
    have hpw := putW_pos s
    have hpwl := putW_len s
    go_wp2_with fail
    refine (specWordOk_any _ _ HS.out).mono ?_
    rintro e w' ⟨rfl, rfl⟩
    cases hwb : wordB s.data.toList with
    | true =>
      have hpw1 : 0 < (putW s).length := by rw [hwb] at hpw; simpa using hpw
      have hpwl' : ((putW s).length : Int) ≤ 15 := by omega
      have hdw : decide ((0 : Int) < ((putW s).length : Int)) = true := by simpa using hpw1
      have TW : Hid (∀ (w : World) (b : Option Addr) (d : Nat), ErrT w → Rd w .u8 b (putW s) → (putW s).length ≤ d → d ≤ maxLen → Calls Tryd.prog 34 #[.slice b (putW s).length d, .int .i64 0] w (TookSB (s, ((putW s).length : Int)) w)) := by
        intro w b d g h h1 h2
        have := implTakeWord_any b d (putW s) 0 w g h (putW_by s) (by unfold maxLen; omega) h1 h2 (by omega) (by omega)
        rwa [takeW_put hwb] at this
      unfold TookSB at TW
      dsimp only at TW
      clear hpw hwb
      go_wp2_with fail
      refine (TW.out _ _ _ (G0.out.below T12.out) XP.out.rd XP.out.cap_ge XP.out.cap_le).mono ?_
      rintro e w13 ⟨rfl, b13⟩
      have T13 := Lib.hid (below_step T12.out (Nat.le_refl _) b13)
      clear b13 T12 XP TW
      have A2 : Hid (∀ w, Rd w .u8 a0 l → Calls Tryd.prog 31 #[.slice a0 l.length cap0, .int .i64 2] w (SomeP w 3001)) := fun w h => alt_any a0 cap0 l 2 w h HBY.out HL.out (by omega) (by omega)
      go_wp2_with fail
      refine (A2.out _ (R0.out.below T13.out)).mono ?_
      rintro e w20 ⟨q2, aq2, cq2, rfl, hq2, byq2, oq2, b20⟩
      have T20 := Lib.hid (below_step T13.out (Nat.le_refl _) b20); have Q2 := Lib.hid oq2; have BQ2 := Lib.hid byq2; have HQ2 : Hid (q2.length ≤ 1048577) := Lib.hid (by omega)
      clear b20 oq2 byq2 hq2 T13 A2
      go_wp2_with fail
      refine (drawFrame_any _ _ _ _ Q2.out.rd BQ2.out HQ2.out).mono ?_
      rintro e w21 ⟨y, ay, cy, rfl, hy, byy, oy, b21⟩
      have T21 := Lib.hid (below_step T20.out (Nat.le_refl _) b21); have Y := Lib.hid oy; have BY := Lib.hid byy; have HY : Hid (y.length ≤ maxLen) := Lib.hid (by unfold maxLen; omega)
      clear b21 oy byy T20 Q2 BQ2 HQ2
      have hfl := frameL_len y
      have HF : Hid ((frameL y).length ≤ maxLen) := Lib.hid (by unfold maxLen; omega)
      go_wp2_with fail
      refine (implFrame_any _ _ _ _ Y.out.rd Y.out.nilcap BY.out HY.out).mono ?_
      rintro e w22 ⟨af, cf, rfl, of, b22⟩
      have T22 := Lib.hid (below_step T21.out (Nat.le_refl _) b22); have Y22 := Lib.hid (Y.out.below b22); have F22 := Lib.hid of
      clear b22 of T21 Y
      go_wp2_with fail
      refine (specFrame_any _ _ _ _ Y22.out.rd BY.out HY.out).mono ?_
      rintro e w23 ⟨ag, cg, rfl, og, b23⟩
      have T23 := Lib.hid (below_step T22.out (Nat.le_refl _) b23); have Y23 := Lib.hid (Y22.out.below b23); have F23 := Lib.hid (F22.out.below b23); have G23 := Lib.hid og
      clear b23 og T22 Y22 F22
      generalize hfin : decide (y.length ≤ 4000) = fine
      have hff : (fine != fine) = false := by cases fine <;> rfl
      go_wp2_with fail
      refine (sameBytes_any _ _ _ _ _ _ _ F23.out.rd G23.out.rd HF.out HF.out).mono ?_
      rintro e w24 ⟨rfl, b24⟩
      rw [eqL_refl]
      have T24 := Lib.hid (below_step T23.out (Nat.le_refl _) b24); have Y24 := Lib.hid (Y23.out.below b24); have F24 := Lib.hid (F23.out.below b24)
      clear b24 T23 Y23 F23 G23
      cases fine with
      | false =>
        go_wp2
        go_ret
        exact ⟨rfl, T24.out⟩
      | true =>
        have hy4 : y.length ≤ 4000 := by simpa using hfin
        clear hfin
        have UN : Hid (∀ (w : World) (b : Option Addr) (d : Nat), ErrT w → Rd w .u8 b (frameL y) → (frameL y).length ≤ d → d ≤ maxLen → Calls Tryd.prog 21 #[.slice b (frameL y).length d] w (Made2 w 5 .u8 y true)) := by
          intro w b d g h h1 h2
          have := implUnframe_any b d (frameL y) w g h (frameL_by BY.out) HF.out h1 h2
          rwa [unfL_frame hy4] at this
        go_wp2_with fail
        refine (UN.out _ _ _ (G0.out.below T24.out) F24.out.rd F24.out.cap_ge F24.out.cap_le).mono ?_
        rintro e w25 ⟨ai, ci, rfl, oi, b25⟩
        have T25 := Lib.hid (below_step T24.out (Nat.le_refl _) b25); have Y25 := Lib.hid (Y24.out.below b25); have F25 := Lib.hid (F24.out.below b25); have I25 := Lib.hid oi
        clear b25 oi T24 Y24 F24 UN
        have HE := Lib.hid (own_empty w25)
        go_wp2_with (at_builtin; refine wpList_appendR _ rfl (.tmp 123) (.tmp 124) 22 22 rfl w25.heap.size 5 5 .u8 1 Tryd.underlying22 Tryd.underlying22 Tryd.infoU8 (some ⟨w25.heap.size, 0, none⟩) 0 0 [] rfl rfl HE.out af cf (frameL y).length (frameL y) rfl rfl (F25.out.alloc _).rd F25.out.nilcap (by unfold maxLen; simp; omega) (by simp; omega) (by simp) ?_; intro ao' c' w26 ho' hg'; have HO' := Lib.hid ho'; have HG' := Lib.hid hg'; clear ho' hg')
        have b26 := below_empty HG'.out
        have T26 := Lib.hid (below_step T25.out (Nat.le_refl _) b26); have Y26 := Lib.hid (Y25.out.below b26); have I26 := Lib.hid (I25.out.below b26)
        have B26 : Hid (Own w26 w25.heap.size 5 .u8 ao' c' (frameL y)) := Lib.hid HO'.out
        have hfp : 0 < (frameL y).length := by rw [frameL_yes hy4]; simp
        obtain ⟨g, rfl, hg1, hg2⟩ : ∃ g, ao' = some ⟨g, 0, none⟩ ∧ w25.heap.size ≤ g ∧ g < w26.heap.size := by
          rcases B26.out.form with ⟨_, _, h⟩ | h
          · rw [h] at hfp; simp at hfp
          · exact h
        have GG := Lib.hid (And.intro hg1 hg2); have GW : Hid (w.heap.size ≤ g) := Lib.hid (Nat.le_trans T25.out.size hg1)
        have NY : Hid (∀ a, ay = some a → a.block ≠ g) := Lib.hid (fun a ha => by have := (Y25.out.lt a ha).2; omega)
        have NI : Hid (∀ a, ai = some a → a.block ≠ g) := Lib.hid (fun a ha => by have := (I25.out.lt a ha).2; omega)
        clear b26 T25 Y25 I25 F25 HO' HG' HE hg1 hg2
        obtain ⟨x0, hx0⟩ : ∃ x, x = atV l 0 := ⟨_, rfl⟩
        obtain ⟨x1, hx1⟩ : ∃ x, x = atV l 1 := ⟨_, rfl⟩
        obtain ⟨x2, hx2⟩ : ∃ x, x = atV l 2 := ⟨_, rfl⟩
        have C0 : Hid (∀ w : World, Rd w .u8 a0 l → Calls Tryd.prog 38 #[.slice a0 l.length cap0, .int .i64 0] w fun e w' => e = .returned (.int .i64 x0) ∧ w = w') := fun w h => by rw [hx0]; exact (at_val a0 cap0 l 0 0 w rfl h HBY.out HL.out (by omega)).mono fun e w' h => ⟨h.1, h.2.symm⟩
        have C1 : Hid (∀ w : World, Rd w .u8 a0 l → Calls Tryd.prog 38 #[.slice a0 l.length cap0, .int .i64 1] w fun e w' => e = .returned (.int .i64 x1) ∧ w = w') := fun w h => by rw [hx1]; exact (at_val a0 cap0 l 1 1 w rfl h HBY.out HL.out (by omega)).mono fun e w' h => ⟨h.1, h.2.symm⟩
        have C2 : Hid (∀ w : World, Rd w .u8 a0 l → Calls Tryd.prog 38 #[.slice a0 l.length cap0, .int .i64 2] w fun e w' => e = .returned (.int .i64 x2) ∧ w' = w) := fun w h => by rw [hx2]; exact at_val a0 cap0 l 2 2 w rfl h HBY.out HL.out (by omega)
        have d0 : 0 ≤ x0 ∧ x0 ≤ 255 := by rw [hx0]; exact atV_bd HBY.out 0
        have d1 : 0 ≤ x1 ∧ x1 ≤ 255 := by rw [hx1]; exact atV_bd HBY.out 1
        have d2 : 0 ≤ x2 ∧ x2 ≤ 255 := by rw [hx2]; exact atV_bd HBY.out 2
        clear hx0 hx1 hx2
        have hm1 : 0 ≤ x0 * (1 + x1) := Int.mul_nonneg (by omega) (by omega)
        have hm2 : x0 * (1 + x1) ≤ 65280 := mul_small d0 d1
        have hfp' : (0 : Int) < (frameL y).length := by omega
        have hfl' : ((frameL y).length : Int) ≤ 4008 := by omega
        refine (C0.out _ (R0.out.below T26.out)).mono ?_
        rintro e w' ⟨rfl, rfl⟩
        go_wp2_with fail
        refine (C1.out _ (R0.out.below T26.out)).mono ?_
        rintro e w' ⟨rfl, rfl⟩
        go_wp2_with fail
        obtain ⟨k, hk, hkl⟩ : ∃ k : Nat, x0 * (1 + x1) % ((frameL y).length : Int) = k ∧ k < (frameL y).length := mod_nat hm1 hfp
        rw [hk]
        clear hk hm1 hm2 d0 d1 C0 C1 hfp hfp'
        have hz := B26.out.cell k hkl
        have hfz := B26.out.frozenAt k
        have zb := by_getD (frameL_by BY.out) (k := k)
        obtain ⟨z, hzd⟩ : ∃ z, z = (frameL y).getD k 0 := ⟨_, rfl⟩
        rw [← hzd] at hz zb
        have HZ := Lib.hid hzd; clear hzd
        refine wp_region_still_tail 13 (by kernel_rfl) (by kernel_rfl) ?_
        simp only [List.take_succ_cons, List.take_zero, List.drop_succ_cons, List.drop_zero]
        have bd : Below w26.heap.size w26 { w26 with drawn := w26.drawn + 1 } := ⟨rfl, rfl, rfl, Nat.le_refl _, fun _ _ => rfl⟩
        generalize ({ w26 with drawn := w26.drawn + 1 } : World) = w27 at bd ⊢
        have hc27 : w27.cell? ⟨g, k, none⟩ = some (.int .u8 z) := (bd.cell GG.out.2).trans hz
        have hf27 : w27.frozen? ⟨g, k, none⟩ = false := (bd.frozen GG.out.2).trans hfz
        have T27 := Lib.hid (below_step T26.out (Nat.le_refl _) bd); have Y27 := Lib.hid (Y26.out.below bd); have I27 := Lib.hid (I26.out.below bd); have B27 := Lib.hid (B26.out.below bd)
        clear bd hz hfz T26 Y26 I26 B26
        have hki : (k : Int) < (frameL y).length := by omega
        repeat still_step
        still_call (C2.out w27 (R0.out.below T27.out))
        repeat still_step
        refine wpStill_nil ?_
        clear C2
        go_wp2_with fail
        have hvv := xor_ne zb (show 1 ≤ 1 + x2 % 255 ∧ 1 + x2 % 255 ≤ 255 by omega)
        generalize bits BinOp.xor IntKind.u8 z (1 + x2 % 255) = v at hvv ⊢
        have S := own_set B27.out k v
        generalize w27.setCell ⟨g, k, none⟩ (.int .u8 v) = w28 at S ⊢
        have T28 := Lib.hid (below_grow T27.out (Nat.le_refl _) S.2 (fun b hb => by injection hb with hb; rw [← hb]; exact GW.out))
        have Y28 := Lib.hid (Y27.out.apart S.2 (fun a b ha hb => by injection hb with hb; rw [← hb]; exact NY.out a ha)); have I28 := Lib.hid (I27.out.apart S.2 (fun a b ha hb => by injection hb with hb; rw [← hb]; exact NI.out a ha))
        have hbent : unfL ((frameL y).set k v) ≠ some y := unfL_bent (frameL_by BY.out) hkl hvv.1 (by rw [← HZ.out]; exact hvv.2) rfl
        have U := bent_unf (g := g) (w := w28) (G0.out.below T28.out) S.1 (by_set (frameL_by BY.out) hvv.1) HF.out
        clear hvv S T27 Y27 I27 B27 hc27 hf27 HZ zb hkl hki GG GW NY NI d2
        generalize (frameL y).set k v = m at U hbent
        have hul := unfL_len m
        rcases hu : unfL m with _ | y'
        · rw [hu] at U
          have U' := Lib.hid U; clear U hu hbent hul
          refine U'.out.mono ?_
          rintro e w29 ⟨at_, ct, rfl, ot, b29⟩
          have T29 := Lib.hid (below_step T28.out (Nat.le_refl _) b29); have Y29 := Lib.hid (Y28.out.below b29); have I29 := Lib.hid (I28.out.below b29)
          clear b29 ot T28 Y28 I28 U'
          go_wp2_with fail
          refine (sameBytes_any _ _ _ _ _ _ _ I29.out.rd Y29.out.rd HY.out HY.out).mono ?_
          rintro e w30 ⟨rfl, b30⟩
          rw [eqL_refl]
          have T30 := Lib.hid (below_step T29.out (Nat.le_refl _) b30)
          clear b30 T29 Y29 I29
          go_wp2
          go_ret
          exact ⟨rfl, T30.out⟩
        · rw [hu] at U hul hbent
          have HNE : Hid (eqL y' y = false) := Lib.hid (by unfold eqL; simpa using hbent)
          have HYL : Hid (y'.length ≤ maxLen) := Lib.hid (by unfold maxLen; simp at hul; omega)
          have U' := Lib.hid U; clear U hu hbent hul
          refine U'.out.mono ?_
          rintro e w29 ⟨at_, ct, rfl, ot, b29⟩
          have T29 := Lib.hid (below_step T28.out (Nat.le_refl _) b29); have Y29 := Lib.hid (Y28.out.below b29); have I29 := Lib.hid (I28.out.below b29); have V29 : Hid (Own w29 w28.heap.size 5 .u8 at_ ct y') := Lib.hid ot
          clear b29 ot T28 Y28 I28 U'
          go_wp2_with fail
          refine (sameBytes_any _ _ _ _ _ _ _ I29.out.rd Y29.out.rd HY.out HY.out).mono ?_
          rintro e w30 ⟨rfl, b30⟩
          rw [eqL_refl]
          have T30 := Lib.hid (below_step T29.out (Nat.le_refl _) b30); have Y30 := Lib.hid (Y29.out.below b30); have V30 := Lib.hid (V29.out.below b30)
          clear b30 T29 Y29 I29 V29
          go_wp2_with fail
          refine (sameBytes_any _ _ _ _ _ _ _ V30.out.rd Y30.out.rd HYL.out HY.out).mono ?_
          rintro e w31 ⟨rfl, b31⟩
          rw [HNE.out]
          have T31 := Lib.hid (below_step T30.out (Nat.le_refl _) b31)
          clear b31 T30 Y30 V30
          go_wp2
          go_ret
          exact ⟨rfl, T31.out⟩
    | false =>
      have hpw0 : (putW s).length = 0 := by rw [hwb] at hpw; simpa using hpw
      have T13 := T12
      clear hpw hwb T12 XP
      have A2 : Hid (∀ w, Rd w .u8 a0 l → Calls Tryd.prog 31 #[.slice a0 l.length cap0, .int .i64 2] w (SomeP w 3001)) := fun w h => alt_any a0 cap0 l 2 w h HBY.out HL.out (by omega) (by omega)
      go_wp2_with fail
      refine (A2.out _ (R0.out.below T13.out)).mono ?_
      rintro e w20 ⟨q2, aq2, cq2, rfl, hq2, byq2, oq2, b20⟩
      have T20 := Lib.hid (below_step T13.out (Nat.le_refl _) b20); have Q2 := Lib.hid oq2; have BQ2 := Lib.hid byq2; have HQ2 : Hid (q2.length ≤ 1048577) := Lib.hid (by omega)
      clear b20 oq2 byq2 hq2 T13 A2
      go_wp2_with fail
      refine (drawFrame_any _ _ _ _ Q2.out.rd BQ2.out HQ2.out).mono ?_
      rintro e w21 ⟨y, ay, cy, rfl, hy, byy, oy, b21⟩
      have T21 := Lib.hid (below_step T20.out (Nat.le_refl _) b21); have Y := Lib.hid oy; have BY := Lib.hid byy; have HY : Hid (y.length ≤ maxLen) := Lib.hid (by unfold maxLen; omega)
      clear b21 oy byy T20 Q2 BQ2 HQ2
      have hfl := frameL_len y
      have HF : Hid ((frameL y).length ≤ maxLen) := Lib.hid (by unfold maxLen; omega)
      go_wp2_with fail
      refine (implFrame_any _ _ _ _ Y.out.rd Y.out.nilcap BY.out HY.out).mono ?_
      rintro e w22 ⟨af, cf, rfl, of, b22⟩
      have T22 := Lib.hid (below_step T21.out (Nat.le_refl _) b22); have Y22 := Lib.hid (Y.out.below b22); have F22 := Lib.hid of
      clear b22 of T21 Y
      go_wp2_with fail
      refine (specFrame_any _ _ _ _ Y22.out.rd BY.out HY.out).mono ?_
      rintro e w23 ⟨ag, cg, rfl, og, b23⟩
      have T23 := Lib.hid (below_step T22.out (Nat.le_refl _) b23); have Y23 := Lib.hid (Y22.out.below b23); have F23 := Lib.hid (F22.out.below b23); have G23 := Lib.hid og
      clear b23 og T22 Y22 F22
      generalize hfin : decide (y.length ≤ 4000) = fine
      have hff : (fine != fine) = false := by cases fine <;> rfl
      go_wp2_with fail
      refine (sameBytes_any _ _ _ _ _ _ _ F23.out.rd G23.out.rd HF.out HF.out).mono ?_
      rintro e w24 ⟨rfl, b24⟩
      rw [eqL_refl]
      have T24 := Lib.hid (below_step T23.out (Nat.le_refl _) b24); have Y24 := Lib.hid (Y23.out.below b24); have F24 := Lib.hid (F23.out.below b24)
      clear b24 T23 Y23 F23 G23
      cases fine with
      | false =>
        go_wp2
        go_ret
        exact ⟨rfl, T24.out⟩
      | true =>
        have hy4 : y.length ≤ 4000 := by simpa using hfin
        clear hfin
        have UN : Hid (∀ (w : World) (b : Option Addr) (d : Nat), ErrT w → Rd w .u8 b (frameL y) → (frameL y).length ≤ d → d ≤ maxLen → Calls Tryd.prog 21 #[.slice b (frameL y).length d] w (Made2 w 5 .u8 y true)) := by
          intro w b d g h h1 h2
          have := implUnframe_any b d (frameL y) w g h (frameL_by BY.out) HF.out h1 h2
          rwa [unfL_frame hy4] at this
        go_wp2_with fail
        refine (UN.out _ _ _ (G0.out.below T24.out) F24.out.rd F24.out.cap_ge F24.out.cap_le).mono ?_
        rintro e w25 ⟨ai, ci, rfl, oi, b25⟩
        have T25 := Lib.hid (below_step T24.out (Nat.le_refl _) b25); have Y25 := Lib.hid (Y24.out.below b25); have F25 := Lib.hid (F24.out.below b25); have I25 := Lib.hid oi
        clear b25 oi T24 Y24 F24 UN
        have HE := Lib.hid (own_empty w25)
        go_wp2_with (at_builtin; refine wpList_appendR _ rfl (.tmp 123) (.tmp 124) 22 22 rfl w25.heap.size 5 5 .u8 1 Tryd.underlying22 Tryd.underlying22 Tryd.infoU8 (some ⟨w25.heap.size, 0, none⟩) 0 0 [] rfl rfl HE.out af cf (frameL y).length (frameL y) rfl rfl (F25.out.alloc _).rd F25.out.nilcap (by unfold maxLen; simp; omega) (by simp; omega) (by simp) ?_; intro ao' c' w26 ho' hg'; have HO' := Lib.hid ho'; have HG' := Lib.hid hg'; clear ho' hg')
        have b26 := below_empty HG'.out
        have T26 := Lib.hid (below_step T25.out (Nat.le_refl _) b26); have Y26 := Lib.hid (Y25.out.below b26); have I26 := Lib.hid (I25.out.below b26)
        have B26 : Hid (Own w26 w25.heap.size 5 .u8 ao' c' (frameL y)) := Lib.hid HO'.out
        have hfp : 0 < (frameL y).length := by rw [frameL_yes hy4]; simp
        obtain ⟨g, rfl, hg1, hg2⟩ : ∃ g, ao' = some ⟨g, 0, none⟩ ∧ w25.heap.size ≤ g ∧ g < w26.heap.size := by
          rcases B26.out.form with ⟨_, _, h⟩ | h
          · rw [h] at hfp; simp at hfp
          · exact h
        have GG := Lib.hid (And.intro hg1 hg2); have GW : Hid (w.heap.size ≤ g) := Lib.hid (Nat.le_trans T25.out.size hg1)
        have NY : Hid (∀ a, ay = some a → a.block ≠ g) := Lib.hid (fun a ha => by have := (Y25.out.lt a ha).2; omega)
        have NI : Hid (∀ a, ai = some a → a.block ≠ g) := Lib.hid (fun a ha => by have := (I25.out.lt a ha).2; omega)
        clear b26 T25 Y25 I25 F25 HO' HG' HE hg1 hg2
        obtain ⟨x0, hx0⟩ : ∃ x, x = atV l 0 := ⟨_, rfl⟩
        obtain ⟨x1, hx1⟩ : ∃ x, x = atV l 1 := ⟨_, rfl⟩
        obtain ⟨x2, hx2⟩ : ∃ x, x = atV l 2 := ⟨_, rfl⟩
        have C0 : Hid (∀ w : World, Rd w .u8 a0 l → Calls Tryd.prog 38 #[.slice a0 l.length cap0, .int .i64 0] w fun e w' => e = .returned (.int .i64 x0) ∧ w = w') := fun w h => by rw [hx0]; exact (at_val a0 cap0 l 0 0 w rfl h HBY.out HL.out (by omega)).mono fun e w' h => ⟨h.1, h.2.symm⟩
        have C1 : Hid (∀ w : World, Rd w .u8 a0 l → Calls Tryd.prog 38 #[.slice a0 l.length cap0, .int .i64 1] w fun e w' => e = .returned (.int .i64 x1) ∧ w = w') := fun w h => by rw [hx1]; exact (at_val a0 cap0 l 1 1 w rfl h HBY.out HL.out (by omega)).mono fun e w' h => ⟨h.1, h.2.symm⟩
        have C2 : Hid (∀ w : World, Rd w .u8 a0 l → Calls Tryd.prog 38 #[.slice a0 l.length cap0, .int .i64 2] w fun e w' => e = .returned (.int .i64 x2) ∧ w' = w) := fun w h => by rw [hx2]; exact at_val a0 cap0 l 2 2 w rfl h HBY.out HL.out (by omega)
        have d0 : 0 ≤ x0 ∧ x0 ≤ 255 := by rw [hx0]; exact atV_bd HBY.out 0
        have d1 : 0 ≤ x1 ∧ x1 ≤ 255 := by rw [hx1]; exact atV_bd HBY.out 1
        have d2 : 0 ≤ x2 ∧ x2 ≤ 255 := by rw [hx2]; exact atV_bd HBY.out 2
        clear hx0 hx1 hx2
        have hm1 : 0 ≤ x0 * (1 + x1) := Int.mul_nonneg (by omega) (by omega)
        have hm2 : x0 * (1 + x1) ≤ 65280 := mul_small d0 d1
        have hfp' : (0 : Int) < (frameL y).length := by omega
        have hfl' : ((frameL y).length : Int) ≤ 4008 := by omega
        refine (C0.out _ (R0.out.below T26.out)).mono ?_
        rintro e w' ⟨rfl, rfl⟩
        go_wp2_with fail
        refine (C1.out _ (R0.out.below T26.out)).mono ?_
        rintro e w' ⟨rfl, rfl⟩
        go_wp2_with fail
        obtain ⟨k, hk, hkl⟩ : ∃ k : Nat, x0 * (1 + x1) % ((frameL y).length : Int) = k ∧ k < (frameL y).length := mod_nat hm1 hfp
        rw [hk]
        clear hk hm1 hm2 d0 d1 C0 C1 hfp hfp'
        have hz := B26.out.cell k hkl
        have hfz := B26.out.frozenAt k
        have zb := by_getD (frameL_by BY.out) (k := k)
        obtain ⟨z, hzd⟩ : ∃ z, z = (frameL y).getD k 0 := ⟨_, rfl⟩
        rw [← hzd] at hz zb
        have HZ := Lib.hid hzd; clear hzd
        refine wp_region_still_tail 13 (by kernel_rfl) (by kernel_rfl) ?_
        simp only [List.take_succ_cons, List.take_zero, List.drop_succ_cons, List.drop_zero]
        have bd : Below w26.heap.size w26 { w26 with drawn := w26.drawn + 1 } := ⟨rfl, rfl, rfl, Nat.le_refl _, fun _ _ => rfl⟩
        generalize ({ w26 with drawn := w26.drawn + 1 } : World) = w27 at bd ⊢
        have hc27 : w27.cell? ⟨g, k, none⟩ = some (.int .u8 z) := (bd.cell GG.out.2).trans hz
        have hf27 : w27.frozen? ⟨g, k, none⟩ = false := (bd.frozen GG.out.2).trans hfz
        have T27 := Lib.hid (below_step T26.out (Nat.le_refl _) bd); have Y27 := Lib.hid (Y26.out.below bd); have I27 := Lib.hid (I26.out.below bd); have B27 := Lib.hid (B26.out.below bd)
        clear bd hz hfz T26 Y26 I26 B26
        have hki : (k : Int) < (frameL y).length := by omega
        repeat still_step
        still_call (C2.out w27 (R0.out.below T27.out))
        repeat still_step
        refine wpStill_nil ?_
        clear C2
        go_wp2_with fail
        have hvv := xor_ne zb (show 1 ≤ 1 + x2 % 255 ∧ 1 + x2 % 255 ≤ 255 by omega)
        generalize bits BinOp.xor IntKind.u8 z (1 + x2 % 255) = v at hvv ⊢
        have S := own_set B27.out k v
        generalize w27.setCell ⟨g, k, none⟩ (.int .u8 v) = w28 at S ⊢
        have T28 := Lib.hid (below_grow T27.out (Nat.le_refl _) S.2 (fun b hb => by injection hb with hb; rw [← hb]; exact GW.out))
        have Y28 := Lib.hid (Y27.out.apart S.2 (fun a b ha hb => by injection hb with hb; rw [← hb]; exact NY.out a ha)); have I28 := Lib.hid (I27.out.apart S.2 (fun a b ha hb => by injection hb with hb; rw [← hb]; exact NI.out a ha))
        have hbent : unfL ((frameL y).set k v) ≠ some y := unfL_bent (frameL_by BY.out) hkl hvv.1 (by rw [← HZ.out]; exact hvv.2) rfl
        have U := bent_unf (g := g) (w := w28) (G0.out.below T28.out) S.1 (by_set (frameL_by BY.out) hvv.1) HF.out
        clear hvv S T27 Y27 I27 B27 hc27 hf27 HZ zb hkl hki GG GW NY NI d2
        generalize (frameL y).set k v = m at U hbent
        have hul := unfL_len m
        rcases hu : unfL m with _ | y'
        · rw [hu] at U
          have U' := Lib.hid U; clear U hu hbent hul
          refine U'.out.mono ?_
          rintro e w29 ⟨at_, ct, rfl, ot, b29⟩
          have T29 := Lib.hid (below_step T28.out (Nat.le_refl _) b29); have Y29 := Lib.hid (Y28.out.below b29); have I29 := Lib.hid (I28.out.below b29)
          clear b29 ot T28 Y28 I28 U'
          go_wp2_with fail
          refine (sameBytes_any _ _ _ _ _ _ _ I29.out.rd Y29.out.rd HY.out HY.out).mono ?_
          rintro e w30 ⟨rfl, b30⟩
          rw [eqL_refl]
          have T30 := Lib.hid (below_step T29.out (Nat.le_refl _) b30)
          clear b30 T29 Y29 I29
          go_wp2
          go_ret
          exact ⟨rfl, T30.out⟩
        · rw [hu] at U hul hbent
          have HNE : Hid (eqL y' y = false) := Lib.hid (by unfold eqL; simpa using hbent)
          have HYL : Hid (y'.length ≤ maxLen) := Lib.hid (by unfold maxLen; simp at hul; omega)
          have U' := Lib.hid U; clear U hu hbent hul
          refine U'.out.mono ?_
          rintro e w29 ⟨at_, ct, rfl, ot, b29⟩
          have T29 := Lib.hid (below_step T28.out (Nat.le_refl _) b29); have Y29 := Lib.hid (Y28.out.below b29); have I29 := Lib.hid (I28.out.below b29); have V29 : Hid (Own w29 w28.heap.size 5 .u8 at_ ct y') := Lib.hid ot
          clear b29 ot T28 Y28 I28 U'
          go_wp2_with fail
          refine (sameBytes_any _ _ _ _ _ _ _ I29.out.rd Y29.out.rd HY.out HY.out).mono ?_
          rintro e w30 ⟨rfl, b30⟩
          rw [eqL_refl]
          have T30 := Lib.hid (below_step T29.out (Nat.le_refl _) b30); have Y30 := Lib.hid (Y29.out.below b30); have V30 := Lib.hid (V29.out.below b30)
          clear b30 T29 Y29 I29 V29
          go_wp2_with fail
          refine (sameBytes_any _ _ _ _ _ _ _ V30.out.rd Y30.out.rd HYL.out HY.out).mono ?_
          rintro e w31 ⟨rfl, b31⟩
          rw [HNE.out]
          have T31 := Lib.hid (below_step T30.out (Nat.le_refl _) b31)
          clear b31 T30 Y30 V30
          go_wp2
          go_ret
          exact ⟨rfl, T31.out⟩

set_option maxRecDepth 100000 in
theorem lifted (os : Os) (started : os.Started) (H : Type) (enc : TypeId × Value → H) :
    ReturnsInHanded {} Tryd.checked os 6 .any (fun w args => (Rows.fnWiresSpec.pre enc Tryd.prog Tryd.f6 [] false w args ∧ laidMetH Tryd.prog Rows.fnWiresRow.laid w) ∧ sizedMet enc Tryd.prog Tryd.f6 (OpenSpec.ofChange Rows.fnWiresSpec) false w args)
      (Rows.fnWiresSpec.post enc Tryd.prog Tryd.f6 false true false false) := by
  refine returnsInHanded_of_change_and (C := Tryd.checked) (X := fun w _ => laidMetH Tryd.prog Rows.fnWiresRow.laid w) (fun _ _ _ hh h => h.of_heap hh) own started (by kernel_rfl) Tryd.func6
    (ChangeSpec.witness_at (enc := enc) (C := Tryd.checked) (os := os) (X := fun w _ => laidMetH Tryd.prog Rows.fnWiresRow.laid w) false (laidWorld os) #[.slice none 0 0] 8 rfl (by kernel_rfl) (by kernel_rfl) (by kernel_rfl) (by kernel_rfl) (by kernel_rfl) (laidWorld_met os _)) ?_
  intro W base args ds gs before hval0 hW _ _ hL _
  have hval : ∀ (j : Nat) t v, Tryd.f6.params[j]? = some t → args[j]? = some v → Value.okWide Tryd.prog W .any base t v := hval0
  have hW' := hW
  obtain ⟨p, q, hA0, hV0, rfl, hfz, hnd⟩ := hW
  have hA : DataW.TrodAll enc Tryd.prog W 0 (fun _ => true) true Tryd.f6.params.toList args.toList ds p := hA0
  have hV : DataW.TrodVars enc Tryd.prog W (fun _ => true) [] gs q := hV0
  rw [Tryd.params6] at hA hval
  obtain ⟨v0, vs0, d0, ds0, p0, q0, hargs, rfl, rfl, h0, r0⟩ := trodAll_cons hA
  obtain ⟨rfl, rfl, rfl⟩ := trodAll_nil r0
  obtain rfl : args = #[v0] := by cases args; simp_all
  obtain ⟨rfl, rfl⟩ := trodVars_none hV
  obtain ⟨a0, len0, cap0, rfl⟩ := okWide_slice Tryd.underlying22 (hval 0 22 v0 rfl rfl)
  have k0 := h0
  have lt0 : ∀ x ∈ p0, x.block < W.heap.size := by obtain ⟨m, hm⟩ := k0; exact DataW.trod_lt m _ _ _ hm
  obtain ⟨z0, w0⟩ : ∃ zs, IsRow .u8 W a0 len0 cap0 zs := by
    obtain ⟨fuel, hf⟩ := h0
    rcases open_ints Tryd.underlying22 Tryd.underlying5 (by kernel_rfl) hf with ⟨hcs, _⟩ | ⟨x, l, c, zs, hcs, _, hl, hm, hz, _, hcell, hwz⟩
    · simp [Value.cells] at hcs
      obtain ⟨rfl, rfl, rfl⟩ := hcs
      exact ⟨[], .inl ⟨rfl, rfl, rfl, rfl⟩⟩
    · simp [Value.cells] at hcs
      obtain ⟨rfl, rfl, rfl⟩ := hcs
      exact ⟨zs, .inr ⟨_, rfl, hl, hm, by simpa using hz, hcell, hwz⟩⟩
  clear hA0 hval0
  refine (walk a0 len0 cap0 z0 W w0 (errT_of_laid hL)).mono fun e W' ⟨he, bel⟩ => ?_
  subst he
  exact ⟨_, rfl, _, _, _, [], _, [], hW', trodAll_mk1 (shut_bool Tryd.underlying4 _), (trodAll_cons_mk (Below.trod laidOut (by kernel_rfl) (of_decide_eq_true (by kernel_rfl)) k0 bel lt0) trodAll_mk0), rfl, bel.frame _, fun h => by cases h⟩

theorem said : Rows.FnWiresSaid :=
  OpenClaim.holds_of_wide 6 Tryd.f6 rfl rfl rfl rfl rfl rfl rfl ⟨rfl, rfl, rfl, rfl, rfl⟩ rfl rfl rfl rfl rfl (by kernel_rfl) Tryd.func6 (by kernel_rfl)
    (of_decide_eq_true (by kernel_rfl)) (by unfold Func.isWrapper; rw [if_neg (of_decide_eq_false (by kernel_rfl))]; exact ⟨rfl, rfl⟩)
    (fun os started H enc _ => lifted os started H enc)

/-- ████ THE CARD ████ -/
theorem card : Rows.FnWiresCardSaid :=
  Claim7.holds_tied_plain_at .later [] _ _ _ _ said (fun _ h => by cases h) (by kernel_rfl) (fun _ h => by cases h) fnWires_row_tie rfl ⟨rfl, rfl⟩ (by kernel_rfl) rfl
    (fun f fn hf hfn => by
      obtain rfl : f = 6 := Option.some.inj ((show Tryd.prog.funcNamed "loop.example/g00844/laws.FnWires" = some 6 by kernel_rfl).symm.trans hf) |>.symm
      obtain rfl : fn = Tryd.f6 := (Option.some.inj (Tryd.func6.symm.trans hfn)).symm
      exact ⟨by kernel_rfl, fun j t ht => by
        rw [Tryd.params6] at ht
        have hmem := Array.mem_of_getElem? ht
        simp at hmem
        subst hmem
        exact (show Tryd.prog.wantsStandIn 22 = false by kernel_rfl)⟩)
    (by kernel_rfl)
#print axioms card
end Go.Proofs.YtcegekkhlfpgfaaDoor.fnWires
