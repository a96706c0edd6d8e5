/-
  Contracts of spec.CheckOf and impl.CheckOf: both answer the check sum of the bytes that the slice reads as, and change nothing. For every slice of bytes. The contracts of spec.Frame and impl.Frame: both answer, in memory of their own, the frame of the bytes and true; nothing and false where they are more than 4000. For every slice of bytes. A plan's bytes, as plain lists. No program, no walk. Contract of spec.l02End: where the tree that begins at a place ends, and how deep it is. For every slice of nodes and every place in it. Contracts of spec.PlanOk, spec.l02Good, spec.EndOf, spec.DepthOf, spec.CountKind. For every slice of nodes. Contracts of spec.EncodePlan and spec.PlanSum. For every slice of nodes.
-/
import Derived.Test.YtcegekkhlfpgfaaRows
import Derived.Test.YtcegekkhlfpgfaaMem
import Derived.WalkKit
import Derived.WalkSpells
import Derived.WalkLawsBesides
import Derived.Test.YtcegekkhlfpgfaaJoin2
import Derived.Lib.SlBytesConst
import Derived.Test.YtcegekkhlfpgfaaCodP
import Derived.Test.YtcegekkhlfpgfaaKind
import Derived.Test.YtcegekkhlfpgfaaRead
import Derived.Test.YtcegekkhlfpgfaaSNode
import Derived.Test.YtcegekkhlfpgfaaSPutNd
namespace Go.Proofs.Ytcegekkhlfpgfaa
open Go.RowKit
set_option linter.unusedSimpArgs false
set_option linter.unusedVariables false

def chk (l : List Int) : Int := l.foldl (fun s c => (269 * s + c) % 999983) 5
theorem chk_snoc (l : List Int) (z : Int) : chk (l ++ [z]) = (269 * chk l + z) % 999983 := by unfold chk; rw [List.foldl_append]; rfl
theorem chk_bd (l : List Int) : 0 ≤ chk l ∧ chk l < 999983 := by
  rcases List.eq_nil_or_concat l with rfl | ⟨l', z, rfl⟩
  · exact ⟨by decide, by decide⟩
  · rw [List.concat_eq_append, chk_snoc]; omega

set_option maxHeartbeats 400000 in
theorem specCheckOf_any (ao : Option Addr) (c : Nat) (l : List Int) (w : World) (h : Rd w .u8 ao l) (hb : By l) (hn : l.length ≤ maxLen) :
    Calls Try.prog 51 #[.slice ao l.length c] w fun e w' => e = .returned (.int .i64 (chk l)) ∧ w = w' := by
  unfold maxLen at hn
  rcases h with rfl | ⟨b, off, rfl, hc⟩
  · go_enter Try.func51, Try.ntmps51
    go_wp2
    refine wp_loop_rounds 1 ?_; rw [rounds_succ]; go_wp2
    go_ret
    exact ⟨rfl, rfl⟩
  · go_enter Try.func51, Try.ntmps51
    go_wp2
    go_loop [3, 4] (fun s i => ∃ k : Nat, k ≤ l.length ∧ i = .int .i64 k ∧ s = .int .i64 (chk (l.take k))) (fun _ i => l.length - (intOf i).toNat)
    case atStart => exact ⟨0, Nat.zero_le _, rfl, rfl⟩
    case round =>
      obtain ⟨k, hk, rfl, rfl⟩ := hrel
      have bd := chk_bd (l.take k)
      by_cases hlt : k < l.length
      · obtain ⟨z, hz, _, hcz, ht⟩ := Rd.at_ hc hlt
        have zb := hb z hz
        have HT := Lib.hid ht; clear ht hc
        go_wp2
        go_round
        case rel => exact ⟨k + 1, by omega, by go_num, by rw [HT.out, chk_snoc]⟩
        case measure => simp [intOf]; omega
      · go_wp2
        go_ret
        exact ⟨ret_int (by rw [List.take_of_length_le (by omega)]), rfl⟩

set_option maxHeartbeats 400000 in
theorem implCheckOf_any (ao : Option Addr) (c : Nat) (l : List Int) (w : World) (h : Rd w .u8 ao l) (hb : By l) (hn : l.length ≤ maxLen) :
    Calls Try.prog 52 #[.slice ao l.length c] w fun e w' => e = .returned (.int .i64 (chk l)) ∧ w = w' := by
  unfold maxLen at hn
  rcases h with rfl | ⟨b, off, rfl, hc⟩
  · go_enter Try.func52, Try.ntmps52
    go_wp2
    refine wp_loop_rounds 1 ?_; rw [rounds_succ]; go_wp2
    go_ret
    exact ⟨rfl, rfl⟩
  · go_enter Try.func52, Try.ntmps52
    go_wp2
    go_loop [3, 8] (fun s i => ∃ k : Nat, k ≤ l.length ∧ i = .int .i64 k ∧ s = .int .i64 (chk (l.take k))) (fun _ i => l.length - (intOf i).toNat)
    case atStart => exact ⟨0, Nat.zero_le _, rfl, rfl⟩
    case round =>
      obtain ⟨k, hk, rfl, rfl⟩ := hrel
      have bd := chk_bd (l.take k)
      by_cases hlt : k < l.length
      · obtain ⟨z, hz, _, hcz, ht⟩ := Rd.at_ hc hlt
        have zb := hb z hz
        have HT := Lib.hid ht; clear ht hc
        go_wp2
        go_round
        case rel => exact ⟨k + 1, by omega, by go_num, by rw [HT.out, chk_snoc, Int.mul_comm 269]⟩
        case measure => simp [intOf]; omega
      · go_wp2
        go_ret
        exact ⟨ret_int (by rw [List.take_of_length_le (by omega)]), rfl⟩
end Go.Proofs.Ytcegekkhlfpgfaa
namespace Go.Proofs.Ytcegekkhlfpgfaa
open Go.RowKit
set_option linter.unusedSimpArgs false
set_option linter.unusedVariables false

def frameL (l : List Int) : List Int := if l.length ≤ 4000 then ((([80, 83] ++ putN l.length) ++ l) ++ putN (chk l)) else []
theorem frameL_yes {l : List Int} (h : l.length ≤ 4000) : frameL l = ((([80, 83] ++ putN l.length) ++ l) ++ putN (chk l)) := by unfold frameL; rw [if_pos h]
theorem frameL_no {l : List Int} (h : ¬ l.length ≤ 4000) : frameL l = [] := by unfold frameL; rw [if_neg h]
theorem frameL_len (l : List Int) : (frameL l).length ≤ 4008 := by
  unfold frameL; split
  · have := putN_len l.length; have := putN_len (chk l); simp only [List.length_append]; simp; omega
  · simp
theorem frameL_by {l : List Int} (h : By l) : By (frameL l) := by
  unfold frameL; split
  · refine ((By.app ?_ (putN_by _)).app h).app (putN_by _)
    intro z hz; simp at hz; omega
  · exact By.nil
theorem putN_size4 {n : Nat} (h : n ≤ 4000) : putN (n : Int) = enc (fold (n : Int)) := by
  unfold putN; rw [isN_mk (by omega)]; rfl
theorem putN_chk (l : List Int) : putN (chk l) = enc (fold (chk l)) := by
  have := chk_bd l
  unfold putN; rw [isN_mk (by omega)]; rfl
theorem rd_ps (w : World) (e : TypeId) (m : Nat × Nat) : Rd (w.alloc (.cells #[.int .u8 80, .int .u8 83] e m)) .u8 (some ⟨w.heap.size, 0, none⟩) [80, 83] := by
  refine .inr ⟨w.heap.size, 0, rfl, fun i hi => ?_⟩
  have hh : (w.alloc (.cells #[.int .u8 80, .int .u8 83] e m)).heap[w.heap.size]? = some (.cells #[.int .u8 80, .int .u8 83] e m) := heap_alloc_new w _
  rw [Nat.zero_add, cell_of_row _ _ _ _ _ _ hh]
  match i, hi with
  | 0, _ => rfl
  | 1, _ => rfl

set_option maxRecDepth 100000 in
set_option maxHeartbeats 1600000 in
theorem specFrame_any (b : Option Addr) (d : Nat) (l : List Int) (w : World) (h : Rd w .u8 b l) (hby : By l) (hl : l.length ≤ maxLen) :
    Calls Try.prog 47 #[.slice b l.length d] w (Made2 w 5 .u8 (frameL l) (decide (l.length ≤ 4000))) := by
  have hl' := hl
  unfold maxLen at hl
  by_cases h4 : l.length ≤ 4000
  · rw [frameL_yes h4, show decide (l.length ≤ 4000) = true by simpa using h4]
    have cb := chk_bd l
    have H := Lib.hid h; have HL := Lib.hid hl'; have HBY := Lib.hid hby
    have CK : Hid (∀ w : World, Rd w .u8 b l → Calls Try.prog 51 #[.slice b l.length d] w fun e w' => e = .returned (.int .i64 (chk l)) ∧ w = w') := fun w h => specCheckOf_any b d l w h hby hl'
    clear h hl' hby hl
    obtain ⟨p, hp⟩ : ∃ p, p = putN (l.length : Int) := ⟨_, rfl⟩
    obtain ⟨ck, hck⟩ : ∃ ck, ck = chk l := ⟨_, rfl⟩
    obtain ⟨r, hrr⟩ : ∃ r, r = putN ck := ⟨_, rfl⟩
    rw [← hck] at CK cb ⊢
    have hpl : p.length ≤ 3 := by rw [hp]; exact putN_len _
    have hrl : r.length ≤ 3 := by rw [hrr]; exact putN_len _
    have P1 : Hid (∀ w : World, Calls Try.prog 32 #[.int .i64 l.length] w (Made w 5 .u8 p)) := by rw [hp]; exact fun w => specPutNum_any _ w
    have P2 : Hid (∀ w : World, Calls Try.prog 32 #[.int .i64 ck] w (Made w 5 .u8 r)) := by rw [hrr]; exact fun w => specPutNum_any _ w
    rw [← hp, ← hrr]
    clear hp hck hrr
    obtain ⟨fl, hfl⟩ : ∃ fl, fl = ((([80, 83] ++ p) ++ l) ++ r) := ⟨_, rfl⟩
    rw [← hfl]
    have HFL := Lib.hid hfl; clear hfl
    have kc := fun (w : World) (C : Array Value) (n c : Nat) => Lib.run_convert_bytes_const (P := Try.prog) w 26 5 C n c Try.underlying26 Try.underlying5
    go_enter Try.func47, Try.ntmps47
    go_wp2_with fail
    refine (P1.out _).mono ?_
    rintro e w1 ⟨a1, c1, rfl, o1, b1⟩
    have hb1 : Below w.heap.size w w1 := ((Below.refl _ _).alloc (Nat.le_refl _) _).trans (b1.mono (by simp))
    have R1 := Lib.hid (H.out.below hb1); have T1 := Lib.hid hb1; have PS := Lib.hid ((rd_ps w _ _).below b1); have O1 := Lib.hid o1
    clear o1 b1 hb1 H kc
    go_wp2_with fail
    refine (l01Join_any _ _ _ _ [80, 83] p _ PS.out O1.out.rd (by simp; omega)).mono ?_
    obtain ⟨l1, hl1⟩ : ∃ l1, l1 = [80, 83] ++ p := ⟨_, rfl⟩
    rw [← hl1]
    have hl1l : l1.length ≤ 5 := by rw [hl1]; simp; omega
    have HL1 := Lib.hid hl1; clear hl1
    rintro e w2 ⟨a2, c2, rfl, o2, b2⟩
    have R2 := Lib.hid (R1.out.below b2); have T2 := Lib.hid (below_step T1.out (Nat.le_refl _) b2); have O2 := Lib.hid o2
    clear o2 b2 R1 T1 PS O1
    go_wp2_with fail
    refine (l01Join_any _ _ _ _ l1 l _ O2.out.rd R2.out (by omega)).mono ?_
    obtain ⟨l2, hl2⟩ : ∃ l2, l2 = l1 ++ l := ⟨_, rfl⟩
    rw [← hl2]
    have hl2l : l2.length ≤ 4005 := by rw [hl2]; simp; omega
    have HL2 := Lib.hid hl2; clear hl2
    rintro e w3 ⟨a3, c3, rfl, o3, b3⟩
    have R3 := Lib.hid (R2.out.below b3); have T3 := Lib.hid (below_step T2.out (Nat.le_refl _) b3); have O3 := Lib.hid o3
    clear o3 b3 R2 T2 O2
    go_wp2_with fail
    refine (CK.out _ R3.out).mono ?_
    rintro e w' ⟨rfl, rfl⟩
    go_wp2_with fail
    refine (P2.out _).mono ?_
    rintro e w4 ⟨a4, c4, rfl, o4, b4⟩
    have T4 := Lib.hid (below_step T3.out (Nat.le_refl _) b4); have O3' := Lib.hid (O3.out.below b4); have O4 := Lib.hid o4
    clear o4 b4 R3 T3 O3
    go_wp2_with fail
    refine (l01Join_any _ _ _ _ l2 r _ O3'.out.rd O4.out.rd (by omega)).mono ?_
    rintro e w5 ⟨a5, c5, rfl, o5, b5⟩
    have T5 := Lib.hid (below_step T4.out (Nat.le_refl _) b5); have O5 := Lib.hid (o5.base_le T4.out.size)
    clear o5 b5 T4 O3' O4
    go_wp2
    go_ret2
    have e : fl = l2 ++ r := by rw [HFL.out, HL2.out, HL1.out]
    exact ⟨a5, c5, ret_two (by rw [e]; simp), by rw [e]; exact O5.out, T5.out⟩
  · rw [frameL_no h4, show decide (l.length ≤ 4000) = false by simpa using h4]
    have h4' : (4000 : Int) < l.length := by omega
    go_enter Try.func47, Try.ntmps47
    go_wp2
    go_ret2
    exact ⟨none, 0, rfl, Own.none_, Below.refl _ _⟩

set_option maxRecDepth 100000 in
set_option maxHeartbeats 1600000 in
theorem implFrame_any (b : Option Addr) (d : Nat) (l : List Int) (w : World) (h : Rd w .u8 b l) (hnil : b = none → d = 0) (hby : By l) (hl : l.length ≤ maxLen) :
    Calls Try.prog 49 #[.slice b l.length d] w (Made2 w 5 .u8 (frameL l) (decide (l.length ≤ 4000))) := by
  have hl' := hl
  unfold maxLen at hl
  by_cases h4 : l.length ≤ 4000
  · rw [frameL_yes h4, show decide (l.length ≤ 4000) = true by simpa using h4]
    have cb := chk_bd l
    have H := Lib.hid h; have NIL := Lib.hid hnil
    have CK : Hid (∀ w : World, Rd w .u8 b l → Calls Try.prog 52 #[.slice b l.length d] w fun e w' => e = .returned (.int .i64 (chk l)) ∧ w = w') := fun w h => implCheckOf_any b d l w h hby hl'
    rw [putN_size4 h4, putN_chk]
    clear h hl' hby hl hnil
    obtain ⟨p, hp⟩ : ∃ p, p = enc (fold (l.length : Int)) := ⟨_, rfl⟩
    obtain ⟨ck, hck⟩ : ∃ ck, ck = chk l := ⟨_, rfl⟩
    obtain ⟨r, hrr⟩ : ∃ r, r = enc (fold ck) := ⟨_, rfl⟩
    rw [← hck] at CK cb ⊢
    have hpl : p.length ≤ 3 := by rw [hp]; exact (enc_len _ (by have := fold_le (x := (l.length : Int)) (by omega); omega)).2
    have N1 : Hid (∀ (B h : Nat) (m : List Int) (w : World), Wr w B h 86 5 m → B ≤ w.heap.size → m.length ≤ 1000000000 → Calls Try.prog 66 #[.pointer (some ⟨h, 0, none⟩), .int .i64 l.length] w (Added w B h 86 5 (m ++ p))) := by
      rw [hp]; exact fun B h m w h1 h2 h3 => addNum_any B h m _ w (by omega) h1 h2 h3
    have N2 : Hid (∀ (B h : Nat) (m : List Int) (w : World), Wr w B h 86 5 m → B ≤ w.heap.size → m.length ≤ 1000000000 → Calls Try.prog 66 #[.pointer (some ⟨h, 0, none⟩), .int .i64 ck] w (Added w B h 86 5 (m ++ r))) := by
      rw [hrr]; exact fun B h m w h1 h2 h3 => addNum_any B h m _ w (by omega) h1 h2 h3
    rw [← hp, ← hrr]
    clear hp hck hrr
    obtain ⟨fl, hfl⟩ : ∃ fl, fl = ((([80, 83] ++ p) ++ l) ++ r) := ⟨_, rfl⟩
    rw [← hfl]
    have HFL := Lib.hid hfl; clear hfl
    have A0 : Hid (Calls Try.prog 72 #[.pointer (some ⟨w.heap.size, 0, none⟩), .string ⟨#[80, 83]⟩] (w.alloc (Obj.cells #[.slice none 0 0] 86)) (Added (w.alloc (Obj.cells #[.slice none 0 0] 86)) w.heap.size w.heap.size 86 5 [80, 83])) :=
      addText_any w.heap.size w.heap.size [] ⟨#[80, 83]⟩ _ (Wr.new w 86 5) (by simp) (by decide)
    go_enter Try.func49, Try.ntmps49
    go_wp2_with fail
    refine A0.out.mono ?_
    rintro e w1 ⟨rfl, hw1, hb1⟩
    have T1 := Lib.hid (below_after hb1); have W1 := Lib.hid hw1
    clear hw1 hb1 A0
    go_wp2_with fail
    refine (N1.out _ _ _ _ W1.out T1.out.size (by simp)).mono ?_
    obtain ⟨l1, hl1⟩ : ∃ l1, l1 = [80, 83] ++ p := ⟨_, rfl⟩
    rw [← hl1]
    have hl1l : l1.length ≤ 5 := by rw [hl1]; simp; omega
    have HL1 := Lib.hid hl1; clear hl1
    rintro e w2 ⟨rfl, hw2, hb2⟩
    have T2 := Lib.hid (T1.out.trans hb2); have W2 := Lib.hid hw2
    clear hw2 hb2 T1 W1
    go_wp2_with fail
    refine (addBytes_any _ _ _ _ _ l _ W2.out T2.out.size (H.out.below T2.out) NIL.out (by omega)).mono ?_
    obtain ⟨l2, hl2⟩ : ∃ l2, l2 = l1 ++ l := ⟨_, rfl⟩
    rw [← hl2]
    have hl2l : l2.length ≤ 4005 := by rw [hl2]; simp; omega
    have HL2 := Lib.hid hl2; clear hl2
    rintro e w3 ⟨rfl, hw3, hb3⟩
    have T3 := Lib.hid (T2.out.trans hb3); have W3 := Lib.hid hw3
    clear hw3 hb3 T2 W2
    go_wp2_with fail
    refine (CK.out _ (H.out.below T3.out)).mono ?_
    rintro e w' ⟨rfl, rfl⟩
    go_wp2_with fail
    refine (N2.out _ _ _ _ W3.out T3.out.size (by omega)).mono ?_
    rintro e w4 ⟨rfl, ⟨ao, c, hblk, _, ho⟩, hb4⟩
    have hc := cell_of_one hblk
    have HO := Lib.hid ho; have T4 := Lib.hid (T3.out.trans hb4); clear ho hb4 hblk T3 W3
    go_wp2
    go_ret2
    have e : fl = l2 ++ r := by rw [HFL.out, HL2.out, HL1.out]
    exact ⟨ao, c, ret_two (by rw [e]; simp), by rw [e]; exact HO.out, T4.out⟩
  · rw [frameL_no h4, show decide (l.length ≤ 4000) = false by simpa using h4]
    have h4' : (4000 : Int) < l.length := by omega
    go_enter Try.func49, Try.ntmps49
    go_wp2
    go_ret2
    exact ⟨none, 0, rfl, Own.none_, Below.refl _ _⟩
end Go.Proofs.Ytcegekkhlfpgfaa
namespace Go.Proofs.Ytcegekkhlfpgfaa
open Go.RowKit
set_option linter.unusedSimpArgs false
set_option linter.unusedVariables false

def encP (p : List Nd) : List Int := if planB p then frameL (preP p p.length) else []
def sumP (p : List Nd) : Int := if planB p then chk (encP p) else -1
theorem encP_yes {p : List Nd} (h : planB p = true) : encP p = frameL (preP p p.length) := by unfold encP; rw [if_pos h]
theorem encP_no {p : List Nd} (h : planB p = false) : encP p = [] := by unfold encP; rw [if_neg (by simp [h])]
theorem encP_by (p : List Nd) : By (encP p) := by
  unfold encP; split
  · exact frameL_by (preP_by _ _)
  · exact By.nil
theorem encP_len (p : List Nd) : (encP p).length ≤ 4008 := by
  unfold encP; split
  · exact frameL_len _
  · simp
theorem sumP_yes {p : List Nd} (h : planB p = true) : sumP p = chk (encP p) := by unfold sumP; rw [if_pos h]
theorem sumP_no {p : List Nd} (h : planB p = false) : sumP p = -1 := by unfold sumP; rw [if_neg (by simp [h])]
theorem planB_l40 {p : List Nd} (h : planB p = true) : p.length ≤ 40 := by
  cases ht : treeN p with
  | none => simp [planB, ht] at h
  | some T => exact (treeN_some ht).1
end Go.Proofs.Ytcegekkhlfpgfaa
namespace Go.Proofs.Ytcegekkhlfpgfaa
open Go.RowKit
set_option linter.unusedSimpArgs false
set_option linter.unusedVariables false

/-- What l02End answers. -/
def endV : Option (Nat × Nat) → Value
  | none => .tuple #[.int .i64 (-1), .int .i64 0]
  | some (e, d) => .tuple #[.int .i64 e, .int .i64 d]

theorem endN_out {p : List Nd} {r k : Nat} (h : p.length ≤ k) : endN p r k = none := by
  cases r with
  | zero => rfl
  | succ r => simp only [endN]; rw [List.getElem?_eq_none h]
theorem endN_0 {p : List Nd} {r k : Nat} {n : Nd} (hn : p[k]? = some n) (h1 : arity n.kind ≠ 1) (h2 : arity n.kind ≠ 2) : endN p (r + 1) k = some (k + 1, 1) := by
  simp only [endN, hn]; rw [if_neg h1, if_neg h2]
theorem endN_1n {p : List Nd} {r k : Nat} {n : Nd} (hn : p[k]? = some n) (h1 : arity n.kind = 1) (h : endN p r (k + 1) = none) : endN p (r + 1) k = none := by
  simp only [endN, hn]; rw [if_pos h1, h]
theorem endN_1s {p : List Nd} {r k e d : Nat} {n : Nd} (hn : p[k]? = some n) (h1 : arity n.kind = 1) (h : endN p r (k + 1) = some (e, d)) : endN p (r + 1) k = some (e, d + 1) := by
  simp only [endN, hn]; rw [if_pos h1, h]
theorem endN_2n {p : List Nd} {r k : Nat} {n : Nd} (hn : p[k]? = some n) (h2 : arity n.kind = 2) (h : endN p r (k + 1) = none) : endN p (r + 1) k = none := by
  simp only [endN, hn]; rw [if_neg (by omega), if_pos h2, h]
theorem endN_2sn {p : List Nd} {r k e d : Nat} {n : Nd} (hn : p[k]? = some n) (h2 : arity n.kind = 2) (h : endN p r (k + 1) = some (e, d)) (h' : endN p r e = none) : endN p (r + 1) k = none := by
  simp only [endN, hn]; rw [if_neg (by omega), if_pos h2, h]; simp only; rw [h']
theorem endN_2ss {p : List Nd} {r k e d e' d' : Nat} {n : Nd} (hn : p[k]? = some n) (h2 : arity n.kind = 2) (h : endN p r (k + 1) = some (e, d)) (h' : endN p r e = some (e', d')) : endN p (r + 1) k = some (e', (if d < d' then d' else d) + 1) := by
  simp only [endN, hn]; rw [if_neg (by omega), if_pos h2, h]; simp only; rw [h']
theorem endN_bd (p : List Nd) : ∀ (r k e d : Nat), endN p r k = some (e, d) → k < e ∧ e ≤ p.length ∧ 1 ≤ d ∧ d ≤ r := by
  intro r
  induction r with
  | zero => intro k e d h; cases h
  | succ r ih =>
    intro k e d h
    cases hn : p[k]? with
    | none => simp only [endN, hn] at h; cases h
    | some n =>
      have hk : k < p.length := by
        rcases Nat.lt_or_ge k p.length with h1 | h1
        · exact h1
        · rw [List.getElem?_eq_none h1] at hn; cases hn
      by_cases h1 : arity n.kind = 1
      · cases hc : endN p r (k + 1) with
        | none => rw [endN_1n hn h1 hc] at h; cases h
        | some x =>
          obtain ⟨e1, d1⟩ := x
          rw [endN_1s hn h1 hc] at h; cases h
          have := ih _ _ _ hc; omega
      · by_cases h2 : arity n.kind = 2
        · cases hc : endN p r (k + 1) with
          | none => rw [endN_2n hn h2 hc] at h; cases h
          | some x =>
            obtain ⟨e1, d1⟩ := x
            cases hd : endN p r e1 with
            | none => rw [endN_2sn hn h2 hc hd] at h; cases h
            | some y =>
              obtain ⟨e2, d2⟩ := y
              rw [endN_2ss hn h2 hc hd] at h; cases h
              have := ih _ _ _ hc; have := ih _ _ _ hd
              split <;> omega
        · rw [endN_0 hn h1 h2] at h; cases h; omega

set_option maxRecDepth 100000 in
set_option maxHeartbeats 1600000 in
theorem specEnd_any (ao : Option Addr) (c : Nat) (p : List Nd) (hp : p.length ≤ 1048576) : ∀ (r : Nat) (k room : Int) (w : World), RdN w ao p → 0 ≤ k → k ≤ 1048576 → (r : Int) ≤ room → room ≤ (r : Int) → r ≤ 1000 →
    Calls Try.prog 70 #[.slice ao p.length c, .int .i64 k, .int .i64 room] w fun e w' => e = .returned (endV (endN p r k.toNat)) ∧ w = w' := by
  intro r
  induction r with
  | zero =>
    intro k room w h hk0 hk1 hr1 hr2 _
    have hr : (room == 0) = true := beq_iff_eq.2 (by omega)
    have HF := Lib.hid (show endN p 0 k.toNat = none from rfl)
    by_cases hk : (p.length : Int) ≤ k
    · go_enter Try.func70, Try.ntmps70
      go_wp2_with fail
      go_ret2
      exact ⟨by rw [HF.out]; rfl, rfl⟩
    · have hk' : k < (p.length : Int) := by omega
      go_enter Try.func70, Try.ntmps70
      go_wp2_with fail
      go_ret2
      exact ⟨by rw [HF.out]; rfl, rfl⟩
  | succ r ih =>
    intro k room w h hk0 hk1 hr1 hr2 hr3
    have IH := Lib.hid ih; clear ih
    have hr : (room == 0) = false := beq_eq_false_iff_ne.2 (by omega)
    by_cases hk : (p.length : Int) ≤ k
    · have HF := Lib.hid (endN_out (r := r + 1) (show p.length ≤ k.toNat by omega))
      go_enter Try.func70, Try.ntmps70
      go_wp2_with fail
      go_ret2
      exact ⟨by rw [HF.out]; rfl, rfl⟩
    · have hk' : k < (p.length : Int) := by omega
      obtain ⟨b, off, n, a, c', rfl, hn, hat⟩ := h.at_ (i := k.toNat) (by omega)
      have H := Lib.hid h; clear h
      have HN := Lib.hid hn; clear hn
      have c0 := hat.c0
      clear hat hk
      have AR := Lib.hid (fun w => specArity_any n.kind w)
      by_cases h1 : arity n.kind = 1
      · have H1 := Lib.hid h1; clear h1
        cases hc : endN p r (k.toNat + 1) with
        | none =>
          have HC := Lib.hid hc; clear hc
          have HF := Lib.hid (endN_1n HN.out H1.out HC.out)
          go_enter Try.func70, Try.ntmps70
          go_wp2_with fail
          refine wp_loop_rounds 2 ?_; rw [rounds_succ]
          go_wp2_with (go_at_call 79; refine (AR.out _).mono ?_; rintro e w' ⟨rfl, rfl⟩; rw [H1.out])
          refine (IH.out _ _ _ H.out (by omega) (by omega) (by omega) (by omega) (by omega)).mono ?_
          rintro e w' ⟨rfl, rfl⟩
          rw [show (k + 1).toNat = k.toNat + 1 from by omega, HC.out]
          simp only [endV]
          go_wp2_with fail
          go_ret2
          exact ⟨by rw [HF.out]; rfl, rfl⟩
        | some x =>
          obtain ⟨e1, d1⟩ := x
          have HC := Lib.hid hc; clear hc
          have HF := Lib.hid (endN_1s HN.out H1.out HC.out)
          obtain ⟨q1, q2, q3, q4⟩ := endN_bd _ _ _ _ _ HC.out
          go_enter Try.func70, Try.ntmps70
          go_wp2_with fail
          refine wp_loop_rounds 2 ?_; rw [rounds_succ]
          go_wp2_with (go_at_call 79; refine (AR.out _).mono ?_; rintro e w' ⟨rfl, rfl⟩; rw [H1.out])
          refine (IH.out _ _ _ H.out (by omega) (by omega) (by omega) (by omega) (by omega)).mono ?_
          rintro e w' ⟨rfl, rfl⟩
          rw [show (k + 1).toNat = k.toNat + 1 from by omega, HC.out]
          simp only [endV]
          go_wp2_with fail
          rw [rounds_succ]
          go_wp2_with (go_at_call 79; refine (AR.out _).mono ?_; rintro e w' ⟨rfl, rfl⟩; rw [H1.out])
          go_ret2
          exact ⟨by rw [HF.out]; rfl, rfl⟩
      · by_cases h2 : arity n.kind = 2
        · have H1 := Lib.hid h2; clear h1 h2
          cases hc : endN p r (k.toNat + 1) with
          | none =>
            have HC := Lib.hid hc; clear hc
            have HF := Lib.hid (endN_2n HN.out H1.out HC.out)
            go_enter Try.func70, Try.ntmps70
            go_wp2_with fail
            refine wp_loop_rounds 3 ?_; rw [rounds_succ]
            go_wp2_with (go_at_call 79; refine (AR.out _).mono ?_; rintro e w' ⟨rfl, rfl⟩; rw [H1.out])
            refine (IH.out _ _ _ H.out (by omega) (by omega) (by omega) (by omega) (by omega)).mono ?_
            rintro e w' ⟨rfl, rfl⟩
            rw [show (k + 1).toNat = k.toNat + 1 from by omega, HC.out]
            simp only [endV]
            go_wp2_with fail
            go_ret2
            exact ⟨by rw [HF.out]; rfl, rfl⟩
          | some x =>
            obtain ⟨e1, d1⟩ := x
            have HC := Lib.hid hc; clear hc
            obtain ⟨q1, q2, q3, q4⟩ := endN_bd _ _ _ _ _ HC.out
            cases hd : endN p r e1 with
            | none =>
              have HD := Lib.hid hd; clear hd
              have HF := Lib.hid (endN_2sn HN.out H1.out HC.out HD.out)
              go_enter Try.func70, Try.ntmps70
              go_wp2_with fail
              refine wp_loop_rounds 3 ?_; rw [rounds_succ]
              go_wp2_with (go_at_call 79; refine (AR.out _).mono ?_; rintro e w' ⟨rfl, rfl⟩; rw [H1.out])
              refine (IH.out _ _ _ H.out (by omega) (by omega) (by omega) (by omega) (by omega)).mono ?_
              rintro e w' ⟨rfl, rfl⟩
              rw [show (k + 1).toNat = k.toNat + 1 from by omega, HC.out]
              simp only [endV]
              go_wp2_with fail
              rw [rounds_succ]
              go_wp2_with (go_at_call 79; refine (AR.out _).mono ?_; rintro e w' ⟨rfl, rfl⟩; rw [H1.out])
              refine (IH.out _ _ _ H.out (by omega) (by omega) (by omega) (by omega) (by omega)).mono ?_
              rintro e w' ⟨rfl, rfl⟩
              rw [Int.toNat_natCast, HD.out]
              simp only [endV]
              go_wp2_with fail
              go_ret2
              exact ⟨by rw [HF.out]; rfl, rfl⟩
            | some y =>
              obtain ⟨e2, d2⟩ := y
              have HD := Lib.hid hd; clear hd
              have HF := Lib.hid (endN_2ss HN.out H1.out HC.out HD.out)
              obtain ⟨q5, q6, q7, q8⟩ := endN_bd _ _ _ _ _ HD.out
              by_cases hdd : d1 < d2
              all_goals
                go_enter Try.func70, Try.ntmps70
                go_wp2_with fail
                refine wp_loop_rounds 3 ?_; rw [rounds_succ]
                go_wp2_with (go_at_call 79; refine (AR.out _).mono ?_; rintro e w' ⟨rfl, rfl⟩; rw [H1.out])
                refine (IH.out _ _ _ H.out (by omega) (by omega) (by omega) (by omega) (by omega)).mono ?_
                rintro e w' ⟨rfl, rfl⟩
                rw [show (k + 1).toNat = k.toNat + 1 from by omega, HC.out]
                simp only [endV]
                go_wp2_with fail
                rw [rounds_succ]
                go_wp2_with (go_at_call 79; refine (AR.out _).mono ?_; rintro e w' ⟨rfl, rfl⟩; rw [H1.out])
                refine (IH.out _ _ _ H.out (by omega) (by omega) (by omega) (by omega) (by omega)).mono ?_
                rintro e w' ⟨rfl, rfl⟩
                rw [Int.toNat_natCast, HD.out]
                simp only [endV]
                go_wp2_with fail
                rw [rounds_succ]
                go_wp2_with (go_at_call 79; refine (AR.out _).mono ?_; rintro e w' ⟨rfl, rfl⟩; rw [H1.out])
                go_ret2
                exact ⟨by rw [HF.out]; simp [endV, hdd], rfl⟩
        · have HF := Lib.hid (endN_0 (r := r) HN.out h1 h2)
          have ha : arity n.kind ≤ 0 := by rcases arity_cases n.kind with h | h | h | h <;> omega
          clear h1 h2
          go_enter Try.func70, Try.ntmps70
          go_wp2_with fail
          refine wp_loop_rounds 1 ?_; rw [rounds_succ]
          go_wp2_with (go_at_call 79; refine (AR.out _).mono ?_; rintro e w' ⟨rfl, rfl⟩)
          go_ret2
          exact ⟨by rw [HF.out]; simp [endV]; omega, rfl⟩
end Go.Proofs.Ytcegekkhlfpgfaa
namespace Go.Proofs.Ytcegekkhlfpgfaa
open Go.RowKit
set_option linter.unusedSimpArgs false
set_option linter.unusedVariables false

set_option maxRecDepth 100000 in
set_option maxHeartbeats 1600000 in
theorem specPlanOk_any (ao : Option Addr) (c : Nat) (p : List Nd) (w : World) (h : RdN w ao p) (hp : p.length ≤ 1048576) :
    Calls Try.prog 46 #[.slice ao p.length c] w fun e w' => e = .returned (.bool (planB p)) ∧ Below w.heap.size w w' := by
  have H := Lib.hid h; clear h
  by_cases hlen : 1 ≤ p.length ∧ p.length ≤ 40
  · obtain ⟨h1, h2⟩ := hlen
    have h3 : (1 : Int) ≤ p.length := by omega
    have h4 : (p.length : Int) ≤ 40 := by omega
    have E := Lib.hid (fun wr (hr : RdN wr ao p) => specEnd_any ao c p hp 10 0 10 wr hr (by omega) (by omega) (by omega) (by omega) (by omega))
    go_enter Try.func46, Try.ntmps46
    go_wp2_with (go_at_call 59; refine (l01In_any _ _ _ _).mono ?_; rintro e w' ⟨rfl, rfl⟩)
    go_loopw [3] (fun i wr => ∃ j : Nat, j ≤ p.length ∧ i = .int .i64 j ∧ (∀ (i : Nat) (n : Nd), i < j → p[i]? = some n → nodeB n = true) ∧ Below w.heap.size w wr) (fun i _ => p.length - (intOf i).toNat)
    case atStart => exact ⟨0, Nat.zero_le _, rfl, fun i n hi => absurd hi (Nat.not_lt_zero _), Below.refl _ _⟩
    case round =>
      obtain ⟨j, hj, rfl, hall, hb⟩ := hrel
      have HA := Lib.hid hall; clear hall
      have HB := Lib.hid hb
      by_cases hlt : j < p.length
      · obtain ⟨b, off, n, a, c', rfl, hn, hat⟩ := (H.out.below hb).at_ hlt
        have HN := Lib.hid hn; clear hn hb
        obtain ⟨c0, c1, c2, c3, c4, c5, c6, rd, cap, mx, nm⟩ := hat
        have RD := Lib.hid rd
        have cl := Nat.le_trans cap mx
        clear rd cap mx
        have NK := Lib.hid (fun w => specNodeOk_any n a c' w)
        go_wp2_with fail
        refine (NK.out _ RD.out cl nm).mono ?_
        rintro e w1 ⟨rfl, b1⟩
        have T1 := Lib.hid (below_step HB.out (Nat.le_refl _) b1)
        clear b1
        cases hnb : nodeB n with
        | true =>
          have NB := Lib.hid hnb; clear hnb
          go_wp2_with fail
          go_roundw
          case rel => exact ⟨j + 1, by omega, by go_num, fun i m hi hm => by
            by_cases hij : i = j
            · subst hij; rw [HN.out] at hm; cases hm; exact NB.out
            · exact HA.out i m (by omega) hm, T1.out⟩
          case measure => simp [intOf]; omega
        | false =>
          have F := Lib.hid (planB_node (List.mem_of_getElem? HN.out) hnb)
          clear hnb
          go_wp2_with fail
          go_ret
          exact ⟨ret_bool F.out.symm, T1.out⟩
      · have hall : ∀ n ∈ p, nodeB n = true := by
          intro n hn
          obtain ⟨i, hi, rfl⟩ := List.mem_iff_getElem.1 hn
          exact HA.out i _ (by omega) (List.getElem?_eq_getElem hi)
        have F := Lib.hid (planB_spec p h2 hall)
        have R := Lib.hid (H.out.below hb)
        clear hall hb
        go_wp2_with fail
        refine (E.out _ R.out).mono ?_
        rintro e w' ⟨rfl, rfl⟩
        cases he : endN p 10 (0 : Int).toNat with
        | none =>
          have he' : endN p 10 0 = none := he
          have F2 := Lib.hid (show planB p = false by rw [F.out, he']; rfl)
          simp only [endV]
          clear he he'
          have h5 : ((-1 : Int) == (p.length : Int)) = false := beq_eq_false_iff_ne.2 (by omega)
          go_wp2_with fail
          go_ret
          exact ⟨ret_bool F2.out.symm, HB.out⟩
        | some x =>
          obtain ⟨e1, d1⟩ := x
          have he' : endN p 10 0 = some (e1, d1) := he
          have F2 := Lib.hid (show planB p = decide (e1 = p.length) by rw [F.out, he']; simp)
          simp only [endV]
          clear he he'
          by_cases hee : e1 = p.length
          · have h5 : ((e1 : Int) == (p.length : Int)) = true := beq_iff_eq.2 (by omega)
            have F3 := Lib.hid (show planB p = true by rw [F2.out]; simp [hee])
            clear hee
            go_wp2_with fail
            go_ret
            exact ⟨ret_bool F3.out.symm, HB.out⟩
          · have h5 : ((e1 : Int) == (p.length : Int)) = false := beq_eq_false_iff_ne.2 (by omega)
            have F3 := Lib.hid (show planB p = false by rw [F2.out]; simp [hee])
            clear hee
            go_wp2_with fail
            go_ret
            exact ⟨ret_bool F3.out.symm, HB.out⟩
  · have HF := Lib.hid (planB_len (p := p) (by omega))
    have h3 : (decide ((1 : Int) ≤ p.length) && decide ((p.length : Int) ≤ 40)) = false := by simp; omega
    have H3 := Lib.hid h3; clear h3 hlen
    go_enter Try.func46, Try.ntmps46
    go_wp2_with (go_at_call 59; refine (l01In_any _ _ _ _).mono ?_; rintro e w' ⟨rfl, rfl⟩; rw [H3.out])
    go_ret
    exact ⟨ret_bool HF.out.symm, Below.refl _ _⟩

/-- Whether a place is one of a plan. -/
def goodB (p : List Nd) (k : Int) : Bool := planB p && (decide (0 ≤ k) && decide (k ≤ (p.length : Int) - 1))
end Go.Proofs.Ytcegekkhlfpgfaa
namespace Go.Proofs.Ytcegekkhlfpgfaa
open Go.RowKit
set_option linter.unusedSimpArgs false
set_option linter.unusedVariables false

def EpRel (w wr : World) (p : List Nd) (v i : Value) : Prop :=
  ∃ (ao : Option Addr) (c n j : Nat), v = .slice ao n c ∧ i = .int .i64 j ∧ n = (preP p j).length ∧ j ≤ p.length ∧ Own wr w.heap.size 5 .u8 ao c (preP p j) ∧ Below w.heap.size w wr

set_option maxRecDepth 100000 in
set_option maxHeartbeats 1600000 in
theorem specEncodePlan_any (ao : Option Addr) (c : Nat) (p : List Nd) (w : World) (h : RdN w ao p) (hp : p.length ≤ 1048576) :
    Calls Try.prog 17 #[.slice ao p.length c] w (Made2 w 5 .u8 (encP p) (planB p)) := by
  have H := Lib.hid h; clear h
  have PO := Lib.hid (fun w h => specPlanOk_any ao c p w h hp)
  cases hg : planB p with
  | false =>
    rw [encP_no hg]
    rw [hg] at PO
    clear hg
    go_enter Try.func17, Try.ntmps17
    go_wp2_with fail
    refine (PO.out _ H.out).mono ?_
    rintro e w1 ⟨rfl, b1⟩
    go_wp2_with fail
    go_ret2
    exact ⟨none, 0, rfl, Own.none_, b1⟩
  | true =>
    rw [hg] at PO
    have hl40 := planB_l40 hg
    have E := Lib.hid (encP_yes hg)
    clear hg
    obtain ⟨q0, hq0⟩ : ∃ q, q = putN (p.length : Int) := ⟨_, rfl⟩
    have P0 : Hid (∀ w : World, Calls Try.prog 32 #[.int .i64 p.length] w (Made w 5 .u8 q0)) := by rw [hq0]; exact fun w => specPutNum_any _ w
    have HQ0 := Lib.hid hq0; clear hq0
    go_enter Try.func17, Try.ntmps17
    go_wp2_with fail
    refine (PO.out _ H.out).mono ?_
    rintro e w1 ⟨rfl, b1⟩
    have B1 := Lib.hid b1; clear b1
    go_wp2_with fail
    refine (P0.out _).mono ?_
    rintro e w2 ⟨a2, c2, rfl, o2, b2⟩
    have B2 := Lib.hid (below_step B1.out (Nat.le_refl _) b2); have O2 := Lib.hid (o2.base_le B1.out.size)
    clear o2 b2
    go_wp2_with fail
    go_loopw [4, 5] (fun v i wr => EpRel w wr p v i) (fun _ i _ => p.length - (intOf i).toNat)
    case atStart => exact ⟨a2, c2, _, 0, rfl, rfl, by rw [preP_zero, ← HQ0.out], Nat.zero_le _, by rw [preP_zero, ← HQ0.out]; exact O2.out, B2.out⟩
    case round =>
      obtain ⟨a3, c3, n3, j, rfl, rfl, hn3, hj, ho, hb⟩ := hrel
      have hpl := preP_len j hl40
      have hpby := preP_by p j
      obtain ⟨acc, hacc⟩ : ∃ acc, acc = preP p j := ⟨_, rfl⟩
      rw [← hacc] at hn3 ho hpl hpby
      subst hn3
      have HACC := Lib.hid hacc; have HO := Lib.hid ho; have HB := Lib.hid hb; have HBY := Lib.hid hpby; clear hacc ho hb hpby
      by_cases hlt : j < p.length
      · obtain ⟨b, off, n, a, c', rfl, hn, hat⟩ := (H.out.below HB.out).at_ hlt
        have HN := Lib.hid hn; clear hn
        obtain ⟨c0, c1, c2', c3', c4, c5, c6, rd, cap, mx, nm⟩ := hat
        have RD := Lib.hid rd
        have cl := Nat.le_trans cap mx
        clear rd cap mx
        have hql := putNd_len n
        have PN := Lib.hid (fun w h => specPutNode_any n a c' w h cl nm)
        obtain ⟨q, hq⟩ : ∃ q, q = putNd n := ⟨_, rfl⟩
        rw [← hq] at PN hql
        have HQ := Lib.hid hq; clear hq
        go_wp2_with fail
        refine (PN.out _ RD.out).mono ?_
        rintro e w4 ⟨a4, c4', rfl, o4, b4⟩
        have O4 := Lib.hid o4; have B4 := Lib.hid (below_step HB.out (Nat.le_refl _) b4); have A4 := Lib.hid (HO.out.below b4)
        clear o4 b4 c0 c1 c2' c3' c4 c5 c6
        go_wp2_with fail
        refine (l01Join_any _ _ _ _ _ _ _ A4.out.rd O4.out.rd (by omega)).mono ?_
        rintro e w5 ⟨a5, c5, rfl, o5, b5⟩
        have O5 := Lib.hid (o5.base_le B4.out.size); have B5 := Lib.hid (below_step B4.out (Nat.le_refl _) b5)
        clear o5 b5
        go_wp2_with fail
        go_roundw
        case rel =>
          have e1 : acc ++ q = preP p (j + 1) := by rw [preP_succ HN.out, HACC.out, HQ.out]
          refine ⟨a5, c5, _, j + 1, rfl, by go_num, by rw [← e1]; simp, by omega, ?_, B5.out⟩
          rw [← e1]
          exact O5.out
        case measure => simp [intOf]; omega
      · have e : encP p = frameL acc := by rw [E.out, HACC.out, show j = p.length by omega]
        have FR := Lib.hid (specFrame_any a3 c3 acc wr HO.out.rd HBY.out (by unfold maxLen; omega))
        rw [show decide (acc.length ≤ 4000) = true by simp; omega, ← e] at FR
        clear e
        go_wp2_with fail
        refine FR.out.mono ?_
        rintro e w4 ⟨a4, c4, rfl, o4, b4⟩
        have O4 := Lib.hid (o4.base_le HB.out.size); have B4 := Lib.hid (below_step HB.out (Nat.le_refl _) b4)
        clear o4 b4
        go_wp2_with fail
        go_ret2
        exact ⟨a4, c4, rfl, O4.out, B4.out⟩

set_option maxRecDepth 100000 in
set_option maxHeartbeats 800000 in
theorem specPlanSum_any (ao : Option Addr) (c : Nat) (p : List Nd) (w : World) (h : RdN w ao p) (hp : p.length ≤ 1048576) :
    Calls Try.prog 22 #[.slice ao p.length c] w fun e w' => e = .returned (.int .i64 (sumP p)) ∧ Below w.heap.size w w' := by
  have EP := Lib.hid (specEncodePlan_any ao c p w h hp)
  have hl := encP_len p
  have HBY := Lib.hid (encP_by p)
  cases hg : planB p with
  | false =>
    rw [sumP_no hg]
    rw [hg] at EP
    clear hg h
    go_enter Try.func22, Try.ntmps22
    go_wp2_with fail
    refine EP.out.mono ?_
    rintro e w1 ⟨a1, c1, rfl, o1, b1⟩
    clear o1
    go_wp2_with fail
    go_ret
    exact ⟨rfl, b1⟩
  | true =>
    rw [sumP_yes hg]
    rw [hg] at EP
    clear hg h
    obtain ⟨f, hf⟩ : ∃ f, f = encP p := ⟨_, rfl⟩
    rw [← hf] at EP hl HBY ⊢
    clear hf
    go_enter Try.func22, Try.ntmps22
    go_wp2_with fail
    refine EP.out.mono ?_
    rintro e w1 ⟨a1, c1, rfl, o1, b1⟩
    have R1 := Lib.hid o1.rd; have B1 := Lib.hid b1
    clear o1 b1
    go_wp2_with fail
    refine (specCheckOf_any a1 c1 f w1 R1.out HBY.out (by unfold maxLen; omega)).mono ?_
    rintro e w' ⟨rfl, rfl⟩
    go_wp2_with fail
    go_ret
    exact ⟨rfl, B1.out⟩
end Go.Proofs.Ytcegekkhlfpgfaa
