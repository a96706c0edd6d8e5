/-
  The contracts of spec.PutNums and impl.PutNums: both answer, in memory of their own, how many numbers there are and each of them; nothing where one is no number or there are more than 300. For every slice of int.
-/
import Derived.Test.YtcegekkhlfpgfaaDoorJoin2
namespace Go.Proofs.YtcegekkhlfpgfaaDoor
open Go.RowKit
set_option linter.unusedSimpArgs false
set_option linter.unusedVariables false

def preN (l : List Int) (j : Nat) : List Int := putN l.length ++ (l.take j).flatMap putN
theorem preN_zero (l : List Int) : preN l 0 = putN l.length := by simp [preN]
theorem preN_succ {l : List Int} {j : Nat} {z : Int} (ht : l.take (j + 1) = l.take j ++ [z]) : preN l (j + 1) = preN l j ++ putN z := by simp [preN, ht, List.flatMap_append]
theorem flat_len : ∀ l : List Int, (l.flatMap putN).length ≤ 3 * l.length
  | [] => by simp
  | z :: l => by
    have := flat_len l
    have := putN_len z
    simp only [List.flatMap_cons, List.length_append, List.length_cons]; omega
theorem preN_len {l : List Int} (j : Nat) (hl : l.length ≤ 300) : (preN l j).length ≤ 903 := by
  have h1 := putN_len l.length
  have h2 := flat_len (l.take j)
  have h3 : (l.take j).length ≤ l.length := by simp; omega
  simp only [preN, List.length_append]; omega
def okNs (l : List Int) : Bool := decide (l.length ≤ 300) && l.all isN
def putNs (l : List Int) : List Int := if okNs l then preN l l.length else []
theorem putNs_len (l : List Int) : (putNs l).length ≤ 903 := by
  unfold putNs; split
  · rename_i h; unfold okNs at h; simp at h; exact preN_len _ h.1
  · simp
theorem flat_by : ∀ l : List Int, By (l.flatMap putN)
  | [] => by simp [By.nil]
  | z :: l => by rw [List.flatMap_cons]; exact (putN_by z).app (flat_by l)
theorem putNs_by (l : List Int) : By (putNs l) := by
  unfold putNs; split
  · unfold preN; exact (putN_by _).app (flat_by _)
  · exact By.nil
theorem putNs_long {l : List Int} (h : ¬ l.length ≤ 300) : putNs l = [] := by unfold putNs okNs; simp [h]
theorem putNs_no {l : List Int} {z : Int} (h : z ∈ l) (hz : isN z = false) : putNs l = [] := by
  have : okNs l = false := by
    unfold okNs
    rw [show l.all isN = false from List.all_eq_false.2 ⟨z, h, by simp [hz]⟩]; simp
  unfold putNs; rw [this]; rfl
theorem putNs_yes {l : List Int} (h : l.length ≤ 300) (ha : ∀ z ∈ l, isN z = true) : putNs l = preN l l.length := by
  have : okNs l = true := by unfold okNs; simp [h]; exact ha
  unfold putNs; rw [this]; rfl

def NsRel (w wr : World) (E : TypeId) (l : List Int) (v i : Value) : Prop :=
  ∃ (ao : Option Addr) (c n j : Nat), v = .slice ao n c ∧ i = .int .i64 j ∧ n = (preN l j).length ∧ j ≤ l.length ∧ (∀ z ∈ l.take j, isN z = true) ∧ Own wr w.heap.size E .u8 ao c (preN l j) ∧ Below w.heap.size w wr

theorem all_succ {l : List Int} {j : Nat} {z : Int} (ht : l.take (j + 1) = l.take j ++ [z]) (h : ∀ z ∈ l.take j, isN z = true) (hz : isN z = true) : ∀ y ∈ l.take (j + 1), isN y = true := by
  intro y hy; rw [ht] at hy
  rcases List.mem_append.1 hy with h1 | h1
  · exact h y h1
  · simp at h1; subst h1; exact hz

set_option maxRecDepth 100000 in
set_option maxHeartbeats 1600000 in
theorem specPutNums_any (b : Option Addr) (d : Nat) (l : List Int) (w : World) (h : Rd w .i64 b l) (hl : l.length ≤ maxLen) :
    Calls Tryd.prog 27 #[.slice b l.length d] w (Made w 5 .u8 (putNs l)) := by
  unfold maxLen at hl
  by_cases h3 : l.length ≤ 300
  · clear hl
    have H := Lib.hid h; clear h
    have P0 : Hid (∀ w : World, Calls Tryd.prog 66 #[.int .i64 l.length] w (Made w 5 .u8 (preN l 0))) := by rw [preN_zero]; exact fun w => specPutNum_any _ w
    rcases H.out with rfl | ⟨b1, off, rfl, _⟩
    · rw [putNs_yes h3 (by simp)]
      go_enter Tryd.func27, Tryd.ntmps27
      go_wp2_with fail
      refine (P0.out _).mono ?_
      rintro e w1 ⟨ao, c, rfl, ho, hb⟩
      have HO := Lib.hid ho; have HB := Lib.hid hb; clear ho hb
      go_wp2
      refine wp_loop_rounds 1 ?_; rw [rounds_succ]; go_wp2
      go_ret
      exact ⟨ao, c, rfl, HO.out, HB.out⟩
    · obtain ⟨p0, hp0⟩ : ∃ p, p = preN l 0 := ⟨_, rfl⟩
      rw [← hp0] at P0
      have HP0 := Lib.hid hp0; clear hp0
      go_enter Tryd.func27, Tryd.ntmps27
      go_wp2_with fail
      refine (P0.out _).mono ?_
      rintro e w1 ⟨ao1, c1, rfl, ho1, hb1⟩
      have HO1 := Lib.hid ho1; have HB1 := Lib.hid hb1; clear ho1 hb1
      go_wp2
      go_loopw [3, 4] (fun v i wr => NsRel w wr 5 l v i) (fun _ i _ => l.length - (intOf i).toNat)
      case atStart => exact ⟨_, _, _, 0, rfl, rfl, by rw [HP0.out], Nat.zero_le _, by simp, by rw [← HP0.out]; exact HO1.out, HB1.out⟩
      case round =>
        obtain ⟨ao, c, n, j, rfl, rfl, hnn, hj, ha, ho, hb⟩ := hrel
        have hpl := preN_len j h3
        obtain ⟨acc, hacc⟩ : ∃ acc, acc = preN l j := ⟨_, rfl⟩
        rw [← hacc] at ho hnn hpl
        subst hnn
        have HA := Lib.hid ha; have HACC := Lib.hid hacc; have HO := Lib.hid ho; have HB := Lib.hid hb; clear ha hacc ho hb
        by_cases hlt : j < l.length
        · obtain ⟨b', off', heq, hc⟩ : ∃ b' off', (some ⟨b1, off, none⟩ : Option Addr) = some ⟨b', off', none⟩ ∧ ∀ i, i < l.length → wr.cell? ⟨b', off' + i, none⟩ = some (.int .i64 (l.getD i 0)) := by
            rcases H.out.below HB.out with rfl | h'
            · simp at hlt
            · exact h'
          simp only [Option.some.injEq, Addr.mk.injEq, and_true] at heq
          obtain ⟨rfl, rfl⟩ := heq
          obtain ⟨z, hz, _, hcz, ht⟩ := Rd.at_ hc hlt
          have HT := Lib.hid ht; have HZ := Lib.hid hz; clear ht hc hz
          by_cases hN : isN z = true
          · have hN' := isN_of hN
            have HN := Lib.hid hN; have HN' := Lib.hid hN'; clear hN hN'
            obtain ⟨q, hq⟩ : ∃ q, q = putN z := ⟨_, rfl⟩
            have hql : q.length ≤ 3 := by rw [hq]; exact putN_len z
            have PZ : Hid (∀ w : World, Calls Tryd.prog 66 #[.int .i64 z] w (Made w 5 .u8 q)) := by rw [hq]; exact fun w => specPutNum_any _ w
            have HQ := Lib.hid hq; clear hq
            go_wp2_with fail
            refine (l01Number_t _ _ HN'.out).mono ?_
            rintro e w' ⟨rfl, rfl⟩
            go_wp2_with fail
            refine (PZ.out _).mono ?_
            rintro e w2 ⟨a2, c2, rfl, o2, b2⟩
            have O2 := Lib.hid o2; have B2 := Lib.hid b2; clear o2 b2
            go_wp2_with fail
            refine (l01Join_any _ _ _ _ _ _ _ (HO.out.below B2.out).rd O2.out.rd (by omega)).mono ?_
            rintro e w3 ⟨a3, c3, rfl, o3, b3⟩
            have O3 := Lib.hid o3; have B3 := Lib.hid b3; clear o3 b3
            go_wp2
            go_roundw
            case rel =>
              have e1 : acc ++ q = preN l (j + 1) := by rw [preN_succ HT.out, HACC.out, HQ.out]
              have hB := below_step (below_step HB.out (Nat.le_refl _) B2.out) (Nat.le_refl _) B3.out
              refine ⟨a3, c3, _, j + 1, rfl, by go_num, by rw [← e1]; simp, by omega, all_succ HT.out HA.out HN.out, ?_, hB⟩
              rw [← e1]
              exact O3.out.base_le (Nat.le_trans HB.out.size B2.out.size)
            case measure => simp [intOf]; omega
          · have hN' : ¬ (-1000000 ≤ z ∧ z ≤ 1000000) := fun h => hN (isN_mk h)
            have HN' := Lib.hid hN'
            have HF := Lib.hid (putNs_no HZ.out (by simpa using hN))
            clear hN hN'
            go_wp2_with fail
            refine (l01Number_f _ _ HN'.out).mono ?_
            rintro e w' ⟨rfl, rfl⟩
            go_wp2
            go_ret
            refine ⟨none, 0, ?_, ?_, HB.out⟩
            · rw [HF.out]; rfl
            · rw [HF.out]; exact Own.none_
        · have e : j = l.length := by omega
          have HY : Hid (putNs l = acc) := by
            show putNs l = acc
            have ha := HA.out
            rw [List.take_of_length_le (by omega)] at ha
            rw [putNs_yes h3 ha, HACC.out, e]
          clear e
          go_wp2
          go_ret
          refine ⟨ao, c, ?_, ?_, HB.out⟩
          · rw [HY.out]; rfl
          · rw [HY.out]; exact HO.out
  · have h3' : (300 : Int) < l.length := by omega
    rw [putNs_long h3]
    go_enter Tryd.func27, Tryd.ntmps27
    go_wp2
    go_ret
    exact ⟨none, 0, rfl, Own.none_, Below.refl _ _⟩

theorem putN_yes {z : Int} (h : isN z = true) : putN z = enc (fold z) := by unfold putN; rw [h]; rfl
def NiRel (w wr : World) (T E : TypeId) (l : List Int) (i : Value) : Prop :=
  ∃ (j : Nat), i = .int .i64 j ∧ j ≤ l.length ∧ (∀ z ∈ l.take j, isN z = true) ∧ Wr wr w.heap.size w.heap.size T E (preN l j) ∧ Below w.heap.size w wr

set_option maxRecDepth 100000 in
set_option maxHeartbeats 1600000 in
theorem implPutNums_any (b : Option Addr) (d : Nat) (l : List Int) (w : World) (h : Rd w .i64 b l) (hl : l.length ≤ maxLen) :
    Calls Tryd.prog 25 #[.slice b l.length d] w (Made w 5 .u8 (putNs l)) := by
  unfold maxLen at hl
  by_cases h3 : l.length ≤ 300
  · clear hl
    have H := Lib.hid h; clear h
    have N0 : Hid (Calls Tryd.prog 64 #[.pointer (some ⟨w.heap.size, 0, none⟩), .int .i64 l.length] (w.alloc (Obj.cells #[.slice none 0 0] 59)) (Added (w.alloc (Obj.cells #[.slice none 0 0] 59)) w.heap.size w.heap.size 59 5 (preN l 0))) := by
      have := addNum_any w.heap.size w.heap.size [] (l.length : Int) _ (by omega) (Wr.new w 59 5) (by simp) (by simp)
      rw [List.nil_append, ← putN_yes (isN_mk (by omega)), ← preN_zero] at this
      exact this
    rcases H.out with rfl | ⟨b1, off, rfl, _⟩
    · rw [putNs_yes h3 (by simp)]
      go_enter Tryd.func25, Tryd.ntmps25
      go_wp2_with fail
      refine N0.out.mono ?_
      rintro e w1 ⟨rfl, ⟨ao, c, hblk, _, ho⟩, hb⟩
      have hc := cell_of_one hblk
      have HO := Lib.hid ho; have HB := Lib.hid hb; clear ho hb hblk
      go_wp2
      refine wp_loop_rounds 1 ?_; rw [rounds_succ]; go_wp2
      go_ret
      exact ⟨ao, c, rfl, HO.out, below_after HB.out⟩
    · obtain ⟨p0, hp0⟩ : ∃ p, p = preN l 0 := ⟨_, rfl⟩
      rw [← hp0] at N0
      have HP0 := Lib.hid hp0; clear hp0
      go_enter Tryd.func25, Tryd.ntmps25
      go_wp2_with fail
      refine N0.out.mono ?_
      rintro e w1 ⟨rfl, hw1, hb1⟩
      have HW1 := Lib.hid hw1; have HB1 := Lib.hid hb1; clear hw1 hb1
      go_wp2
      go_loopw [14] (fun i wr => NiRel w wr 59 5 l i) (fun i _ => l.length - (intOf i).toNat)
      case atStart => exact ⟨0, rfl, Nat.zero_le _, by simp, by rw [← HP0.out]; exact HW1.out, below_after HB1.out⟩
      case round =>
        obtain ⟨j, rfl, hj, ha, hw, hb⟩ := hrel
        have hpl := preN_len j h3
        obtain ⟨acc, hacc⟩ : ∃ acc, acc = preN l j := ⟨_, rfl⟩
        rw [← hacc] at hw hpl
        have hsz := hb.size
        have HA := Lib.hid ha; have HACC := Lib.hid hacc; have HW := Lib.hid hw; have HB := Lib.hid hb; clear ha hacc hw hb
        by_cases hlt : j < l.length
        · obtain ⟨b', off', heq, hc⟩ : ∃ b' off', (some ⟨b1, off, none⟩ : Option Addr) = some ⟨b', off', none⟩ ∧ ∀ i, i < l.length → wr.cell? ⟨b', off' + i, none⟩ = some (.int .i64 (l.getD i 0)) := by
            rcases H.out.below HB.out with rfl | h'
            · simp at hlt
            · exact h'
          simp only [Option.some.injEq, Addr.mk.injEq, and_true] at heq
          obtain ⟨rfl, rfl⟩ := heq
          obtain ⟨z, hz, _, hcz, ht⟩ := Rd.at_ hc hlt
          have HT := Lib.hid ht; have HZ := Lib.hid hz; clear ht hc hz
          by_cases hN : isN z = true
          · have hN' := isN_of hN
            have HN := Lib.hid hN; have HN' := Lib.hid hN'; clear hN hN'
            go_wp2_with fail
            refine (isNum_t _ _ HN'.out).mono ?_
            rintro e w' ⟨rfl, rfl⟩
            go_wp2_with fail
            refine (addNum_any w.heap.size w.heap.size acc z _ HN'.out HW.out hsz (by omega)).mono ?_
            rintro e w2 ⟨rfl, hw2, hb2⟩
            have HW2 := Lib.hid hw2; have HB2 := Lib.hid hb2; clear hw2 hb2
            go_wp2
            go_roundw
            case rel =>
              have e1 : acc ++ enc (fold z) = preN l (j + 1) := by rw [preN_succ HT.out, HACC.out, putN_yes HN.out]
              exact ⟨j + 1, by go_num, by omega, all_succ HT.out HA.out HN.out, by rw [← e1]; exact HW2.out, HB.out.trans HB2.out⟩
            case measure => simp [intOf]; omega
          · have hN' : ¬ (-1000000 ≤ z ∧ z ≤ 1000000) := fun h => hN (isN_mk h)
            have HN' := Lib.hid hN'
            have HF := Lib.hid (putNs_no HZ.out (by simpa using hN))
            clear hN hN'
            go_wp2_with fail
            refine (isNum_f _ _ HN'.out).mono ?_
            rintro e w' ⟨rfl, rfl⟩
            go_wp2
            go_ret
            refine ⟨none, 0, ?_, ?_, HB.out⟩
            · rw [HF.out]; rfl
            · rw [HF.out]; exact Own.none_
        · have e : j = l.length := by omega
          have HY : Hid (putNs l = acc) := by
            show putNs l = acc
            have ha := HA.out
            rw [List.take_of_length_le (by omega)] at ha
            rw [putNs_yes h3 ha, HACC.out, e]
          clear e
          obtain ⟨ao, c, hblk, _, ho⟩ := HW.out
          have hc := cell_of_one hblk
          have HO := Lib.hid ho; clear ho hblk
          go_wp2
          go_ret
          refine ⟨ao, c, ?_, ?_, HB.out⟩
          · rw [HY.out]; rfl
          · rw [HY.out]; exact HO.out
  · have h3' : (300 : Int) < l.length := by omega
    rw [putNs_long h3]
    go_enter Tryd.func25, Tryd.ntmps25
    go_wp2
    go_ret
    exact ⟨none, 0, rfl, Own.none_, Below.refl _ _⟩
end Go.Proofs.YtcegekkhlfpgfaaDoor
