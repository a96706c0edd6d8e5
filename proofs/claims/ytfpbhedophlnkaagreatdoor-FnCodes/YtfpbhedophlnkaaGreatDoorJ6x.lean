/-
  The contracts of spec.PutNums and impl.PutNums: both answer, in memory of their own, how many numbers there are and each of them; nothing where one is no number or there are more than 300. For every slice of int. Plain facts on lists of bytes and on numbers, used by the proofs of this seat. No program, no walk. Contracts of spec.WordOk and impl.WordOk: both answer whether the text is a word, and change nothing. For every text.
-/
import Derived.Test.YtfpbhedophlnkaaGreatDoorJ5x
import Derived.Test.YtfpbhedophlnkaaGreatDoorRows
import Derived.Test.YtfpbhedophlnkaaGreatDoorJ3x
import Derived.WalkKit
import Derived.WalkSpells
import Derived.WalkLawsBesides
import Derived.Lib.Hide
namespace Go.Proofs.YtfpbhedophlnkaaGreatDoor
open Go.RowKit
set_option linter.unusedSimpArgs false
set_option linter.unusedVariables false

def preN (l : List Int) (j : Nat) : List Int := putN l.length ++ (l.take j).flatMap putN
theorem preN_zero (l : List Int) : preN l 0 = putN l.length := by simp [preN]
theorem preN_succ {l : List Int} {j : Nat} {z : Int} (ht : l.take (j + 1) = l.take j ++ [z]) : preN l (j + 1) = preN l j ++ putN z := by simp [preN, ht, List.flatMap_append]
theorem flat_len : ∀ l : List Int, (l.flatMap putN).length ≤ 3 * l.length
  | [] => by simp
  | z :: l => by
    have := flat_len l
    have := putN_len z
    simp only [List.flatMap_cons, List.length_append, List.length_cons]; omega
theorem preN_len {l : List Int} (j : Nat) (hl : l.length ≤ 300) : (preN l j).length ≤ 903 := by
  have h1 := putN_len l.length
  have h2 := flat_len (l.take j)
  have h3 : (l.take j).length ≤ l.length := by simp; omega
  simp only [preN, List.length_append]; omega
def okNs (l : List Int) : Bool := decide (l.length ≤ 300) && l.all isN
def putNs (l : List Int) : List Int := if okNs l then preN l l.length else []
theorem putNs_len (l : List Int) : (putNs l).length ≤ 903 := by
  unfold putNs; split
  · rename_i h; unfold okNs at h; simp at h; exact preN_len _ h.1
  · simp
theorem flat_by : ∀ l : List Int, By (l.flatMap putN)
  | [] => by simp [By.nil]
  | z :: l => by rw [List.flatMap_cons]; exact (putN_by z).app (flat_by l)
theorem putNs_by (l : List Int) : By (putNs l) := by
  unfold putNs; split
  · unfold preN; exact (putN_by _).app (flat_by _)
  · exact By.nil
theorem putNs_long {l : List Int} (h : ¬ l.length ≤ 300) : putNs l = [] := by unfold putNs okNs; simp [h]
theorem putNs_no {l : List Int} {z : Int} (h : z ∈ l) (hz : isN z = false) : putNs l = [] := by
  have : okNs l = false := by
    unfold okNs
    rw [show l.all isN = false from List.all_eq_false.2 ⟨z, h, by simp [hz]⟩]; simp
  unfold putNs; rw [this]; rfl
theorem putNs_yes {l : List Int} (h : l.length ≤ 300) (ha : ∀ z ∈ l, isN z = true) : putNs l = preN l l.length := by
  have : okNs l = true := by unfold okNs; simp [h]; exact ha
  unfold putNs; rw [this]; rfl

def NsRel (w wr : World) (E : TypeId) (l : List Int) (v i : Value) : Prop :=
  ∃ (ao : Option Addr) (c n j : Nat), v = .slice ao n c ∧ i = .int .i64 j ∧ n = (preN l j).length ∧ j ≤ l.length ∧ (∀ z ∈ l.take j, isN z = true) ∧ Own wr w.heap.size E .u8 ao c (preN l j) ∧ Below w.heap.size w wr

theorem all_succ {l : List Int} {j : Nat} {z : Int} (ht : l.take (j + 1) = l.take j ++ [z]) (h : ∀ z ∈ l.take j, isN z = true) (hz : isN z = true) : ∀ y ∈ l.take (j + 1), isN y = true := by
  intro y hy; rw [ht] at hy
  rcases List.mem_append.1 hy with h1 | h1
  · exact h y h1
  · simp at h1; subst h1; exact hz

set_option maxRecDepth 100000 in
set_option maxHeartbeats 1600000 in
theorem specPutNums_any (b : Option Addr) (d : Nat) (l : List Int) (w : World) (h : Rd w .i64 b l) (hl : l.length ≤ maxLen) :
    Calls Tryz.prog 193 #[.slice b l.length d] w (Made w 5 .u8 (putNs l)) := by
  unfold maxLen at hl
  by_cases h3 : l.length ≤ 300
  · clear hl
    have H := Lib.hid h; clear h
    have P0 : Hid (∀ w : World, Calls Tryz.prog 113 #[.int .i64 l.length] w (Made w 5 .u8 (preN l 0))) := by rw [preN_zero]; exact fun w => specPutNum_any _ w
    rcases H.out with rfl | ⟨b1, off, rfl, _⟩
    · rw [putNs_yes h3 (by simp)]
      go_enter Tryz.func193, Tryz.ntmps193
      go_wp2_with fail
      refine (P0.out _).mono ?_
      rintro e w1 ⟨ao, c, rfl, ho, hb⟩
      have HO := Lib.hid ho; have HB := Lib.hid hb; clear ho hb
      go_wp2
      refine wp_loop_rounds 1 ?_; rw [rounds_succ]; go_wp2
      go_ret
      exact ⟨ao, c, rfl, HO.out, HB.out⟩
    · obtain ⟨p0, hp0⟩ : ∃ p, p = preN l 0 := ⟨_, rfl⟩
      rw [← hp0] at P0
      have HP0 := Lib.hid hp0; clear hp0
      go_enter Tryz.func193, Tryz.ntmps193
      go_wp2_with fail
      refine (P0.out _).mono ?_
      rintro e w1 ⟨ao1, c1, rfl, ho1, hb1⟩
      have HO1 := Lib.hid ho1; have HB1 := Lib.hid hb1; clear ho1 hb1
      go_wp2
      go_loopw [3, 4] (fun v i wr => NsRel w wr 5 l v i) (fun _ i _ => l.length - (intOf i).toNat)
      case atStart => exact ⟨_, _, _, 0, rfl, rfl, by rw [HP0.out], Nat.zero_le _, by simp, by rw [← HP0.out]; exact HO1.out, HB1.out⟩
      case round =>
        obtain ⟨ao, c, n, j, rfl, rfl, hnn, hj, ha, ho, hb⟩ := hrel
        have hpl := preN_len j h3
        obtain ⟨acc, hacc⟩ : ∃ acc, acc = preN l j := ⟨_, rfl⟩
        rw [← hacc] at ho hnn hpl
        subst hnn
        have HA := Lib.hid ha; have HACC := Lib.hid hacc; have HO := Lib.hid ho; have HB := Lib.hid hb; clear ha hacc ho hb
        by_cases hlt : j < l.length
        · obtain ⟨b', off', heq, hc⟩ : ∃ b' off', (some ⟨b1, off, none⟩ : Option Addr) = some ⟨b', off', none⟩ ∧ ∀ i, i < l.length → wr.cell? ⟨b', off' + i, none⟩ = some (.int .i64 (l.getD i 0)) := by
            rcases H.out.below HB.out with rfl | h'
            · simp at hlt
            · exact h'
          simp only [Option.some.injEq, Addr.mk.injEq, and_true] at heq
          obtain ⟨rfl, rfl⟩ := heq
          obtain ⟨z, hz, _, hcz, ht⟩ := Rd.at_ hc hlt
          have HT := Lib.hid ht; have HZ := Lib.hid hz; clear ht hc hz
          by_cases hN : isN z = true
          · have hN' := isN_of hN
            have HN := Lib.hid hN; have HN' := Lib.hid hN'; clear hN hN'
            obtain ⟨q, hq⟩ : ∃ q, q = putN z := ⟨_, rfl⟩
            have hql : q.length ≤ 3 := by rw [hq]; exact putN_len z
            have PZ : Hid (∀ w : World, Calls Tryz.prog 113 #[.int .i64 z] w (Made w 5 .u8 q)) := by rw [hq]; exact fun w => specPutNum_any _ w
            have HQ := Lib.hid hq; clear hq
            go_wp2_with fail
            refine (l01Number_t _ _ HN'.out).mono ?_
            rintro e w' ⟨rfl, rfl⟩
            go_wp2_with fail
            refine (PZ.out _).mono ?_
            rintro e w2 ⟨a2, c2, rfl, o2, b2⟩
            have O2 := Lib.hid o2; have B2 := Lib.hid b2; clear o2 b2
            go_wp2_with fail
            refine (l01Join_any _ _ _ _ _ _ _ (HO.out.below B2.out).rd O2.out.rd (by omega)).mono ?_
            rintro e w3 ⟨a3, c3, rfl, o3, b3⟩
            have O3 := Lib.hid o3; have B3 := Lib.hid b3; clear o3 b3
            go_wp2
            go_roundw
            case rel =>
              have e1 : acc ++ q = preN l (j + 1) := by rw [preN_succ HT.out, HACC.out, HQ.out]
              have hB := below_step (below_step HB.out (Nat.le_refl _) B2.out) (Nat.le_refl _) B3.out
              refine ⟨a3, c3, _, j + 1, rfl, by go_num, by rw [← e1]; simp, by omega, all_succ HT.out HA.out HN.out, ?_, hB⟩
              rw [← e1]
              exact O3.out.base_le (Nat.le_trans HB.out.size B2.out.size)
            case measure => simp [intOf]; omega
          · have hN' : ¬ (-1000000 ≤ z ∧ z ≤ 1000000) := fun h => hN (isN_mk h)
            have HN' := Lib.hid hN'
            have HF := Lib.hid (putNs_no HZ.out (by simpa using hN))
            clear hN hN'
            go_wp2_with fail
            refine (l01Number_f _ _ HN'.out).mono ?_
            rintro e w' ⟨rfl, rfl⟩
            go_wp2
            go_ret
            refine ⟨none, 0, ?_, ?_, HB.out⟩
            · rw [HF.out]; rfl
            · rw [HF.out]; exact Own.none_
        · have e : j = l.length := by omega
          have HY : Hid (putNs l = acc) := by
            show putNs l = acc
            have ha := HA.out
            rw [List.take_of_length_le (by omega)] at ha
            rw [putNs_yes h3 ha, HACC.out, e]
          clear e
          go_wp2
          go_ret
          refine ⟨ao, c, ?_, ?_, HB.out⟩
          · rw [HY.out]; rfl
          · rw [HY.out]; exact HO.out
  · have h3' : (300 : Int) < l.length := by omega
    rw [putNs_long h3]
    go_enter Tryz.func193, Tryz.ntmps193
    go_wp2
    go_ret
    exact ⟨none, 0, rfl, Own.none_, Below.refl _ _⟩

theorem putN_yes {z : Int} (h : isN z = true) : putN z = enc (fold z) := by unfold putN; rw [h]; rfl
def NiRel (w wr : World) (T E : TypeId) (l : List Int) (i : Value) : Prop :=
  ∃ (j : Nat), i = .int .i64 j ∧ j ≤ l.length ∧ (∀ z ∈ l.take j, isN z = true) ∧ Wr wr w.heap.size w.heap.size T E (preN l j) ∧ Below w.heap.size w wr

set_option maxRecDepth 100000 in
set_option maxHeartbeats 1600000 in
theorem implPutNums_any (b : Option Addr) (d : Nat) (l : List Int) (w : World) (h : Rd w .i64 b l) (hl : l.length ≤ maxLen) :
    Calls Tryz.prog 244 #[.slice b l.length d] w (Made w 5 .u8 (putNs l)) := by
  unfold maxLen at hl
  by_cases h3 : l.length ≤ 300
  · clear hl
    have H := Lib.hid h; clear h
    have N0 : Hid (Calls Tryz.prog 172 #[.pointer (some ⟨w.heap.size, 0, none⟩), .int .i64 l.length] (w.alloc (Obj.cells #[.slice none 0 0] 112)) (Added (w.alloc (Obj.cells #[.slice none 0 0] 112)) w.heap.size w.heap.size 112 5 (preN l 0))) := by
      have := addNum_any w.heap.size w.heap.size [] (l.length : Int) _ (by omega) (Wr.new w 112 5) (by simp) (by simp)
      rw [List.nil_append, ← putN_yes (isN_mk (by omega)), ← preN_zero] at this
      exact this
    rcases H.out with rfl | ⟨b1, off, rfl, _⟩
    · rw [putNs_yes h3 (by simp)]
      go_enter Tryz.func244, Tryz.ntmps244
      go_wp2_with fail
      refine N0.out.mono ?_
      rintro e w1 ⟨rfl, ⟨ao, c, hblk, _, ho⟩, hb⟩
      have hc := cell_of_one hblk
      have HO := Lib.hid ho; have HB := Lib.hid hb; clear ho hb hblk
      go_wp2
      refine wp_loop_rounds 1 ?_; rw [rounds_succ]; go_wp2
      go_ret
      exact ⟨ao, c, rfl, HO.out, below_after HB.out⟩
    · obtain ⟨p0, hp0⟩ : ∃ p, p = preN l 0 := ⟨_, rfl⟩
      rw [← hp0] at N0
      have HP0 := Lib.hid hp0; clear hp0
      go_enter Tryz.func244, Tryz.ntmps244
      go_wp2_with fail
      refine N0.out.mono ?_
      rintro e w1 ⟨rfl, hw1, hb1⟩
      have HW1 := Lib.hid hw1; have HB1 := Lib.hid hb1; clear hw1 hb1
      go_wp2
      go_loopw [14] (fun i wr => NiRel w wr 112 5 l i) (fun i _ => l.length - (intOf i).toNat)
      case atStart => exact ⟨0, rfl, Nat.zero_le _, by simp, by rw [← HP0.out]; exact HW1.out, below_after HB1.out⟩
      case round =>
        obtain ⟨j, rfl, hj, ha, hw, hb⟩ := hrel
        have hpl := preN_len j h3
        obtain ⟨acc, hacc⟩ : ∃ acc, acc = preN l j := ⟨_, rfl⟩
        rw [← hacc] at hw hpl
        have hsz := hb.size
        have HA := Lib.hid ha; have HACC := Lib.hid hacc; have HW := Lib.hid hw; have HB := Lib.hid hb; clear ha hacc hw hb
        by_cases hlt : j < l.length
        · obtain ⟨b', off', heq, hc⟩ : ∃ b' off', (some ⟨b1, off, none⟩ : Option Addr) = some ⟨b', off', none⟩ ∧ ∀ i, i < l.length → wr.cell? ⟨b', off' + i, none⟩ = some (.int .i64 (l.getD i 0)) := by
            rcases H.out.below HB.out with rfl | h'
            · simp at hlt
            · exact h'
          simp only [Option.some.injEq, Addr.mk.injEq, and_true] at heq
          obtain ⟨rfl, rfl⟩ := heq
          obtain ⟨z, hz, _, hcz, ht⟩ := Rd.at_ hc hlt
          have HT := Lib.hid ht; have HZ := Lib.hid hz; clear ht hc hz
          by_cases hN : isN z = true
          · have hN' := isN_of hN
            have HN := Lib.hid hN; have HN' := Lib.hid hN'; clear hN hN'
            go_wp2_with fail
            refine (isNum_t _ _ HN'.out).mono ?_
            rintro e w' ⟨rfl, rfl⟩
            go_wp2_with fail
            refine (addNum_any w.heap.size w.heap.size acc z _ HN'.out HW.out hsz (by omega)).mono ?_
            rintro e w2 ⟨rfl, hw2, hb2⟩
            have HW2 := Lib.hid hw2; have HB2 := Lib.hid hb2; clear hw2 hb2
            go_wp2
            go_roundw
            case rel =>
              have e1 : acc ++ enc (fold z) = preN l (j + 1) := by rw [preN_succ HT.out, HACC.out, putN_yes HN.out]
              exact ⟨j + 1, by go_num, by omega, all_succ HT.out HA.out HN.out, by rw [← e1]; exact HW2.out, HB.out.trans HB2.out⟩
            case measure => simp [intOf]; omega
          · have hN' : ¬ (-1000000 ≤ z ∧ z ≤ 1000000) := fun h => hN (isN_mk h)
            have HN' := Lib.hid hN'
            have HF := Lib.hid (putNs_no HZ.out (by simpa using hN))
            clear hN hN'
            go_wp2_with fail
            refine (isNum_f _ _ HN'.out).mono ?_
            rintro e w' ⟨rfl, rfl⟩
            go_wp2
            go_ret
            refine ⟨none, 0, ?_, ?_, HB.out⟩
            · rw [HF.out]; rfl
            · rw [HF.out]; exact Own.none_
        · have e : j = l.length := by omega
          have HY : Hid (putNs l = acc) := by
            show putNs l = acc
            have ha := HA.out
            rw [List.take_of_length_le (by omega)] at ha
            rw [putNs_yes h3 ha, HACC.out, e]
          clear e
          obtain ⟨ao, c, hblk, _, ho⟩ := HW.out
          have hc := cell_of_one hblk
          have HO := Lib.hid ho; clear ho hblk
          go_wp2
          go_ret
          refine ⟨ao, c, ?_, ?_, HB.out⟩
          · rw [HY.out]; rfl
          · rw [HY.out]; exact HO.out
  · have h3' : (300 : Int) < l.length := by omega
    rw [putNs_long h3]
    go_enter Tryz.func244, Tryz.ntmps244
    go_wp2
    go_ret
    exact ⟨none, 0, rfl, Own.none_, Below.refl _ _⟩
end Go.Proofs.YtfpbhedophlnkaaGreatDoor
namespace Go.Proofs.YtfpbhedophlnkaaGreatDoor
set_option linter.unusedSimpArgs false
set_option linter.unusedVariables false

/-- A letter a .. z or a digit. -/
def charB (c : Nat) : Bool := (decide (97 ≤ c) && decide (c ≤ 122)) || (decide (48 ≤ c) && decide (c ≤ 57))
def allB (l : List UInt8) : Bool := l.all fun c => charB c.toNat
/-- What chapter 1 calls a word. -/
def wordB (l : List UInt8) : Bool := decide (1 ≤ l.length) && decide (l.length ≤ 12) && decide (97 ≤ (l.headD 0).toNat) && allB l

theorem allB_take_succ (s : ByteArray) (k : Nat) (h : k < s.size) : allB (s.data.toList.take (k + 1)) = (allB (s.data.toList.take k) && charB s[k].toNat) := by
  have e : s.data.toList.take (k + 1) = s.data.toList.take k ++ [s[k]] := by rw [List.take_succ_eq_append_getElem (by simpa using h)]; rfl
  rw [e]; unfold allB; simp
theorem allB_false_of (s : ByteArray) (k : Nat) (h : k < s.size) (hc : charB s[k].toNat = false) : allB s.data.toList = false := by
  unfold allB
  rw [List.all_eq_false]
  exact ⟨s[k], by simp [ByteArray.getElem_eq_getElem_data], by simp [hc]⟩
theorem head_eq (s : ByteArray) (h : 0 < s.size) : s.data.toList.headD 0 = s[0] := by
  rcases s with ⟨⟨l⟩⟩
  cases l with
  | nil => simp [ByteArray.size] at h
  | cons a l => rfl
theorem charT {n : Nat} (h : (97 ≤ n ∧ n ≤ 122) ∨ (48 ≤ n ∧ n ≤ 57)) : charB n = true := by unfold charB; simp; omega
theorem charF {n : Nat} (h : ¬ ((97 ≤ n ∧ n ≤ 122) ∨ (48 ≤ n ∧ n ≤ 57))) : charB n = false := by
  cases hc : charB n with
  | false => rfl
  | true => exact absurd (by unfold charB at hc; simpa using hc) h
theorem char_of {n : Nat} (h : charB n = true) : (97 ≤ n ∧ n ≤ 122) ∨ (48 ≤ n ∧ n ≤ 57) := by unfold charB at h; simpa using h
theorem wordB_no {s : ByteArray} {k : Nat} (h : k < s.size) (hc : charB s[k].toNat = false) : wordB s.data.toList = false := by
  unfold wordB; rw [allB_false_of s k h hc]; simp
theorem wordB_head {s : ByteArray} (h : 0 < s.size) (hc : s[0].toNat < 97) : wordB s.data.toList = false := by
  unfold wordB; rw [head_eq s h]; simp; omega
theorem wordB_len {s : ByteArray} (h : ¬ (1 ≤ s.size ∧ s.size ≤ 12)) : wordB s.data.toList = false := by
  unfold wordB; simp; omega
theorem wordB_yes {s : ByteArray} (h1 : 1 ≤ s.size) (h2 : s.size ≤ 12) (h3 : 97 ≤ s[0].toNat) (k : Nat) (hk : s.size ≤ k) (ha : allB (s.data.toList.take k) = true) : wordB s.data.toList = true := by
  rw [List.take_of_length_le (by simpa using hk)] at ha
  unfold wordB; rw [head_eq s (by omega), ha]; simp; omega
end Go.Proofs.YtfpbhedophlnkaaGreatDoor
namespace Go.Proofs.YtfpbhedophlnkaaGreatDoor
open Go.RowKit
set_option linter.unusedSimpArgs false
set_option linter.unusedVariables false


theorem l01In_any (x a b : Int) (w : World) :
    Calls Tryz.prog 97 #[.int .i64 x, .int .i64 a, .int .i64 b] w fun e w' => e = .returned (.bool (decide (a ≤ x) && decide (x ≤ b))) ∧ w = w' := by
  by_cases h1 : a ≤ x
  · by_cases h2 : x ≤ b
    · go_enter Tryz.func97, Tryz.ntmps97
      go_wp2
      go_ret
      exact ⟨ret_bool (by simp [h1, h2]), rfl⟩
    · have h3 : b < x := by omega
      go_enter Tryz.func97, Tryz.ntmps97
      go_wp2
      go_ret
      exact ⟨ret_bool (by simp [h2]), rfl⟩
  · have h3 : x < a := by omega
    have h4 : decide (a ≤ x) = false := by simp; omega
    go_enter Tryz.func97, Tryz.ntmps97
    go_wp2
    go_ret
    exact ⟨ret_bool (by simp), rfl⟩

set_option maxHeartbeats 400000 in
theorem specWordOk_any (s : ByteArray) (w : World) (hs : s.size ≤ maxLen) :
    Calls Tryz.prog 96 #[.string s] w fun e w' => e = .returned (.bool (wordB s.data.toList)) ∧ w = w' := by
  unfold maxLen at hs
  by_cases h1 : 1 ≤ s.size ∧ s.size ≤ 12
  · obtain ⟨h1, h2⟩ := h1
    have h1' : (1 : Int) ≤ s.size := by omega
    have h2' : (s.size : Int) ≤ 12 := by omega
    by_cases h3 : s[0].toNat < 97
    · have hfin : wordB s.data.toList = false := wordB_head (by omega) h3
      have HF := Lib.hid hfin; clear hfin
      go_enter Tryz.func96, Tryz.ntmps96
      go_wp2_with (go_at_call 97; refine (l01In_any _ _ _ _).mono ?_; rintro e w' ⟨rfl, rfl⟩)
      go_ret
      exact ⟨ret_bool HF.out.symm, rfl⟩
    · go_enter Tryz.func96, Tryz.ntmps96
      go_wp2_with (go_at_call 97; refine (l01In_any _ _ _ _).mono ?_; rintro e w' ⟨rfl, rfl⟩)
      go_loop [3] (fun i => ∃ k : Nat, k ≤ s.size ∧ i = .int .i64 k ∧ allB (s.data.toList.take k) = true) (fun i => s.size - (intOf i).toNat)
      case atStart => exact ⟨0, Nat.zero_le _, rfl, rfl⟩
      case round =>
        obtain ⟨k, hk, rfl, hall⟩ := hrel
        have HA := Lib.hid hall; clear hall
        by_cases hlt : k < s.size
        · go_wp2
          all_goals first
            | (go_ret; exact ⟨ret_bool (wordB_no hlt (charF (by omega))).symm, rfl⟩)
            | (go_round
               case rel => exact ⟨k + 1, by omega, by go_num, by rw [allB_take_succ s k hlt, HA.out, charT (by omega)]; rfl⟩
               case measure => simp [intOf]; omega)
        · go_wp2
          go_ret
          exact ⟨ret_bool (wordB_yes (by omega) (by omega) (by omega) k (by omega) HA.out).symm, rfl⟩
  · have hfin : wordB s.data.toList = false := wordB_len h1
    have HF := Lib.hid hfin; clear hfin
    have h3 : (decide ((1 : Int) ≤ s.size) && decide ((s.size : Int) ≤ 12)) = false := by simp; omega
    have H3 := Lib.hid h3; clear h3
    go_enter Tryz.func96, Tryz.ntmps96
    go_wp2_with (go_at_call 97; refine (l01In_any _ _ _ _).mono ?_; rintro e w' ⟨rfl, rfl⟩; rw [H3.out])
    go_ret
    exact ⟨ret_bool HF.out.symm, rfl⟩

theorem isDigit_t (c : Nat) (w : World) (h1 : 48 ≤ c) (h2 : c ≤ 57) : Calls Tryz.prog 231 #[.int .u8 c] w fun e w' => e = .returned (.bool true) ∧ w = w' := by
  have h3 : (48 : Int) ≤ c := by omega
  have h4 : (c : Int) ≤ 57 := by omega
  go_enter Tryz.func231, Tryz.ntmps231
  go_wp2
  go_ret
  exact ⟨ret_bool (by simp), rfl⟩
theorem isDigit_f (c : Nat) (w : World) (h : c < 48 ∨ 57 < c) : Calls Tryz.prog 231 #[.int .u8 c] w fun e w' => e = .returned (.bool false) ∧ w = w' := by
  by_cases h1 : 48 ≤ c
  · have h3 : (57 : Int) < c := by omega
    go_enter Tryz.func231, Tryz.ntmps231
    go_wp2
    go_ret
    exact ⟨ret_bool (by simp; omega), rfl⟩
  · have h4 : decide ((48 : Int) ≤ (c : Int)) = false := by simp; omega
    go_enter Tryz.func231, Tryz.ntmps231
    go_wp2
    go_ret
    exact ⟨rfl, rfl⟩
theorem isLetter_t (c : Nat) (w : World) (h1 : 97 ≤ c) (h2 : c ≤ 122) : Calls Tryz.prog 232 #[.int .u8 c] w fun e w' => e = .returned (.bool true) ∧ w = w' := by
  have h3 : (97 : Int) ≤ c := by omega
  have h4 : (c : Int) ≤ 122 := by omega
  go_enter Tryz.func232, Tryz.ntmps232
  go_wp2
  go_ret
  exact ⟨ret_bool (by simp), rfl⟩
theorem isLetter_f (c : Nat) (w : World) (h : c < 97 ∨ 122 < c) : Calls Tryz.prog 232 #[.int .u8 c] w fun e w' => e = .returned (.bool false) ∧ w = w' := by
  by_cases h1 : 97 ≤ c
  · have h3 : (122 : Int) < c := by omega
    go_enter Tryz.func232, Tryz.ntmps232
    go_wp2
    go_ret
    exact ⟨ret_bool (by simp; omega), rfl⟩
  · have h4 : decide ((97 : Int) ≤ (c : Int)) = false := by simp; omega
    go_enter Tryz.func232, Tryz.ntmps232
    go_wp2
    go_ret
    exact ⟨rfl, rfl⟩

set_option maxHeartbeats 800000 in
theorem implWordOk_any (s : ByteArray) (w : World) (hs : s.size ≤ maxLen) :
    Calls Tryz.prog 173 #[.string s] w fun e w' => e = .returned (.bool (wordB s.data.toList)) ∧ w = w' := by
  unfold maxLen at hs
  by_cases h0 : s.size < 1
  · have HF := Lib.hid (wordB_len (s := s) (by omega))
    have h1 : decide ((s.size : Int) < 1) = true := by simp; omega
    go_enter Tryz.func173, Tryz.ntmps173
    go_wp2
    go_ret
    exact ⟨ret_bool HF.out.symm, rfl⟩
  by_cases h2 : 12 < s.size
  · have HF := Lib.hid (wordB_len (s := s) (by omega))
    have h1 : decide ((s.size : Int) < 1) = false := by simp; omega
    have h3 : decide ((12 : Int) < (s.size : Int)) = true := by simp; omega
    go_enter Tryz.func173, Tryz.ntmps173
    go_wp2
    go_ret
    exact ⟨ret_bool HF.out.symm, rfl⟩
  have hp : 0 < s.size := by omega
  have h1 : decide ((s.size : Int) < 1) = false := by simp; omega
  have h3 : decide ((12 : Int) < (s.size : Int)) = false := by simp; omega
  by_cases hd : 48 ≤ s[0].toNat ∧ s[0].toNat ≤ 57
  · obtain ⟨hd1, hd2⟩ := hd
    have HF := Lib.hid (wordB_head (s := s) (by omega) (by omega))
    go_enter Tryz.func173, Tryz.ntmps173
    go_wp2_with (go_at_call 231; refine (isDigit_t _ _ hd1 hd2).mono ?_; rintro e w' ⟨rfl, rfl⟩)
    go_ret
    exact ⟨ret_bool HF.out.symm, rfl⟩
  · have hd' : s[0].toNat < 48 ∨ 57 < s[0].toNat := by omega
    go_enter Tryz.func173, Tryz.ntmps173
    go_wp2_with (go_at_call 231; refine (isDigit_f _ _ hd').mono ?_; rintro e w' ⟨rfl, rfl⟩)
    go_loop [19] (fun i => ∃ k : Nat, k ≤ s.size ∧ i = .int .i64 k ∧ allB (s.data.toList.take k) = true) (fun i => s.size - (intOf i).toNat)
    case atStart => exact ⟨0, Nat.zero_le _, rfl, rfl⟩
    case round =>
      obtain ⟨k, hk, rfl, hall⟩ := hrel
      have HA := Lib.hid hall; clear hall
      by_cases hlt : k < s.size
      · by_cases hl : 97 ≤ s[k].toNat ∧ s[k].toNat ≤ 122
        · obtain ⟨hl1, hl2⟩ := hl
          go_wp2_with (go_at_call 232; refine (isLetter_t _ _ hl1 hl2).mono ?_; rintro e w' ⟨rfl, rfl⟩)
          go_round
          case rel => exact ⟨k + 1, by omega, by go_num, by rw [allB_take_succ s k hlt, HA.out, charT (by omega)]; rfl⟩
          case measure => simp [intOf]; omega
        · have hl' : s[k].toNat < 97 ∨ 122 < s[k].toNat := by omega
          by_cases hg : 48 ≤ s[k].toNat ∧ s[k].toNat ≤ 57
          · obtain ⟨hg1, hg2⟩ := hg
            go_wp2_with (first | (go_at_call 232; refine (isLetter_f _ _ hl').mono ?_; rintro e w' ⟨rfl, rfl⟩) | (go_at_call 231; refine (isDigit_t _ _ hg1 hg2).mono ?_; rintro e w' ⟨rfl, rfl⟩))
            go_round
            case rel => exact ⟨k + 1, by omega, by go_num, by rw [allB_take_succ s k hlt, HA.out, charT (by omega)]; rfl⟩
            case measure => simp [intOf]; omega
          · have hg' : s[k].toNat < 48 ∨ 57 < s[k].toNat := by omega
            have HF := Lib.hid (wordB_no hlt (charF (by omega)))
            go_wp2_with (first | (go_at_call 232; refine (isLetter_f _ _ hl').mono ?_; rintro e w' ⟨rfl, rfl⟩) | (go_at_call 231; refine (isDigit_f _ _ hg').mono ?_; rintro e w' ⟨rfl, rfl⟩))
            go_ret
            exact ⟨ret_bool HF.out.symm, rfl⟩
      · have h0c : charB s[0].toNat = true := by
          have e : s.data.toList.take k = s.data.toList := List.take_of_length_le (by simp; omega)
          have ha := HA.out; rw [e] at ha
          cases hc : charB s[0].toNat with
          | true => rfl
          | false => rw [allB_false_of s 0 (by omega) hc] at ha; cases ha
        have := char_of h0c
        go_wp2
        go_ret
        exact ⟨ret_bool (wordB_yes (by omega) (by omega) (by omega) k (by omega) HA.out).symm, rfl⟩
end Go.Proofs.YtfpbhedophlnkaaGreatDoor
