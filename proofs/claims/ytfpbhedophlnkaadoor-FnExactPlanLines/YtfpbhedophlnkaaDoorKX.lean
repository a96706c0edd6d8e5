/-
  Contract of spec.l01Num: a number as a text. For every number. How long a number's text is. Plain facts; no walk. A node, a plan as text: its words, with single blanks between. Plain facts; no program, no walk.
-/
import Derived.Test.YtfpbhedophlnkaaDoorMem
import Derived.Test.YtfpbhedophlnkaaDoorPure
import Derived.Test.YtfpbhedophlnkaaDoorStrs
import Derived.Laws.IdiomStrings
import Derived.Lib.ItoaNum
import Derived.WalkKit
import Derived.Test.YtfpbhedophlnkaaDoorJoinP
import Derived.Test.YtfpbhedophlnkaaDoorNodes
namespace Go.Proofs.YtfpbhedophlnkaaDoor
open Go.RowKit
set_option linter.unusedSimpArgs false
set_option linter.unusedVariables false

theorem dec_ten {u : Nat} (h : 10 ≤ u) : Lib.decDigits u = Lib.decDigits (u / 10) ++ [UInt8.ofNat (48 + u % 10)] := by
  rw [Lib.decDigits, dif_neg (by omega)]
theorem dec_one {u : Nat} (h : u < 10) : Lib.decDigits u = [UInt8.ofNat (48 + u)] := by
  rw [Lib.decDigits, dif_pos h]
/-- What is left of the digits when out is done: those of u, none where u is 0. -/
def leftD (u : Nat) : List UInt8 := if u = 0 then [] else Lib.decDigits u
theorem leftD_step {u : Nat} (h : u ≠ 0) : leftD u = leftD (u / 10) ++ [UInt8.ofNat (48 + u % 10)] := by
  unfold leftD
  rw [if_neg h]
  by_cases h10 : u < 10
  · rw [dec_one h10, if_pos (by omega), Nat.mod_eq_of_lt h10]; rfl
  · rw [dec_ten (by omega), if_neg (by omega)]
theorem leftD_len : ∀ (k u : Nat), u < 10 ^ k → (leftD u).length ≤ k
  | 0, u, h => by simp at h; subst h; simp [leftD]
  | k + 1, u, h => by
    by_cases h0 : u = 0
    · subst h0; simp [leftD]
    · rw [leftD_step h0]
      have := leftD_len k (u / 10) (by rw [Nat.pow_succ] at h; omega)
      simp; omega
/-- A number's text, as bytes. -/
def numT (x : Int) : ByteArray := ⟨(Lib.itoa x).toArray⟩
theorem conv_one (P : Program) (src dst e : TypeId) (hs : P.underlying src = some (.slice e)) (he : P.underlying e = some (.int .u8)) (hd : P.underlying dst = some .string) (w : World) (u : Nat) (x : Int) (hx : x = ((48 + u % 10 : Nat) : Int)) :
    Sem.run P (convert src dst (.slice (some ⟨w.heap.size, 0, none⟩) 1 1)) (w.alloc (.cells #[.int .u8 x] e)) = .ok (.string ⟨#[UInt8.ofNat (48 + u % 10)]⟩) (w.alloc (.cells #[.int .u8 x] e)) := by
  refine run_convert_bytes_back (P := P) _ src dst e ⟨w.heap.size, 0, none⟩ 1 [UInt8.ofNat (48 + u % 10)] hs he hd ?_
  intro j hj
  obtain rfl : j = 0 := by simp at hj; omega
  rw [show (⟨w.heap.size, 0, none⟩ : Addr).add 0 = ⟨w.heap.size, 0, none⟩ from rfl, World.cell?_alloc_new]
  have : (UInt8.ofNat (48 + u % 10)).toNat = 48 + u % 10 := by rw [UInt8.toNat_ofNat']; omega
  simp [this, hx]
  try omega

def NumRel (w : World) (u : Nat) (wr : World) (s i : Value) : Prop :=
  ∃ (y : Nat) (X : ByteArray), i = .int .i64 y ∧ s = .string X ∧ y ≤ u ∧ leftD u = leftD y ++ X.data.toList ∧ Below w.heap.size w wr
theorem num_next {w w1 : World} {u y : Nat} {X : ByteArray} (h0 : y ≠ 0) (hy : y ≤ u) (hX : leftD u = leftD y ++ X.data.toList) (hb : Below w.heap.size w w1) (S : ByteArray) (hS : S.data.toList = UInt8.ofNat (48 + y % 10) :: X.data.toList) (z : Int) (hz : z = ((y / 10 : Nat) : Int)) : NumRel w u w1 (.string S) (.int .i64 z) := by
  refine ⟨y / 10, S, by rw [hz], rfl, by omega, ?_, hb⟩
  rw [hX, leftD_step h0, hS]; simp

set_option maxRecDepth 100000 in
set_option maxHeartbeats 1600000 in
theorem numPos_any (u : Nat) (hu : 0 < u) (hb63 : u < 9223372036854775808) (w : World) :
    Calls Tryd.prog 21 #[.int .i64 u] w fun e w' => e = .returned (.string (numT u)) ∧ Below w.heap.size w w' := by
  have hu' : (0 : Int) < (u : Int) := by omega
  have hu'' : ((u : Int) == 0) = false := by simp; omega
  have P0 := Lib.hid (show NumRel w u w (.string ⟨#[]⟩) (.int .i64 u) from ⟨u, _, rfl, rfl, Nat.le_refl _, by simp, Below.refl _ _⟩)
  have L := Lib.hid (leftD_len 19 u (by have : (10 : Nat) ^ 19 = 10000000000000000000 := by decide
                                        omega))
  go_enter Tryd.func21, Tryd.ntmps21
  go_wp2_with fail
  go_loopw [3, 0] (fun s i wr => NumRel w u wr s i) (fun _ i _ => (intOf i).toNat)
  case atStart => exact P0.out
  case round =>
    clear P0
    obtain ⟨y, X, rfl, rfl, hy, hX, hb⟩ := hrel
    have HX := Lib.hid hX; have HB := Lib.hid hb
    have hxs : X.size ≤ 19 := by
      have h1 : X.data.toList.length = X.size := by rw [Array.length_toList]; rfl
      have h2 := L.out
      rw [hX, List.length_append, h1] at h2
      omega
    clear hX hb
    by_cases h0 : y = 0
    · subst h0
      have E := Lib.hid (show X = numT u by
        have h1 := HX.out
        simp only [leftD, if_true, List.nil_append] at h1
        rw [if_neg (by omega)] at h1
        apply ByteArray.ext
        unfold numT Lib.itoa
        rw [if_neg (by omega), Int.toNat_natCast, h1])
      go_wp2_with fail
      go_ret
      rw [E.out]
      exact ⟨rfl, HB.out⟩
    · have hy0 : (0 : Int) < (y : Int) := by omega
      have hy1 : ((y : Int) == 0) = false := by simp; omega
      have hy2 : ((y : Int) != 0) = true := by simp; omega
      have hy3 : (y : Int) ≤ 9223372036854775807 := by omega
      have hm0 : (0 : Int) ≤ (y : Int) % 10 := by omega
      have hm9 : (y : Int) % 10 ≤ 9 := by omega
      have H0 := Lib.hid h0; clear h0
      have hcv := conv_one Tryd.prog 57 9 5 Tryd.underlying57 Tryd.underlying5 Tryd.underlying9 wr y (48 + (y : Int) % 10) (by omega)
      have e1 : ¬ (9223372036854775807 < 1 + X.size) := by omega
      go_wp2_with fail
      go_roundw
      case rel => exact num_next H0.out hy HX.out (HB.out.alloc HB.out.size _) _ (by simp [ByteArray.data_append]) _ (by omega)
      case measure => simp [intOf]; omega

/-- Below 0: the digits that are left, and the sign in front at the end. -/
def NumRelN (w : World) (u : Nat) (wr : World) (s i : Value) : Prop :=
  ∃ (y : Nat) (X : ByteArray), i = .int .i64 (-(y : Int)) ∧ s = .string X ∧ y ≤ u ∧ leftD u = leftD y ++ X.data.toList ∧ Below w.heap.size w wr
theorem numN_next {w w1 : World} {u y : Nat} {X : ByteArray} (h0 : y ≠ 0) (hy : y ≤ u) (hX : leftD u = leftD y ++ X.data.toList) (hb : Below w.heap.size w w1) (S : ByteArray) (hS : S.data.toList = UInt8.ofNat (48 + y % 10) :: X.data.toList) (z : Int) (hz : z = -((y / 10 : Nat) : Int)) : NumRelN w u w1 (.string S) (.int .i64 z) := by
  refine ⟨y / 10, S, by rw [hz], rfl, by omega, ?_, hb⟩
  rw [hX, leftD_step h0, hS]; simp
theorem tmod_neg_nat (y : Nat) : Int.tmod (-(y : Int)) 10 = -((y % 10 : Nat) : Int) := by
  rw [Int.neg_tmod, Int.tmod_eq_emod_of_nonneg (by omega)]; omega
theorem tdiv_neg_nat (y : Nat) : Int.tdiv (-(y : Int)) 10 = -((y / 10 : Nat) : Int) := by
  rw [Int.neg_tdiv, Int.tdiv_eq_ediv_of_nonneg (by omega)]; omega

set_option maxRecDepth 100000 in
set_option maxHeartbeats 1600000 in
theorem numNeg_any (u : Nat) (hu : 0 < u) (hb63 : u ≤ 9223372036854775808) (w : World) :
    Calls Tryd.prog 21 #[.int .i64 (-(u : Int))] w fun e w' => e = .returned (.string (numT (-(u : Int)))) ∧ Below w.heap.size w w' := by
  have hu' : (-(u : Int)) < 0 := by omega
  have hu'' : (-(u : Int) == 0) = false := by simp; omega
  have hu3 : ¬ ((u : Int) = 0) := by omega
  have P0 := Lib.hid (show NumRelN w u w (.string ⟨#[]⟩) (.int .i64 (-(u : Int))) from ⟨u, _, rfl, rfl, Nat.le_refl _, by simp, Below.refl _ _⟩)
  have L := Lib.hid (leftD_len 19 u (by have : (10 : Nat) ^ 19 = 10000000000000000000 := by decide
                                        omega))
  go_enter Tryd.func21, Tryd.ntmps21
  go_wp2_with fail
  go_loopw [3, 0] (fun s i wr => NumRelN w u wr s i) (fun _ i _ => (-(intOf i)).toNat)
  case atStart => exact P0.out
  case round =>
    clear P0
    obtain ⟨y, X, rfl, rfl, hy, hX, hb⟩ := hrel
    have HX := Lib.hid hX; have HB := Lib.hid hb
    have hxs : X.size ≤ 19 := by
      have h1 : X.data.toList.length = X.size := by rw [Array.length_toList]; rfl
      have h2 := L.out
      rw [hX, List.length_append, h1] at h2
      omega
    clear hX hb
    by_cases h0 : y = 0
    · subst h0
      have E := Lib.hid (show (⟨#[45]⟩ : ByteArray) ++ X = numT (-(u : Int)) by
        have h1 := HX.out
        simp only [leftD, if_true, List.nil_append] at h1
        rw [if_neg (by omega)] at h1
        apply ByteArray.ext
        unfold numT Lib.itoa
        rw [if_pos (by omega), Int.natAbs_neg, Int.natAbs_natCast, h1]
        simp [ByteArray.data_append])
      have e1 : ¬ (9223372036854775807 < 1 + X.size) := by omega
      go_wp2_with fail
      go_ret
      rw [E.out]
      exact ⟨rfl, HB.out⟩
    · have hy0 : (0 : Int) < (y : Int) := by omega
      have hy1 : ((-(y : Int)) != 0) = true := by simp; omega
      have hy2 : ((-(y : Int)) == 0) = false := by simp; omega
      have hy4 : ¬ ((y : Int) = 0) := by omega
      have H0 := Lib.hid h0; clear h0
      have e1 : ¬ (9223372036854775807 < 1 + X.size) := by omega
      have ht := tmod_neg_nat y
      have htd := tdiv_neg_nat y
      by_cases hm : y % 10 = 0
      · have hcv := conv_one Tryd.prog 57 9 5 Tryd.underlying57 Tryd.underlying5 Tryd.underlying9 wr y 48 (by omega)
        rw [hm] at ht hcv
        go_wp2_with fail
        go_roundw
        case rel => exact numN_next H0.out hy HX.out (HB.out.alloc HB.out.size _) _ (by rw [hm]; simp [ByteArray.data_append]) _ (by omega)
        case measure => simp [intOf]; omega
      · have hcv := conv_one Tryd.prog 57 9 5 Tryd.underlying57 Tryd.underlying5 Tryd.underlying9 wr y (48 + (y : Int) % 10) (by omega)
        have hmp : (0 : Int) < (y : Int) % 10 := by omega
        have hm9 : (y : Int) % 10 ≤ 9 := by omega
        have hml : -((y : Int) % 10) < 0 := by omega
        have hy9 : (y : Int) ≤ 9223372036854775808 := by omega
        clear hm
        go_wp2_with fail
        go_roundw
        case rel => exact numN_next H0.out hy HX.out (HB.out.alloc HB.out.size _) _ (by simp [ByteArray.data_append]) _ (by omega)
        case measure => simp [intOf]; omega

theorem num_all (x : Int) (h0 : -9223372036854775808 ≤ x) (h1 : x ≤ 9223372036854775807) (w : World) :
    Calls Tryd.prog 21 #[.int .i64 x] w fun e w' => e = .returned (.string (numT x)) ∧ Below w.heap.size w w' := by
  by_cases hz : x = 0
  · subst hz
    go_enter Tryd.func21, Tryd.ntmps21
    go_wp2_with fail
    go_ret
    have E : numT 0 = ⟨#[48]⟩ := by
      unfold numT Lib.itoa
      rw [if_neg (by omega), show (0 : Int).toNat = 0 from rfl, dec_one (by omega)]; rfl
    rw [E]
    exact ⟨rfl, Below.refl _ _⟩
  · by_cases hp : 0 < x
    · have := numPos_any x.toNat (by omega) (by omega) w
      rwa [Int.toNat_of_nonneg (by omega)] at this
    · have := numNeg_any (-x).toNat (by omega) (by omega) w
      rw [Int.toNat_of_nonneg (by omega), Int.neg_neg] at this
      exact this
end Go.Proofs.YtfpbhedophlnkaaDoor
namespace Go.Proofs.YtfpbhedophlnkaaDoor
open Go.RowKit
set_option linter.unusedSimpArgs false
set_option linter.unusedVariables false

theorem dec_len_le (u : Nat) (h : u ≤ 9223372036854775808) : (Lib.decDigits u).length ≤ 19 := by
  by_cases h0 : u = 0
  · subst h0; rw [dec_one (by omega)]; simp
  · have := leftD_len 19 u (by have : (10 : Nat) ^ 19 = 10000000000000000000 := by decide
                               omega)
    unfold leftD at this
    rwa [if_neg h0] at this
theorem numT_size {x : Int} (h0 : -9223372036854775808 ≤ x) (h1 : x ≤ 9223372036854775807) : (numT x).size ≤ 20 := by
  have e : (numT x).size = (Lib.itoa x).length := by
    have : (numT x).data.toList.length = (numT x).size := by rw [Array.length_toList]; rfl
    rw [← this]; simp [numT]
  rw [e]
  unfold Lib.itoa
  split
  · have := dec_len_le x.natAbs (by omega); simp; omega
  · have := dec_len_le x.toNat (by omega); omega
end Go.Proofs.YtfpbhedophlnkaaDoor
namespace Go.Proofs.YtfpbhedophlnkaaDoor
open Go.RowKit
set_option linter.unusedSimpArgs false
set_option linter.unusedVariables false

def opB (op : Int) : ByteArray := if op = 0 then ⟨#[61]⟩ else if op = 1 then ⟨#[60]⟩ else if op = 2 then ⟨#[62]⟩ else ⟨#[110, 111, 110, 101]⟩
def litB (slot : Bool) (num : Int) : ByteArray := if slot then ⟨#[36]⟩ ++ numT num else numT num
/-- A node's words. -/
def ndB (n : Nd) : List ByteArray :=
  if n.kind = 0 then [⟨#[115, 99, 97, 110]⟩, n.name]
  else if n.kind = 1 then [⟨#[102, 105, 108, 116, 101, 114]⟩, numT n.col, opB n.op] ++ (if n.op = 3 then [] else [litB n.slot n.num])
  else if n.kind = 2 then [⟨#[107, 101, 101, 112]⟩, numT (n.cols.length : Int)] ++ n.cols.map numT
  else if n.kind = 3 then [⟨#[106, 111, 105, 110]⟩, numT n.col, numT n.num]
  else if n.kind = 4 then [⟨#[98, 111, 116, 104]⟩]
  else if n.kind = 5 then [⟨#[115, 111, 114, 116]⟩, numT n.col]
  else if n.kind = 6 then [⟨#[108, 105, 109, 105, 116]⟩, litB n.slot n.num]
  else [⟨#[111, 110, 99, 101]⟩]
def bl (x : ByteArray) : List UInt8 := x.data.toList
def ndT (n : Nd) : List UInt8 := joinB 32 ((ndB n).map bl)
/-- NodeText's answer. -/
def ndO (n : Nd) : ByteArray := if nodeB n = true then ⟨(ndT n).toArray⟩ else ⟨#[]⟩
def planT (p : List Nd) : List UInt8 := joinB 32 (p.map ndT)
/-- PrintPlan's answer. -/
def planO (p : List Nd) : ByteArray := if planB p = true then ⟨(planT p).toArray⟩ else ⟨#[]⟩

theorem bl_len (x : ByteArray) : (bl x).length = x.size := by unfold bl; rw [Array.length_toList]; rfl
theorem ndO_yes {n : Nd} (h : nodeB n = true) : ndO n = ⟨(ndT n).toArray⟩ := by unfold ndO; rw [if_pos h]
theorem ndO_no {n : Nd} (h : nodeB n = false) : ndO n = ⟨#[]⟩ := by unfold ndO; rw [if_neg (by rw [h]; simp)]
theorem ndO_list {n : Nd} (h : nodeB n = true) : (ndO n).data.toList = ndT n := by rw [ndO_yes h]
/-- The numbers of a node that is one are all small. -/
theorem nums_of_nodeB {n : Nd} (h : nodeB n = true) : (0 ≤ n.kind ∧ n.kind ≤ 7) ∧ n.name.size ≤ 12 ∧ (0 ≤ n.col ∧ n.col ≤ 63) ∧ (0 ≤ n.op ∧ n.op ≤ 3) ∧ (-1000000 ≤ n.num ∧ n.num ≤ 1000000) ∧ (n.cols.length ≤ 6 ∧ ∀ x ∈ n.cols, 0 ≤ x ∧ x ≤ 63) := by
  have hk := kind_of_nodeB h
  obtain ⟨k, name, col, op, num, slot, cols⟩ := n
  simp only at hk ⊢
  have hnm : ∀ s : ByteArray, s.data.toList = [] → s.size ≤ 12 := fun s hs => by
    have : s.data.toList.length = s.size := by rw [Array.length_toList]; rfl
    rw [← this, hs]; simp
  have hc : k = 0 ∨ k = 1 ∨ k = 2 ∨ k = 3 ∨ k = 4 ∨ k = 5 ∨ k = 6 ∨ k = 7 := by omega
  rcases hc with rfl | rfl | rfl | rfl | rfl | rfl | rfl | rfl
  all_goals
    simp only [nodeB, Int.reduceEq, if_false, if_true] at h
    first
    | (simp only [Bool.and_eq_true, decide_eq_true_eq] at h
       obtain ⟨hw, rfl, rfl, rfl, rfl, rfl⟩ := h
       refine ⟨by omega, ?_, by omega, by omega, by omega, by simp, by simp⟩
       have : name.data.toList.length = name.size := by rw [Array.length_toList]; rfl
       unfold wordB at hw
       simp at hw
       have h12 := hw.1
       omega)
    | (have h' := of_decide_eq_true h
       obtain ⟨hn, h'⟩ := h'
       refine ⟨by omega, hnm _ hn, ?_⟩
       clear hnm hn
       simp_all <;> omega)
    | (have h' := of_decide_eq_true h
       obtain ⟨hn, h'⟩ := h'
       refine ⟨by omega, hnm _ hn, ?_⟩
       clear hnm hn
       simp_all)
    | (simp only [Bool.and_eq_true, decide_eq_true_eq, List.all_eq_true, colB_iff] at h
       obtain ⟨⟨hn, rfl, rfl, rfl, rfl, h1, h2⟩, h3⟩ := h
       exact ⟨by omega, hnm _ hn, by omega, by omega, by omega, h2, h3⟩)
theorem opB_size (op : Int) : (opB op).size ≤ 4 := by unfold opB; repeat' split
                                                      all_goals decide
theorem litB_size {s : Bool} {x : Int} (h0 : -1000000 ≤ x) (h1 : x ≤ 1000000) : (litB s x).size ≤ 21 := by
  have := numT_size (x := x) (by omega) (by omega)
  unfold litB; split
  · rw [ByteArray.size_append]; have : (⟨#[36]⟩ : ByteArray).size = 1 := rfl
    omega
  · omega
theorem ndB_size {n : Nd} (h : nodeB n = true) : ∀ x ∈ ndB n, x.size ≤ 21 := by
  obtain ⟨hk, hnm, hcol, hop, hnum, hcl, hcs⟩ := nums_of_nodeB h
  have n1 := numT_size (x := n.col) (by omega) (by omega)
  have n2 := numT_size (x := n.num) (by omega) (by omega)
  have n3 := numT_size (x := (n.cols.length : Int)) (by omega) (by omega)
  have n4 := opB_size n.op
  have n5 := litB_size (s := n.slot) hnum.1 hnum.2
  intro x hx
  unfold ndB at hx
  repeat' split at hx
  all_goals
    simp only [List.mem_cons, List.mem_append, List.mem_map, List.not_mem_nil, or_false] at hx
    first
    | (rcases hx with rfl | rfl | rfl
       all_goals first | omega | decide)
    | (rcases hx with rfl | rfl
       all_goals first | omega | decide)
    | (subst hx; decide)
    | (rcases hx with (rfl | rfl | rfl) | rfl
       all_goals first | omega | decide)
    | (rcases hx with (rfl | rfl) | ⟨y, hy, rfl⟩
       · decide
       · omega
       · have := hcs y hy
         have := numT_size (x := y) (by omega) (by omega)
         omega)
theorem ndB_count {n : Nd} (h : nodeB n = true) : (ndB n).length ≤ 8 := by
  obtain ⟨hk, hnm, hcol, hop, hnum, hcl, hcs⟩ := nums_of_nodeB h
  unfold ndB
  repeat' split
  all_goals simp
  all_goals omega
theorem ndT_len {n : Nd} (h : nodeB n = true) : (ndT n).length ≤ 176 := by
  have h1 := joinB_len 32 21 ((ndB n).map bl) (fun x hx => by
    obtain ⟨y, hy, rfl⟩ := List.mem_map.1 hx
    rw [bl_len]; exact ndB_size h y hy)
  have h2 := ndB_count h
  unfold ndT
  rw [List.length_map] at h1
  omega
theorem ndO_size (n : Nd) : (ndO n).size ≤ 176 := by
  cases h : nodeB n with
  | true => rw [ndO_yes h]; have := ndT_len h; have e : (⟨(ndT n).toArray⟩ : ByteArray).size = (ndT n).length := by show (ndT n).toArray.size = _; simp
            omega
  | false => rw [ndO_no h]; decide
end Go.Proofs.YtfpbhedophlnkaaDoor
