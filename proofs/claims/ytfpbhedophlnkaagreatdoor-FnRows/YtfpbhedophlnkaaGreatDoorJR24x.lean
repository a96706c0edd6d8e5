/-
  Contract of spec.l01Num: a number as a text. For every number. How long a number's text is. Plain facts; no walk. A row as a text: plain facts. No program, no walk. A text parted at each byte of one kind. Plain facts; no walk. append of strings to a row of strings of the call's own: one string, or a whole slice of them. No walk.
-/
import Derived.Test.YtfpbhedophlnkaaGreatDoorJR3x
import Derived.Test.YtfpbhedophlnkaaGreatDoorJR23x
import Derived.Laws.IdiomStrings
import Derived.Lib.ItoaNum
import Derived.WalkKit
import Derived.Lib.Join
import Derived.Maps.AppendAt
import Derived.OwnWalk
namespace Go.Proofs.YtfpbhedophlnkaaGreatDoor
open Go.RowKit
set_option linter.unusedSimpArgs false
set_option linter.unusedVariables false

theorem dec_ten {u : Nat} (h : 10 ≤ u) : Lib.decDigits u = Lib.decDigits (u / 10) ++ [UInt8.ofNat (48 + u % 10)] := by
  rw [Lib.decDigits, dif_neg (by omega)]
theorem dec_one {u : Nat} (h : u < 10) : Lib.decDigits u = [UInt8.ofNat (48 + u)] := by
  rw [Lib.decDigits, dif_pos h]
/-- What is left of the digits when out is done: those of u, none where u is 0. -/
def leftD (u : Nat) : List UInt8 := if u = 0 then [] else Lib.decDigits u
theorem leftD_step {u : Nat} (h : u ≠ 0) : leftD u = leftD (u / 10) ++ [UInt8.ofNat (48 + u % 10)] := by
  unfold leftD
  rw [if_neg h]
  by_cases h10 : u < 10
  · rw [dec_one h10, if_pos (by omega), Nat.mod_eq_of_lt h10]; rfl
  · rw [dec_ten (by omega), if_neg (by omega)]
theorem leftD_len : ∀ (k u : Nat), u < 10 ^ k → (leftD u).length ≤ k
  | 0, u, h => by simp at h; subst h; simp [leftD]
  | k + 1, u, h => by
    by_cases h0 : u = 0
    · subst h0; simp [leftD]
    · rw [leftD_step h0]
      have := leftD_len k (u / 10) (by rw [Nat.pow_succ] at h; omega)
      simp; omega
/-- A number's text, as bytes. -/
def numT (x : Int) : ByteArray := ⟨(Lib.itoa x).toArray⟩
theorem conv_one (P : Program) (src dst e : TypeId) (hs : P.underlying src = some (.slice e)) (he : P.underlying e = some (.int .u8)) (hd : P.underlying dst = some .string) (w : World) (u : Nat) (x : Int) (hx : x = ((48 + u % 10 : Nat) : Int)) :
    Sem.run P (convert src dst (.slice (some ⟨w.heap.size, 0, none⟩) 1 1)) (w.alloc (.cells #[.int .u8 x] e)) = .ok (.string ⟨#[UInt8.ofNat (48 + u % 10)]⟩) (w.alloc (.cells #[.int .u8 x] e)) := by
  refine run_convert_bytes_back (P := P) _ src dst e ⟨w.heap.size, 0, none⟩ 1 [UInt8.ofNat (48 + u % 10)] hs he hd ?_
  intro j hj
  obtain rfl : j = 0 := by simp at hj; omega
  rw [show (⟨w.heap.size, 0, none⟩ : Addr).add 0 = ⟨w.heap.size, 0, none⟩ from rfl, World.cell?_alloc_new]
  have : (UInt8.ofNat (48 + u % 10)).toNat = 48 + u % 10 := by rw [UInt8.toNat_ofNat']; omega
  simp [this, hx]
  try omega

def NumRel (w : World) (u : Nat) (wr : World) (s i : Value) : Prop :=
  ∃ (y : Nat) (X : ByteArray), i = .int .i64 y ∧ s = .string X ∧ y ≤ u ∧ leftD u = leftD y ++ X.data.toList ∧ Below w.heap.size w wr
theorem num_next {w w1 : World} {u y : Nat} {X : ByteArray} (h0 : y ≠ 0) (hy : y ≤ u) (hX : leftD u = leftD y ++ X.data.toList) (hb : Below w.heap.size w w1) (S : ByteArray) (hS : S.data.toList = UInt8.ofNat (48 + y % 10) :: X.data.toList) (z : Int) (hz : z = ((y / 10 : Nat) : Int)) : NumRel w u w1 (.string S) (.int .i64 z) := by
  refine ⟨y / 10, S, by rw [hz], rfl, by omega, ?_, hb⟩
  rw [hX, leftD_step h0, hS]; simp

set_option maxRecDepth 100000 in
set_option maxHeartbeats 1600000 in
theorem numPos_any (u : Nat) (hu : 0 < u) (hb63 : u < 9223372036854775808) (w : World) :
    Calls Tryz.prog 148 #[.int .i64 u] w fun e w' => e = .returned (.string (numT u)) ∧ Below w.heap.size w w' := by
  have hu' : (0 : Int) < (u : Int) := by omega
  have hu'' : ((u : Int) == 0) = false := by simp; omega
  have P0 := Lib.hid (show NumRel w u w (.string ⟨#[]⟩) (.int .i64 u) from ⟨u, _, rfl, rfl, Nat.le_refl _, by simp, Below.refl _ _⟩)
  have L := Lib.hid (leftD_len 19 u (by have : (10 : Nat) ^ 19 = 10000000000000000000 := by decide
                                        omega))
  go_enter Tryz.func148, Tryz.ntmps148
  go_wp2_with fail
  go_loopw [3, 0] (fun s i wr => NumRel w u wr s i) (fun _ i _ => (intOf i).toNat)
  case atStart => exact P0.out
  case round =>
    clear P0
    obtain ⟨y, X, rfl, rfl, hy, hX, hb⟩ := hrel
    have HX := Lib.hid hX; have HB := Lib.hid hb
    have hxs : X.size ≤ 19 := by
      have h1 : X.data.toList.length = X.size := by rw [Array.length_toList]; rfl
      have h2 := L.out
      rw [hX, List.length_append, h1] at h2
      omega
    clear hX hb
    by_cases h0 : y = 0
    · subst h0
      have E := Lib.hid (show X = numT u by
        have h1 := HX.out
        simp only [leftD, if_true, List.nil_append] at h1
        rw [if_neg (by omega)] at h1
        apply ByteArray.ext
        unfold numT Lib.itoa
        rw [if_neg (by omega), Int.toNat_natCast, h1])
      go_wp2_with fail
      go_ret
      rw [E.out]
      exact ⟨rfl, HB.out⟩
    · have hy0 : (0 : Int) < (y : Int) := by omega
      have hy1 : ((y : Int) == 0) = false := by simp; omega
      have hy2 : ((y : Int) != 0) = true := by simp; omega
      have hy3 : (y : Int) ≤ 9223372036854775807 := by omega
      have hm0 : (0 : Int) ≤ (y : Int) % 10 := by omega
      have hm9 : (y : Int) % 10 ≤ 9 := by omega
      have H0 := Lib.hid h0; clear h0
      have hcv := conv_one Tryz.prog 22 9 5 Tryz.underlying22 Tryz.underlying5 Tryz.underlying9 wr y (48 + (y : Int) % 10) (by omega)
      have e1 : ¬ (9223372036854775807 < 1 + X.size) := by omega
      go_wp2_with fail
      go_roundw
      case rel => exact num_next H0.out hy HX.out (HB.out.alloc HB.out.size _) _ (by simp [ByteArray.data_append]) _ (by omega)
      case measure => simp [intOf]; omega

/-- Below 0: the digits that are left, and the sign in front at the end. -/
def NumRelN (w : World) (u : Nat) (wr : World) (s i : Value) : Prop :=
  ∃ (y : Nat) (X : ByteArray), i = .int .i64 (-(y : Int)) ∧ s = .string X ∧ y ≤ u ∧ leftD u = leftD y ++ X.data.toList ∧ Below w.heap.size w wr
theorem numN_next {w w1 : World} {u y : Nat} {X : ByteArray} (h0 : y ≠ 0) (hy : y ≤ u) (hX : leftD u = leftD y ++ X.data.toList) (hb : Below w.heap.size w w1) (S : ByteArray) (hS : S.data.toList = UInt8.ofNat (48 + y % 10) :: X.data.toList) (z : Int) (hz : z = -((y / 10 : Nat) : Int)) : NumRelN w u w1 (.string S) (.int .i64 z) := by
  refine ⟨y / 10, S, by rw [hz], rfl, by omega, ?_, hb⟩
  rw [hX, leftD_step h0, hS]; simp
theorem tmod_neg_nat (y : Nat) : Int.tmod (-(y : Int)) 10 = -((y % 10 : Nat) : Int) := by
  rw [Int.neg_tmod, Int.tmod_eq_emod_of_nonneg (by omega)]; omega
theorem tdiv_neg_nat (y : Nat) : Int.tdiv (-(y : Int)) 10 = -((y / 10 : Nat) : Int) := by
  rw [Int.neg_tdiv, Int.tdiv_eq_ediv_of_nonneg (by omega)]; omega

set_option maxRecDepth 100000 in
set_option maxHeartbeats 1600000 in
theorem numNeg_any (u : Nat) (hu : 0 < u) (hb63 : u ≤ 9223372036854775808) (w : World) :
    Calls Tryz.prog 148 #[.int .i64 (-(u : Int))] w fun e w' => e = .returned (.string (numT (-(u : Int)))) ∧ Below w.heap.size w w' := by
  have hu' : (-(u : Int)) < 0 := by omega
  have hu'' : (-(u : Int) == 0) = false := by simp; omega
  have hu3 : ¬ ((u : Int) = 0) := by omega
  have P0 := Lib.hid (show NumRelN w u w (.string ⟨#[]⟩) (.int .i64 (-(u : Int))) from ⟨u, _, rfl, rfl, Nat.le_refl _, by simp, Below.refl _ _⟩)
  have L := Lib.hid (leftD_len 19 u (by have : (10 : Nat) ^ 19 = 10000000000000000000 := by decide
                                        omega))
  go_enter Tryz.func148, Tryz.ntmps148
  go_wp2_with fail
  go_loopw [3, 0] (fun s i wr => NumRelN w u wr s i) (fun _ i _ => (-(intOf i)).toNat)
  case atStart => exact P0.out
  case round =>
    clear P0
    obtain ⟨y, X, rfl, rfl, hy, hX, hb⟩ := hrel
    have HX := Lib.hid hX; have HB := Lib.hid hb
    have hxs : X.size ≤ 19 := by
      have h1 : X.data.toList.length = X.size := by rw [Array.length_toList]; rfl
      have h2 := L.out
      rw [hX, List.length_append, h1] at h2
      omega
    clear hX hb
    by_cases h0 : y = 0
    · subst h0
      have E := Lib.hid (show (⟨#[45]⟩ : ByteArray) ++ X = numT (-(u : Int)) by
        have h1 := HX.out
        simp only [leftD, if_true, List.nil_append] at h1
        rw [if_neg (by omega)] at h1
        apply ByteArray.ext
        unfold numT Lib.itoa
        rw [if_pos (by omega), Int.natAbs_neg, Int.natAbs_natCast, h1]
        simp [ByteArray.data_append])
      have e1 : ¬ (9223372036854775807 < 1 + X.size) := by omega
      go_wp2_with fail
      go_ret
      rw [E.out]
      exact ⟨rfl, HB.out⟩
    · have hy0 : (0 : Int) < (y : Int) := by omega
      have hy1 : ((-(y : Int)) != 0) = true := by simp; omega
      have hy2 : ((-(y : Int)) == 0) = false := by simp; omega
      have hy4 : ¬ ((y : Int) = 0) := by omega
      have H0 := Lib.hid h0; clear h0
      have e1 : ¬ (9223372036854775807 < 1 + X.size) := by omega
      have ht := tmod_neg_nat y
      have htd := tdiv_neg_nat y
      by_cases hm : y % 10 = 0
      · have hcv := conv_one Tryz.prog 22 9 5 Tryz.underlying22 Tryz.underlying5 Tryz.underlying9 wr y 48 (by omega)
        rw [hm] at ht hcv
        go_wp2_with fail
        go_roundw
        case rel => exact numN_next H0.out hy HX.out (HB.out.alloc HB.out.size _) _ (by rw [hm]; simp [ByteArray.data_append]) _ (by omega)
        case measure => simp [intOf]; omega
      · have hcv := conv_one Tryz.prog 22 9 5 Tryz.underlying22 Tryz.underlying5 Tryz.underlying9 wr y (48 + (y : Int) % 10) (by omega)
        have hmp : (0 : Int) < (y : Int) % 10 := by omega
        have hm9 : (y : Int) % 10 ≤ 9 := by omega
        have hml : -((y : Int) % 10) < 0 := by omega
        have hy9 : (y : Int) ≤ 9223372036854775808 := by omega
        clear hm
        go_wp2_with fail
        go_roundw
        case rel => exact numN_next H0.out hy HX.out (HB.out.alloc HB.out.size _) _ (by simp [ByteArray.data_append]) _ (by omega)
        case measure => simp [intOf]; omega

theorem num_all (x : Int) (h0 : -9223372036854775808 ≤ x) (h1 : x ≤ 9223372036854775807) (w : World) :
    Calls Tryz.prog 148 #[.int .i64 x] w fun e w' => e = .returned (.string (numT x)) ∧ Below w.heap.size w w' := by
  by_cases hz : x = 0
  · subst hz
    go_enter Tryz.func148, Tryz.ntmps148
    go_wp2_with fail
    go_ret
    have E : numT 0 = ⟨#[48]⟩ := by
      unfold numT Lib.itoa
      rw [if_neg (by omega), show (0 : Int).toNat = 0 from rfl, dec_one (by omega)]; rfl
    rw [E]
    exact ⟨rfl, Below.refl _ _⟩
  · by_cases hp : 0 < x
    · have := numPos_any x.toNat (by omega) (by omega) w
      rwa [Int.toNat_of_nonneg (by omega)] at this
    · have := numNeg_any (-x).toNat (by omega) (by omega) w
      rw [Int.toNat_of_nonneg (by omega), Int.neg_neg] at this
      exact this
end Go.Proofs.YtfpbhedophlnkaaGreatDoor
namespace Go.Proofs.YtfpbhedophlnkaaGreatDoor
open Go.RowKit
set_option linter.unusedSimpArgs false
set_option linter.unusedVariables false

theorem dec_len_le (u : Nat) (h : u ≤ 9223372036854775808) : (Lib.decDigits u).length ≤ 19 := by
  by_cases h0 : u = 0
  · subst h0; rw [dec_one (by omega)]; simp
  · have := leftD_len 19 u (by have : (10 : Nat) ^ 19 = 10000000000000000000 := by decide
                               omega)
    unfold leftD at this
    rwa [if_neg h0] at this
theorem numT_size {x : Int} (h0 : -9223372036854775808 ≤ x) (h1 : x ≤ 9223372036854775807) : (numT x).size ≤ 20 := by
  have e : (numT x).size = (Lib.itoa x).length := by
    have : (numT x).data.toList.length = (numT x).size := by rw [Array.length_toList]; rfl
    rw [← this]; simp [numT]
  rw [e]
  unfold Lib.itoa
  split
  · have := dec_len_le x.natAbs (by omega); simp; omega
  · have := dec_len_le x.toNat (by omega); omega
end Go.Proofs.YtfpbhedophlnkaaGreatDoor
namespace Go.Proofs.YtfpbhedophlnkaaGreatDoor
open Go.RowKit
set_option linter.unusedSimpArgs false
set_option linter.unusedVariables false

/-- A value as a text. -/
def vT (x : Int) : ByteArray := if x = -2000000 then ⟨#[45]⟩ else numT x
def vL (x : Int) : List UInt8 := (vT x).data.toList
/-- Texts with a comma between them. -/
def jc : List (List UInt8) → List UInt8
  | [] => []
  | [x] => x
  | x :: y :: r => x ++ [44] ++ jc (y :: r)
theorem jc_join : ∀ l : List (List UInt8), Lib.join l [44] = jc l
  | [] => rfl
  | [x] => by simp [Lib.join, jc, List.intercalate]
  | x :: y :: r => by
    have := jc_join (y :: r)
    simp only [Lib.join, List.intercalate, jc] at this ⊢
    rw [← this]
    simp [List.intersperse]
theorem jc_snoc : ∀ (l : List (List UInt8)) (x : List UInt8), jc (l ++ [x]) = if l = [] then x else jc l ++ [44] ++ x
  | [], x => by simp [jc]
  | [y], x => by simp [jc]
  | y :: z :: r, x => by
    have := jc_snoc (z :: r) x
    simp only [List.cons_append, jc] at this ⊢
    rw [this]
    simp
/-- A row's text. -/
def rowT (r : List Int) : List UInt8 := if r = [] then [40, 41] else jc (r.map vL)
theorem jc_take {l : List Int} {j : Nat} {x : Int} (h : l[j]? = some x) : jc ((l.take (j + 1)).map vL) = if j = 0 then vL x else jc ((l.take j).map vL) ++ [44] ++ vL x := by
  have hj : j < l.length := (List.getElem?_eq_some_iff.1 h).1
  have e : l[j] = x := by rw [List.getElem?_eq_getElem hj] at h; injection h
  rw [List.take_succ_eq_append_getElem hj, e, List.map_append, List.map_cons, List.map_nil, jc_snoc]
  have hl : (l.take j).length = j := by simp; omega
  by_cases h0 : j = 0
  · subst h0; simp
  · rw [if_neg (by intro hh; have hz := congrArg List.length hh; rw [List.length_map, hl] at hz; exact h0 hz), if_neg h0]
theorem vT_size {x : Int} (h0 : -9223372036854775808 ≤ x) (h1 : x ≤ 9223372036854775807) : (vT x).size ≤ 20 := by
  unfold vT; split
  · decide
  · exact numT_size h0 h1
theorem vL_len (x : Int) : (vL x).length = (vT x).size := by unfold vL; rw [Array.length_toList]; rfl
/-- Numbers of 64 bits. -/
def I64s (l : List Int) : Prop := ∀ z ∈ l, -9223372036854775808 ≤ z ∧ z ≤ 9223372036854775807
theorem jc_len : ∀ (l : List Int), I64s l → (jc (l.map vL)).length ≤ 21 * l.length
  | [], _ => by simp [jc]
  | [x], h => by
    have hx := h x (by simp)
    have := vT_size hx.1 hx.2
    simp [jc, vL_len]; omega
  | x :: y :: r, h => by
    have hx := h x (by simp)
    have h1 := vT_size hx.1 hx.2
    have h2 := jc_len (y :: r) (fun z hz => h z (List.mem_cons_of_mem _ hz))
    simp only [List.map_cons, jc, List.length_append, List.length_cons, List.length_nil, vL_len] at h2 ⊢
    omega
end Go.Proofs.YtfpbhedophlnkaaGreatDoor
namespace Go.Proofs.YtfpbhedophlnkaaGreatDoor
set_option linter.unusedSimpArgs false
set_option linter.unusedVariables false

/-- A text parted at each byte of one kind. -/
def splitB (b : UInt8) : List UInt8 → List (List UInt8)
  | [] => [[]]
  | c :: r => if c = b then [] :: splitB b r else
    match splitB b r with
    | [] => [[c]]
    | x :: xs => (c :: x) :: xs
theorem splitB_ne (b : UInt8) : ∀ l, splitB b l ≠ []
  | [] => by simp [splitB]
  | c :: r => by
    unfold splitB
    split
    · simp
    · split <;> simp
theorem split_no {b : UInt8} : ∀ {x : List UInt8}, (∀ c ∈ x, c ≠ b) → splitB b x = [x]
  | [], _ => rfl
  | c :: r, h => by
    unfold splitB
    rw [if_neg (h c (by simp)), split_no (fun d hd => h d (by simp [hd]))]
theorem split_hit {b : UInt8} : ∀ {x : List UInt8} (r : List UInt8), (∀ c ∈ x, c ≠ b) → splitB b (x ++ b :: r) = x :: splitB b r
  | [], r, _ => by simp [splitB]
  | c :: x, r, h => by
    have ih := split_hit (x := x) r (fun d hd => h d (by simp [hd]))
    rw [List.cons_append]
    conv => lhs; unfold splitB
    rw [if_neg (h c (by simp)), ih]
theorem split_len (b : UInt8) : ∀ l, (splitB b l).length ≤ l.length + 1
  | [] => by simp [splitB]
  | c :: r => by
    have ih := split_len b r
    unfold splitB
    split
    · simp; omega
    · split
      · simp
      · rename_i h; rw [h] at ih; simp at ih ⊢; omega
/-- The parts with that byte between them are the text. -/
def joinB (b : UInt8) : List (List UInt8) → List UInt8
  | [] => []
  | [x] => x
  | x :: y :: r => x ++ b :: joinB b (y :: r)
theorem joinB_cons (b c : UInt8) : ∀ (x : List UInt8) (r : List (List UInt8)), joinB b ((c :: x) :: r) = c :: joinB b (x :: r)
  | x, [] => rfl
  | x, y :: r => by simp [joinB]
theorem join_split (b : UInt8) : ∀ l, joinB b (splitB b l) = l
  | [] => rfl
  | c :: r => by
    have ih := join_split b r
    have hne := splitB_ne b r
    unfold splitB
    split
    · rename_i h
      cases hs : splitB b r with
      | nil => exact absurd hs hne
      | cons x xs => rw [hs] at ih; simp only [joinB, List.nil_append]; rw [ih, h]
    · cases hs : splitB b r with
      | nil => exact absurd hs hne
      | cons x xs => simp only; rw [joinB_cons, ← hs, ih]
theorem split_parts {b : UInt8} : ∀ (l x : List UInt8), x ∈ splitB b l → ∀ c ∈ x, c ≠ b
  | [], x, h => by simp [splitB] at h; subst h; simp
  | c :: r, x, h => by
    have ih := split_parts (b := b) r
    unfold splitB at h
    split at h
    · rcases List.mem_cons.1 h with rfl | h
      · simp
      · exact ih x h
    · rename_i hc
      cases hs : splitB b r with
      | nil => rw [hs] at h; simp at h; subst h; intro d hd; simp at hd; subst hd; exact hc
      | cons y ys =>
        rw [hs] at h
        rcases List.mem_cons.1 h with rfl | h
        · intro d hd
          rcases List.mem_cons.1 hd with rfl | hd
          · exact hc
          · exact ih y (by rw [hs]; simp) d hd
        · exact ih x (by rw [hs]; simp [h])
theorem split_part_len (b : UInt8) : ∀ (l x : List UInt8), x ∈ splitB b l → x.length ≤ l.length
  | [], x, h => by simp [splitB] at h; subst h; simp
  | c :: r, x, h => by
    have ih := split_part_len b r
    unfold splitB at h
    split at h
    · rcases List.mem_cons.1 h with rfl | h
      · simp
      · have := ih x h; simp; omega
    · cases hs : splitB b r with
      | nil => rw [hs] at h; simp at h; subst h; simp
      | cons y ys =>
        rw [hs] at h
        rcases List.mem_cons.1 h with rfl | h
        · have := ih y (by rw [hs]; simp); simp; omega
        · have := ih x (by rw [hs]; simp [h]); simp; omega
/-- Parts that do not bear the byte come back. -/
theorem split_join {b : UInt8} : ∀ (l : List (List UInt8)), l ≠ [] → (∀ x ∈ l, ∀ c ∈ x, c ≠ b) → splitB b (joinB b l) = l
  | [], h, _ => absurd rfl h
  | [x], _, h => split_no (h x (by simp))
  | x :: y :: r, _, h => by
    rw [joinB, split_hit _ (h x (by simp)), split_join (y :: r) (by simp) (fun z hz => h z (by simp at hz ⊢; exact Or.inr hz))]
end Go.Proofs.YtfpbhedophlnkaaGreatDoor
namespace Go.Proofs.YtfpbhedophlnkaaGreatDoor
open Go.RowKit
set_option linter.unusedSimpArgs false
set_option linter.unusedVariables false

theorem Tryz.infoStr : (Tryz.prog.info? 9).map (fun i => (i.zero, i.size, i.bytes)) = some (some (.string ⟨#[]⟩), 1, 16) := by kernel_rfl

/-- 'append(xs, ys...)' at a slice of strings of the call's own. -/
theorem wpList_appendSs {P : Program} (w : World) {ops : Array Oper} {rest : List Oper} {o : Oper} {a : Act} {Q : Exit → Act → World → Prop} (hgd : o.guard = none) (s x : Operand) (t : TypeId)
    (ho : o.op = .call { callee := .builtin .append, args := #[s, x], argTypes := #[t, t] }) (base : Nat) (ht : P.underlying t = some (.slice 9))
    (hi : (P.info? 9).map (fun i => (i.zero, i.size, i.bytes)) = some (some (.string ⟨#[]⟩), 1, 16))
    (ao : Option Addr) (c n : Nat) (l : List ByteArray) (hs : a.eval s = .slice ao n c) (hn : n = l.length) (hown : OwnS w base ao c l)
    (bl m cx : Nat) (ys : List ByteArray) (hx : a.eval x = .slice (some ⟨bl, 0, none⟩) m cx) (hm : m = ys.length) (hv : ∀ i, i < ys.length → w.cell? ⟨bl, i, none⟩ = some (.string (ys.getD i ByteArray.empty)))
    (hby : l.length + ys.length ≤ 1048576) (hbase : base ≤ w.heap.size)
    (h : ∀ ao' c' w', OwnS w' base ao' c' (l ++ ys) → w.grownBy w' (ao.map (·.block)) → wpList P ops Q rest (a.put o.dst (.slice ao' (l ++ ys).length c')) w') :
    wpList P ops Q (o :: rest) a w := by
  obtain ⟨i, hi0, hz0, hz1, hz2⟩ := info_parts hi
  subst hn hm
  refine wpList_append_own_at w hgd s x t ho base 9 i (.string ⟨#[]⟩) 1 16 ht hi0 hz0 hz1 hz2 rfl (by omega) _ l.length (l.map Value.string) hs hown ⟨bl, 0, none⟩ ys.length cx (ys.map Value.string) hx (by simp) ?_ ?_ (by unfold maxLen; omega) (by omega) hbase ?_
  · intro j u hj
    rw [List.getElem?_map] at hj
    cases hy : ys[j]? with
    | none => rw [hy] at hj; cases hj
    | some y =>
      rw [hy] at hj; simp at hj; subst hj
      have hlt : j < ys.length := by
        rcases Nat.lt_or_ge j ys.length with h1 | h1
        · exact h1
        · rw [List.getElem?_eq_none h1] at hy; cases hy
      have := hv j hlt
      rw [List.getD_eq_getElem?_getD, hy] at this
      by_cases h0 : j = 0
      · subst h0; simpa [Addr.add] using this
      · simpa [Addr.add, h0] using this
  · intro u hu
    obtain ⟨y, _, rfl⟩ := List.mem_map.1 hu
    rfl
  · intro v' w' ho' hg' _ hblk
    have hg2 : w.grownBy w' (ao.map (·.block)) := by
      cases ao with
      | none => exact hg'
      | some x => exact hg'
    have hlen : (l ++ ys).length = l.length + ys.length := by simp
    rw [← List.map_append] at ho'
    rcases ho'.2 with ⟨rfl, hz⟩ | ⟨g, cap, cur, rfl, r⟩
    · have hl0 : l ++ ys = [] := List.eq_nil_of_length_eq_zero (by omega)
      have := h none 0 w' (by rw [hl0]; exact OwnS.none_) hg2
      rw [hl0] at this; exact this
    · have := h _ _ _ (by unfold OwnS; rw [hlen]; exact ho') hg2
      rw [hlen] at this; exact this
theorem below_appS {w wr w1 : World} {ao : Option Addr} {c : Nat} {l : List ByteArray} {o : Obj} (hb : Below w.heap.size w wr) (ho : OwnS wr w.heap.size ao c l) (hg : (wr.alloc o).grownBy w1 (ao.map (·.block))) : Below w.heap.size w w1 := by
  refine (hb.alloc hb.size o).grown hg (by have := hb.size; simp; omega) ?_
  intro g hg'
  rcases ao with _ | a
  · cases hg'
  · simp at hg'; subst hg'; exact (ho.lt a rfl).1
theorem below_appS0 {w wr w1 : World} {ao : Option Addr} {c : Nat} {l : List ByteArray} (hb : Below w.heap.size w wr) (ho : OwnS wr w.heap.size ao c l) (hg : wr.grownBy w1 (ao.map (·.block))) : Below w.heap.size w w1 := by
  refine hb.grown hg hb.size ?_
  intro g hg'
  rcases ao with _ | a
  · cases hg'
  · simp at hg'; subst hg'; exact (ho.lt a rfl).1
theorem OwnS.alloc {w : World} {base : Nat} {ao : Option Addr} {c : Nat} {l : List ByteArray} (h : OwnS w base ao c l) (o : Obj) : OwnS (w.alloc o) base ao c l :=
  h.below ((Below.refl _ _).alloc (Nat.le_refl _) o)
end Go.Proofs.YtfpbhedophlnkaaGreatDoor
