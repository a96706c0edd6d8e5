/-
  Contract of spec.l01Num: a number as a text. For every number. How long a number's text is. Plain facts; no walk. What is kept where one block alone has turned. No program, no walk. The model's cursor over the bytes of a draw: l01Byte answers a number from 0 to 255 and turns the cursor's own block alone. For every slice of bytes. The model's draws of numbers below a bound, of an element of a list, of a text of a list; the cursor made. For every slice of bytes.
-/
import Derived.Test.YtfpbhedophlnkaaGreatDoorJW3x
import Derived.Test.YtfpbhedophlnkaaGreatDoorJW4x
import Derived.Laws.IdiomStrings
import Derived.Lib.ItoaNum
import Derived.WalkKit
import Derived.Test.YtfpbhedophlnkaaGreatDoorJW7x
import Derived.OneCell
import Derived.Deep.QuietTactic
import Derived.BigQuiet
import Derived.Laws.BitsAllLaws
import Derived.Laws.BitsLemmas
namespace Go.Proofs.YtfpbhedophlnkaaGreatDoor
open Go.RowKit
set_option linter.unusedSimpArgs false
set_option linter.unusedVariables false

theorem dec_ten {u : Nat} (h : 10 ≤ u) : Lib.decDigits u = Lib.decDigits (u / 10) ++ [UInt8.ofNat (48 + u % 10)] := by
  rw [Lib.decDigits, dif_neg (by omega)]
theorem dec_one {u : Nat} (h : u < 10) : Lib.decDigits u = [UInt8.ofNat (48 + u)] := by
  rw [Lib.decDigits, dif_pos h]
/-- What is left of the digits when out is done: those of u, none where u is 0. -/
def leftD (u : Nat) : List UInt8 := if u = 0 then [] else Lib.decDigits u
theorem leftD_step {u : Nat} (h : u ≠ 0) : leftD u = leftD (u / 10) ++ [UInt8.ofNat (48 + u % 10)] := by
  unfold leftD
  rw [if_neg h]
  by_cases h10 : u < 10
  · rw [dec_one h10, if_pos (by omega), Nat.mod_eq_of_lt h10]; rfl
  · rw [dec_ten (by omega), if_neg (by omega)]
theorem leftD_len : ∀ (k u : Nat), u < 10 ^ k → (leftD u).length ≤ k
  | 0, u, h => by simp at h; subst h; simp [leftD]
  | k + 1, u, h => by
    by_cases h0 : u = 0
    · subst h0; simp [leftD]
    · rw [leftD_step h0]
      have := leftD_len k (u / 10) (by rw [Nat.pow_succ] at h; omega)
      simp; omega
/-- A number's text, as bytes. -/
def numT (x : Int) : ByteArray := ⟨(Lib.itoa x).toArray⟩
theorem conv_one (P : Program) (src dst e : TypeId) (hs : P.underlying src = some (.slice e)) (he : P.underlying e = some (.int .u8)) (hd : P.underlying dst = some .string) (w : World) (u : Nat) (x : Int) (hx : x = ((48 + u % 10 : Nat) : Int)) :
    Sem.run P (convert src dst (.slice (some ⟨w.heap.size, 0, none⟩) 1 1)) (w.alloc (.cells #[.int .u8 x] e)) = .ok (.string ⟨#[UInt8.ofNat (48 + u % 10)]⟩) (w.alloc (.cells #[.int .u8 x] e)) := by
  refine run_convert_bytes_back (P := P) _ src dst e ⟨w.heap.size, 0, none⟩ 1 [UInt8.ofNat (48 + u % 10)] hs he hd ?_
  intro j hj
  obtain rfl : j = 0 := by simp at hj; omega
  rw [show (⟨w.heap.size, 0, none⟩ : Addr).add 0 = ⟨w.heap.size, 0, none⟩ from rfl, World.cell?_alloc_new]
  have : (UInt8.ofNat (48 + u % 10)).toNat = 48 + u % 10 := by rw [UInt8.toNat_ofNat']; omega
  simp [this, hx]
  try omega

def NumRel (w : World) (u : Nat) (wr : World) (s i : Value) : Prop :=
  ∃ (y : Nat) (X : ByteArray), i = .int .i64 y ∧ s = .string X ∧ y ≤ u ∧ leftD u = leftD y ++ X.data.toList ∧ Below w.heap.size w wr
theorem num_next {w w1 : World} {u y : Nat} {X : ByteArray} (h0 : y ≠ 0) (hy : y ≤ u) (hX : leftD u = leftD y ++ X.data.toList) (hb : Below w.heap.size w w1) (S : ByteArray) (hS : S.data.toList = UInt8.ofNat (48 + y % 10) :: X.data.toList) (z : Int) (hz : z = ((y / 10 : Nat) : Int)) : NumRel w u w1 (.string S) (.int .i64 z) := by
  refine ⟨y / 10, S, by rw [hz], rfl, by omega, ?_, hb⟩
  rw [hX, leftD_step h0, hS]; simp

set_option maxRecDepth 100000 in
set_option maxHeartbeats 1600000 in
theorem numPos_any (u : Nat) (hu : 0 < u) (hb63 : u < 9223372036854775808) (w : World) :
    Calls Tryz.prog 148 #[.int .i64 u] w fun e w' => e = .returned (.string (numT u)) ∧ Below w.heap.size w w' := by
  have hu' : (0 : Int) < (u : Int) := by omega
  have hu'' : ((u : Int) == 0) = false := by simp; omega
  have P0 := Lib.hid (show NumRel w u w (.string ⟨#[]⟩) (.int .i64 u) from ⟨u, _, rfl, rfl, Nat.le_refl _, by simp, Below.refl _ _⟩)
  have L := Lib.hid (leftD_len 19 u (by have : (10 : Nat) ^ 19 = 10000000000000000000 := by decide
                                        omega))
  go_enter Tryz.func148, Tryz.ntmps148
  go_wp2_with fail
  go_loopw [3, 0] (fun s i wr => NumRel w u wr s i) (fun _ i _ => (intOf i).toNat)
  case atStart => exact P0.out
  case round =>
    clear P0
    obtain ⟨y, X, rfl, rfl, hy, hX, hb⟩ := hrel
    have HX := Lib.hid hX; have HB := Lib.hid hb
    have hxs : X.size ≤ 19 := by
      have h1 : X.data.toList.length = X.size := by rw [Array.length_toList]; rfl
      have h2 := L.out
      rw [hX, List.length_append, h1] at h2
      omega
    clear hX hb
    by_cases h0 : y = 0
    · subst h0
      have E := Lib.hid (show X = numT u by
        have h1 := HX.out
        simp only [leftD, if_true, List.nil_append] at h1
        rw [if_neg (by omega)] at h1
        apply ByteArray.ext
        unfold numT Lib.itoa
        rw [if_neg (by omega), Int.toNat_natCast, h1])
      go_wp2_with fail
      go_ret
      rw [E.out]
      exact ⟨rfl, HB.out⟩
    · have hy0 : (0 : Int) < (y : Int) := by omega
      have hy1 : ((y : Int) == 0) = false := by simp; omega
      have hy2 : ((y : Int) != 0) = true := by simp; omega
      have hy3 : (y : Int) ≤ 9223372036854775807 := by omega
      have hm0 : (0 : Int) ≤ (y : Int) % 10 := by omega
      have hm9 : (y : Int) % 10 ≤ 9 := by omega
      have H0 := Lib.hid h0; clear h0
      have hcv := conv_one Tryz.prog 22 9 5 Tryz.underlying22 Tryz.underlying5 Tryz.underlying9 wr y (48 + (y : Int) % 10) (by omega)
      have e1 : ¬ (9223372036854775807 < 1 + X.size) := by omega
      go_wp2_with fail
      go_roundw
      case rel => exact num_next H0.out hy HX.out (HB.out.alloc HB.out.size _) _ (by simp [ByteArray.data_append]) _ (by omega)
      case measure => simp [intOf]; omega

/-- Below 0: the digits that are left, and the sign in front at the end. -/
def NumRelN (w : World) (u : Nat) (wr : World) (s i : Value) : Prop :=
  ∃ (y : Nat) (X : ByteArray), i = .int .i64 (-(y : Int)) ∧ s = .string X ∧ y ≤ u ∧ leftD u = leftD y ++ X.data.toList ∧ Below w.heap.size w wr
theorem numN_next {w w1 : World} {u y : Nat} {X : ByteArray} (h0 : y ≠ 0) (hy : y ≤ u) (hX : leftD u = leftD y ++ X.data.toList) (hb : Below w.heap.size w w1) (S : ByteArray) (hS : S.data.toList = UInt8.ofNat (48 + y % 10) :: X.data.toList) (z : Int) (hz : z = -((y / 10 : Nat) : Int)) : NumRelN w u w1 (.string S) (.int .i64 z) := by
  refine ⟨y / 10, S, by rw [hz], rfl, by omega, ?_, hb⟩
  rw [hX, leftD_step h0, hS]; simp
theorem tmod_neg_nat (y : Nat) : Int.tmod (-(y : Int)) 10 = -((y % 10 : Nat) : Int) := by
  rw [Int.neg_tmod, Int.tmod_eq_emod_of_nonneg (by omega)]; omega
theorem tdiv_neg_nat (y : Nat) : Int.tdiv (-(y : Int)) 10 = -((y / 10 : Nat) : Int) := by
  rw [Int.neg_tdiv, Int.tdiv_eq_ediv_of_nonneg (by omega)]; omega

set_option maxRecDepth 100000 in
set_option maxHeartbeats 1600000 in
theorem numNeg_any (u : Nat) (hu : 0 < u) (hb63 : u ≤ 9223372036854775808) (w : World) :
    Calls Tryz.prog 148 #[.int .i64 (-(u : Int))] w fun e w' => e = .returned (.string (numT (-(u : Int)))) ∧ Below w.heap.size w w' := by
  have hu' : (-(u : Int)) < 0 := by omega
  have hu'' : (-(u : Int) == 0) = false := by simp; omega
  have hu3 : ¬ ((u : Int) = 0) := by omega
  have P0 := Lib.hid (show NumRelN w u w (.string ⟨#[]⟩) (.int .i64 (-(u : Int))) from ⟨u, _, rfl, rfl, Nat.le_refl _, by simp, Below.refl _ _⟩)
  have L := Lib.hid (leftD_len 19 u (by have : (10 : Nat) ^ 19 = 10000000000000000000 := by decide
                                        omega))
  go_enter Tryz.func148, Tryz.ntmps148
  go_wp2_with fail
  go_loopw [3, 0] (fun s i wr => NumRelN w u wr s i) (fun _ i _ => (-(intOf i)).toNat)
  case atStart => exact P0.out
  case round =>
    clear P0
    obtain ⟨y, X, rfl, rfl, hy, hX, hb⟩ := hrel
    have HX := Lib.hid hX; have HB := Lib.hid hb
    have hxs : X.size ≤ 19 := by
      have h1 : X.data.toList.length = X.size := by rw [Array.length_toList]; rfl
      have h2 := L.out
      rw [hX, List.length_append, h1] at h2
      omega
    clear hX hb
    by_cases h0 : y = 0
    · subst h0
      have E := Lib.hid (show (⟨#[45]⟩ : ByteArray) ++ X = numT (-(u : Int)) by
        have h1 := HX.out
        simp only [leftD, if_true, List.nil_append] at h1
        rw [if_neg (by omega)] at h1
        apply ByteArray.ext
        unfold numT Lib.itoa
        rw [if_pos (by omega), Int.natAbs_neg, Int.natAbs_natCast, h1]
        simp [ByteArray.data_append])
      have e1 : ¬ (9223372036854775807 < 1 + X.size) := by omega
      go_wp2_with fail
      go_ret
      rw [E.out]
      exact ⟨rfl, HB.out⟩
    · have hy0 : (0 : Int) < (y : Int) := by omega
      have hy1 : ((-(y : Int)) != 0) = true := by simp; omega
      have hy2 : ((-(y : Int)) == 0) = false := by simp; omega
      have hy4 : ¬ ((y : Int) = 0) := by omega
      have H0 := Lib.hid h0; clear h0
      have e1 : ¬ (9223372036854775807 < 1 + X.size) := by omega
      have ht := tmod_neg_nat y
      have htd := tdiv_neg_nat y
      by_cases hm : y % 10 = 0
      · have hcv := conv_one Tryz.prog 22 9 5 Tryz.underlying22 Tryz.underlying5 Tryz.underlying9 wr y 48 (by omega)
        rw [hm] at ht hcv
        go_wp2_with fail
        go_roundw
        case rel => exact numN_next H0.out hy HX.out (HB.out.alloc HB.out.size _) _ (by rw [hm]; simp [ByteArray.data_append]) _ (by omega)
        case measure => simp [intOf]; omega
      · have hcv := conv_one Tryz.prog 22 9 5 Tryz.underlying22 Tryz.underlying5 Tryz.underlying9 wr y (48 + (y : Int) % 10) (by omega)
        have hmp : (0 : Int) < (y : Int) % 10 := by omega
        have hm9 : (y : Int) % 10 ≤ 9 := by omega
        have hml : -((y : Int) % 10) < 0 := by omega
        have hy9 : (y : Int) ≤ 9223372036854775808 := by omega
        clear hm
        go_wp2_with fail
        go_roundw
        case rel => exact numN_next H0.out hy HX.out (HB.out.alloc HB.out.size _) _ (by simp [ByteArray.data_append]) _ (by omega)
        case measure => simp [intOf]; omega

theorem num_all (x : Int) (h0 : -9223372036854775808 ≤ x) (h1 : x ≤ 9223372036854775807) (w : World) :
    Calls Tryz.prog 148 #[.int .i64 x] w fun e w' => e = .returned (.string (numT x)) ∧ Below w.heap.size w w' := by
  by_cases hz : x = 0
  · subst hz
    go_enter Tryz.func148, Tryz.ntmps148
    go_wp2_with fail
    go_ret
    have E : numT 0 = ⟨#[48]⟩ := by
      unfold numT Lib.itoa
      rw [if_neg (by omega), show (0 : Int).toNat = 0 from rfl, dec_one (by omega)]; rfl
    rw [E]
    exact ⟨rfl, Below.refl _ _⟩
  · by_cases hp : 0 < x
    · have := numPos_any x.toNat (by omega) (by omega) w
      rwa [Int.toNat_of_nonneg (by omega)] at this
    · have := numNeg_any (-x).toNat (by omega) (by omega) w
      rw [Int.toNat_of_nonneg (by omega), Int.neg_neg] at this
      exact this
end Go.Proofs.YtfpbhedophlnkaaGreatDoor
namespace Go.Proofs.YtfpbhedophlnkaaGreatDoor
open Go.RowKit
set_option linter.unusedSimpArgs false
set_option linter.unusedVariables false

theorem dec_len_le (u : Nat) (h : u ≤ 9223372036854775808) : (Lib.decDigits u).length ≤ 19 := by
  by_cases h0 : u = 0
  · subst h0; rw [dec_one (by omega)]; simp
  · have := leftD_len 19 u (by have : (10 : Nat) ^ 19 = 10000000000000000000 := by decide
                               omega)
    unfold leftD at this
    rwa [if_neg h0] at this
theorem numT_size {x : Int} (h0 : -9223372036854775808 ≤ x) (h1 : x ≤ 9223372036854775807) : (numT x).size ≤ 20 := by
  have e : (numT x).size = (Lib.itoa x).length := by
    have : (numT x).data.toList.length = (numT x).size := by rw [Array.length_toList]; rfl
    rw [← this]; simp [numT]
  rw [e]
  unfold Lib.itoa
  split
  · have := dec_len_le x.natAbs (by omega); simp; omega
  · have := dec_len_le x.toNat (by omega); omega
end Go.Proofs.YtfpbhedophlnkaaGreatDoor
namespace Go.Proofs.YtfpbhedophlnkaaGreatDoor
open Go.RowKit
set_option linter.unusedSimpArgs false
set_option linter.unusedVariables false

theorem grownBy_trans {a b c : World} {row : Option Nat} (h : a.grownBy b row) (k : b.grownBy c row) : a.grownBy c row :=
  ⟨k.os.trans h.os, k.tape.trans h.tape, k.output.trans h.output, Nat.le_trans h.size k.size, fun i hi hne => (k.block i (Nat.lt_of_lt_of_le hi h.size) hne).trans (h.block i hi hne)⟩
theorem grownBy_below {a b c : World} {row : Option Nat} (h : a.grownBy b row) (k : Below b.heap.size b c) : a.grownBy c row :=
  ⟨k.os.trans h.os, k.tape.trans h.tape, k.output.trans h.output, Nat.le_trans h.size k.size, fun i hi hne => (k.block i (Nat.lt_of_lt_of_le hi h.size)).trans (h.block i hi hne)⟩
theorem Rd.far {w w' : World} {k : IntKind} {ao : Option Addr} {l : List Int} {g : Nat} (h : Rd w k ao l) (hne : ∀ a, ao = some a → l ≠ [] → a.block ≠ g) (hk : ∀ p : Addr, p.block ≠ g → w'.cell? p = w.cell? p) : Rd w' k ao l := by
  rcases h with rfl | ⟨b, off, rfl, hc⟩
  · exact .inl rfl
  · by_cases hl : l = []
    · exact .inl hl
    · exact .inr ⟨b, off, rfl, fun i hi => (hk ⟨b, off + i, none⟩ (hne ⟨b, off, none⟩ rfl hl)).trans (hc i hi)⟩
end Go.Proofs.YtfpbhedophlnkaaGreatDoor
namespace Go.Proofs.YtfpbhedophlnkaaGreatDoor
open Go.RowKit
set_option linter.unusedSimpArgs false
set_option linter.unusedVariables false

theorem and255 (x : Int) : 0 ≤ bits .and .i64 x 255 ∧ bits .and .i64 x 255 ≤ 255 := by
  have h : (BitVec.ofInt 64 x &&& BitVec.ofInt 64 255).toNat ≤ 255 := by
    rw [BitVec.toNat_and]
    exact Nat.and_le_right
  have e : bits .and .i64 x 255 = ((BitVec.ofInt 64 x &&& BitVec.ofInt 64 255).toNat : Int) := by
    show IntKind.i64.wrap ((BitVec.ofInt 64 x &&& BitVec.ofInt 64 255).toNat : Int) = _
    rw [IntKind.wrap_i64]; omega
  rw [e]; omega

/-- The cursor in block g over the bytes 'code'. -/
def Cur (w : World) (g : Nat) (ao : Option Addr) (d : Nat) (code : List Int) : Prop :=
  ∃ i h : Int, w.heap[g]? = some (.cells #[.slice ao code.length d, .int .i64 i, .int .i64 h] 159 (0, 0)) ∧ 0 ≤ i ∧ i ≤ code.length ∧ Rd w .u8 ao code ∧ By code ∧ (∀ a, ao = some a → code ≠ [] → a.block ≠ g)
def ByteP (w : World) (g : Nat) (ao : Option Addr) (d : Nat) (code : List Int) (lo hi : Int) (e : Ending) (w' : World) : Prop :=
  ∃ x, e = .returned (.int .i64 x) ∧ lo ≤ x ∧ x ≤ hi ∧ Cur w' g ao d code ∧ w.grownBy w' (some g)

theorem cur_next {w w' : World} {g : Nat} {ao : Option Addr} {d k : Nat} {code : List Int} {h : Int} (hb : w.heap[g]? = some (.cells #[.slice ao code.length d, .int .i64 k, .int .i64 h] 159 (0, 0)))
    (hr : Rd w .u8 ao code) (hby : By code) (hne : ∀ a, ao = some a → code ≠ [] → a.block ≠ g) (hk : k < code.length) {n : Nat} (e : w' = (w.drewN n).setCell ⟨g, 1, none⟩ (.int .i64 ((k : Int) + 1)) := by rfl) : Cur w' g ao d code := by
  subst e
  refine ⟨(k : Int) + 1, h, ?_, by omega, by omega, ?_, hby, hne⟩
  · have hb' : (w.drewN n).heap[g]? = some (.cells #[.slice ao code.length d, .int .i64 k, .int .i64 h] 159 (0, 0)) := hb
    rw [heap_setCell_same (w.drewN n) g 1 _ _ _ hb']; rfl
  · have hr' : Rd (w.drewN n) .u8 ao code := hr
    exact hr'.far hne fun p hp => World.cell?_setCell_other _ _ _ _ (fun e => by subst e; exact hp rfl)
theorem cur_grown {w w1 w' : World} {g n : Nat} {v : Value} (h : w.grownBy w1 (some g)) (e : w' = (w1.drewN n).setCell ⟨g, 1, none⟩ v := by rfl) : w.grownBy w' (some g) := by
  subst e
  exact grownBy_trans h ⟨rfl, rfl, rfl, by simp [World.setCell], fun i _ hi => heap_setCell_other (w1.drewN n) ⟨g, 1, none⟩ i _ (fun e => hi (by simp [e]))⟩

set_option maxRecDepth 100000 in
set_option maxHeartbeats 1600000 in
theorem l01Byte_any (g : Nat) (ao : Option Addr) (d : Nat) (code : List Int) (w : World) (hc : Cur w g ao d code) (hl : code.length ≤ 1048577) :
    Calls Tryz.prog 159 #[.pointer (some ⟨g, 0, none⟩)] w (ByteP w g ao d code 0 255) := by
  obtain ⟨i, h, hb, hi0, hi1, hr, hby, hne⟩ := hc
  have c0 : w.cell? ⟨g, 0, none⟩ = some (.slice ao code.length d) := cell_of_row w g 0 _ _ _ hb
  have c1 : w.cell? ⟨g, 1, none⟩ = some (.int .i64 i) := cell_of_row w g 1 _ _ _ hb
  have c2 : w.cell? ⟨g, 2, none⟩ = some (.int .i64 h) := cell_of_row w g 2 _ _ _ hb
  have f1 : w.frozen? ⟨g, 1, none⟩ = false := by simp [World.frozen?, hb]
  have f2 : w.frozen? ⟨g, 2, none⟩ = false := by simp [World.frozen?, hb]
  have HB := Lib.hid hb; have HR := Lib.hid hr; have HBY := Lib.hid hby; have HNE := Lib.hid hne
  clear hb hr hby hne
  by_cases hlt : i < code.length
  · obtain ⟨b1, off, rfl, hcc⟩ : ∃ b1 off, ao = some ⟨b1, off, none⟩ ∧ ∀ k, k < code.length → w.cell? ⟨b1, off + k, none⟩ = some (.int .u8 (code.getD k 0)) := by
      rcases HR.out with rfl | h'
      · simp at hlt; omega
      · exact h'
    obtain ⟨k, rfl⟩ : ∃ k : Nat, i = k := ⟨i.toNat, by omega⟩
    have hk : k < code.length := by omega
    obtain ⟨z, hz, _, hcz, _⟩ := Rd.at_ hcc hk
    have zb := HBY.out z hz
    have hbg : b1 ≠ g := HNE.out _ rfl (by intro e; rw [e] at hk; simp at hk)
    go_enter Tryz.func159, Tryz.ntmps159
    go_wp2
    generalize wrap64 (wrap64 (h * 6364136223846793005) + 1442695040888963407) = h2
    generalize wrap64 (h * 6364136223846793005) = h3
    obtain ⟨w1, hw1⟩ : ∃ w1, w1 = w.setCell ⟨g, 2, none⟩ (.int .i64 h2) := ⟨_, rfl⟩
    rw [← hw1]
    have B1 : w1.heap[g]? = some (.cells #[.slice (some ⟨b1, off, none⟩) code.length d, .int .i64 k, .int .i64 h2] 159 (0, 0)) := by rw [hw1, heap_setCell_same w g 2 _ _ _ HB.out]; rfl
    have R1 : Rd w1 .u8 (some ⟨b1, off, none⟩) code := by rw [hw1]; exact HR.out.far HNE.out fun p hp => World.cell?_setCell_other _ _ _ _ (fun e => by subst e; exact hp rfl)
    have G1 : w.grownBy w1 (some g) := by rw [hw1]; exact ⟨rfl, rfl, rfl, by simp, fun i _ hi => heap_setCell_other w ⟨g, 2, none⟩ i _ (fun e => hi (by simp [e]))⟩
    have cz : w1.cell? ⟨b1, off + k, none⟩ = some (.int .u8 z) := by rw [hw1, World.cell?_setCell_other _ _ _ _ (by simp)]; exact hcz
    have HB1 := Lib.hid B1; have HR1 := Lib.hid R1; have HG1 := Lib.hid G1
    clear c0 c1 c2 f1 f2 hcc hcz hw1 B1 R1 G1
    have c0 : w1.cell? ⟨g, 0, none⟩ = some (.slice (some ⟨b1, off, none⟩) code.length d) := cell_of_row w1 g 0 _ _ _ HB1.out
    have c1 : w1.cell? ⟨g, 1, none⟩ = some (.int .i64 k) := cell_of_row w1 g 1 _ _ _ HB1.out
    have c2 : w1.cell? ⟨g, 2, none⟩ = some (.int .i64 h2) := cell_of_row w1 g 2 _ _ _ HB1.out
    have f1 : w1.frozen? ⟨g, 1, none⟩ = false := frozen_of_row w1 g 1 _ _ HB1.out
    go_quiet (fail)
    go_wp2
    go_quiet (fail)
    go_wp2
    go_quiet (fail)
    go_wp2
    go_ret
    exact ⟨_, rfl, (and255 _).1, (and255 _).2, cur_next (w := w1) HB1.out HR1.out HBY.out HNE.out hk, cur_grown (w1 := w1) HG1.out⟩
  · go_enter Tryz.func159, Tryz.ntmps159
    go_wp2
    generalize wrap64 (wrap64 (h * 6364136223846793005) + 1442695040888963407) = h2
    generalize wrap64 (h * 6364136223846793005) = h3
    obtain ⟨w1, hw1⟩ : ∃ w1, w1 = w.setCell ⟨g, 2, none⟩ (.int .i64 h2) := ⟨_, rfl⟩
    rw [← hw1]
    have B1 : w1.heap[g]? = some (.cells #[.slice ao code.length d, .int .i64 i, .int .i64 h2] 159 (0, 0)) := by rw [hw1, heap_setCell_same w g 2 _ _ _ HB.out]; rfl
    have R1 : Rd w1 .u8 ao code := by rw [hw1]; exact HR.out.far HNE.out fun p hp => World.cell?_setCell_other _ _ _ _ (fun e => by subst e; exact hp rfl)
    have G1 : w.grownBy w1 (some g) := by rw [hw1]; exact ⟨rfl, rfl, rfl, by simp, fun i _ hi => heap_setCell_other w ⟨g, 2, none⟩ i _ (fun e => hi (by simp [e]))⟩
    have HB1 := Lib.hid B1; have HR1 := Lib.hid R1; have HG1 := Lib.hid G1
    clear c0 c1 c2 f1 f2 hw1 B1 R1 G1
    have c0 : w1.cell? ⟨g, 0, none⟩ = some (.slice ao code.length d) := cell_of_row w1 g 0 _ _ _ HB1.out
    have c1 : w1.cell? ⟨g, 1, none⟩ = some (.int .i64 i) := cell_of_row w1 g 1 _ _ _ HB1.out
    have c2 : w1.cell? ⟨g, 2, none⟩ = some (.int .i64 h2) := cell_of_row w1 g 2 _ _ _ HB1.out
    go_quiet (fail)
    go_wp2
    go_quiet (fail)
    go_wp2
    go_ret
    exact ⟨_, rfl, (and255 _).1, (and255 _).2, ⟨i, h2, HB1.out, hi0, hi1, HR1.out, HBY.out, HNE.out⟩, ⟨HG1.out.os, HG1.out.tape, HG1.out.output, HG1.out.size, HG1.out.block⟩⟩
end Go.Proofs.YtfpbhedophlnkaaGreatDoor
namespace Go.Proofs.YtfpbhedophlnkaaGreatDoor
open Go.RowKit
set_option linter.unusedSimpArgs false
set_option linter.unusedVariables false

theorem Cur.keepB {w w' : World} {g : Nat} {ao : Option Addr} {d : Nat} {code : List Int} (h : Cur w g ao d code) (hb : Below w.heap.size w w') : Cur w' g ao d code := by
  obtain ⟨i, x, h1, h2, h3, h4, h5, h6⟩ := h
  exact ⟨i, x, (hb.block g (lt_of_block h1)).trans h1, h2, h3, h4.below hb, h5, h6⟩
theorem Cur.lt {w : World} {g : Nat} {ao : Option Addr} {d : Nat} {code : List Int} (h : Cur w g ao d code) : g < w.heap.size := by
  obtain ⟨i, x, h1, _⟩ := h
  exact lt_of_block h1

set_option maxRecDepth 100000 in
theorem l01Below_any (g : Nat) (ao : Option Addr) (d : Nat) (code : List Int) (n : Int) (w : World) (hc : Cur w g ao d code) (hl : code.length ≤ 1048577) (h0 : 1 ≤ n) (h1 : n ≤ 256) :
    Calls Tryz.prog 74 #[.pointer (some ⟨g, 0, none⟩), .int .i64 n] w (ByteP w g ao d code 0 (n - 1)) := by
  have C := Lib.hid (l01Byte_any g ao d code w hc hl)
  clear hc hl
  go_enter Tryz.func74, Tryz.ntmps74
  go_wp2_with fail
  refine C.out.mono ?_
  rintro e w1 ⟨x, rfl, x0, x1, hc1, hg1⟩
  have HC1 := Lib.hid hc1; have HG1 := Lib.hid hg1; clear hc1 hg1
  go_wp2
  go_ret
  have e1 : x % n < n := Int.emod_lt_of_pos _ (by omega)
  have e2 : 0 ≤ x % n := Int.emod_nonneg _ (by omega)
  exact ⟨_, rfl, e2, by omega, HC1.out, HG1.out⟩

def OnceP (w : World) (g : Nat) (ao : Option Addr) (d : Nat) (code : List Int) (e : Ending) (w' : World) : Prop :=
  ∃ b : Bool, e = .returned (.bool b) ∧ Cur w' g ao d code ∧ w.grownBy w' (some g)
set_option maxRecDepth 100000 in
theorem l01Once_any (g : Nat) (ao : Option Addr) (d : Nat) (code : List Int) (n : Int) (w : World) (hc : Cur w g ao d code) (hl : code.length ≤ 1048577) (h0 : 1 ≤ n) (h1 : n ≤ 256) :
    Calls Tryz.prog 100 #[.pointer (some ⟨g, 0, none⟩), .int .i64 n] w (OnceP w g ao d code) := by
  have C := Lib.hid (l01Below_any g ao d code n w hc hl h0 h1)
  clear hc hl
  go_enter Tryz.func100, Tryz.ntmps100
  go_wp2_with fail
  refine C.out.mono ?_
  rintro e w1 ⟨x, rfl, x0, x1, hc1, hg1⟩
  have HC1 := Lib.hid hc1; have HG1 := Lib.hid hg1; clear hc1 hg1
  go_wp2
  go_ret
  exact ⟨_, rfl, HC1.out, HG1.out⟩

def PickP (w : World) (g : Nat) (ao : Option Addr) (d : Nat) (code l : List Int) (e : Ending) (w' : World) : Prop :=
  ∃ z, z ∈ l ∧ e = .returned (.int .i64 z) ∧ Cur w' g ao d code ∧ w.grownBy w' (some g)
set_option maxRecDepth 100000 in
theorem l01PickInt_any (g : Nat) (ao : Option Addr) (d : Nat) (code : List Int) (b off c : Nat) (l : List Int) (w : World) (hc : Cur w g ao d code) (hl : code.length ≤ 1048577)
    (hb : ∀ i, i < l.length → w.cell? ⟨b, off + i, none⟩ = some (.int .i64 (l.getD i 0))) (hbg : b ≠ g) (h0 : 1 ≤ l.length) (h1 : l.length ≤ 256) :
    Calls Tryz.prog 146 #[.pointer (some ⟨g, 0, none⟩), .slice (some ⟨b, off, none⟩) l.length c] w (PickP w g ao d code l) := by
  have C := Lib.hid (l01Below_any g ao d code (l.length : Int) w hc hl (by omega) (by omega))
  have HB := Lib.hid hb
  clear hc hl hb
  go_enter Tryz.func146, Tryz.ntmps146
  go_wp2_with fail
  refine C.out.mono ?_
  rintro e w1 ⟨x, rfl, x0, x1, hc1, hg1⟩
  have HC1 := Lib.hid hc1; have HG1 := Lib.hid hg1; clear hc1 hg1
  obtain ⟨k, rfl⟩ : ∃ k : Nat, x = k := ⟨x.toNat, by omega⟩
  have hk : k < l.length := by omega
  obtain ⟨z, hz, _, hcz, _⟩ := Rd.at_ HB.out hk
  have hcz1 : w1.cell? ⟨b, off + k, none⟩ = some (.int .i64 z) := HG1.out.cell hcz (by simp [hbg])
  have HZ := Lib.hid hz
  clear hz hcz
  go_wp2
  go_ret
  exact ⟨z, HZ.out, rfl, HC1.out, HG1.out⟩

def PickT (w : World) (g : Nat) (ao : Option Addr) (d : Nat) (code : List Int) (e : Ending) (w' : World) : Prop :=
  ∃ s : ByteArray, s.size ≤ 100 ∧ e = .returned (.string s) ∧ Cur w' g ao d code ∧ w.grownBy w' (some g)
set_option maxRecDepth 100000 in
theorem l01PickText_any (g : Nat) (ao : Option Addr) (d : Nat) (code : List Int) (b n c : Nat) (w : World) (hc : Cur w g ao d code) (hl : code.length ≤ 1048577)
    (hb : ∀ i, i < n → ∃ s : ByteArray, s.size ≤ 100 ∧ w.cell? ⟨b, i, none⟩ = some (.string s)) (hbg : b ≠ g) (h0 : 1 ≤ n) (h1 : n ≤ 256) :
    Calls Tryz.prog 147 #[.pointer (some ⟨g, 0, none⟩), .slice (some ⟨b, 0, none⟩) n c] w (PickT w g ao d code) := by
  have C := Lib.hid (l01Below_any g ao d code (n : Int) w hc hl (by omega) (by omega))
  have HB := Lib.hid hb
  clear hc hl hb
  go_enter Tryz.func147, Tryz.ntmps147
  go_wp2_with fail
  refine C.out.mono ?_
  rintro e w1 ⟨x, rfl, x0, x1, hc1, hg1⟩
  have HC1 := Lib.hid hc1; have HG1 := Lib.hid hg1; clear hc1 hg1
  obtain ⟨k, rfl⟩ : ∃ k : Nat, x = k := ⟨x.toNat, by omega⟩
  have hk : k < n := by omega
  obtain ⟨s, hs, hcs⟩ := HB.out k hk
  have hcs1 : w1.cell? ⟨b, k, none⟩ = some (.string s) := HG1.out.cell hcs (by simp [hbg])
  have HS := Lib.hid hs
  clear hcs hs
  go_wp2
  go_ret
  exact ⟨s, HS.out, rfl, HC1.out, HG1.out⟩

set_option maxRecDepth 100000 in
theorem l01Size_any (b : Option Addr) (n c : Nat) (w : World) (hn : n ≤ 1048577) :
    Calls Tryz.prog 99 #[.slice b n c, .int .i64 12] w fun e w' => (∃ x : Int, 2 ≤ x ∧ x ≤ 12 ∧ e = .returned (.int .i64 x)) ∧ w = w' := by
  by_cases h : 12 < 2 + n / 16
  · have h' : (12 : Int) < 2 + (n : Int) / 16 := by omega
    go_enter Tryz.func99, Tryz.ntmps99
    go_wp2
    go_ret
    exact ⟨⟨12, by omega, by omega, rfl⟩, rfl⟩
  · have h' : 2 + (n : Int) / 16 ≤ 12 := by omega
    go_enter Tryz.func99, Tryz.ntmps99
    go_wp2
    go_ret
    exact ⟨⟨2 + (n : Int) / 16, by omega, by omega, rfl⟩, rfl⟩

def NewP (w : World) (ao : Option Addr) (d : Nat) (code : List Int) (e : Ending) (w' : World) : Prop :=
  ∃ g, e = .returned (.pointer (some ⟨g, 0, none⟩)) ∧ w.heap.size ≤ g ∧ Cur w' g ao d code ∧ Below w.heap.size w w'
theorem new_cur {w : World} {ao : Option Addr} {d : Nat} {code : List Int} {h : Int} (hr : Rd w .u8 ao code) (hby : By code) :
    Cur (w.alloc (.cells #[.slice ao code.length d, .int .i64 0, .int .i64 h] 159)) w.heap.size ao d code := by
  refine ⟨0, h, heap_alloc_new w _, by omega, by omega, hr.below ((Below.refl _ _).alloc (Nat.le_refl _) _), hby, ?_⟩
  intro a ha hl e
  rcases hr with rfl | ⟨b, off, hh, hc⟩
  · exact hl rfl
  · rw [ha] at hh
    injection hh with hh
    subst hh
    have := World.block_lt_of_cell? w _ (hc 0 (by cases code with | nil => exact absurd rfl hl | cons _ _ => simp))
    simp only at this e; omega

set_option maxRecDepth 100000 in
set_option maxHeartbeats 1600000 in
theorem l01New_any (ao : Option Addr) (d : Nat) (code : List Int) (w : World) (hr : Rd w .u8 ao code) (hby : By code) (hl : code.length ≤ 1048577) :
    Calls Tryz.prog 67 #[.slice ao code.length d] w (NewP w ao d code) := by
  have HR := Lib.hid hr; have HBY := Lib.hid hby
  have hl' : (code.length : Int) ≤ 1048577 := by omega
  clear hby hl
  rcases hr with rfl | ⟨b1, off, rfl, hc⟩
  · go_enter Tryz.func67, Tryz.ntmps67
    go_wp2
    refine wp_loop_rounds 1 ?_; rw [rounds_succ]; go_wp2
    go_ret
    exact ⟨_, rfl, Nat.le_refl _, new_cur HR.out HBY.out, (Below.refl _ _).alloc (Nat.le_refl _) _⟩
  · have HC := Lib.hid hc; clear hc
    go_enter Tryz.func67, Tryz.ntmps67
    go_wp2
    go_loop [3, 4] (fun h i => ∃ (k : Nat) (x : Int), k ≤ code.length ∧ i = .int .i64 k ∧ h = .int .i64 x) (fun _ i => code.length - (intOf i).toNat)
    case atStart => exact ⟨0, _, Nat.zero_le _, rfl, rfl⟩
    case round =>
      obtain ⟨k, x, hk, rfl, rfl⟩ := hrel
      by_cases hlt : k < code.length
      · have hb1 : decide ((k : Int) < code.length) = true := by simp; omega
        have hb1' : decide (k < code.length) = true := by simpa using hlt
        by_cases h4 : k < 4000
        · obtain ⟨z, hz, _, hcz, _⟩ := Rd.at_ HC.out hlt
          have zb := HBY.out z hz
          have h4' : (k : Int) < 4000 := by omega
          clear hz
          go_wp2
          go_round
          case rel => exact ⟨k + 1, _, by omega, by go_num, rfl⟩
          case measure => simp [intOf]; omega
        · have h4' : (4000 : Int) ≤ k := by omega
          go_wp2
          go_ret
          exact ⟨_, rfl, Nat.le_refl _, new_cur HR.out HBY.out, (Below.refl _ _).alloc (Nat.le_refl _) _⟩
      · have hb1' : decide (k < code.length) = false := by simpa using hlt
        go_wp2
        go_ret
        exact ⟨_, rfl, Nat.le_refl _, new_cur HR.out HBY.out, (Below.refl _ _).alloc (Nat.le_refl _) _⟩
end Go.Proofs.YtfpbhedophlnkaaGreatDoor
