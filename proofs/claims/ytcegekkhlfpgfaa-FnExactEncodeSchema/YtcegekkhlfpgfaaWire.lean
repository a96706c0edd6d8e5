/-
  The program's wire behind a pointer: a block with one slice value, and the row that it owns; the contracts of isNum, foldNum and addNum.
-/
import Derived.Test.YtcegekkhlfpgfaaPutNum
import Derived.OneCell
namespace Go.Proofs.Ytcegekkhlfpgfaa
open Go.RowKit
set_option linter.unusedSimpArgs false
set_option linter.unusedVariables false

/-- Block h holds a wire with the bytes l; block and row lie from B on. -/
def Wr (w : World) (B h : Nat) (T E : TypeId) (l : List Int) : Prop :=
  ∃ ao c, w.heap[h]? = some (.cells #[.slice ao l.length c] T (0, 0)) ∧ B ≤ h ∧ Own w B E .u8 ao c l

section
variable {w wr w1 w' : World} {B h : Nat} {T E : TypeId} {l : List Int} {ao ao' : Option Addr} {c c' : Nat} {o : Obj} {z : Int}
theorem own_ne (hT : E ≠ T) {v : Value} (hb : wr.heap[h]? = some (.cells #[v] T (0, 0))) (ho : Own wr B E .u8 ao c l) : ∀ a, ao = some a → a.block ≠ h := by
  intro a ha e
  rcases ho.2 with ⟨hv, _⟩ | ⟨g, cap, cur, hv, _, hg, _⟩
  · simp only [Value.slice.injEq] at hv; rw [ha] at hv; cases hv.1
  · simp only [Value.slice.injEq] at hv
    rw [ha] at hv
    have e2 : a = ⟨g, 0, none⟩ := by injection hv.1
    subst e2
    simp only at e; subst e
    rw [hg] at hb
    injection hb with hb
    injection hb with _ hb
    exact hT hb
theorem grown_block {v : Value} {row : Option Nat} (hb : wr.heap[h]? = some (.cells #[v] T (0, 0))) (hg : (wr.alloc o).grownBy w1 row) (hne : some h ≠ row) : w1.heap[h]? = some (.cells #[v] T (0, 0)) := by
  have hlt := lt_of_block hb
  rw [hg.block h (by simp; omega) hne, Below.heap_alloc _ _ _ hlt]; exact hb
theorem row_ne (hne : ∀ a, ao = some a → a.block ≠ h) : some h ≠ ao.map (·.block) := by
  cases ao with
  | none => simp
  | some a => simp; exact fun e => hne a rfl e.symm
theorem below_row (hb : Below B w wr) (hB : B ≤ wr.heap.size) (hg : (wr.alloc o).grownBy w1 (ao.map (·.block))) (ho : Own wr B E .u8 ao c l) : Below B w w1 := by
  refine (hb.alloc hB o).grown hg (by simp; omega) ?_
  intro g hg'
  cases ao with
  | none => cases hg'
  | some a => simp at hg'; subst hg'; exact (ho.lt a rfl).1
/-- The new slice value stored back behind the pointer. -/
theorem Wr.put {v : Value} {l' : List Int} {n : Nat} (hT : E ≠ T) (hb : w1.heap[h]? = some (.cells #[v] T (0, 0))) (hB : B ≤ h) (ho : Own w1 B E .u8 ao' c' l') (hn : n = l'.length) :
    Wr (w1.setCell ⟨h, 0, none⟩ (.slice ao' n c')) B h T E l' := by
  subst hn
  refine ⟨ao', c', one_setCell hb, hB, ?_⟩
  have hne := own_ne hT hb ho
  exact ho.keep fun a ha _ => Below.heap_setCell _ _ _ _ (hne a ha)
end

theorem isNum_t (x : Int) (w : World) (h : -1000000 ≤ x ∧ x ≤ 1000000) : Calls Try.prog 65 #[.int .i64 x] w fun e w' => e = .returned (.bool true) ∧ w = w' := by
  go_enter Try.func65, Try.ntmps65
  go_wp2
  go_ret
  exact ⟨rfl, rfl⟩
theorem isNum_f (x : Int) (w : World) (h : ¬ (-1000000 ≤ x ∧ x ≤ 1000000)) : Calls Try.prog 65 #[.int .i64 x] w fun e w' => e = .returned (.bool false) ∧ w = w' := by
  by_cases h1 : -1000000 ≤ x
  · have h2 : ¬ x ≤ 1000000 := by omega
    go_enter Try.func65, Try.ntmps65
    go_wp2
    go_ret
    exact ⟨rfl, rfl⟩
  · have h3 : decide (-1000000 ≤ x) = false := by simp; omega
    go_enter Try.func65, Try.ntmps65
    go_wp2
    go_ret
    exact ⟨rfl, rfl⟩
theorem foldNum_any (x : Int) (w : World) (h : -1000000 ≤ x ∧ x ≤ 1000000) : Calls Try.prog 78 #[.int .i64 x] w fun e w' => e = .returned (.int .i64 (fold x)) ∧ w = w' := by
  rcases Int.lt_or_le x 0 with h0 | h0
  · have hu : (fold x : Int) = -2 * x - 1 := by unfold fold; rw [if_neg (by omega)]; omega
    have HU := Lib.hid hu; clear hu
    go_enter Try.func78, Try.ntmps78
    go_wp2
    go_ret
    exact ⟨ret_int HU.out.symm, rfl⟩
  · have hu : (fold x : Int) = 2 * x := by unfold fold; rw [if_pos (by omega)]; omega
    have HU := Lib.hid hu; clear hu
    go_enter Try.func78, Try.ntmps78
    go_wp2
    go_ret
    exact ⟨ret_int HU.out.symm, rfl⟩

def AddRel (w wr : World) (B h : Nat) (T E : TypeId) (l : List Int) (u0 : Nat) (q : Value) : Prop :=
  ∃ (acc : List Int) (u : Nat), q = .int .i64 u ∧ u ≤ 2000000 ∧ Wr wr B h T E (l ++ acc) ∧ acc ++ enc u = enc u0 ∧ Below B w wr ∧ B ≤ wr.heap.size
def Added (w : World) (B h : Nat) (T E : TypeId) (l : List Int) (e : Ending) (w' : World) : Prop := e = .returned (.tuple #[]) ∧ Wr w' B h T E l ∧ Below B w w'

set_option maxRecDepth 100000 in
set_option maxHeartbeats 1600000 in
theorem addNum_any (B h : Nat) (l : List Int) (x : Int) (w : World) (hx : -1000000 ≤ x ∧ x ≤ 1000000) (hw : Wr w B h 86 5 l) (hB : B ≤ w.heap.size) (hl : l.length ≤ 1000000000) :
    Calls Try.prog 66 #[.pointer (some ⟨h, 0, none⟩), .int .i64 x] w (Added w B h 86 5 (l ++ enc (fold x))) := by
  have hfold := fold_le hx
  obtain ⟨u0, hu0⟩ : ∃ u0 : Nat, u0 = fold x := ⟨_, rfl⟩
  have c1 := foldNum_any x w hx
  rw [← hu0] at hfold c1 ⊢
  have C1 := Lib.hid c1; have HX := Lib.hid hx; have HF := Lib.hid hfold; have HW := Lib.hid hw; clear c1 hx hu0 hfold hw
  go_enter Try.func66, Try.ntmps66
  go_wp2_with (go_at_call 78; refine C1.out.mono ?_; rintro e w' ⟨rfl, rfl⟩)
  clear C1
  go_loopw [4] (fun q wr => AddRel w wr B h 86 5 l u0 q) (fun q _ => (intOf q).toNat)
  case atStart => exact ⟨[], u0, rfl, HF.out, by rw [List.append_nil]; exact HW.out, rfl, Below.refl _ _, hB⟩
  case round =>
    obtain ⟨acc, u, rfl, hu, hw, he, hb, hBr⟩ := hrel
    have hal := acc_len he HF.out
    obtain ⟨l2, hl2⟩ : ∃ l2, l2 = l ++ acc := ⟨_, rfl⟩
    have hll : l2.length ≤ 1000000003 := by rw [hl2]; simp; omega
    rw [← hl2] at hw
    obtain ⟨ao, c, hblk, hBh, ho⟩ := hw
    have hcell := cell_of_one hblk
    have hne := own_ne (by decide) hblk ho
    have HBLK := Lib.hid hblk; have HE := Lib.hid he; have HO := Lib.hid ho; have HB := Lib.hid hb; have HL2 := Lib.hid hl2; have HNE := Lib.hid hne
    have hu' : (u : Int) ≤ 2000000 := by omega
    have HU := Lib.hid hu; clear hu he ho hb hl2 hblk hne
    by_cases h128 : 128 ≤ u
    · have h128' : (128 : Int) ≤ u := by omega
      go_wp2_with (at_builtin; refine wpList_append1 _ rfl (.tmp 12) (.tmp 17) 86 rfl B 5 .u8 1 Try.underlying86 Try.infoU8 ao c l2.length l2 rfl rfl (HO.out.alloc _) wr.heap.size 1 ((u : Int) % 128 + 128) rfl (cell_one _ _ _) (by unfold maxLen; omega) (by omega) (by simp; omega) ?_; intro ao' c' w1 ho' hg'; have hb1 := grown_block HBLK.out hg' (row_ne HNE.out); have hc1 := cell_of_one hb1; have hf1 := free_of_one hb1; have HB1 := Lib.hid hb1; have HO' := Lib.hid ho'; have HG' := Lib.hid hg'; clear hb1 ho' hg')
      go_roundw
      case rel =>
        have hb2 := below_row HB.out hBr HG'.out HO.out
        refine ⟨acc ++ [(u : Int) % 128 + 128], u / 128, by go_num, by omega, ?_, ?_, hb2.setCell hBh _, ?_⟩
        · rw [← List.append_assoc, ← HL2.out]; exact Wr.put (by decide) HB1.out hBh HO'.out (by simp)
        · rw [List.append_assoc, ← HE.out, enc_ge h128, Int.add_comm]; rfl
        · have := HG'.out.size; simp at this ⊢; omega
      case measure => simp [intOf]; omega
    · have h128' : (u : Int) < 128 := by omega
      go_wp2_with (at_builtin; refine wpList_append1 _ rfl (.tmp 25) (.tmp 28) 86 rfl B 5 .u8 1 Try.underlying86 Try.infoU8 ao c l2.length l2 rfl rfl (HO.out.alloc _) wr.heap.size 1 (u : Int) rfl (cell_one _ _ _) (by unfold maxLen; omega) (by omega) (by simp; omega) ?_; intro ao' c' w1 ho' hg'; have hb1 := grown_block HBLK.out hg' (row_ne HNE.out); have hc1 := cell_of_one hb1; have hf1 := free_of_one hb1; have HB1 := Lib.hid hb1; have HO' := Lib.hid ho'; have HG' := Lib.hid hg'; clear hb1 ho' hg')
      go_end0
      refine ⟨rfl, ?_, (below_row HB.out hBr HG'.out HO.out).setCell hBh _⟩
      rw [← HE.out, enc_lt (by omega), ← List.append_assoc, ← HL2.out]
      exact Wr.put (by decide) HB1.out hBh HO'.out (by simp)

theorem Wr.new (w : World) (T E : TypeId) : Wr (w.alloc (Obj.cells #[.slice none 0 0] T)) w.heap.size w.heap.size T E [] :=
  ⟨none, 0, heap_alloc_new w _, Nat.le_refl _, Own.none_⟩
theorem below_after {w w' : World} {o : Obj} (h : Below w.heap.size (w.alloc o) w') : Below w.heap.size w w' := ((Below.refl _ _).alloc (Nat.le_refl _) o).trans h
end Go.Proofs.Ytcegekkhlfpgfaa
