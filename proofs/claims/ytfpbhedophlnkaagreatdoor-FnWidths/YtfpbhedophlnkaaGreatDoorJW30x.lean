/-
  errors.As at the program's own error type, walked; and isMissing: true for an error of that type, false for nil. The contracts of the program's cut, unfoldNum and isMissing. The contract of the program's numAt: the number that stands there and the place behind it; else its error. For every slice of bytes and every place.
-/
import Derived.Test.YtfpbhedophlnkaaGreatDoorJW29x
import Derived.WalkSpells
import Derived.WalkLawsBesides
namespace Go.Proofs.YtfpbhedophlnkaaGreatDoor
open Go.RowKit Go.Extern.Stop Go.Stop Go.Extern
set_option linter.unusedSimpArgs false
set_option linter.unusedVariables false

theorem isAggS (w : World) : (isAgg 200).run Tryz.prog w = .ok true w := by kernel_rfl
theorem loadS (b : Nat) (kx ky : Int) (W : World) (h0 : W.cell? ⟨b, 0, none⟩ = some (.int .i64 kx)) (h1 : W.cell? ⟨b, 1, none⟩ = some (.int .i64 ky)) :
    (loadVar 200 ⟨b, 0, none⟩).run Tryz.prog W = .ok (.agg #[.int .i64 kx, .int .i64 ky]) W := by
  unfold loadVar
  simp only [Sem.run_bind, isAggS, Result.andThen]
  simp [loadCells, loadCellsFrom, Addr.add, h0, h1, Result.andThen]
theorem storeS (b : Nat) (kx ky : Int) (ox oy : Value) (W : World) (h0 : W.cell? ⟨b, 0, none⟩ = some ox) (h1 : (W.setCell ⟨b, 0, none⟩ (.int .i64 kx)).cell? ⟨b, 1, none⟩ = some oy) (f0 : W.frozen? ⟨b, 0, none⟩ = false) (f1 : (W.setCell ⟨b, 0, none⟩ (.int .i64 kx)).frozen? ⟨b, 1, none⟩ = false) :
    (storeVar 200 ⟨b, 0, none⟩ (.agg #[.int .i64 kx, .int .i64 ky])).run Tryz.prog W = .ok () ((W.setCell ⟨b, 0, none⟩ (.int .i64 kx)).setCell ⟨b, 1, none⟩ (.int .i64 ky)) := by
  unfold storeVar
  simp only [Sem.run_bind, sizeS, Result.andThen, Value.cells]
  have e1 := run_store Tryz.prog W ⟨b, 0, none⟩ (.int .i64 kx) .plain rfl
  have e2 := run_store Tryz.prog (W.setCell ⟨b, 0, none⟩ (.int .i64 kx)) ⟨b, 1, none⟩ (.int .i64 ky) .plain rfl
  rw [h0] at e1
  rw [h1] at e2
  simp [f0] at e1
  simp only [f1] at e2
  simp [storeCells, Addr.add, e1, e2, Result.andThen]
theorem setS (b1 b2 : Nat) (kx ky : Int) (ox oy : Value) (W : World) (hb0 : W.cell? ⟨b2, 0, none⟩ = some (.int .i64 kx)) (hb1 : W.cell? ⟨b2, 1, none⟩ = some (.int .i64 ky))
    (ht0 : W.cell? ⟨b1, 0, none⟩ = some ox) (ht1 : (W.setCell ⟨b1, 0, none⟩ (.int .i64 kx)).cell? ⟨b1, 1, none⟩ = some oy) (hf0 : W.frozen? ⟨b1, 0, none⟩ = false) (hf1 : (W.setCell ⟨b1, 0, none⟩ (.int .i64 kx)).frozen? ⟨b1, 1, none⟩ = false) :
    (ReflectliteValue.set #[.agg #[.pointer (some ⟨9, 200, none⟩), .pointer (some ⟨b1, 0, none⟩), .int .u64 409], .agg #[.pointer (some ⟨9, 200, none⟩), .pointer (some ⟨b2, 0, none⟩), .int .u64 153]]).run Tryz.prog W
      = .ok (.tuple #[]) ((W.setCell ⟨b1, 0, none⟩ (.int .i64 kx)).setCell ⟨b1, 1, none⟩ (.int .i64 ky)) := by
  obtain ⟨s1, s2, r, e⟩ := set_form (.agg #[.pointer (some ⟨9, 200, none⟩), .pointer (some ⟨b1, 0, none⟩), .int .u64 409]) (.agg #[.pointer (some ⟨9, 200, none⟩), .pointer (some ⟨b2, 0, none⟩), .int .u64 153])
  rw [e]
  simp only [Sem.run_bind, partsSa, partsS, Result.andThen]
  have el := loadS b2 kx ky W hb0 hb1
  have es := storeS b1 kx ky ox oy W ht0 ht1 hf0 hf1
  simp [ReflectliteValue.flagAddr, el, es, directS, Result.andThen]

def W1 (w : World) (t : Addr) : World := w.alloc (.cells #[.pointer (some t)] 250)
def W2 (w : World) (t : Addr) : World := (W1 w t).alloc (.cells #[.pointer (some ⟨9, 250, none⟩), .pointer (some ⟨w.heap.size, 0, none⟩), .int .u64 150] 288)
def W3 (w : World) (t : Addr) : World := (W2 w t).alloc (.cells #[.pointer (some ⟨9, 250, none⟩), .pointer (some ⟨w.heap.size, 0, none⟩), .int .u64 150] 288)
def W4 (w : World) (t : Addr) (kx ky : Int) : World := (W3 w t).alloc (.cells #[.int .i64 kx, .int .i64 ky] 200)

set_option maxRecDepth 100000 in
set_option maxHeartbeats 4000000 in
theorem as_hit (tb : Nat) (kx ky : Int) (ox oy : Value) (w : World) (hg : w.cell? ⟨1, 0, none⟩ = some (.iface 327 (.agg #[.pointer (some ⟨9, 114, none⟩)])))
    (ht0 : w.cell? ⟨tb, 0, none⟩ = some ox) (ht1 : w.cell? ⟨tb, 1, none⟩ = some oy) (hf0 : w.frozen? ⟨tb, 0, none⟩ = false) (hf1 : w.frozen? ⟨tb, 1, none⟩ = false) :
    Calls Tryz.prog 235 #[.iface 200 (.agg #[.int .i64 kx, .int .i64 ky]), .iface 250 (.pointer (some ⟨tb, 0, none⟩))] w
      fun ev w' => ev = .returned (.bool true) ∧ w' = ((W4 w ⟨tb, 0, none⟩ kx ky).setCell ⟨tb, 0, none⟩ (.int .i64 kx)).setCell ⟨tb, 1, none⟩ (.int .i64 ky) := by
  unfold W4 W3 W2 W1
  have h6 := @run_callFunc_extern Tryz.prog 281 _ (fun args => ReflectliteValue.unpack (args.getD 0 (.tuple #[]))) Tryz.func281 (by kernel_rfl) (by kernel_rfl) (by kernel_rfl) (by kernel_rfl)
  have h7 := @run_callFunc_extern Tryz.prog 282 _ (ReflectliteValue.methodAny (ReflectliteValue.valueError "reflectlite.Value.Type" 0) (fun t _ _ _ => ReflectliteType.toType t)) Tryz.func282 (by kernel_rfl) (by kernel_rfl) (by kernel_rfl) (by kernel_rfl)
  have h8 := @run_callFunc_extern Tryz.prog 283 _ (ReflectliteValue.method (ReflectliteValue.valueError "reflectlite.Value.IsNil" 0) ReflectliteValue.isNil) Tryz.func283 (by kernel_rfl) (by kernel_rfl) (by kernel_rfl) (by kernel_rfl)
  have h27 := @run_callFunc_extern Tryz.prog 349 _ (ReflectliteType.abiMethod fun t => do pure (.int .u8 (← Rtype.kind t))) Tryz.func349 (by kernel_rfl) (by kernel_rfl) (by kernel_rfl) (by kernel_rfl)
  have h37 := @run_callFunc_extern Tryz.prog 384 _ (ReflectliteType.method ReflectliteType.elem) Tryz.func384 (by kernel_rfl) (by kernel_rfl) (by kernel_rfl) (by kernel_rfl)
  have h38 := @run_callFunc_extern Tryz.prog 385 _ (ReflectliteType.relation "Implements" ReflectliteType.implements_) Tryz.func385 (by kernel_rfl) (by kernel_rfl) (by kernel_rfl) (by kernel_rfl)
  have h10 := @run_callFunc_extern Tryz.prog 316 _ ReflectliteType.typeOf Tryz.func316 (by kernel_rfl) (by kernel_rfl) (by kernel_rfl) (by kernel_rfl)
  have h35 := @run_callFunc_extern Tryz.prog 382 _ (ReflectliteType.relation "AssignableTo" ReflectliteType.assignableTo) Tryz.func382 (by kernel_rfl) (by kernel_rfl) (by kernel_rfl) (by kernel_rfl)
  have h11 := @run_callFunc_extern Tryz.prog 317 _ (ReflectliteValue.method (ReflectliteValue.valueError "reflectlite.Value.Elem" 0) ReflectliteValue.elem) Tryz.func317 (by kernel_rfl) (by kernel_rfl) (by kernel_rfl) (by kernel_rfl)
  have h12 := @run_callFunc_extern Tryz.prog 318 _ ReflectliteValue.set Tryz.func318 (by kernel_rfl) (by kernel_rfl) (by kernel_rfl) (by kernel_rfl)
  have tO := typeOfS
  have mA := methodAssignableTo
  have aS := assignableS
  have vS := valueOfS
  have f6 := valueOfP
  have f7 := typeP
  have mK := methodKind
  have mE := methodElem
  have mI := methodImplements
  have kP := kindP
  have kS := kindS
  have eP := elemP
  have iS := implementsS
  have hlt : 1 < w.heap.size := World.block_lt_of_cell? w ⟨1, 0, none⟩ hg
  have htl : tb < w.heap.size := World.block_lt_of_cell? w ⟨tb, 0, none⟩ ht0
  obtain ⟨t, ht⟩ : ∃ t : Addr, t = ⟨tb, 0, none⟩ := ⟨_, rfl⟩
  have n8 := isNilP ⟨w.heap.size, 0, none⟩ ⟨tb, 0, none⟩ ((w.alloc (.cells #[.pointer (some ⟨tb, 0, none⟩)] 250)).alloc (.cells #[.pointer (some ⟨9, 250, none⟩), .pointer (some ⟨w.heap.size, 0, none⟩), .int .u64 150] 288)) (by simp)
  have hg2 : ((w.alloc (.cells #[.pointer (some ⟨tb, 0, none⟩)] 250)).alloc (.cells #[.pointer (some ⟨9, 250, none⟩), .pointer (some ⟨w.heap.size, 0, none⟩), .int .u64 150] 288)).cell? ⟨1, 0, none⟩ = some (.iface 327 (.agg #[.pointer (some ⟨9, 114, none⟩)])) := by
    rw [World.cell?_alloc_lt _ _ ⟨1, 0, none⟩ (Nat.lt_of_lt_of_le hlt (by simp)), World.cell?_alloc_lt _ _ ⟨1, 0, none⟩ hlt]; exact hg
  have el := elemVP ⟨w.heap.size, 0, none⟩ ⟨tb, 0, none⟩ (((w.alloc (.cells #[.pointer (some ⟨tb, 0, none⟩)] 250)).alloc (.cells #[.pointer (some ⟨9, 250, none⟩), .pointer (some ⟨w.heap.size, 0, none⟩), .int .u64 150] 288)).alloc (.cells #[.pointer (some ⟨9, 250, none⟩), .pointer (some ⟨w.heap.size, 0, none⟩), .int .u64 150] 288)) (by rw [World.cell?_alloc_lt _ _ ⟨w.heap.size, 0, none⟩ (by simp; omega)]; simp)
  have st := setS tb (w.heap.size + 1 + 1 + 1) kx ky ox oy ((((w.alloc (.cells #[.pointer (some ⟨tb, 0, none⟩)] 250)).alloc (.cells #[.pointer (some ⟨9, 250, none⟩), .pointer (some ⟨w.heap.size, 0, none⟩), .int .u64 150] 288)).alloc (.cells #[.pointer (some ⟨9, 250, none⟩), .pointer (some ⟨w.heap.size, 0, none⟩), .int .u64 150] 288)).alloc (.cells #[.int .i64 kx, .int .i64 ky] 200))
    (by rw [World.cell?_alloc_at _ _ _ _ (by simp)]; rfl)
    (by rw [World.cell?_alloc_at _ _ _ _ (by simp)]; rfl)
    (by rw [World.cell?_alloc_lt _ _ ⟨tb, 0, none⟩ (by simp; omega), World.cell?_alloc_lt _ _ ⟨tb, 0, none⟩ (by simp; omega), World.cell?_alloc_lt _ _ ⟨tb, 0, none⟩ (by simp; omega), World.cell?_alloc_lt _ _ ⟨tb, 0, none⟩ htl]; exact ht0)
    (by rw [World.cell?_setCell_other _ _ _ _ (by simp), World.cell?_alloc_lt _ _ ⟨tb, 1, none⟩ (by simp; omega), World.cell?_alloc_lt _ _ ⟨tb, 1, none⟩ (by simp; omega), World.cell?_alloc_lt _ _ ⟨tb, 1, none⟩ (by simp; omega), World.cell?_alloc_lt _ _ ⟨tb, 1, none⟩ htl]; exact ht1)
    (by rw [World.frozen?_alloc_old _ _ ⟨tb, 0, none⟩ (by simp; omega), World.frozen?_alloc_old _ _ ⟨tb, 0, none⟩ (by simp; omega), World.frozen?_alloc_old _ _ ⟨tb, 0, none⟩ (by simp; omega), World.frozen?_alloc_old _ _ ⟨tb, 0, none⟩ (Nat.ne_of_lt htl)]; exact hf0)
    (by rw [World.frozen?_setCell, World.frozen?_alloc_old _ _ ⟨tb, 1, none⟩ (by simp; omega), World.frozen?_alloc_old _ _ ⟨tb, 1, none⟩ (by simp; omega), World.frozen?_alloc_old _ _ ⟨tb, 1, none⟩ (by simp; omega), World.frozen?_alloc_old _ _ ⟨tb, 1, none⟩ (Nat.ne_of_lt htl)]; exact hf1)
  clear ht t
  go_enter Tryz.func235, Tryz.ntmps235
  go_wp2
  refine wp_loop_rounds 1 ?_
  rw [rounds_succ]
  go_wp2
  go_ret
  exact ⟨rfl, rfl⟩
end Go.Proofs.YtfpbhedophlnkaaGreatDoor
namespace Go.Proofs.YtfpbhedophlnkaaGreatDoor
open Go.RowKit
set_option linter.unusedSimpArgs false
set_option linter.unusedVariables false

def CutOk (w : World) (l : List Int) (n : Nat) (e : Ending) (w' : World) : Prop :=
  ∃ ao, e = .returned (.tuple #[.slice ao n n, .bool true]) ∧ Rd w .u8 ao l ∧ l.length = n ∧ (ao = none → n = 0) ∧ w = w'

theorem ret_cut {ao : Option Addr} {n m : Nat} {b : Bool} (h : n = m) : Ending.returned (.tuple #[.slice ao n n, .bool b]) = .returned (.tuple #[.slice ao m m, .bool b]) := by rw [h]
set_option maxRecDepth 100000 in
theorem cut_no (b : Option Addr) (d n : Nat) (x y : Int) (w : World) (hn : n ≤ maxLen) (h : ¬ (0 ≤ x ∧ 0 ≤ y ∧ x ≤ n ∧ y ≤ n - x)) (hy : -9223372036854775808 ≤ x) (hy : x ≤ 9223372036854775807) :
    Calls Tryz.prog 233 #[.slice b n d, .int .i64 x, .int .i64 y] w fun e w' => e = .returned (.tuple #[.slice none 0 0, .bool false]) ∧ w = w' := by
  unfold maxLen at hn
  by_cases h1 : x < 0
  · have hb : decide (x < 0) = true := by simpa using h1
    go_enter Tryz.func233, Tryz.ntmps233
    go_wp2
    go_ret2
    exact ⟨rfl, rfl⟩
  have hb1 : decide (x < 0) = false := by simpa using h1
  by_cases h2 : y < 0
  · have hb : decide (y < 0) = true := by simpa using h2
    go_enter Tryz.func233, Tryz.ntmps233
    go_wp2
    go_ret2
    exact ⟨rfl, rfl⟩
  have hb2 : decide (y < 0) = false := by simpa using h2
  by_cases h3 : (n : Int) < x
  · have hb : decide ((n : Int) < x) = true := by simpa using h3
    go_enter Tryz.func233, Tryz.ntmps233
    go_wp2
    go_ret2
    exact ⟨rfl, rfl⟩
  have hb3 : decide ((n : Int) < x) = false := by simpa using h3
  have h4 : (n : Int) - x < y := by omega
  have hb4 : decide ((n : Int) - x < y) = true := by simpa using h4
  clear h
  go_enter Tryz.func233, Tryz.ntmps233
  go_wp2
  go_ret2
  exact ⟨rfl, rfl⟩

set_option maxRecDepth 100000 in
theorem cut_yes (b : Option Addr) (d : Nat) (l : List Int) (x y : Nat) (w : World) (hn : l.length ≤ maxLen) (hd : l.length ≤ d) (hd2 : d ≤ maxLen) (hr : Rd w .u8 b l) (h : x + y ≤ l.length) :
    Calls Tryz.prog 233 #[.slice b l.length d, .int .i64 x, .int .i64 y] w (CutOk w ((l.drop x).take y) y) := by
  unfold maxLen at hn hd2
  have hb1 : decide ((x : Int) < 0) = false := by simp
  have hb2 : decide ((y : Int) < 0) = false := by simp
  have hb3 : decide (l.length < x) = false := by simp; omega
  have hb4 : decide ((l.length : Int) - x < y) = false := by simp; omega
  by_cases hy0 : y = 0
  · subst hy0
    rw [List.take_zero]
    have HX : Hid (b = none → 0 = 0) := fun _ => rfl
    rcases hr with rfl | ⟨b1, off, rfl, hc⟩
    · obtain rfl : x = 0 := by simpa using h
      cases b with
      | none =>
        go_enter Tryz.func233, Tryz.ntmps233
        go_wp2
        go_ret2
        exact ⟨_, rfl, Rd.nil, rfl, fun _ => rfl, rfl⟩
      | some a =>
        go_enter Tryz.func233, Tryz.ntmps233
        go_wp2
        go_ret2
        exact ⟨_, rfl, Rd.nil, rfl, fun _ => rfl, rfl⟩
    · clear hc
      go_enter Tryz.func233, Tryz.ntmps233
      go_wp2
      all_goals
        go_ret2
        exact ⟨_, rfl, Rd.nil, rfl, fun _ => rfl, rfl⟩
  · rcases hr with rfl | ⟨b1, off, rfl, hc⟩
    · exact absurd h (by simp; omega)
    · have RD : Hid (Rd w .u8 (some ⟨b1, off + x, none⟩) ((l.drop x).take y)) := by
        refine .inr ⟨b1, off + x, rfl, fun i hi => ?_⟩
        have hi' : i < y := by simp at hi; omega
        have h1 := hc (x + i) (by omega)
        rw [Nat.add_assoc, h1, List.getD_eq_getElem?_getD, List.getD_eq_getElem?_getD, List.getElem?_take, if_pos hi', List.getElem?_drop]
      have HL : Hid (((l.drop x).take y).length = y) := by
        show _ = y
        simp; omega
      obtain ⟨m, hm⟩ : ∃ m, m = (l.drop x).take y := ⟨_, rfl⟩
      rw [← hm] at RD HL ⊢
      clear hc hm
      go_enter Tryz.func233, Tryz.ntmps233
      go_wp2
      go_ret2
      exact ⟨_, ret_cut (by omega), RD.out, HL.out, (fun h => by cases h), rfl⟩

theorem unfoldNum_any (u : Int) (w : World) (h0 : 0 ≤ u) (h1 : u ≤ 2000000) : Calls Tryz.prog 280 #[.int .i64 u] w fun e w' => e = .returned (.int .i64 (unf u)) ∧ w = w' := by
  rcases (show u % 2 = 0 ∨ u % 2 = 1 by omega) with hp | hp
  · have HY := Lib.hid (unf_even hp)
    have hpb : (u % 2 == 0) = true := by rw [hp]; rfl
    clear hp
    go_enter Tryz.func280, Tryz.ntmps280
    go_wp2
    go_ret
    exact ⟨ret_int HY.out, rfl⟩
  · have HY := Lib.hid (unf_odd h0 (by omega) hp)
    have hpb : (u % 2 == 0) = false := by rw [hp]; rfl
    clear hp
    go_enter Tryz.func280, Tryz.ntmps280
    go_wp2
    go_ret
    exact ⟨ret_int HY.out, rfl⟩

/-- What the program's start has laid: the type that package errors asks for. -/
def ErrT (w : World) : Prop := w.cell? ⟨1, 0, none⟩ = some (.iface 327 (.agg #[.pointer (some ⟨9, 114, none⟩)]))
theorem ErrT.lt {w : World} (h : ErrT w) : 1 < w.heap.size := World.block_lt_of_cell? w ⟨1, 0, none⟩ h
theorem ErrT.pos {w : World} (h : ErrT w) : 0 < w.heap.size := Nat.lt_of_le_of_lt (Nat.zero_le _) h.lt
theorem ErrT.below {w w' : World} (h : ErrT w) (hb : Below w.heap.size w w') : ErrT w' := (hb.cell (p := ⟨1, 0, none⟩) h.lt).trans h
theorem ErrT.grown {w w' : World} {ao : Option Addr} {B : Nat} (h : ErrT w) (hB : 1 < B) (hg : w.grownBy w' (ao.map (·.block))) (hr : ∀ x, ao = some x → B ≤ x.block) : ErrT w' :=
  (World.cell?_of_block (a := ⟨1, 0, none⟩) (hg.block 1 h.lt (by
    cases ao with
    | none => simp
    | some x => simp; have := hr x rfl; omega))).trans h

theorem isMissing_nil (w : World) : Calls Tryz.prog 177 #[.nilIface] w fun e w' => e = .returned (.bool false) ∧ Below w.heap.size w w' := by
  go_enter Tryz.func177, Tryz.ntmps177
  go_wp2_with (go_at_call 235; refine (as_nil _ _).mono ?_; rintro e w' ⟨rfl, rfl⟩)
  go_ret
  exact ⟨rfl, (Below.refl _ _).alloc (Nat.le_refl _) _⟩

set_option maxRecDepth 100000 in
theorem isMissing_hit (kx ky : Int) (w : World) (hg : ErrT w) : Calls Tryz.prog 177 #[.iface 200 (.agg #[.int .i64 kx, .int .i64 ky])] w fun e w' => e = .returned (.bool true) ∧ Below w.heap.size w w' := by
  have C := Lib.hid (as_hit w.heap.size kx ky (.int .i64 0) (.int .i64 0) (w.alloc (.cells #[.int .i64 0, .int .i64 0] 200))
    (by rw [World.cell?_alloc_lt _ _ ⟨1, 0, none⟩ hg.lt]; exact hg) (by rw [World.cell?_alloc_at _ _ _ _ rfl]; rfl) (by rw [World.cell?_alloc_at _ _ _ _ rfl]; rfl) (by simp) (by simp))
  clear hg
  go_enter Tryz.func177, Tryz.ntmps177
  go_wp2_with fail
  refine C.out.mono ?_
  rintro e w1 ⟨rfl, hw⟩
  have HW := Lib.hid hw; clear hw
  go_wp2
  go_ret
  refine ⟨rfl, ?_⟩
  rw [HW.out]
  unfold W4 W3 W2 W1
  refine Below.setCell (p := ⟨w.heap.size, 1, none⟩) (Below.setCell (p := ⟨w.heap.size, 0, none⟩) ?_ (Nat.le_refl _) _) (Nat.le_refl _) _
  refine Below.alloc (Below.alloc (Below.alloc (Below.alloc ((Below.refl _ _).alloc (Nat.le_refl _) _) ?_ _) ?_ _) ?_ _) ?_ _ <;> simp <;> omega
end Go.Proofs.YtfpbhedophlnkaaGreatDoor
namespace Go.Proofs.YtfpbhedophlnkaaGreatDoor
open Go.RowKit
set_option linter.unusedSimpArgs false
set_option linter.unusedVariables false

/-- What numAt answers: r is the number and the place behind it, (0, -1) where there is none. -/
def NumPost (r : Int × Int) (at_ : Int) (w : World) (e : Ending) (w' : World) : Prop :=
  ((r.2 = -1 ∧ e = .returned (.tuple #[.int .i64 0, .int .i64 0, .iface 200 (.agg #[.int .i64 0, .int .i64 at_])])) ∨ (r.2 ≠ -1 ∧ e = .returned (.tuple #[.int .i64 r.1, .int .i64 r.2, .nilIface]))) ∧ w = w'
theorem numPost_no {r : Int × Int} {at_ : Int} {w : World} (h : r = (0, -1)) : NumPost r at_ w (.returned (.tuple #[.int .i64 0, .int .i64 0, .iface 200 (.agg #[.int .i64 0, .int .i64 at_])])) w := by rw [h]; exact ⟨.inl ⟨rfl, rfl⟩, rfl⟩
theorem numPost_yes {r : Int × Int} {at_ x y : Int} {w : World} (h : r = (x, y)) (hy : y ≠ -1) : NumPost r at_ w (.returned (.tuple #[.int .i64 x, .int .i64 y, .nilIface])) w := by rw [h]; exact ⟨.inr ⟨hy, rfl⟩, rfl⟩
theorem cut_cell {w : World} {ao : Option Addr} {m : List Int} {n k : Nat} {v : Int} (hr : Rd w .u8 ao m) (hl : m.length = n) (hv : m[k]? = some v) : ∃ b off, ao = some ⟨b, off, none⟩ ∧ w.cell? ⟨b, off + k, none⟩ = some (.int .u8 v) := by
  have hk : k < m.length := (List.getElem?_eq_some_iff.1 hv).1
  rcases hr with rfl | ⟨b, off, rfl, hc⟩
  · simp at hk
  · refine ⟨b, off, rfl, ?_⟩
    rw [hc k hk, List.getD_eq_getElem?_getD, hv]; rfl
theorem cut_yes' (b : Option Addr) (d : Nat) (l : List Int) (x y : Int) (p q : Nat) (hx : x = p) (hy : y = q) (w : World) (hn : l.length ≤ maxLen) (hd : l.length ≤ d) (hd2 : d ≤ maxLen) (hr : Rd w .u8 b l) (h : p + q ≤ l.length) :
    Calls Tryz.prog 233 #[.slice b l.length d, .int .i64 x, .int .i64 y] w (CutOk w ((l.drop p).take q) q) := by
  subst hx; subst hy; exact cut_yes b d l p q w hn hd hd2 hr h

set_option maxRecDepth 100000 in
set_option maxHeartbeats 4000000 in
theorem numAt_any (b : Option Addr) (d : Nat) (l : List Int) (at_ : Int) (w : World) (h : Rd w .u8 b l) (hby : By l) (hl : l.length ≤ maxLen) (hd : l.length ≤ d) (hd2 : d ≤ maxLen) (ha : at_ ≤ 9223372036854775807) (ha' : -9223372036854775808 ≤ at_) :
    Calls Tryz.prog 234 #[.slice b l.length d, .int .i64 at_] w (NumPost (takeN l at_) at_ w) := by
  have HL := Lib.hid hl; have HD := Lib.hid hd; have HD2 := Lib.hid hd2; have H := Lib.hid h; have HBY := Lib.hid hby
  unfold maxLen at hl
  clear h hby hd hd2
  by_cases h0 : at_ < 0
  · have e : takeN l at_ = (0, -1) := by unfold takeN; rw [if_pos h0]
    have HE := Lib.hid e; clear e
    obtain ⟨r, hr⟩ : ∃ r, r = takeN l at_ := ⟨_, rfl⟩
    rw [← hr] at HE ⊢
    clear hr
    go_enter Tryz.func234, Tryz.ntmps234
    go_wp2
    refine wp_loop_rounds 1 ?_; rw [rounds_succ]; go_wp2_with fail
    refine (cut_no _ _ _ _ _ _ HL.out (by omega) (by omega) (by omega)).mono ?_
    rintro e w' ⟨rfl, rfl⟩
    go_wp2
    go_ret3
    exact numPost_no HE.out
  rw [show takeN l at_ = goN l at_.toNat 3 0 0 by unfold takeN; rw [if_neg h0]]
  obtain ⟨a, rfl⟩ : ∃ a : Nat, at_ = a := ⟨at_.toNat, by omega⟩
  rw [Int.toNat_natCast]
  obtain ⟨r, hr⟩ : ∃ r, r = goN l a 3 0 0 := ⟨_, rfl⟩
  rw [← hr]
  have HR := Lib.hid hr; clear hr h0 ha'
  go_enter Tryz.func234, Tryz.ntmps234
  go_wp2
  go_loop [7, 12] (fun u i => TRel l a r 3 u i) (fun _ i => 3 - (intOf i).toNat)
  case atStart => exact ⟨0, 0, 0, rfl, rfl, rfl, by omega, by omega, by decide, HR.out.symm⟩
  case round =>
    obtain ⟨k, ki, n, rfl, rfl, hki, hk, hn0, hn1, hg⟩ := hrel
    have HG := Lib.hid hg; have HN := Lib.hid hn1; clear hg hn1
    by_cases hk3 : k = 3
    · subst hk3
      obtain rfl : ki = 3 := by rw [hki]; rfl
      clear hki
      have e : r = (0, -1) := by rw [← HG.out]; rfl
      have HE := Lib.hid e; clear e
      go_wp2
      go_ret3
      exact numPost_no HE.out
    · rcases (show k = 0 ∨ k = 1 ∨ k = 2 by omega) with rfl | rfl | rfl
      · obtain rfl : ki = 0 := by rw [hki]; rfl
        have pw : (128 : Int) ^ 0 = 1 := by decide
        have PW := Lib.hid pw
        have hn1 : n < 1 := by have := HN.out; rw [pw] at this; exact this
        clear hki hk hk3 pw HN
        obtain rfl : n = 0 := by omega
        by_cases hin : a + 0 < l.length
        · have hlv := List.getElem?_eq_getElem hin
          have vb := HBY.out _ (List.getElem_mem hin)
          generalize l[a + 0] = v at hlv vb
          have HLV := Lib.hid hlv
          have HV : Hid (((l.drop a).take 1)[0]? = some v) := by
            show _ = some v
            rw [List.getElem?_take, if_pos (by omega), List.getElem?_drop]; exact hlv
          clear hlv
          by_cases h128 : 128 ≤ v
          · go_wp2_with fail
            refine (cut_yes' _ _ _ _ _ a 1 rfl rfl _ HL.out HD.out HD2.out H.out (by omega)).mono ?_
            rintro e w' ⟨ao, rfl, hrd, hlen, _, rfl⟩
            obtain ⟨b', off', hao, hcv⟩ := cut_cell hrd hlen HV.out
            subst hao
            clear hrd hlen
            rw [Nat.add_zero] at hcv
            go_wp2
            go_round
            case rel =>
              refine ⟨1, 1, _, rfl, rfl, rfl, by omega, by omega, ?_, ?_⟩
              · have e : (128 : Int) ^ 1 = 128 := by decide
                rw [e]; omega
              · rw [← HG.out, show 3 - 0 = (3 - 1) + 1 from rfl, goN_more HLV.out h128, PW.out]
                rw [Int.zero_add, Int.mul_one]
            case measure => simp [intOf]
          · by_cases hv0 : v = 0
            · subst hv0
              have HE : Hid (r = (0, (a : Int) + 1)) := by
                show r = _
                rw [← HG.out, show 3 - 0 = 2 + 1 from rfl, goN_ok HLV.out (by omega) (by rw [PW.out]; omega), PW.out]
                rfl
              have C := Lib.hid (unfoldNum_any 0 w (by omega) (by omega))
              go_wp2_with fail
              refine (cut_yes' _ _ _ _ _ a 1 rfl rfl _ HL.out HD.out HD2.out H.out (by omega)).mono ?_
              rintro e w' ⟨ao, rfl, hrd, hlen, _, rfl⟩
              obtain ⟨b', off', hao, hcv⟩ := cut_cell hrd hlen HV.out
              subst hao
              clear hrd hlen
              rw [Nat.add_zero] at hcv
              go_wp2_with (go_at_call 280; refine C.out.mono ?_; rintro e w' ⟨rfl, rfl⟩)
              go_ret3
              exact numPost_yes HE.out (by omega)
            · have hvb : (v == 0) = false := by simpa using hv0
              obtain ⟨m, hm⟩ : ∃ m, v % 128 = m := ⟨_, rfl⟩
              have hm0 : 0 ≤ m := by omega
              have hm1 : m ≤ 2097151 := by omega
              have EM : Hid (0 + v % 128 * 128 ^ 0 = m) := by
                show _ = m
                rw [PW.out]; omega
              have HV0 := Lib.hid hv0
              have hsm : m ≤ 2000000 := by omega
              clear hn0 hn1 hv0 hm1
              have HE : Hid (r = (unf m, (a : Int) + 0 + 1)) := by
                show r = _
                rw [← HG.out, show 3 - 0 = (3 - 1) + 1 from rfl, goN_ok HLV.out (by omega) (by rw [EM.out]; have := HV0.out; omega), EM.out]
                simp
              have hbb : decide (2000000 < m) = false := by simp; omega
              have C := Lib.hid (unfoldNum_any m w hm0 hsm)
              go_wp2_with fail
              refine (cut_yes' _ _ _ _ _ a 1 rfl rfl _ HL.out HD.out HD2.out H.out (by omega)).mono ?_
              rintro e w' ⟨ao, rfl, hrd, hlen, _, rfl⟩
              obtain ⟨b', off', hao, hcv⟩ := cut_cell hrd hlen HV.out
              subst hao
              clear hrd hlen
              rw [Nat.add_zero] at hcv
              go_wp2_with (go_at_call 280; refine C.out.mono ?_; rintro e w' ⟨rfl, rfl⟩)
              go_ret3
              exact numPost_yes (HE.out.trans (by simp)) (by omega)
        · have HE : Hid (r = (0, -1)) := by
            show r = _
            rw [← HG.out]; exact goN_out (by omega)
          go_wp2_with fail
          refine (cut_no _ _ _ _ _ _ HL.out (by omega) (by omega) (by omega)).mono ?_
          rintro e w' ⟨rfl, rfl⟩
          go_wp2
          go_ret3
          exact numPost_no HE.out
      · obtain rfl : ki = 1 := by rw [hki]; rfl
        have pw : (128 : Int) ^ 1 = 128 := by decide
        have PW := Lib.hid pw
        have hn1 : n < 128 := by have := HN.out; rw [pw] at this; exact this
        clear hki hk hk3 pw HN
        by_cases hin : a + 1 < l.length
        · have hlv := List.getElem?_eq_getElem hin
          have vb := HBY.out _ (List.getElem_mem hin)
          generalize l[a + 1] = v at hlv vb
          have HLV := Lib.hid hlv
          have HV : Hid (((l.drop a).take 2)[1]? = some v) := by
            show _ = some v
            rw [List.getElem?_take, if_pos (by omega), List.getElem?_drop]; exact hlv
          clear hlv
          by_cases h128 : 128 ≤ v
          · go_wp2_with fail
            refine (cut_yes' _ _ _ _ _ a 2 rfl rfl _ HL.out HD.out HD2.out H.out (by omega)).mono ?_
            rintro e w' ⟨ao, rfl, hrd, hlen, _, rfl⟩
            obtain ⟨b', off', hao, hcv⟩ := cut_cell hrd hlen HV.out
            subst hao
            clear hrd hlen
            skip
            go_wp2
            go_round
            case rel =>
              refine ⟨2, 2, _, rfl, rfl, rfl, by omega, by omega, ?_, ?_⟩
              · have e : (128 : Int) ^ 2 = 16384 := by decide
                rw [e]; omega
              · rw [← HG.out, show 3 - 1 = (3 - 2) + 1 from rfl, goN_more HLV.out h128, PW.out]

            case measure => simp [intOf]
          · by_cases hv0 : v = 0
            · subst hv0
              have HE : Hid (r = (0, -1)) := by
                show r = _
                rw [← HG.out, show 3 - 1 = (3 - 2) + 1 from rfl, goN_bad HLV.out (by omega) (by left; exact ⟨rfl, by omega⟩)]
              go_wp2_with fail
              refine (cut_yes' _ _ _ _ _ a 2 rfl rfl _ HL.out HD.out HD2.out H.out (by omega)).mono ?_
              rintro e w' ⟨ao, rfl, hrd, hlen, _, rfl⟩
              obtain ⟨b', off', hao, hcv⟩ := cut_cell hrd hlen HV.out
              subst hao
              clear hrd hlen
              skip
              go_wp2
              go_ret3
              exact numPost_no HE.out
            · have hvb : (v == 0) = false := by simpa using hv0
              obtain ⟨m, hm⟩ : ∃ m, n + v % 128 * 128 = m := ⟨_, rfl⟩
              have hm0 : 0 ≤ m := by omega
              have hm1 : m ≤ 2097151 := by omega
              have EM : Hid (n + v % 128 * 128 ^ 1 = m) := by
                show _ = m
                rw [PW.out]; omega
              have HV0 := Lib.hid hv0
              have hsm : m ≤ 2000000 := by omega
              clear hn0 hn1 hv0 hm1
              have HE : Hid (r = (unf m, (a : Int) + 1 + 1)) := by
                show r = _
                rw [← HG.out, show 3 - 1 = (3 - 2) + 1 from rfl, goN_ok HLV.out (by omega) (by rw [EM.out]; have := HV0.out; omega), EM.out]
                simp
              have hbb : decide (2000000 < m) = false := by simp; omega
              have C := Lib.hid (unfoldNum_any m w hm0 hsm)
              go_wp2_with fail
              refine (cut_yes' _ _ _ _ _ a 2 rfl rfl _ HL.out HD.out HD2.out H.out (by omega)).mono ?_
              rintro e w' ⟨ao, rfl, hrd, hlen, _, rfl⟩
              obtain ⟨b', off', hao, hcv⟩ := cut_cell hrd hlen HV.out
              subst hao
              clear hrd hlen
              skip
              go_wp2_with (go_at_call 280; refine C.out.mono ?_; rintro e w' ⟨rfl, rfl⟩)
              go_ret3
              exact numPost_yes (HE.out.trans (by simp)) (by omega)
        · have HE : Hid (r = (0, -1)) := by
            show r = _
            rw [← HG.out]; exact goN_out (by omega)
          go_wp2_with fail
          refine (cut_no _ _ _ _ _ _ HL.out (by omega) (by omega) (by omega)).mono ?_
          rintro e w' ⟨rfl, rfl⟩
          go_wp2
          go_ret3
          exact numPost_no HE.out
      · obtain rfl : ki = 2 := by rw [hki]; rfl
        have pw : (128 : Int) ^ 2 = 16384 := by decide
        have PW := Lib.hid pw
        have hn1 : n < 16384 := by have := HN.out; rw [pw] at this; exact this
        clear hki hk hk3 pw HN
        by_cases hin : a + 2 < l.length
        · have hlv := List.getElem?_eq_getElem hin
          have vb := HBY.out _ (List.getElem_mem hin)
          generalize l[a + 2] = v at hlv vb
          have HLV := Lib.hid hlv
          have HV : Hid (((l.drop a).take 3)[2]? = some v) := by
            show _ = some v
            rw [List.getElem?_take, if_pos (by omega), List.getElem?_drop]; exact hlv
          clear hlv
          by_cases h128 : 128 ≤ v
          · go_wp2_with fail
            refine (cut_yes' _ _ _ _ _ a 3 rfl rfl _ HL.out HD.out HD2.out H.out (by omega)).mono ?_
            rintro e w' ⟨ao, rfl, hrd, hlen, _, rfl⟩
            obtain ⟨b', off', hao, hcv⟩ := cut_cell hrd hlen HV.out
            subst hao
            clear hrd hlen
            skip
            go_wp2
            go_round
            case rel =>
              refine ⟨3, 3, _, rfl, rfl, rfl, by omega, by omega, ?_, ?_⟩
              · have e : (128 : Int) ^ 3 = 2097152 := by decide
                rw [e]; omega
              · rw [← HG.out, show 3 - 2 = (3 - 3) + 1 from rfl, goN_more HLV.out h128, PW.out]

            case measure => simp [intOf]
          · by_cases hv0 : v = 0
            · subst hv0
              have HE : Hid (r = (0, -1)) := by
                show r = _
                rw [← HG.out, show 3 - 2 = (3 - 3) + 1 from rfl, goN_bad HLV.out (by omega) (by left; exact ⟨rfl, by omega⟩)]
              go_wp2_with fail
              refine (cut_yes' _ _ _ _ _ a 3 rfl rfl _ HL.out HD.out HD2.out H.out (by omega)).mono ?_
              rintro e w' ⟨ao, rfl, hrd, hlen, _, rfl⟩
              obtain ⟨b', off', hao, hcv⟩ := cut_cell hrd hlen HV.out
              subst hao
              clear hrd hlen
              skip
              go_wp2
              go_ret3
              exact numPost_no HE.out
            · have hvb : (v == 0) = false := by simpa using hv0
              obtain ⟨m, hm⟩ : ∃ m, n + v % 128 * 16384 = m := ⟨_, rfl⟩
              have hm0 : 0 ≤ m := by omega
              have hm1 : m ≤ 2097151 := by omega
              have EM : Hid (n + v % 128 * 128 ^ 2 = m) := by
                show _ = m
                rw [PW.out]; omega
              have HV0 := Lib.hid hv0
              clear hn0 hn1 hv0
              by_cases hbig : 2000000 < m
              · have HE : Hid (r = (0, -1)) := by
                  show r = _
                  rw [← HG.out, show 3 - 2 = (3 - 3) + 1 from rfl, goN_bad HLV.out (by omega) (by right; rw [EM.out]; exact hbig)]
                have hbb : decide (2000000 < m) = true := by simpa using hbig
                go_wp2_with fail
                refine (cut_yes' _ _ _ _ _ a 3 rfl rfl _ HL.out HD.out HD2.out H.out (by omega)).mono ?_
                rintro e w' ⟨ao, rfl, hrd, hlen, _, rfl⟩
                obtain ⟨b', off', hao, hcv⟩ := cut_cell hrd hlen HV.out
                subst hao
                clear hrd hlen
                skip
                go_wp2
                go_ret3
                exact numPost_no HE.out
              have hsm : m ≤ 2000000 := by omega
              have HE : Hid (r = (unf m, (a : Int) + 2 + 1)) := by
                show r = _
                rw [← HG.out, show 3 - 2 = (3 - 3) + 1 from rfl, goN_ok HLV.out (by omega) (by rw [EM.out]; have := HV0.out; omega), EM.out]
                simp
              have hbb : decide (2000000 < m) = false := by simp; omega
              have C := Lib.hid (unfoldNum_any m w hm0 hsm)
              go_wp2_with fail
              refine (cut_yes' _ _ _ _ _ a 3 rfl rfl _ HL.out HD.out HD2.out H.out (by omega)).mono ?_
              rintro e w' ⟨ao, rfl, hrd, hlen, _, rfl⟩
              obtain ⟨b', off', hao, hcv⟩ := cut_cell hrd hlen HV.out
              subst hao
              clear hrd hlen
              skip
              go_wp2_with (go_at_call 280; refine C.out.mono ?_; rintro e w' ⟨rfl, rfl⟩)
              go_ret3
              exact numPost_yes (HE.out.trans (by simp)) (by omega)
        · have HE : Hid (r = (0, -1)) := by
            show r = _
            rw [← HG.out]; exact goN_out (by omega)
          go_wp2_with fail
          refine (cut_no _ _ _ _ _ _ HL.out (by omega) (by omega) (by omega)).mono ?_
          rintro e w' ⟨rfl, rfl⟩
          go_wp2
          go_ret3
          exact numPost_no HE.out
end Go.Proofs.YtfpbhedophlnkaaGreatDoor
