/-
  Contracts of the helpers over slices of rows: szIntSS, toIntSS, eqIntSS. For every slice of rows. Plain facts on rows of numbers: which of two is less, how many are the same, a column. No program, no walk. Contract of impl.sorted at rows: whatever comes one by one, sorted, those of which none is less in their order. Contract of impl.sorted at rows, whole: whatever comes one by one, sorted, those of which none is less in their order. One number of a slice that reads. No program, no walk.
-/
import Derived.Test.YtfpbhedophlnkaaGreatDoorJR6x
import Derived.Deep.RegionWith
import Derived.Test.YtfpbhedophlnkaaGreatDoorIStab
import Derived.Test.YtfpbhedophlnkaaGreatDoorJR7x
import Derived.Lib.OwnBridge
import Derived.Test.YtfpbhedophlnkaaGreatDoorJR3x
namespace Go.Proofs.YtfpbhedophlnkaaGreatDoor
open Go.RowKit
set_option linter.unusedSimpArgs false
set_option linter.unusedVariables false

theorem Tryz.infoSl : (Tryz.prog.info? 47).map (fun i => (i.zero, i.size, i.bytes)) = some (some (.slice none 0 0), 1, 24) := by kernel_rfl

/-- How many values there are. -/
def totR (l : List (List Int)) : Nat := (l.map List.length).sum
theorem totR_take {l : List (List Int)} {k : Nat} {r : List Int} (h : l[k]? = some r) : totR (l.take (k + 1)) = totR (l.take k) + r.length := by
  rw [List.take_add_one, h]; simp [totR]
theorem totR_mem {l : List (List Int)} {r : List Int} (h : r ∈ l) : r.length ≤ totR l := by
  unfold totR
  induction l with
  | nil => cases h
  | cons m l ih =>
    rcases List.mem_cons.1 h with rfl | h
    · simp only [List.map_cons, List.sum_cons]; omega
    · have := ih h; simp only [List.map_cons, List.sum_cons]; omega
def SzPostR (w : World) (l : List (List Int)) (left : Int) (e : Ending) (w' : World) : Prop :=
  ∃ r : Int, e = .returned (.int .i64 r) ∧ w = w' ∧ (r = -1 ∨ (0 ≤ r ∧ r + l.length + totR l = left))

/-- Whether two lists of rows are the same. -/
def eqR (l m : List (List Int)) : Bool := decide (l = m)
theorem eqR_refl (l : List (List Int)) : eqR l l = true := by simp [eqR]
theorem eqR_no {l m : List (List Int)} {j : Nat} {x y : List Int} (hx : l[j]? = some x) (hy : m[j]? = some y) (h : eqL x y = false) : eqR l m = false := by
  unfold eqR; simp; rintro rfl; rw [hx] at hy; cases hy; rw [eqL_refl] at h; cases h
theorem eqR_yes {l m : List (List Int)} {j : Nat} (h : l.length = m.length) (hj : l.length ≤ j) (ht : l.take j = m.take j) : eqR l m = true := by
  unfold eqR; simp; rw [List.take_of_length_le hj, List.take_of_length_le (by omega)] at ht; exact ht
theorem eqR_len {l m : List (List Int)} (h : l.length ≠ m.length) : eqR l m = false := by
  unfold eqR; simp; rintro rfl; exact h rfl
theorem eqL_eq {x y : List Int} (h : eqL x y = true) : x = y := by unfold eqL at h; simpa using h
theorem take_eq_step {α : Type} {l m : List α} {j : Nat} {x : α} (ht : l.take j = m.take j) (hx : l[j]? = some x) (hy : m[j]? = some x) : l.take (j + 1) = m.take (j + 1) := by
  rw [List.take_add_one, List.take_add_one, ht, hx, hy]

end Go.Proofs.YtfpbhedophlnkaaGreatDoor
namespace Go.Proofs.YtfpbhedophlnkaaGreatDoor
open Go.RowKit
set_option linter.unusedSimpArgs false
set_option linter.unusedVariables false

/-- Whether a row is less than another: value by value, the shorter one less where it is the beginning. -/
def lessL : List Int → List Int → Bool
  | [], [] => false
  | [], _ :: _ => true
  | _ :: _, [] => false
  | x :: a, y :: b => if x = y then lessL a b else decide (x < y)
theorem lessL_at : ∀ (a b : List Int) (j : Nat) (x y : Int), a.take j = b.take j → a[j]? = some x → b[j]? = some y → x ≠ y → lessL a b = decide (x < y)
  | [], _, _, _, _, _, h, _, _ => by simp at h
  | _ :: _, [], _, _, _, _, _, h, _ => by simp at h
  | u :: a, v :: b, 0, x, y, _, hx, hy, hne => by simp at hx hy; subst hx hy; simp [lessL, hne]
  | u :: a, v :: b, j + 1, x, y, ht, hx, hy, hne => by
    simp only [List.take_succ_cons, List.cons.injEq] at ht
    obtain ⟨rfl, ht⟩ := ht
    simp only [List.getElem?_cons_succ] at hx hy
    simp only [lessL, if_true]
    exact lessL_at a b j x y ht hx hy hne
theorem lessL_end : ∀ (a b : List Int) (j : Nat), a.take j = b.take j → (a.length ≤ j ∨ b.length ≤ j) → lessL a b = decide (a.length < b.length)
  | [], [], _, _, _ => by simp [lessL]
  | [], v :: b, _, _, _ => by simp [lessL]
  | u :: a, [], _, _, _ => by simp [lessL]
  | u :: a, v :: b, 0, _, h => by simp at h
  | u :: a, v :: b, j + 1, ht, h => by
    simp only [List.take_succ_cons, List.cons.injEq] at ht
    obtain ⟨rfl, ht⟩ := ht
    simp only [lessL, if_true, List.length_cons]
    rw [lessL_end a b j ht (by simp only [List.length_cons] at h; omega)]
    simp

/-- How many rows are the same as r. -/
def countL (l : List (List Int)) (r : List Int) : Nat := (l.filter fun x => eqL x r).length
theorem countL_take {l : List (List Int)} {j : Nat} {x r : List Int} (h : l[j]? = some x) : countL (l.take (j + 1)) r = countL (l.take j) r + (if eqL x r then 1 else 0) := by
  rw [List.take_add_one, h]
  unfold countL
  simp [List.filter_append, List.filter_cons]
  split <;> simp
theorem countL_le (l : List (List Int)) (r : List Int) : countL l r ≤ l.length := List.length_filter_le _ _
theorem countL_take_le (l : List (List Int)) (j : Nat) (r : List Int) : countL (l.take j) r ≤ j := Nat.le_trans (countL_le _ _) (by simp; omega)

/-- The value at a place of each row that has one. -/
def colL (l : List (List Int)) (col : Nat) : List Int := l.filterMap fun r => r[col]?
theorem colL_take_some {l : List (List Int)} {j col : Nat} {x : List Int} {z : Int} (h : l[j]? = some x) (hz : x[col]? = some z) : colL (l.take (j + 1)) col = colL (l.take j) col ++ [z] := by
  rw [List.take_add_one, h]
  simp [colL, List.filterMap_append, hz]
theorem colL_take_none {l : List (List Int)} {j col : Nat} {x : List Int} (h : l[j]? = some x) (hz : x.length ≤ col) : colL (l.take (j + 1)) col = colL (l.take j) col := by
  rw [List.take_add_one, h]
  simp [colL, List.filterMap_append, List.getElem?_eq_none hz]
theorem colL_len (l : List (List Int)) (col : Nat) : (colL l col).length ≤ l.length := List.length_filterMap_le _ _
/-- Of a column below 0 there is nothing. -/
def colO (l : List (List Int)) (col : Int) : List Int := if col < 0 then [] else colL l col.toNat
theorem colO_len (l : List (List Int)) (col : Int) : (colO l col).length ≤ l.length := by
  unfold colO; split
  · simp
  · exact colL_len _ _
end Go.Proofs.YtfpbhedophlnkaaGreatDoor
namespace Go.Proofs.YtfpbhedophlnkaaGreatDoor
open Go.RowKit Go.Shelf Go.Lib Go.Sort
set_option linter.unusedSimpArgs false
set_option linter.unusedVariables false

theorem lessL_asym : ∀ a b : List Int, lessL a b = true → lessL b a = false
  | [], [], _ => rfl
  | [], _ :: _, _ => rfl
  | _ :: _, [], h => by cases h
  | x :: a, y :: b, h => by
    unfold lessL at h ⊢
    by_cases e : x = y
    · subst e; simp at h ⊢; exact lessL_asym a b h
    · rw [if_neg e] at h; rw [if_neg (fun h' => e h'.symm)]
      have := of_decide_eq_true h
      exact decide_eq_false (by omega)
theorem lessL_ntrans : ∀ a b c : List Int, lessL b a = false → lessL c b = false → lessL c a = false
  | [], _, [], _, _ => rfl
  | [], _, _ :: _, _, _ => rfl
  | _ :: _, [], _, h, _ => by cases h
  | _ :: _, _ :: _, [], _, h => by cases h
  | x :: a, y :: b, z :: c, h, k => by
    unfold lessL at h k ⊢
    by_cases e1 : y = x
    · subst e1
      rw [if_pos rfl] at h
      by_cases e2 : z = y
      · subst e2; rw [if_pos rfl] at k ⊢; exact lessL_ntrans a b c h k
      · rw [if_neg e2] at k ⊢; exact k
    · rw [if_neg e1] at h
      have h1 := of_decide_eq_false h
      by_cases e2 : z = y
      · subst e2; rw [if_neg e1]; exact h
      · rw [if_neg e2] at k
        have k1 := of_decide_eq_false k
        rw [if_neg (by omega)]
        exact decide_eq_false (by omega)
theorem wkL : Wk lessL := ⟨lessL_asym, lessL_ntrans⟩
theorem wkOf {α β : Type} {lt : β → β → Bool} (h : Wk lt) (f : α → β) : Wk fun x y => lt (f x) (f y) := ⟨fun x y => h.asym _ _, fun x y z => h.trans _ _ _⟩

/-- How the function that compares answers. -/
def cfOf {α : Type} (lt : α → α → Bool) (x y : α) : Int := if lt x y then -1 else if lt y x then 1 else 0
theorem ltOf_cfOf {α : Type} (lt : α → α → Bool) : ltOf (cfOf lt) = lt := by
  funext x y
  unfold ltOf cfOf
  cases lt x y
  · simp; cases lt y x <;> simp
  · simp

set_option maxHeartbeats 1000000 in
theorem sortedCmp_any {wb : World} (lt : Els wb → Els wb → Bool) (f Bl : Nat) (lb : Array Value) (W : World) (ef : ∀ args w, (callFunc f args).run Tryz.prog w = .ok (.enter f args) w) (hcell : W.cell? ⟨Bl, 0, none⟩ = some (.func (.func f) #[] lb))
    (hless : ∀ x y : Els wb, Calls Tryz.prog f (#[encE x, encE y] ++ lb) W fun e w' => e = .returned (.bool (lt x y)) ∧ w' = W) (x y : Els wb) :
    Calls Tryz.prog 183 #[encE x, encE y, .pointer (some ⟨Bl, 0, none⟩)] W fun e w' => e = .returned (.int .i64 (cfOf lt x y)) ∧ w' = W := by
  have h1 := hless x y
  have h2 := hless y x
  clear hless
  have hcf : Hid (cfOf lt x y = if lt x y then -1 else if lt y x then 1 else 0) := rfl
  generalize cfOf lt x y = z at hcf ⊢
  unfold encE at h1 h2 ⊢
  cases e1 : lt x y with
  | true =>
    rw [e1] at h1
    have E1 : Hid _ := e1
    clear e1 h2
    go_enter Tryz.func183, Tryz.ntmps183
    go_wp2_with (go_at_fn f; refine h1.mono ?_; clear h1; rintro e w' ⟨rfl, rfl⟩)
    go_ret
    exact ⟨ret_int (by rw [hcf.out, E1.out]; rfl), rfl⟩
  | false =>
    rw [e1] at h1
    have E1 : Hid _ := e1
    clear e1
    cases e2 : lt y x with
    | true =>
      rw [e2] at h2
      have E2 : Hid _ := e2
      clear e2
      go_enter Tryz.func183, Tryz.ntmps183
      go_wp2_with (go_at_fn f; refine h1.mono ?_; clear h1; rintro e w' ⟨rfl, rfl⟩)
      go_wp2_with (go_at_fn f; refine h2.mono ?_; clear h2; rintro e w' ⟨rfl, rfl⟩)
      go_ret
      exact ⟨ret_int (by rw [hcf.out, E1.out, E2.out]; rfl), rfl⟩
    | false =>
      rw [e2] at h2
      have E2 : Hid _ := e2
      clear e2
      go_enter Tryz.func183, Tryz.ntmps183
      go_wp2_with (go_at_fn f; refine h1.mono ?_; clear h1; rintro e w' ⟨rfl, rfl⟩)
      go_wp2_with (go_at_fn f; refine h2.mono ?_; clear h2; rintro e w' ⟨rfl, rfl⟩)
      go_ret
      exact ⟨ret_int (by rw [hcf.out, E1.out, E2.out]; rfl), rfl⟩
end Go.Proofs.YtfpbhedophlnkaaGreatDoor
namespace Go.Proofs.YtfpbhedophlnkaaGreatDoor
open Go.RowKit Go.Shelf Go.Lib Go.Sort
set_option linter.unusedSimpArgs false
set_option linter.unusedVariables false

/-- A world of the sort's: below the row's block nothing has turned. -/
theorem below_sortWorld {α : Type} [Inhabited α] {enc : α → Value} {B : Nat} {w w0 W : World} {g : Nat} {d : Array α} (h : Below B w w0) (hg : B ≤ g) (hB : B ≤ w0.heap.size) (S : SW enc w0 g 0 d W) : Below B w W := by
  obtain ⟨m, os, rfl⟩ := S
  unfold sortWorld
  have h1 : Below B w (putRow enc (Sort.ahead w0 m) g 0 d) := below_putRow h hg
  refine ⟨h1.os, h1.tape, h1.output, ?_, fun k hk => ?_⟩
  · rw [size_grow]; exact Nat.le_trans h1.size (Nat.le_add_right _ _)
  · rw [← h1.block k hk]
    show ((putRow enc (Sort.ahead w0 m) g 0 d).heap ++ os)[k]? = _
    rw [Array.getElem?_append_left (by rw [size_putRow]; exact Nat.lt_of_lt_of_le hk hB)]
theorem owns_sortWorld {α : Type} [Inhabited α] {enc : α → Value} {w0 W : World} {base : Nat} {e : TypeId} {g n cap : Nat} {zs ys : List α} (h : w0.ownsRow base e 1 (.slice (some ⟨g, 0, none⟩) n cap) n (zs.map enc)) (hy : ys.length = n) (S : SW enc w0 g 0 ys.toArray W) :
    W.ownsRow base e 1 (.slice (some ⟨g, 0, none⟩) n cap) n (ys.map enc) := by
  obtain ⟨m, os, rfl⟩ := S
  have h1 := ownsRow_putRow (q := m) (k := n) h hy (Nat.le_refl _)
  rw [List.take_of_length_le (by omega)] at h1
  unfold sortWorld
  refine owns_keep h1 ?_
  show ((putRow enc (Sort.ahead w0 m) g 0 ys.toArray).heap ++ os)[g]? = _
  rw [Array.getElem?_append_left (owns_block h1).2]

set_option maxRecDepth 100000 in
theorem insertion_nil (f : Value) (w : World) : Calls Tryz.prog 319 #[.slice none 0 0, .int .i64 0, .int .i64 0, f] w fun e w' => e = .returned (.tuple #[]) ∧ w = w' := by
  go_enter Tryz.func319, Tryz.ntmps319
  go_wp2_with fail
  go_loopw [8] (fun i wr => i = .int .i64 1 ∧ w = wr) (fun _ _ => 0)
  case atStart => exact ⟨rfl, rfl⟩
  case round =>
    obtain ⟨rfl, rfl⟩ := hrel
    go_wp2
    go_end0
    exact ⟨rfl, rfl⟩
set_option maxRecDepth 100000 in
theorem stable_nil (f : Value) (w : World) : Calls Tryz.prog 286 #[.slice none 0 0, .int .i64 0, f] w fun e w' => e = .returned (.tuple #[]) ∧ w = w' := by
  go_enter Tryz.func286, Tryz.ntmps286
  go_wp2_with fail
  go_loopw [7, 8] (fun s t wr => s = .int .i64 0 ∧ t = .int .i64 20 ∧ w = wr) (fun _ _ _ => 0)
  case atStart => exact ⟨rfl, rfl, rfl⟩
  case round =>
    obtain ⟨rfl, rfl, rfl⟩ := hrel
    go_wp2_with fail
    refine (insertion_nil f _).mono ?_
    rintro e w1 ⟨rfl, rfl⟩
    go_wp2_with fail
    go_loopw [6, 7, 8, 9] (fun s _ _ _ wr => s = .int .i64 20 ∧ w = wr) (fun _ _ _ _ _ => 0)
    case atStart => exact ⟨rfl, rfl⟩
    case round =>
      obtain ⟨rfl, rfl⟩ := hrel
      go_wp2
      go_end0
      exact ⟨rfl, rfl⟩

/-- What a sort in place ends in. -/
def SortPost {wb : World} (lt : Els wb → Els wb → Bool) (base B : Nat) (v : Value) (zs : List (Els wb)) (w : World) (e : Ending) (W' : World) : Prop :=
  e = .returned (.tuple #[]) ∧ W'.ownsRow base 47 1 v zs.length ((sortL lt zs).map encE) ∧ Below B w W'

theorem oneE {wb : World} : OneCell (encE (w := wb)) := fun _ => rfl

set_option maxHeartbeats 1000000 in
theorem sortStableR_any {wb : World} (lt : Els wb → Els wb → Bool) (hw : Wk lt) (f Bl B : Nat) (lb : Array Value) (w0 : World) (ef : ∀ args w, (callFunc f args).run Tryz.prog w = .ok (.enter f args) w) (base : Nat) (hB : B ≤ base) (hBl : Bl < B) (hBw : B ≤ w0.heap.size) (v : Value) (zs : List (Els wb)) (hlen : zs.length ≤ 1048576)
    (hown : w0.ownsRow base 47 1 v zs.length (zs.map encE)) (hcell : w0.cell? ⟨Bl, 0, none⟩ = some (.func (.func f) #[] lb))
    (hless : ∀ W, Below B w0 W → ∀ x y : Els wb, Calls Tryz.prog f (#[encE x, encE y] ++ lb) W fun e w' => e = .returned (.bool (lt x y)) ∧ w' = W) :
    Calls Tryz.prog 240 #[v, .func (.func 183) #[] #[.pointer (some ⟨Bl, 0, none⟩)]] w0 (SortPost lt base B v zs w0) := by
  by_cases hv : v = .slice none 0 0
  · subst hv
    have h0 : zs = [] := by
      rcases hown.2 with ⟨_, h⟩ | ⟨g, cap, cur, h, _⟩
      · exact List.eq_nil_of_length_eq_zero h
      · cases h
    subst h0
    have HO : Hid (w0.ownsRow base 47 1 (.slice none 0 0) 0 []) := hown
    clear hown hcell hless
    go_enter Tryz.func240, Tryz.ntmps240
    go_wp2_with fail
    refine (stable_nil _ _).mono ?_
    rintro e w1 ⟨rfl, rfl⟩
    go_wp2_with fail
    go_end0
    exact ⟨rfl, HO.out, Below.refl _ _⟩
  · obtain ⟨g, cap, rfl, hb, hg, hn, hm, hl, hH⟩ := holds_of_ownsRow hown hv
    have hbg : B ≤ g := Nat.le_trans hB hb
    have hR : Row1 (encE (w := wb)) w0 g 0 zs.toArray := ⟨oneE, hH, hg⟩
    have hC : CmpLays1 Tryz.prog 183 #[.pointer (some ⟨Bl, 0, none⟩)] (encE (w := wb)) (cfOf lt) g 0 zs.toArray.size w0 := by
      intro m os dk hs x y
      have hS : SW (encE (w := wb)) w0 g 0 dk (sortWorld encE w0 g 0 m dk os) := ⟨m, os, rfl⟩
      have hbl : Below B w0 (sortWorld encE w0 g 0 m dk os) := below_sortWorld (Below.refl _ _) hbg hBw hS
      refine (sortedCmp_any lt f Bl lb _ ef ((hbl.cell (p := ⟨Bl, 0, none⟩) hBl).trans hcell) (hless _ hbl) x y).mono ?_
      rintro e w' ⟨he, rfl⟩
      exact ⟨he, 0, #[], by rw [grow_empty]; rfl⟩
    have ST := stable_s encE (cfOf lt) 183 #[.pointer (some ⟨Bl, 0, none⟩)] g 0 cap zs.toArray w0 w0 zs (enters_of Tryz.func183 (by kernel_rfl) rfl) hC (by rw [ltOf_cfOf]; exact hw) hR (by simpa using hlen) (by simp) (SW.start hH)
    rw [List.size_toArray] at ST
    have S0 : Aside _ := ST
    have HO : Hid _ := hown
    clear ST hC hR hown hcell hless hH hv
    have hlz : zs.length ≤ 9223372036854775807 := by omega
    go_enter Tryz.func240, Tryz.ntmps240
    go_wp2_with fail
    refine Calls.mono S0.out ?_
    rintro e w1 ⟨rfl, Z, hZ, hS⟩
    have E : Z = sortL lt zs := by rw [ltOf_cfOf] at hZ; exact sortL_uniq hw hZ.1 hZ.2.1
    have F1 : Hid _ := owns_sortWorld HO.out hZ.len hS
    have F2 : Hid _ := below_sortWorld (Below.refl B w0) hbg hBw hS
    rw [E] at F1
    clear hZ hS E
    go_wp2_with fail
    go_end0
    exact ⟨rfl, F1.out, F2.out⟩

theorem collectR_any (g n₀ : Nat) (lb : Array Value) (eg : ∀ args w, (callFunc g args).run Tryz.prog w = .ok (.enter g args) w) {wb : World} (zs : List (Els wb)) (Sp : List (Els wb) → Prop) (hlen : zs.length ≤ 1048576) (w : World) (hn₀ : n₀ ≤ w.heap.size)
    (hseq : ∀ W, Below w.heap.size w W → SeqStopsK Fence.wide 2 Tryz.prog g lb (fun x : Els wb => #[encE x]) (Below n₀) (fun ys => ys = zs) Sp zs.length W) :
    Calls Tryz.prog 239 #[.func (.func g) #[] lb] w fun e W' => ∃ v, e = .returned v ∧ W'.ownsRow w.heap.size 47 1 v zs.length (zs.map encE) ∧ (v = .slice none 0 0 ↔ zs = []) ∧ Below w.heap.size w W' := by
  have A : Aside _ := callsIn_wide.1 (appendSeqR_in Fence.wide 3 trivial rfl (by omega) g n₀ lb trivial eg zs Sp hlen w hn₀ hseq)
  clear hseq
  go_enter Tryz.func239, Tryz.ntmps239
  go_wp2_with fail
  refine Calls.mono A.out ?_
  rintro e w1 ⟨v, rfl, h1, h2, h3⟩
  have H : Hid _ := And.intro h1 (And.intro h2 h3)
  clear h1 h2 h3
  go_wp2_with fail
  go_ret
  exact ⟨v, rfl, H.out⟩

/-- What impl.sorted ends in. -/
def SortedPost {wb : World} (lt : Els wb → Els wb → Bool) (zs : List (Els wb)) (w : World) (e : Ending) (W' : World) : Prop :=
  ∃ v, e = .returned v ∧ W'.ownsRow w.heap.size 47 1 v zs.length ((sortL lt zs).map encE) ∧ (v = .slice none 0 0 ↔ zs = []) ∧ Below w.heap.size w W'

set_option maxHeartbeats 1000000 in
theorem sortedR_any {wb : World} (lt : Els wb → Els wb → Bool) (hw : Wk lt) (f : Nat) (lb : Array Value) (ef : ∀ args w, (callFunc f args).run Tryz.prog w = .ok (.enter f args) w)
    (g n₀ : Nat) (lg : Array Value) (eg : ∀ args w, (callFunc g args).run Tryz.prog w = .ok (.enter g args) w) (zs : List (Els wb)) (Sp : List (Els wb) → Prop) (hlen : zs.length ≤ 1048576) (w : World) (hn₀ : n₀ ≤ w.heap.size)
    (hseq : ∀ W, Below w.heap.size w W → SeqStopsK Fence.wide 2 Tryz.prog g lg (fun x : Els wb => #[encE x]) (Below n₀) (fun ys => ys = zs) Sp zs.length W)
    (hless : ∀ W, Below w.heap.size w W → ∀ x y : Els wb, Calls Tryz.prog f (#[encE x, encE y] ++ lb) W fun e w' => e = .returned (.bool (lt x y)) ∧ w' = W) :
    Calls Tryz.prog 103 #[.func (.func g) #[] lg, .func (.func f) #[] lb] w (SortedPost lt zs w) := by
  have SQ : Aside _ := hseq
  have LS : Aside _ := hless
  clear hseq hless
  obtain ⟨w1, hw1⟩ : ∃ w1, w1 = w.alloc (.cells #[.func (.func f) #[] lb] 51) := ⟨_, rfl⟩
  have b1 : Below w.heap.size w w1 := by rw [hw1]; exact (Below.refl _ w).alloc (Nat.le_refl _) _
  have c1 : w1.cell? ⟨w.heap.size, 0, none⟩ = some (.func (.func f) #[] lb) := by rw [hw1]; simp
  have s1 : w1.heap.size = w.heap.size + 1 := by rw [hw1]; simp
  have HW1 : Hid _ := hw1
  have s2 : w.heap.size < w1.heap.size := by omega
  clear hw1 s1
  have SRT : Aside (Calls Tryz.prog 182 #[.func (.func g) #[] lg, .func (.func 183) #[] #[.pointer (some ⟨w.heap.size, 0, none⟩)]] w1 (SortedPost lt zs w)) := by
    show Calls _ _ _ _ _
    have C : Aside _ := collectR_any g n₀ lg eg zs Sp hlen w1 (by omega) (fun W hW => SQ.out W (b1.trans (hW.mono (by omega))))
    go_enter Tryz.func182, Tryz.ntmps182
    go_wp2_with fail
    refine Calls.mono C.out ?_
    rintro e w2 ⟨v, rfl, h1, h2, h3⟩
    have S : Aside _ := sortStableR_any lt hw f w.heap.size w1.heap.size lb w2 ef w1.heap.size (Nat.le_refl _) (by omega) h3.size v zs hlen h1 ((h3.cell (p := ⟨w.heap.size, 0, none⟩) (by show w.heap.size < _; omega)).trans c1) (fun W hW => LS.out W (b1.trans ((h3.trans hW).mono (by omega))))
    have H2 : Hid _ := h2
    have H3 : Hid _ := h3
    clear h1 h2 h3 C
    go_wp2_with fail
    refine Calls.mono S.out ?_
    rintro e w3 ⟨rfl, k1, k2⟩
    have K : Hid _ := And.intro k1 k2
    clear k1 k2 S
    go_wp2_with fail
    go_ret
    refine ⟨v, rfl, ?_, H2.out, b1.trans ((H3.out.trans K.out.2).mono (by omega))⟩
    exact (by
      have h := K.out.1
      refine ⟨h.1, ?_⟩
      rcases h.2 with h' | ⟨q, cap, cur, e, hb, r⟩
      · exact .inl h'
      · exact .inr ⟨q, cap, cur, e, by omega, r⟩)
  rw [HW1.out] at SRT
  clear b1 c1 s2 HW1 SQ LS
  go_enter Tryz.func103, Tryz.ntmps103
  go_wp2_with fail
  refine Calls.mono SRT.out ?_
  rintro e w2 ⟨v, rfl, h⟩
  have H : Hid _ := h
  clear h SRT
  go_wp2_with fail
  go_ret
  exact ⟨v, rfl, H.out⟩
end Go.Proofs.YtfpbhedophlnkaaGreatDoor
namespace Go.Proofs.YtfpbhedophlnkaaGreatDoor
open Go.RowKit
set_option linter.unusedSimpArgs false
set_option linter.unusedVariables false

theorem Rd.get {w : World} {k : IntKind} {ao : Option Addr} {l : List Int} {i : Nat} (h : Rd w k ao l) (hi : i < l.length) :
    ∃ b off z, ao = some ⟨b, off, none⟩ ∧ l[i]? = some z ∧ w.cell? ⟨b, off + i, none⟩ = some (.int k z) := by
  rcases h with rfl | ⟨b, off, rfl, hc⟩
  · simp at hi
  · obtain ⟨z, _, h1, h2, _⟩ := Rd.at_ hc hi
    exact ⟨b, off, z, rfl, h1, h2⟩
end Go.Proofs.YtfpbhedophlnkaaGreatDoor
