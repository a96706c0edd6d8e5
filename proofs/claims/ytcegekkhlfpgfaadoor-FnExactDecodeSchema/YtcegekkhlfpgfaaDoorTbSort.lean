/-
  The library's slices.SortFunc, slices.Equal and slices.Clone at slices of tables, in the words of this seat; compareNames. For every slice of tables.
-/
import Derived.Test.YtcegekkhlfpgfaaDoorTbP
import Derived.Test.YtcegekkhlfpgfaaDoorShelf3
import Derived.Shelf.SlSortCmp.NoneTotal
import Derived.Shelf.SlicesQ.Equal
import Derived.Laws.StructEq
import Derived.Lib.OwnBridge
namespace Go.Proofs.YtcegekkhlfpgfaaDoor
open Go.RowKit Go.Shelf Go.Lib Go.Sort
set_option linter.unusedSimpArgs false
set_option linter.unusedVariables false

/-- A table's two cells. -/
def encT (t : Tb) : List Value := [.string t.name, .int .i64 t.width]
instance : Inhabited Tb := ⟨⟨ByteArray.empty, 0⟩⟩
def cmpT (s t : Tb) : Int := compareBytes s.key t.key
theorem cmp_lt : ∀ a b : Key, compareBytes a b < 0 ↔ a < b
  | [], [] => by simp [compareBytes]
  | [], _ :: _ => by simp [compareBytes]
  | _ :: _, [] => by simp [compareBytes]
  | x :: a, y :: b => by
    rw [List.cons_lt_cons_iff]
    unfold compareBytes
    by_cases h1 : x < y
    · simp [h1]
    · rw [if_neg h1]
      by_cases h2 : y < x
      · rw [if_pos h2]
        constructor
        · intro h; omega
        · rintro (h | ⟨rfl, _⟩)
          · exact absurd h h1
          · exact absurd h2 h1
      · rw [if_neg h2, cmp_lt a b]
        have e : x = y := by
          have h1' : ¬ x.toNat < y.toNat := fun h => h1 (UInt8.lt_iff_toNat_lt.2 h)
          have h2' : ¬ y.toNat < x.toNat := fun h => h2 (UInt8.lt_iff_toNat_lt.2 h)
          exact UInt8.toNat_inj.1 (by omega)
        subst e
        constructor
        · exact fun h => .inr ⟨rfl, h⟩
        · rintro (h | ⟨_, h⟩)
          · exact absurd h h1
          · exact h
theorem ltT (s t : Tb) : ltOf cmpT s t = decide (s.key < t.key) := by
  unfold ltOf cmpT
  exact decide_eq_decide.2 (cmp_lt _ _)
theorem swoT : SWO (ltOf cmpT) where
  irrefl x := by rw [ltT]; simp
  trans x y z h1 h2 := by rw [ltT] at *; simp only [decide_eq_true_eq] at *; exact List.lt_trans h1 h2
  ntrans x y z h1 h2 := by
    rw [ltT] at *
    simp only [decide_eq_false_iff_not] at *
    exact Std.not_lt.2 (Std.le_trans (Std.not_lt.1 h2) (Std.not_lt.1 h1))

set_option maxHeartbeats 1000000 in
theorem compareNames_any (s t : Tb) (W : World) : Calls Tryd.prog 117 #[.agg #[.string s.name, .int .i64 s.width], .agg #[.string t.name, .int .i64 t.width]] W fun e w' => e = .returned (.int .i64 (cmpT s t)) ∧ ∃ q os', w' = grow (W.drewN q) os' := by
  have hcon := fun W' => Any.strings_Compare Tryd.lays106 s.name t.name W'
  change ∀ W', Calls Tryd.prog 120 _ _ _ at hcon
  unfold cmpT Tb.key
  generalize compareBytes s.name.data.toList t.name.data.toList = r at hcon ⊢
  go_enter Tryd.func117, Tryd.ntmps117
  go_wp2_with (go_at_call 120; refine (hcon _).mono ?_; rintro e w' ⟨rfl, rfl⟩)
  go_ret
  exact ⟨rfl, 0, _, by rw [alloc_eq_grow, alloc_eq_grow, grow_grow]; rfl⟩
theorem cmpLaysT (blk off size : Nat) (w : World) : CmpLays Tryd.prog 117 #[] encT 2 cmpT blk off size w :=
  fun _ _ _ _ x y => compareNames_any x y _

theorem encT_get (l : List Tb) (t : Nat) (h : t < l.length * 2) : (tbC l)[t]? = some ((encT (l.toArray[t / 2]!))[t % 2]!) := by
  have hi : t / 2 < l.length := by omega
  have hx : l[t / 2]? = some l[t / 2] := List.getElem?_eq_getElem hi
  have he : l.toArray[t / 2]! = l[t / 2] := by rw [getElem!_pos _ _ (by simpa using hi)]; simp
  rw [he]
  rcases Nat.mod_two_eq_zero_or_one t with h0 | h0
  · have := tbC_get0 l _ _ hx
    rw [show t / 2 * 2 = t by omega] at this
    rw [this, h0]; rfl
  · have := tbC_get1 l _ _ hx
    rw [show t / 2 * 2 + 1 = t by omega] at this
    rw [this, h0]; rfl
theorem flatT (l : List Tb) : flatK encT 2 l.toArray = (tbC l).toArray := by
  apply Array.ext
  · simp [tbC_len]
  · intro t h1 h2
    have ht : t < l.length * 2 := by simpa using h1
    have e1 := get_flatK encT 2 l.toArray t (by simpa using ht)
    rw [getElem!_pos _ t h1] at e1
    rw [e1]
    have e2 := encT_get l t ht
    have : (tbC l)[t]? = some ((tbC l).toArray[t]) := by
      rw [List.getElem?_eq_getElem (by rw [tbC_len]; exact ht)]; simp
    rw [this] at e2
    injection e2 with e2
    exact e2.symm
theorem holdsT {w : World} {base g c : Nat} {l : List Tb} (h : OwnT w base (some ⟨g, 0, none⟩) c l) : HoldsK encT 2 w g 0 l.toArray := by
  unfold HoldsK
  rw [flatT]
  intro j hj
  have hj' : j < l.length * 2 := by simpa [tbC_len] using hj
  rw [Nat.zero_add]
  refine ⟨?_, World.ownsRow.frozenAt h.1 j⟩
  rw [World.ownsRow.cellAt h.1 j hj', getElem!_pos _ j hj]
  rw [List.getElem?_eq_getElem (by rw [tbC_len]; exact hj')]; simp
theorem growT' {B : Nat} {a w : World} (h : Below B a w) (hB : B ≤ w.heap.size) (os : Array Obj) : Below B a (grow w os) :=
  ⟨h.os, h.tape, h.output, Nat.le_trans h.size (by show w.heap.size ≤ (w.heap ++ os).size; simp), fun k hk => by
    show (w.heap ++ os)[k]? = _
    rw [Array.getElem?_append_left (by omega)]; exact h.block k hk⟩
/-- The row laid anew. -/
theorem OwnT.sorted {w : World} {base g c n : Nat} {l m : List Tb} {os : Array Obj} (h : OwnT w base (some ⟨g, 0, none⟩) c l) (hl : m.length = l.length) (hm : ∀ t ∈ m, t.name.size ≤ maxLen) :
    OwnT (sortWorldK encT 2 w g 0 n m.toArray os) base (some ⟨g, 0, none⟩) c m ∧ Below base w (sortWorldK encT 2 w g 0 n m.toArray os) := by
  unfold sortWorldK putRowK
  rw [flatT]
  rcases h.1.2 with ⟨e0, _⟩ | ⟨g', cap', cur, e0, hb, hg, hn, hx, hs, ht⟩
  · cases e0
  · injection e0 with e1 _ e3
    injection e1 with e1
    injection e1 with e1
    subst e1; subst e3
    have hlt : g < w.heap.size := (Array.getElem?_eq_some_iff.1 hg).1
    have hsz : (putRow id (Sort.ahead w n) g 0 (tbC m).toArray).heap.size = w.heap.size := by simp [putRow, mapBlock, Sort.ahead]
    refine ⟨⟨⟨tbC_len m, .inr ⟨g, c, putCells id 0 (tbC m).toArray cur, rfl, hb, ?_, by omega, hx, by simpa [putCells] using hs, ?_⟩⟩, hm⟩, ?_⟩
    · show ((putRow id (Sort.ahead w n) g 0 (tbC m).toArray).heap ++ os)[g]? = _
      rw [Array.getElem?_append_left (by rw [hsz]; exact hlt)]
      simp [putRow, mapBlock, Sort.ahead, Array.getElem?_modify, hg, onCells]
    · apply List.ext_getElem?
      intro j
      rw [List.getElem?_take, Array.getElem?_toList]
      by_cases hj : j < m.length * 2
      · have hjc : j < cur.size := by omega
        simp only [if_pos hj, putCells, Array.getElem?_mapIdx, Array.getElem?_eq_getElem hjc, Option.map_some]
        rw [if_pos (by simp [tbC_len]; omega), List.getElem?_eq_getElem (by rw [tbC_len]; exact hj)]
        simp [getElem!_pos, tbC_len, hj]
      · rw [if_neg hj, List.getElem?_eq_none (by rw [tbC_len]; omega)]
    · refine growT' (below_putRow (Below.refl _ _) hb) ?_ os
      rw [hsz]; omega

/-- slices.SortFunc at tables. -/
theorem sortT_any (ao : Option Addr) (c : Nat) (l : List Tb) (base : Nat) (w : World) (h : OwnT w base ao c l) (hl : l.length ≤ 1048576) :
    Calls Tryd.prog 116 #[.slice ao l.length c, .func (.func 117) #[] #[]] w fun e w' => e = .returned (.tuple #[]) ∧
      ∃ m : List Tb, m.Perm l ∧ m.Pairwise (fun s t => ¬ t.key < s.key) ∧ OwnT w' base ao c m ∧ Below base w w' := by
  by_cases hz : l = []
  · subst hz
    refine (AnyF.slices_SortFunc_none Tryd.laysSortT ao c _ w).mono ?_
    rintro e w' ⟨rfl, rfl⟩
    exact ⟨rfl, [], List.Perm.refl _, List.Pairwise.nil, h, Below.refl _ _⟩
  rcases h.form with ⟨_, _, h0⟩ | ⟨g, rfl, hb, hg⟩
  · exact absurd h0 hz
  have eg : ∀ args w, (callFunc 117 args).run Tryd.prog w = .ok (.enter 117 args) w := enters_of Tryd.func117 (by kernel_rfl) rfl
  have hsz : l.toArray.size = l.length := by simp
  have hcon := AnyQ.slices_SortFunc Tryd.laysSortT 2 Tryd.isAgg71 Tryd.sizeOf71 encT (fun _ => rfl) (fun x v hv => by simp [encT] at hv; rcases hv with rfl | rfl <;> rfl) cmpT swoT 117 #[] g 0 c l.toArray w eg (cmpLaysT g 0 _ w) (holdsT h) hg (by rw [hsz]; omega)
  rw [hsz] at hcon
  refine hcon.mono ?_
  rintro e w' ⟨rfl, d', n, os, hp, hs, rfl⟩
  have hd : d'.size = l.length := by rw [hp.1, hsz]
  have e1 : d'.toList.Perm l := by
    have := hp.2.2
    rw [← hd] at this
    simp only [Array.extract_size] at this
    rw [hd, show l.length = l.toArray.size by simp, Array.extract_size] at this
    simpa using this
  have hlen : d'.toList.length = l.length := by simpa using hd
  obtain ⟨o, b⟩ := h.sorted (n := n) (os := os) (m := d'.toList) hlen (fun t ht => h.2 t (e1.mem_iff.1 ht))
  rw [Array.toArray_toList] at o b
  refine ⟨rfl, d'.toList, e1, ?_, ?_, b⟩
  · refine List.pairwise_iff_getElem.2 fun i j hi hj hij => ?_
    have hj' : j < d'.size := by simpa using hj
    have := hs i j (Nat.zero_le _) hij (by omega)
    rw [ltT, getElem!_pos _ i (by omega), getElem!_pos _ j hj'] at this
    simpa using this
  · have := o
    unfold OwnT at this ⊢
    rw [hlen] at this ⊢
    exact this

/-! ### slices.Equal -/
/-- Whether two lists of tables are the same. -/
def eqT (l m : List Tb) : Bool := allEq (fun x y => x.name.toList == y.name.toList && x.width == y.width) l m
theorem eqT_iff : ∀ l m : List Tb, eqT l m = true ↔ l = m
  | [], [] => by simp [eqT, allEq]
  | [], _ :: _ => by simp [eqT, allEq]
  | _ :: _, [] => by simp [eqT, allEq]
  | x :: l, y :: m => by
    have ih := eqT_iff l m
    unfold eqT at ih ⊢
    unfold allEq
    rw [Bool.and_eq_true, ih, Bool.and_eq_true, beq_iff_eq, beq_iff_eq, ByteArray.toList_eq, ByteArray.toList_eq, List.cons.injEq]
    constructor
    · rintro ⟨⟨h1, h2⟩, h3⟩; exact ⟨key_inj h1 h2, h3⟩
    · rintro ⟨rfl, h3⟩; exact ⟨⟨rfl, rfl⟩, h3⟩
theorem neqT : NeqAt Tryd.prog 71 (fun x : Tb => .agg (encT x).toArray) (fun x y => x.name.toList == y.name.toList && x.width == y.width) := by
  refine ⟨fun x y w => ?_, GuardAt.agg _ (by kernel_rfl)⟩
  have u1 := Tryd.underlying9
  have a1 := Tryd.isAgg9
  have z1 := Tryd.sizeOf9
  have u3 := Tryd.underlying3
  have a3 := Tryd.isAgg3
  have z3 := Tryd.sizeOf3
  have hS : Tryd.prog.underlying 71 = some (.struct (Tryd.prog.fieldsOf 71)) := by kernel_rfl
  have hp : Tryd.prog.stoodInHeld 71 = false := by kernel_rfl
  simp only [encT]
  rw [run_neq_struct, show (10000 : Nat) = 9999 + 1 from rfl, run_equalIn_agg w 9999 71 _ _ hS hp]
  simp only [Program.fieldsOf, Tryd.underlying71]
  go_simp
  by_cases h1 : x.name.toList = y.name.toList <;> by_cases h2 : x.width = y.width <;> simp [h1, h2]
theorem rdT_cells {w : World} {b o : Nat} {l : List Tb} (h : ∀ i t, l[i]? = some t → TbAt w b (o + i * 2) t) : ∀ j, j < l.length → ∀ i v, (encT l[j]!)[i]? = some v → w.cell? ⟨b, o + j * 2 + i, none⟩ = some v := by
  intro j hj i v hv
  have hx := h j l[j] (List.getElem?_eq_getElem hj)
  rw [getElem!_pos _ j hj] at hv
  match i, hv with
  | 0, hv => simp [encT] at hv; subst hv; exact hx.c0
  | 1, hv => simp [encT] at hv; subst hv; exact hx.c1
  | i + 2, hv => simp [encT] at hv
set_option maxRecDepth 100000 in
set_option maxHeartbeats 1600000 in
theorem equalT_any (a b : Option Addr) (c d : Nat) (l m : List Tb) (w : World) (h : RdT w a l) (k : RdT w b m) (hn : l.length ≤ 1048576) (hm : m.length ≤ 1048576) :
    Calls Tryd.prog 108 #[.slice a l.length c, .slice b m.length d] w fun e w' => e = .returned (.bool (eqT l m)) ∧ Below w.heap.size w w' := by
  by_cases hlen : l.length = m.length
  · rcases h with rfl | ⟨b1, o1, rfl, hc⟩
    · obtain rfl : m = [] := List.eq_nil_of_length_eq_zero hlen.symm
      go_enter Tryd.func108, Tryd.ntmps108
      go_wp2_with fail
      refine wp_loop_rounds 1 ?_; rw [rounds_succ]
      go_wp2_with fail
      go_ret
      exact ⟨rfl, Below.refl _ _⟩
    · rcases k with rfl | ⟨b2, o2, rfl, kc⟩
      · obtain rfl : l = [] := List.eq_nil_of_length_eq_zero hlen
        go_enter Tryd.func108, Tryd.ntmps108
        go_wp2_with fail
        refine wp_loop_rounds 1 ?_; rw [rounds_succ]
        go_wp2_with fail
        go_ret
        exact ⟨rfl, Below.refl _ _⟩
      · refine (AnyQ.slices_Equal Tryd.laysEqualT 2 Tryd.isAgg71 Tryd.sizeOf71 encT (fun _ => rfl) _ neqT b1 o1 l.length c b2 o2 m.length d l m w (Nat.le_refl _) (Nat.le_refl _) (by omega) (by omega) (rdT_cells hc) (rdT_cells kc)).mono ?_
        rintro e w' ⟨rfl, q, rfl⟩
        rw [List.take_length, List.take_length]
        exact ⟨rfl, below_drewN (Below.refl _ _) q⟩
  · have hne : ((l.length : Int) != (m.length : Int)) = true := by simp; omega
    have HF := Lib.hid (show eqT l m = false from allEq_len _ _ _ hlen)
    clear hlen
    go_enter Tryd.func108, Tryd.ntmps108
    go_wp2_with fail
    go_ret
    exact ⟨ret_bool HF.out.symm, Below.refl _ _⟩
end Go.Proofs.YtcegekkhlfpgfaaDoor
