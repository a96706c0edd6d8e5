/-
  The library's slices.SortFunc, slices.Equal and slices.Clone at slices of tables, in the words of this seat; compareNames. For every slice of tables. Contracts of the helpers over tables: szTable, szTableS, toTable, toTableS, eqTable, eqTableS. For every slice of tables. Contracts of spec.WordOk and impl.WordOk: both answer whether the text is a word, and change nothing. For every text.
-/
import Derived.Test.YtanfllednlpbaaaGreatJ6x
import Derived.Test.YtanfllednlpbaaaGreatShelf3
import Derived.Shelf.SlSortCmp.NoneTotal
import Derived.Shelf.SlicesQ.Equal
import Derived.Laws.StructEq
import Derived.Lib.OwnBridge
import Derived.Deep.RegionWith
import Derived.Test.YtanfllednlpbaaaGreatRows
import Derived.Test.YtanfllednlpbaaaGreatJ1x
import Derived.WalkKit
import Derived.WalkSpells
import Derived.WalkLawsBesides
import Derived.Lib.Hide
namespace Go.Proofs.YtanfllednlpbaaaGreat
open Go.RowKit Go.Shelf Go.Lib Go.Sort
set_option linter.unusedSimpArgs false
set_option linter.unusedVariables false

/-- A table's two cells. -/
def encT (t : Tb) : List Value := [.string t.name, .int .i64 t.width]
instance : Inhabited Tb := ⟨⟨ByteArray.empty, 0⟩⟩
def cmpT (s t : Tb) : Int := compareBytes s.key t.key
theorem cmp_lt : ∀ a b : Key, compareBytes a b < 0 ↔ a < b
  | [], [] => by simp [compareBytes]
  | [], _ :: _ => by simp [compareBytes]
  | _ :: _, [] => by simp [compareBytes]
  | x :: a, y :: b => by
    rw [List.cons_lt_cons_iff]
    unfold compareBytes
    by_cases h1 : x < y
    · simp [h1]
    · rw [if_neg h1]
      by_cases h2 : y < x
      · rw [if_pos h2]
        constructor
        · intro h; omega
        · rintro (h | ⟨rfl, _⟩)
          · exact absurd h h1
          · exact absurd h2 h1
      · rw [if_neg h2, cmp_lt a b]
        have e : x = y := by
          have h1' : ¬ x.toNat < y.toNat := fun h => h1 (UInt8.lt_iff_toNat_lt.2 h)
          have h2' : ¬ y.toNat < x.toNat := fun h => h2 (UInt8.lt_iff_toNat_lt.2 h)
          exact UInt8.toNat_inj.1 (by omega)
        subst e
        constructor
        · exact fun h => .inr ⟨rfl, h⟩
        · rintro (h | ⟨_, h⟩)
          · exact absurd h h1
          · exact h
theorem ltT (s t : Tb) : ltOf cmpT s t = decide (s.key < t.key) := by
  unfold ltOf cmpT
  exact decide_eq_decide.2 (cmp_lt _ _)
theorem swoT : SWO (ltOf cmpT) where
  irrefl x := by rw [ltT]; simp
  trans x y z h1 h2 := by rw [ltT] at *; simp only [decide_eq_true_eq] at *; exact List.lt_trans h1 h2
  ntrans x y z h1 h2 := by
    rw [ltT] at *
    simp only [decide_eq_false_iff_not] at *
    exact Std.not_lt.2 (Std.le_trans (Std.not_lt.1 h2) (Std.not_lt.1 h1))

set_option maxHeartbeats 1000000 in
theorem compareNames_any (s t : Tb) (W : World) : Calls Tryz.prog 125 #[.agg #[.string s.name, .int .i64 s.width], .agg #[.string t.name, .int .i64 t.width]] W fun e w' => e = .returned (.int .i64 (cmpT s t)) ∧ ∃ q os', w' = grow (W.drewN q) os' := by
  have hcon := fun W' => Any.strings_Compare Tryz.lays106 s.name t.name W'
  change ∀ W', Calls Tryz.prog 152 _ _ _ at hcon
  unfold cmpT Tb.key
  generalize compareBytes s.name.data.toList t.name.data.toList = r at hcon ⊢
  go_enter Tryz.func125, Tryz.ntmps125
  go_wp2_with (go_at_call 152; refine (hcon _).mono ?_; rintro e w' ⟨rfl, rfl⟩)
  go_ret
  exact ⟨rfl, 0, _, by rw [alloc_eq_grow, alloc_eq_grow, grow_grow]; rfl⟩
theorem cmpLaysT (blk off size : Nat) (w : World) : CmpLays Tryz.prog 125 #[] encT 2 cmpT blk off size w :=
  fun _ _ _ _ x y => compareNames_any x y _

theorem encT_get (l : List Tb) (t : Nat) (h : t < l.length * 2) : (tbC l)[t]? = some ((encT (l.toArray[t / 2]!))[t % 2]!) := by
  have hi : t / 2 < l.length := by omega
  have hx : l[t / 2]? = some l[t / 2] := List.getElem?_eq_getElem hi
  have he : l.toArray[t / 2]! = l[t / 2] := by rw [getElem!_pos _ _ (by simpa using hi)]; simp
  rw [he]
  rcases Nat.mod_two_eq_zero_or_one t with h0 | h0
  · have := tbC_get0 l _ _ hx
    rw [show t / 2 * 2 = t by omega] at this
    rw [this, h0]; rfl
  · have := tbC_get1 l _ _ hx
    rw [show t / 2 * 2 + 1 = t by omega] at this
    rw [this, h0]; rfl
theorem flatT (l : List Tb) : flatK encT 2 l.toArray = (tbC l).toArray := by
  apply Array.ext
  · simp [tbC_len]
  · intro t h1 h2
    have ht : t < l.length * 2 := by simpa using h1
    have e1 := get_flatK encT 2 l.toArray t (by simpa using ht)
    rw [getElem!_pos _ t h1] at e1
    rw [e1]
    have e2 := encT_get l t ht
    have : (tbC l)[t]? = some ((tbC l).toArray[t]) := by
      rw [List.getElem?_eq_getElem (by rw [tbC_len]; exact ht)]; simp
    rw [this] at e2
    injection e2 with e2
    exact e2.symm
theorem holdsT {w : World} {base g c : Nat} {l : List Tb} (h : OwnT w base (some ⟨g, 0, none⟩) c l) : HoldsK encT 2 w g 0 l.toArray := by
  unfold HoldsK
  rw [flatT]
  intro j hj
  have hj' : j < l.length * 2 := by simpa [tbC_len] using hj
  rw [Nat.zero_add]
  refine ⟨?_, World.ownsRow.frozenAt h.1 j⟩
  rw [World.ownsRow.cellAt h.1 j hj', getElem!_pos _ j hj]
  rw [List.getElem?_eq_getElem (by rw [tbC_len]; exact hj')]; simp
theorem growT' {B : Nat} {a w : World} (h : Below B a w) (hB : B ≤ w.heap.size) (os : Array Obj) : Below B a (grow w os) :=
  ⟨h.os, h.tape, h.output, Nat.le_trans h.size (by show w.heap.size ≤ (w.heap ++ os).size; simp), fun k hk => by
    show (w.heap ++ os)[k]? = _
    rw [Array.getElem?_append_left (by omega)]; exact h.block k hk⟩
/-- The row laid anew. -/
theorem OwnT.sorted {w : World} {base g c n : Nat} {l m : List Tb} {os : Array Obj} (h : OwnT w base (some ⟨g, 0, none⟩) c l) (hl : m.length = l.length) (hm : ∀ t ∈ m, t.name.size ≤ maxLen) :
    OwnT (sortWorldK encT 2 w g 0 n m.toArray os) base (some ⟨g, 0, none⟩) c m ∧ Below base w (sortWorldK encT 2 w g 0 n m.toArray os) := by
  unfold sortWorldK putRowK
  rw [flatT]
  rcases h.1.2 with ⟨e0, _⟩ | ⟨g', cap', cur, e0, hb, hg, hn, hx, hs, ht⟩
  · cases e0
  · injection e0 with e1 _ e3
    injection e1 with e1
    injection e1 with e1
    subst e1; subst e3
    have hlt : g < w.heap.size := (Array.getElem?_eq_some_iff.1 hg).1
    have hsz : (putRow id (Sort.ahead w n) g 0 (tbC m).toArray).heap.size = w.heap.size := by simp [putRow, mapBlock, Sort.ahead]
    refine ⟨⟨⟨tbC_len m, .inr ⟨g, c, putCells id 0 (tbC m).toArray cur, rfl, hb, ?_, by omega, hx, by simpa [putCells] using hs, ?_⟩⟩, hm⟩, ?_⟩
    · show ((putRow id (Sort.ahead w n) g 0 (tbC m).toArray).heap ++ os)[g]? = _
      rw [Array.getElem?_append_left (by rw [hsz]; exact hlt)]
      simp [putRow, mapBlock, Sort.ahead, Array.getElem?_modify, hg, onCells]
    · apply List.ext_getElem?
      intro j
      rw [List.getElem?_take, Array.getElem?_toList]
      by_cases hj : j < m.length * 2
      · have hjc : j < cur.size := by omega
        simp only [if_pos hj, putCells, Array.getElem?_mapIdx, Array.getElem?_eq_getElem hjc, Option.map_some]
        rw [if_pos (by simp [tbC_len]; omega), List.getElem?_eq_getElem (by rw [tbC_len]; exact hj)]
        simp [getElem!_pos, tbC_len, hj]
      · rw [if_neg hj, List.getElem?_eq_none (by rw [tbC_len]; omega)]
    · refine growT' (below_putRow (Below.refl _ _) hb) ?_ os
      rw [hsz]; omega

/-- slices.SortFunc at tables. -/
theorem sortT_any (ao : Option Addr) (c : Nat) (l : List Tb) (base : Nat) (w : World) (h : OwnT w base ao c l) (hl : l.length ≤ 1048576) :
    Calls Tryz.prog 124 #[.slice ao l.length c, .func (.func 125) #[] #[]] w fun e w' => e = .returned (.tuple #[]) ∧
      ∃ m : List Tb, m.Perm l ∧ m.Pairwise (fun s t => ¬ t.key < s.key) ∧ OwnT w' base ao c m ∧ Below base w w' := by
  by_cases hz : l = []
  · subst hz
    refine (AnyF.slices_SortFunc_none Tryz.laysSortT ao c _ w).mono ?_
    rintro e w' ⟨rfl, rfl⟩
    exact ⟨rfl, [], List.Perm.refl _, List.Pairwise.nil, h, Below.refl _ _⟩
  rcases h.form with ⟨_, _, h0⟩ | ⟨g, rfl, hb, hg⟩
  · exact absurd h0 hz
  have eg : ∀ args w, (callFunc 125 args).run Tryz.prog w = .ok (.enter 125 args) w := enters_of Tryz.func125 (by kernel_rfl) rfl
  have hsz : l.toArray.size = l.length := by simp
  have hcon := AnyQ.slices_SortFunc Tryz.laysSortT 2 Tryz.isAgg89 Tryz.sizeOf89 encT (fun _ => rfl) (fun x v hv => by simp [encT] at hv; rcases hv with rfl | rfl <;> rfl) cmpT swoT 125 #[] g 0 c l.toArray w eg (cmpLaysT g 0 _ w) (holdsT h) hg (by rw [hsz]; omega)
  rw [hsz] at hcon
  refine hcon.mono ?_
  rintro e w' ⟨rfl, d', n, os, hp, hs, rfl⟩
  have hd : d'.size = l.length := by rw [hp.1, hsz]
  have e1 : d'.toList.Perm l := by
    have := hp.2.2
    rw [← hd] at this
    simp only [Array.extract_size] at this
    rw [hd, show l.length = l.toArray.size by simp, Array.extract_size] at this
    simpa using this
  have hlen : d'.toList.length = l.length := by simpa using hd
  obtain ⟨o, b⟩ := h.sorted (n := n) (os := os) (m := d'.toList) hlen (fun t ht => h.2 t (e1.mem_iff.1 ht))
  rw [Array.toArray_toList] at o b
  refine ⟨rfl, d'.toList, e1, ?_, ?_, b⟩
  · refine List.pairwise_iff_getElem.2 fun i j hi hj hij => ?_
    have hj' : j < d'.size := by simpa using hj
    have := hs i j (Nat.zero_le _) hij (by omega)
    rw [ltT, getElem!_pos _ i (by omega), getElem!_pos _ j hj'] at this
    simpa using this
  · have := o
    unfold OwnT at this ⊢
    rw [hlen] at this ⊢
    exact this

/-! ### slices.Equal -/
/-- Whether two lists of tables are the same. -/
def eqT (l m : List Tb) : Bool := allEq (fun x y => x.name.toList == y.name.toList && x.width == y.width) l m
theorem eqT_iff : ∀ l m : List Tb, eqT l m = true ↔ l = m
  | [], [] => by simp [eqT, allEq]
  | [], _ :: _ => by simp [eqT, allEq]
  | _ :: _, [] => by simp [eqT, allEq]
  | x :: l, y :: m => by
    have ih := eqT_iff l m
    unfold eqT at ih ⊢
    unfold allEq
    rw [Bool.and_eq_true, ih, Bool.and_eq_true, beq_iff_eq, beq_iff_eq, ByteArray.toList_eq, ByteArray.toList_eq, List.cons.injEq]
    constructor
    · rintro ⟨⟨h1, h2⟩, h3⟩; exact ⟨key_inj h1 h2, h3⟩
    · rintro ⟨rfl, h3⟩; exact ⟨⟨rfl, rfl⟩, h3⟩
theorem neqT : NeqAt Tryz.prog 89 (fun x : Tb => .agg (encT x).toArray) (fun x y => x.name.toList == y.name.toList && x.width == y.width) := by
  refine ⟨fun x y w => ?_, GuardAt.agg _ (by kernel_rfl)⟩
  have u1 := Tryz.underlying9
  have a1 := Tryz.isAgg9
  have z1 := Tryz.sizeOf9
  have u3 := Tryz.underlying3
  have a3 := Tryz.isAgg3
  have z3 := Tryz.sizeOf3
  have hS : Tryz.prog.underlying 89 = some (.struct (Tryz.prog.fieldsOf 89)) := by kernel_rfl
  have hp : Tryz.prog.stoodInHeld 89 = false := by kernel_rfl
  simp only [encT]
  rw [run_neq_struct, show (10000 : Nat) = 9999 + 1 from rfl, run_equalIn_agg w 9999 89 _ _ hS hp]
  simp only [Program.fieldsOf, Tryz.underlying89]
  go_simp
  by_cases h1 : x.name.toList = y.name.toList <;> by_cases h2 : x.width = y.width <;> simp [h1, h2]
theorem rdT_cells {w : World} {b o : Nat} {l : List Tb} (h : ∀ i t, l[i]? = some t → TbAt w b (o + i * 2) t) : ∀ j, j < l.length → ∀ i v, (encT l[j]!)[i]? = some v → w.cell? ⟨b, o + j * 2 + i, none⟩ = some v := by
  intro j hj i v hv
  have hx := h j l[j] (List.getElem?_eq_getElem hj)
  rw [getElem!_pos _ j hj] at hv
  match i, hv with
  | 0, hv => simp [encT] at hv; subst hv; exact hx.c0
  | 1, hv => simp [encT] at hv; subst hv; exact hx.c1
  | i + 2, hv => simp [encT] at hv
set_option maxRecDepth 100000 in
set_option maxHeartbeats 1600000 in
theorem equalT_any (a b : Option Addr) (c d : Nat) (l m : List Tb) (w : World) (h : RdT w a l) (k : RdT w b m) (hn : l.length ≤ 1048576) (hm : m.length ≤ 1048576) :
    Calls Tryz.prog 95 #[.slice a l.length c, .slice b m.length d] w fun e w' => e = .returned (.bool (eqT l m)) ∧ Below w.heap.size w w' := by
  by_cases hlen : l.length = m.length
  · rcases h with rfl | ⟨b1, o1, rfl, hc⟩
    · obtain rfl : m = [] := List.eq_nil_of_length_eq_zero hlen.symm
      go_enter Tryz.func95, Tryz.ntmps95
      go_wp2_with fail
      refine wp_loop_rounds 1 ?_; rw [rounds_succ]
      go_wp2_with fail
      go_ret
      exact ⟨rfl, Below.refl _ _⟩
    · rcases k with rfl | ⟨b2, o2, rfl, kc⟩
      · obtain rfl : l = [] := List.eq_nil_of_length_eq_zero hlen
        go_enter Tryz.func95, Tryz.ntmps95
        go_wp2_with fail
        refine wp_loop_rounds 1 ?_; rw [rounds_succ]
        go_wp2_with fail
        go_ret
        exact ⟨rfl, Below.refl _ _⟩
      · refine (AnyQ.slices_Equal Tryz.laysEqualT 2 Tryz.isAgg89 Tryz.sizeOf89 encT (fun _ => rfl) _ neqT b1 o1 l.length c b2 o2 m.length d l m w (Nat.le_refl _) (Nat.le_refl _) (by omega) (by omega) (rdT_cells hc) (rdT_cells kc)).mono ?_
        rintro e w' ⟨rfl, q, rfl⟩
        rw [List.take_length, List.take_length]
        exact ⟨rfl, below_drewN (Below.refl _ _) q⟩
  · have hne : ((l.length : Int) != (m.length : Int)) = true := by simp; omega
    have HF := Lib.hid (show eqT l m = false from allEq_len _ _ _ hlen)
    clear hlen
    go_enter Tryz.func95, Tryz.ntmps95
    go_wp2_with fail
    go_ret
    exact ⟨ret_bool HF.out.symm, Below.refl _ _⟩
end Go.Proofs.YtanfllednlpbaaaGreat
namespace Go.Proofs.YtanfllednlpbaaaGreat
open Go.RowKit
set_option linter.unusedSimpArgs false
set_option linter.unusedVariables false

/-- A table's value. -/
abbrev tbV (t : Tb) : Value := .agg #[.string t.name, .int .i64 t.width]
theorem Tryz.infoTable : (Tryz.prog.info? 89).map (fun i => (i.zero, i.size, i.bytes)) = some (some (.agg #[.string ⟨#[]⟩, .int .i64 0]), 2, 24) := by kernel_rfl
def szB (t : Tb) (left : Int) : Int := if left - (t.name.size : Int) < 0 then -1 else left - t.name.size

set_option maxHeartbeats 800000 in
theorem szTable_any (t : Tb) (left : Int) (w : World) (h0 : 0 ≤ left) (h1 : left ≤ 1048576) (hs : t.name.size ≤ maxLen) :
    Calls Tryz.prog 59 #[.agg #[.string t.name, .int .i64 t.width], .int .i64 left] w fun e w' => e = .returned (.int .i64 (szB t left)) ∧ Below w.heap.size w w' := by
  unfold maxLen at hs
  by_cases h : left - (t.name.size : Int) < 0
  · have E := Lib.hid (show szB t left = -1 from if_pos h)
    go_enter Tryz.func59, Tryz.ntmps59
    go_wp2_with fail
    go_ret
    rw [E.out]
    exact ⟨rfl, (Below.refl _ _).alloc (Nat.le_refl _) _⟩
  · have E := Lib.hid (show szB t left = left - t.name.size from if_neg h)
    have h' : 0 ≤ left - (t.name.size : Int) := by omega
    clear h
    go_enter Tryz.func59, Tryz.ntmps59
    go_wp2_with fail
    go_ret
    rw [E.out]
    exact ⟨rfl, (Below.refl _ _).alloc (Nat.le_refl _) _⟩

/-- How many letters there are. -/
def totT (l : List Tb) : Nat := (l.map fun t => t.name.size).sum
theorem totT_take {l : List Tb} {k : Nat} {t : Tb} (h : l[k]? = some t) : totT (l.take (k + 1)) = totT (l.take k) + t.name.size := by
  rw [List.take_add_one, h]; simp [totT]
def SzPostT (w : World) (l : List Tb) (left : Int) (e : Ending) (w' : World) : Prop :=
  ∃ r : Int, e = .returned (.int .i64 r) ∧ Below w.heap.size w w' ∧ (r = -1 ∨ (0 ≤ r ∧ r + l.length + totT l = left))
theorem szB_neg {t : Tb} {left : Int} (h : szB t left < 0) : szB t left = -1 := by unfold szB at h ⊢; split <;> omega
theorem szB_pos {t : Tb} {left : Int} (h : 0 ≤ szB t left) : szB t left + t.name.size = left := by unfold szB at h ⊢; split <;> omega

set_option maxHeartbeats 800000 in
theorem szTableS_any (ao : Option Addr) (c : Nat) (l : List Tb) (left : Int) (w : World) (h : RdT w ao l) (hl : l.length ≤ maxLen) (h0 : 0 ≤ left) (h1 : left ≤ 1048576) :
    Calls Tryz.prog 18 #[.slice ao l.length c, .int .i64 left] w (SzPostT w l left) := by
  have hl' := hl; unfold maxLen at hl'
  have H := Lib.hid h; clear h
  by_cases hlt : left < (l.length : Int)
  · have h2 : left - (l.length : Int) < 0 := by omega
    go_enter Tryz.func18, Tryz.ntmps18
    go_wp2_with fail
    go_ret
    exact ⟨-1, rfl, Below.refl _ _, .inl rfl⟩
  · have h2 : 0 ≤ left - (l.length : Int) := by omega
    have h3 : (l.length : Int) ≤ left := by omega
    clear hl' hl
    go_enter Tryz.func18, Tryz.ntmps18
    go_wp2_with fail
    go_loopw [1, 5] (fun r i wr => ∃ (k : Nat) (q : Int), k ≤ l.length ∧ i = .int .i64 k ∧ r = .int .i64 q ∧ 0 ≤ q ∧ q + l.length + totT (l.take k) = left ∧ Below w.heap.size w wr) (fun _ i _ => l.length - (intOf i).toNat)
    case atStart => exact ⟨0, _, Nat.zero_le _, rfl, rfl, by omega, by simp [totT], Below.refl _ _⟩
    case round =>
      obtain ⟨k, q, hk, rfl, rfl, hq0, hq, hb⟩ := hrel
      have HQ := Lib.hid hq; clear hq
      have hq1 : q ≤ 1048576 := by have := HQ.out; omega
      by_cases hlt2 : k < l.length
      · obtain ⟨b, off, t, rfl, hn, hat⟩ := (H.out.below hb).at_ hlt2
        have HN := Lib.hid hn; clear hn
        have HB := Lib.hid hb; clear hb
        obtain ⟨c0, c1, nm⟩ := hat
        have Z := Lib.hid (szTable_any t q)
        go_wp2_with fail
        refine (Z.out _ hq0 hq1 nm).mono ?_
        rintro e w1 ⟨rfl, b1⟩
        have T1 := Lib.hid (below_step HB.out (Nat.le_refl _) b1)
        clear b1
        by_cases hs : szB t q < 0
        · have S := Lib.hid (szB_neg hs)
          go_wp2_with fail
          go_ret
          exact ⟨-1, rfl, T1.out, .inl rfl⟩
        · have hs' : 0 ≤ szB t q := by omega
          have S := Lib.hid (szB_pos hs')
          clear hs
          generalize szB t q = q' at S hs' ⊢
          go_wp2_with fail
          go_roundw
          case rel => exact ⟨k + 1, q', by omega, by go_num, rfl, hs', by have := S.out; have := HQ.out; rw [totT_take HN.out]; omega, T1.out⟩
          case measure => simp [intOf]; omega
      · have e : k = l.length := by omega
        subst e
        have HB := Lib.hid hb; clear hb
        go_wp2_with fail
        go_ret
        exact ⟨q, rfl, HB.out, .inr ⟨hq0, by have := HQ.out; rwa [List.take_length] at this⟩⟩

set_option maxHeartbeats 800000 in
theorem toTable_any (t : Tb) (w : World) :
    Calls Tryz.prog 62 #[.agg #[.string t.name, .int .i64 t.width]] w fun e w' => e = .returned (.agg #[.string t.name, .int .i64 t.width]) ∧ Below w.heap.size w w' := by
  go_enter Tryz.func62, Tryz.ntmps62
  go_wp2
  refine bodyPost_ret (v := .agg #[.string t.name, .int .i64 t.width]) (by simp [results, Tryz.results62, go_sem]) rfl ⟨rfl, ?_⟩
  repeat (refine Below.setCell ?_ (by simp; try omega) _)
  exact (((Below.refl _ w).alloc (Nat.le_refl _) _).alloc (by simp) _).alloc (by simp; omega) _

/-- A row of tables of which the first j are laid. -/
def PartT (w : World) (base g c m : Nat) (l : List Tb) (j : Nat) : Prop :=
  ∃ xs, w.ownsRow base 89 2 (.slice (some ⟨g, 0, none⟩) m c) m xs ∧ xs.take (j * 2) = tbC (l.take j)
theorem PartT.below {w w' : World} {base g c m : Nat} {l : List Tb} {j : Nat} (h : PartT w base g c m l j) (hb : Below w.heap.size w w') : PartT w' base g c m l j := by
  obtain ⟨xs, h1, h2⟩ := h
  have hg := (h1.lt g rfl).2
  refine ⟨xs, ⟨h1.1, ?_⟩, h2⟩
  rcases h1.2 with h3 | ⟨g', cap, cur, hv, hb', hg', r⟩
  · exact .inl h3
  · refine .inr ⟨g', cap, cur, hv, hb', ?_, r⟩
    simp only [Value.slice.injEq, Option.some.injEq, Addr.mk.injEq, and_true] at hv
    rw [hb.block g' (by rw [← hv.1]; exact hg)]; exact hg'
theorem take_set2 {xs : List Value} {j : Nat} {u v : Value} (h : j * 2 + 1 < xs.length) : (((xs.set (j * 2) u).set (j * 2 + 1) v).take ((j + 1) * 2)) = xs.take (j * 2) ++ [u, v] := by
  apply List.ext_getElem?
  intro i
  rw [List.getElem?_take]
  by_cases hi : i < (j + 1) * 2
  · rw [if_pos hi]
    by_cases h1 : i < j * 2
    · rw [List.getElem?_set_ne (by omega), List.getElem?_set_ne (by omega), List.getElem?_append_left (by simp; omega), List.getElem?_take_of_lt h1]
    · rw [List.getElem?_append_right (by simp; omega)]
      have hl : (xs.take (j * 2)).length = j * 2 := by simp; omega
      rw [hl]
      by_cases h2 : i = j * 2
      · subst h2; rw [List.getElem?_set_ne (by omega), List.getElem?_set_self (by omega)]; simp
      · obtain rfl : i = j * 2 + 1 := by omega
        rw [List.getElem?_set_self (by simp; omega), show j * 2 + 1 - j * 2 = 1 by omega]; rfl
  · rw [if_neg hi, List.getElem?_eq_none (by simp; omega)]
theorem PartT.put {w : World} {base g c m : Nat} {l : List Tb} {j : Nat} {t : Tb} (h : PartT w base g c m l j) (hj : j < m) (ht : l[j]? = some t) :
    PartT ((w.setCell ⟨g, j * 2, none⟩ (.string t.name)).setCell ⟨g, j * 2 + 1, none⟩ (.int .i64 t.width)) base g c m l (j + 1) := by
  obtain ⟨xs, h1, h2⟩ := h
  have s0 := (h1.stored (j * 2) (.string t.name)).1
  have s1 := (s0.stored (j * 2 + 1) (.int .i64 t.width)).1
  refine ⟨_, s1, ?_⟩
  rw [take_set2 (by rw [h1.1]; omega), h2, List.take_add_one, ht, tbC_app]; rfl
theorem PartT.some_ {w : World} {base g c m : Nat} {l : List Tb} {j : Nat} (h : PartT w base g c m l j) {o : Nat} (ho : o < m * 2) : ∃ y, w.cell? ⟨g, o, none⟩ = some y := by
  obtain ⟨xs, h1, _⟩ := h
  exact ⟨xs[o]'(by rw [h1.1]; exact ho), by rw [World.ownsRow.cellAt h1 o ho, List.getElem?_eq_getElem]⟩
theorem PartT.frozen {w : World} {base g c m : Nat} {l : List Tb} {j : Nat} (h : PartT w base g c m l j) (o : Nat) : w.frozen? ⟨g, o, none⟩ = false := by
  obtain ⟨xs, h1, _⟩ := h
  exact World.ownsRow.frozenAt h1 o
theorem PartT.own {w : World} {base g c : Nat} {l : List Tb} (h : PartT w base g c l.length l l.length) (hs : ∀ t ∈ l, t.name.size ≤ maxLen) : OwnT w base (some ⟨g, 0, none⟩) c l := by
  obtain ⟨xs, h1, h2⟩ := h
  rw [List.take_of_length_le (by rw [h1.1]; omega), List.take_length] at h2
  subst h2
  exact ⟨h1, hs⟩

set_option maxRecDepth 100000 in
set_option maxHeartbeats 1600000 in
theorem toTableS_any (ao : Option Addr) (c : Nat) (l : List Tb) (w : World) (h : RdT w ao l) (hl : l.length ≤ 1048576) :
    Calls Tryz.prog 21 #[.slice ao l.length c] w (MadeT w l) := by
  obtain ⟨i0, hi, hz0, hz1, hz2⟩ := info_parts Tryz.infoTable
  have H := Lib.hid h; clear h
  go_enter Tryz.func21, Tryz.ntmps21
  go_wp2_with (at_make; refine wpList_make_full _ rfl (.tmp 6) (.tmp 6) 24 rfl w.heap.size 89 i0 _ 2 Tryz.underlying24 hi hz0 hz1 .i64 .i64 _ _ l.length rfl rfl rfl rfl (by rw [hz2]; omega) (by unfold maxLen; omega) (Nat.le_refl _) ?_; intro w1 hown hgrow)
  have hbel : Below w.heap.size w w1 := below_of_grown hgrow (Nat.le_refl _) (by intro g hg; cases hg)
  clear hgrow hi hz0 hz1 hz2
  have P0 := Lib.hid (show PartT w1 w.heap.size w.heap.size l.length l.length l 0 from ⟨_, hown, rfl⟩)
  clear hown
  go_loopw [4] (fun i wr => ∃ j : Nat, j ≤ l.length ∧ i = .int .i64 j ∧ PartT wr w.heap.size w.heap.size l.length l.length l j ∧ Below w.heap.size w wr) (fun i _ => l.length - (intOf i).toNat)
  case atStart => exact ⟨0, Nat.zero_le _, rfl, P0.out, hbel⟩
  case round =>
    clear P0 hbel
    obtain ⟨j, hj, rfl, hp, hb⟩ := hrel
    by_cases hlt : j < l.length
    · obtain ⟨b, off, t, rfl, hn, hat⟩ := (H.out.below hb).at_ hlt
      have HN := Lib.hid hn; clear hn
      have HB := Lib.hid hb; clear hb
      have HP := Lib.hid hp; clear hp
      obtain ⟨c0, c1, nm⟩ := hat
      have T := Lib.hid (toTable_any t)
      go_wp2_with fail
      refine (T.out _).mono ?_
      rintro e w2 ⟨rfl, b2⟩
      have HP2 := Lib.hid (HP.out.below b2)
      obtain ⟨y0, e0⟩ := HP2.out.some_ (o := j * 2) (by omega)
      obtain ⟨y1, e1⟩ := HP2.out.some_ (o := j * 2 + 1) (by omega)
      have hf := HP2.out.frozen
      have R := Lib.hid (HP2.out.put hlt HN.out)
      have T2 := Lib.hid (((below_step HB.out (Nat.le_refl _) b2).setCell (p := ⟨w.heap.size, j * 2, none⟩) (Nat.le_refl _) (.string t.name)).setCell (p := ⟨w.heap.size, j * 2 + 1, none⟩) (Nat.le_refl _) (.int .i64 t.width))
      clear b2 c0 c1
      go_wp2_with fail
      go_roundw
      case rel => exact ⟨j + 1, by omega, by go_num, R.out, T2.out⟩
      case measure => simp [intOf]; omega
    · obtain rfl : j = l.length := by omega
      have HB := Lib.hid hb; clear hb
      have HP := Lib.hid hp; clear hp
      go_wp2_with fail
      go_ret
      exact ⟨_, _, rfl, HP.out.own fun t ht => H.out.name ht, HB.out⟩
end Go.Proofs.YtanfllednlpbaaaGreat
namespace Go.Proofs.YtanfllednlpbaaaGreat
open Go.RowKit
set_option linter.unusedSimpArgs false
set_option linter.unusedVariables false


theorem l01In_any (x a b : Int) (w : World) :
    Calls Tryz.prog 72 #[.int .i64 x, .int .i64 a, .int .i64 b] w fun e w' => e = .returned (.bool (decide (a ≤ x) && decide (x ≤ b))) ∧ w = w' := by
  by_cases h1 : a ≤ x
  · by_cases h2 : x ≤ b
    · go_enter Tryz.func72, Tryz.ntmps72
      go_wp2
      go_ret
      exact ⟨ret_bool (by simp [h1, h2]), rfl⟩
    · have h3 : b < x := by omega
      go_enter Tryz.func72, Tryz.ntmps72
      go_wp2
      go_ret
      exact ⟨ret_bool (by simp [h2]), rfl⟩
  · have h3 : x < a := by omega
    have h4 : decide (a ≤ x) = false := by simp; omega
    go_enter Tryz.func72, Tryz.ntmps72
    go_wp2
    go_ret
    exact ⟨ret_bool (by simp), rfl⟩

set_option maxHeartbeats 400000 in
theorem specWordOk_any (s : ByteArray) (w : World) (hs : s.size ≤ maxLen) :
    Calls Tryz.prog 112 #[.string s] w fun e w' => e = .returned (.bool (wordB s.data.toList)) ∧ w = w' := by
  unfold maxLen at hs
  by_cases h1 : 1 ≤ s.size ∧ s.size ≤ 12
  · obtain ⟨h1, h2⟩ := h1
    have h1' : (1 : Int) ≤ s.size := by omega
    have h2' : (s.size : Int) ≤ 12 := by omega
    by_cases h3 : s[0].toNat < 97
    · have hfin : wordB s.data.toList = false := wordB_head (by omega) h3
      have HF := Lib.hid hfin; clear hfin
      go_enter Tryz.func112, Tryz.ntmps112
      go_wp2_with (go_at_call 72; refine (l01In_any _ _ _ _).mono ?_; rintro e w' ⟨rfl, rfl⟩)
      go_ret
      exact ⟨ret_bool HF.out.symm, rfl⟩
    · go_enter Tryz.func112, Tryz.ntmps112
      go_wp2_with (go_at_call 72; refine (l01In_any _ _ _ _).mono ?_; rintro e w' ⟨rfl, rfl⟩)
      go_loop [3] (fun i => ∃ k : Nat, k ≤ s.size ∧ i = .int .i64 k ∧ allB (s.data.toList.take k) = true) (fun i => s.size - (intOf i).toNat)
      case atStart => exact ⟨0, Nat.zero_le _, rfl, rfl⟩
      case round =>
        obtain ⟨k, hk, rfl, hall⟩ := hrel
        have HA := Lib.hid hall; clear hall
        by_cases hlt : k < s.size
        · go_wp2
          all_goals first
            | (go_ret; exact ⟨ret_bool (wordB_no hlt (charF (by omega))).symm, rfl⟩)
            | (go_round
               case rel => exact ⟨k + 1, by omega, by go_num, by rw [allB_take_succ s k hlt, HA.out, charT (by omega)]; rfl⟩
               case measure => simp [intOf]; omega)
        · go_wp2
          go_ret
          exact ⟨ret_bool (wordB_yes (by omega) (by omega) (by omega) k (by omega) HA.out).symm, rfl⟩
  · have hfin : wordB s.data.toList = false := wordB_len h1
    have HF := Lib.hid hfin; clear hfin
    have h3 : (decide ((1 : Int) ≤ s.size) && decide ((s.size : Int) ≤ 12)) = false := by simp; omega
    have H3 := Lib.hid h3; clear h3
    go_enter Tryz.func112, Tryz.ntmps112
    go_wp2_with (go_at_call 72; refine (l01In_any _ _ _ _).mono ?_; rintro e w' ⟨rfl, rfl⟩; rw [H3.out])
    go_ret
    exact ⟨ret_bool HF.out.symm, rfl⟩

theorem isDigit_t (c : Nat) (w : World) (h1 : 48 ≤ c) (h2 : c ≤ 57) : Calls Tryz.prog 148 #[.int .u8 c] w fun e w' => e = .returned (.bool true) ∧ w = w' := by
  have h3 : (48 : Int) ≤ c := by omega
  have h4 : (c : Int) ≤ 57 := by omega
  go_enter Tryz.func148, Tryz.ntmps148
  go_wp2
  go_ret
  exact ⟨ret_bool (by simp), rfl⟩
theorem isDigit_f (c : Nat) (w : World) (h : c < 48 ∨ 57 < c) : Calls Tryz.prog 148 #[.int .u8 c] w fun e w' => e = .returned (.bool false) ∧ w = w' := by
  by_cases h1 : 48 ≤ c
  · have h3 : (57 : Int) < c := by omega
    go_enter Tryz.func148, Tryz.ntmps148
    go_wp2
    go_ret
    exact ⟨ret_bool (by simp; omega), rfl⟩
  · have h4 : decide ((48 : Int) ≤ (c : Int)) = false := by simp; omega
    go_enter Tryz.func148, Tryz.ntmps148
    go_wp2
    go_ret
    exact ⟨rfl, rfl⟩
theorem isLetter_t (c : Nat) (w : World) (h1 : 97 ≤ c) (h2 : c ≤ 122) : Calls Tryz.prog 149 #[.int .u8 c] w fun e w' => e = .returned (.bool true) ∧ w = w' := by
  have h3 : (97 : Int) ≤ c := by omega
  have h4 : (c : Int) ≤ 122 := by omega
  go_enter Tryz.func149, Tryz.ntmps149
  go_wp2
  go_ret
  exact ⟨ret_bool (by simp), rfl⟩
theorem isLetter_f (c : Nat) (w : World) (h : c < 97 ∨ 122 < c) : Calls Tryz.prog 149 #[.int .u8 c] w fun e w' => e = .returned (.bool false) ∧ w = w' := by
  by_cases h1 : 97 ≤ c
  · have h3 : (122 : Int) < c := by omega
    go_enter Tryz.func149, Tryz.ntmps149
    go_wp2
    go_ret
    exact ⟨ret_bool (by simp; omega), rfl⟩
  · have h4 : decide ((97 : Int) ≤ (c : Int)) = false := by simp; omega
    go_enter Tryz.func149, Tryz.ntmps149
    go_wp2
    go_ret
    exact ⟨rfl, rfl⟩

set_option maxHeartbeats 800000 in
theorem implWordOk_any (s : ByteArray) (w : World) (hs : s.size ≤ maxLen) :
    Calls Tryz.prog 123 #[.string s] w fun e w' => e = .returned (.bool (wordB s.data.toList)) ∧ w = w' := by
  unfold maxLen at hs
  by_cases h0 : s.size < 1
  · have HF := Lib.hid (wordB_len (s := s) (by omega))
    have h1 : decide ((s.size : Int) < 1) = true := by simp; omega
    go_enter Tryz.func123, Tryz.ntmps123
    go_wp2
    go_ret
    exact ⟨ret_bool HF.out.symm, rfl⟩
  by_cases h2 : 12 < s.size
  · have HF := Lib.hid (wordB_len (s := s) (by omega))
    have h1 : decide ((s.size : Int) < 1) = false := by simp; omega
    have h3 : decide ((12 : Int) < (s.size : Int)) = true := by simp; omega
    go_enter Tryz.func123, Tryz.ntmps123
    go_wp2
    go_ret
    exact ⟨ret_bool HF.out.symm, rfl⟩
  have hp : 0 < s.size := by omega
  have h1 : decide ((s.size : Int) < 1) = false := by simp; omega
  have h3 : decide ((12 : Int) < (s.size : Int)) = false := by simp; omega
  by_cases hd : 48 ≤ s[0].toNat ∧ s[0].toNat ≤ 57
  · obtain ⟨hd1, hd2⟩ := hd
    have HF := Lib.hid (wordB_head (s := s) (by omega) (by omega))
    go_enter Tryz.func123, Tryz.ntmps123
    go_wp2_with (go_at_call 148; refine (isDigit_t _ _ hd1 hd2).mono ?_; rintro e w' ⟨rfl, rfl⟩)
    go_ret
    exact ⟨ret_bool HF.out.symm, rfl⟩
  · have hd' : s[0].toNat < 48 ∨ 57 < s[0].toNat := by omega
    go_enter Tryz.func123, Tryz.ntmps123
    go_wp2_with (go_at_call 148; refine (isDigit_f _ _ hd').mono ?_; rintro e w' ⟨rfl, rfl⟩)
    go_loop [19] (fun i => ∃ k : Nat, k ≤ s.size ∧ i = .int .i64 k ∧ allB (s.data.toList.take k) = true) (fun i => s.size - (intOf i).toNat)
    case atStart => exact ⟨0, Nat.zero_le _, rfl, rfl⟩
    case round =>
      obtain ⟨k, hk, rfl, hall⟩ := hrel
      have HA := Lib.hid hall; clear hall
      by_cases hlt : k < s.size
      · by_cases hl : 97 ≤ s[k].toNat ∧ s[k].toNat ≤ 122
        · obtain ⟨hl1, hl2⟩ := hl
          go_wp2_with (go_at_call 149; refine (isLetter_t _ _ hl1 hl2).mono ?_; rintro e w' ⟨rfl, rfl⟩)
          go_round
          case rel => exact ⟨k + 1, by omega, by go_num, by rw [allB_take_succ s k hlt, HA.out, charT (by omega)]; rfl⟩
          case measure => simp [intOf]; omega
        · have hl' : s[k].toNat < 97 ∨ 122 < s[k].toNat := by omega
          by_cases hg : 48 ≤ s[k].toNat ∧ s[k].toNat ≤ 57
          · obtain ⟨hg1, hg2⟩ := hg
            go_wp2_with (first | (go_at_call 149; refine (isLetter_f _ _ hl').mono ?_; rintro e w' ⟨rfl, rfl⟩) | (go_at_call 148; refine (isDigit_t _ _ hg1 hg2).mono ?_; rintro e w' ⟨rfl, rfl⟩))
            go_round
            case rel => exact ⟨k + 1, by omega, by go_num, by rw [allB_take_succ s k hlt, HA.out, charT (by omega)]; rfl⟩
            case measure => simp [intOf]; omega
          · have hg' : s[k].toNat < 48 ∨ 57 < s[k].toNat := by omega
            have HF := Lib.hid (wordB_no hlt (charF (by omega)))
            go_wp2_with (first | (go_at_call 149; refine (isLetter_f _ _ hl').mono ?_; rintro e w' ⟨rfl, rfl⟩) | (go_at_call 148; refine (isDigit_f _ _ hg').mono ?_; rintro e w' ⟨rfl, rfl⟩))
            go_ret
            exact ⟨ret_bool HF.out.symm, rfl⟩
      · have h0c : charB s[0].toNat = true := by
          have e : s.data.toList.take k = s.data.toList := List.take_of_length_le (by simp; omega)
          have ha := HA.out; rw [e] at ha
          cases hc : charB s[0].toNat with
          | true => rfl
          | false => rw [allB_false_of s 0 (by omega) hc] at ha; cases ha
        have := char_of h0c
        go_wp2
        go_ret
        exact ⟨ret_bool (wordB_yes (by omega) (by omega) (by omega) k (by omega) HA.out).symm, rfl⟩
end Go.Proofs.YtanfllednlpbaaaGreat
