/-
  The library's slices.SortFunc, slices.Equal and slices.Clone at slices of tables, in the words of this seat; compareNames. For every slice of tables. Contracts of widths.told, tableOk and widthsIn: the tables by their names, whichever order the map tells them in. For every slice of tables.
-/
import Derived.Test.YtanfllednlpbaaaGreatM24x
import Derived.Test.YtanfllednlpbaaaGreatShelf3
import Derived.Shelf.SlSortCmp.NoneTotal
import Derived.Shelf.SlicesQ.Equal
import Derived.Laws.StructEq
import Derived.Lib.OwnBridge
import Derived.Test.YtanfllednlpbaaaGreatM39x
import Derived.Test.YtanfllednlpbaaaGreatM2x
import Derived.Test.YtanfllednlpbaaaGreatM3x
namespace Go.Proofs.YtanfllednlpbaaaGreat
open Go.RowKit Go.Shelf Go.Lib Go.Sort
set_option linter.unusedSimpArgs false
set_option linter.unusedVariables false
def encT (t : Tb) : List Value := [.string t.name, .int .i64 t.width]
instance : Inhabited Tb := ⟨⟨ByteArray.empty, 0⟩⟩
def cmpT (s t : Tb) : Int := compareBytes s.key t.key
theorem cmp_lt : ∀ a b : Key, compareBytes a b < 0 ↔ a < b
  | [], [] => by simp [compareBytes]
  | [], _ :: _ => by simp [compareBytes]
  | _ :: _, [] => by simp [compareBytes]
  | x :: a, y :: b => by
    rw [List.cons_lt_cons_iff]
    unfold compareBytes
    by_cases h1 : x < y
    · simp [h1]
    · rw [if_neg h1]
      by_cases h2 : y < x
      · rw [if_pos h2]
        constructor
        · intro h; omega
        · rintro (h | ⟨rfl, _⟩)
          · exact absurd h h1
          · exact absurd h2 h1
      · rw [if_neg h2, cmp_lt a b]
        have e : x = y := by
          have h1' : ¬ x.toNat < y.toNat := fun h => h1 (UInt8.lt_iff_toNat_lt.2 h)
          have h2' : ¬ y.toNat < x.toNat := fun h => h2 (UInt8.lt_iff_toNat_lt.2 h)
          exact UInt8.toNat_inj.1 (by omega)
        subst e
        constructor
        · exact fun h => .inr ⟨rfl, h⟩
        · rintro (h | ⟨_, h⟩)
          · exact absurd h h1
          · exact h
theorem ltT (s t : Tb) : ltOf cmpT s t = decide (s.key < t.key) := by
  unfold ltOf cmpT
  exact decide_eq_decide.2 (cmp_lt _ _)
theorem swoT : SWO (ltOf cmpT) where
  irrefl x := by rw [ltT]; simp
  trans x y z h1 h2 := by rw [ltT] at *; simp only [decide_eq_true_eq] at *; exact List.lt_trans h1 h2
  ntrans x y z h1 h2 := by
    rw [ltT] at *
    simp only [decide_eq_false_iff_not] at *
    exact Std.not_lt.2 (Std.le_trans (Std.not_lt.1 h2) (Std.not_lt.1 h1))
set_option maxHeartbeats 1000000 in
theorem compareNames_any (s t : Tb) (W : World) : Calls Tryz.prog 125 #[.agg #[.string s.name, .int .i64 s.width], .agg #[.string t.name, .int .i64 t.width]] W fun e w' => e = .returned (.int .i64 (cmpT s t)) ∧ ∃ q os', w' = grow (W.drewN q) os' := by
  have hcon := fun W' => Any.strings_Compare Tryz.lays106 s.name t.name W'
  change ∀ W', Calls Tryz.prog 152 _ _ _ at hcon
  unfold cmpT Tb.key
  generalize compareBytes s.name.data.toList t.name.data.toList = r at hcon ⊢
  go_enter Tryz.func125, Tryz.ntmps125
  go_wp2_with (go_at_call 152; refine (hcon _).mono ?_; rintro e w' ⟨rfl, rfl⟩)
  go_ret
  exact ⟨rfl, 0, _, by rw [alloc_eq_grow, alloc_eq_grow, grow_grow]; rfl⟩
theorem cmpLaysT (blk off size : Nat) (w : World) : CmpLays Tryz.prog 125 #[] encT 2 cmpT blk off size w :=
  fun _ _ _ _ x y => compareNames_any x y _
theorem encT_get (l : List Tb) (t : Nat) (h : t < l.length * 2) : (tbC l)[t]? = some ((encT (l.toArray[t / 2]!))[t % 2]!) := by
  have hi : t / 2 < l.length := by omega
  have hx : l[t / 2]? = some l[t / 2] := List.getElem?_eq_getElem hi
  have he : l.toArray[t / 2]! = l[t / 2] := by rw [getElem!_pos _ _ (by simpa using hi)]; simp
  rw [he]
  rcases Nat.mod_two_eq_zero_or_one t with h0 | h0
  · have := tbC_get0 l _ _ hx
    rw [show t / 2 * 2 = t by omega] at this
    rw [this, h0]; rfl
  · have := tbC_get1 l _ _ hx
    rw [show t / 2 * 2 + 1 = t by omega] at this
    rw [this, h0]; rfl
theorem flatT (l : List Tb) : flatK encT 2 l.toArray = (tbC l).toArray := by
  apply Array.ext
  · simp [tbC_len]
  · intro t h1 h2
    have ht : t < l.length * 2 := by simpa using h1
    have e1 := get_flatK encT 2 l.toArray t (by simpa using ht)
    rw [getElem!_pos _ t h1] at e1
    rw [e1]
    have e2 := encT_get l t ht
    have : (tbC l)[t]? = some ((tbC l).toArray[t]) := by
      rw [List.getElem?_eq_getElem (by rw [tbC_len]; exact ht)]; simp
    rw [this] at e2
    injection e2 with e2
    exact e2.symm
theorem holdsT {w : World} {base g c : Nat} {l : List Tb} (h : OwnT w base (some ⟨g, 0, none⟩) c l) : HoldsK encT 2 w g 0 l.toArray := by
  unfold HoldsK
  rw [flatT]
  intro j hj
  have hj' : j < l.length * 2 := by simpa [tbC_len] using hj
  rw [Nat.zero_add]
  refine ⟨?_, World.ownsRow.frozenAt h.1 j⟩
  rw [World.ownsRow.cellAt h.1 j hj', getElem!_pos _ j hj]
  rw [List.getElem?_eq_getElem (by rw [tbC_len]; exact hj')]; simp
theorem growT' {B : Nat} {a w : World} (h : Below B a w) (hB : B ≤ w.heap.size) (os : Array Obj) : Below B a (grow w os) :=
  ⟨h.os, h.tape, h.output, Nat.le_trans h.size (by show w.heap.size ≤ (w.heap ++ os).size; simp), fun k hk => by
    show (w.heap ++ os)[k]? = _
    rw [Array.getElem?_append_left (by omega)]; exact h.block k hk⟩
theorem OwnT.sorted {w : World} {base g c n : Nat} {l m : List Tb} {os : Array Obj} (h : OwnT w base (some ⟨g, 0, none⟩) c l) (hl : m.length = l.length) (hm : ∀ t ∈ m, t.name.size ≤ maxLen) :
    OwnT (sortWorldK encT 2 w g 0 n m.toArray os) base (some ⟨g, 0, none⟩) c m ∧ Below base w (sortWorldK encT 2 w g 0 n m.toArray os) := by
  unfold sortWorldK putRowK
  rw [flatT]
  rcases h.1.2 with ⟨e0, _⟩ | ⟨g', cap', cur, e0, hb, hg, hn, hx, hs, ht⟩
  · cases e0
  · injection e0 with e1 _ e3
    injection e1 with e1
    injection e1 with e1
    subst e1; subst e3
    have hlt : g < w.heap.size := (Array.getElem?_eq_some_iff.1 hg).1
    have hsz : (putRow id (Sort.ahead w n) g 0 (tbC m).toArray).heap.size = w.heap.size := by simp [putRow, mapBlock, Sort.ahead]
    refine ⟨⟨⟨tbC_len m, .inr ⟨g, c, putCells id 0 (tbC m).toArray cur, rfl, hb, ?_, by omega, hx, by simpa [putCells] using hs, ?_⟩⟩, hm⟩, ?_⟩
    · show ((putRow id (Sort.ahead w n) g 0 (tbC m).toArray).heap ++ os)[g]? = _
      rw [Array.getElem?_append_left (by rw [hsz]; exact hlt)]
      simp [putRow, mapBlock, Sort.ahead, Array.getElem?_modify, hg, onCells]
    · apply List.ext_getElem?
      intro j
      rw [List.getElem?_take, Array.getElem?_toList]
      by_cases hj : j < m.length * 2
      · have hjc : j < cur.size := by omega
        simp only [if_pos hj, putCells, Array.getElem?_mapIdx, Array.getElem?_eq_getElem hjc, Option.map_some]
        rw [if_pos (by simp [tbC_len]; omega), List.getElem?_eq_getElem (by rw [tbC_len]; exact hj)]
        simp [getElem!_pos, tbC_len, hj]
      · rw [if_neg hj, List.getElem?_eq_none (by rw [tbC_len]; omega)]
    · refine growT' (below_putRow (Below.refl _ _) hb) ?_ os
      rw [hsz]; omega
theorem sortT_any (ao : Option Addr) (c : Nat) (l : List Tb) (base : Nat) (w : World) (h : OwnT w base ao c l) (hl : l.length ≤ 1048576) :
    Calls Tryz.prog 124 #[.slice ao l.length c, .func (.func 125) #[] #[]] w fun e w' => e = .returned (.tuple #[]) ∧
      ∃ m : List Tb, m.Perm l ∧ m.Pairwise (fun s t => ¬ t.key < s.key) ∧ OwnT w' base ao c m ∧ Below base w w' := by
  by_cases hz : l = []
  · subst hz
    refine (AnyF.slices_SortFunc_none Tryz.laysSortT ao c _ w).mono ?_
    rintro e w' ⟨rfl, rfl⟩
    exact ⟨rfl, [], List.Perm.refl _, List.Pairwise.nil, h, Below.refl _ _⟩
  rcases h.form with ⟨_, _, h0⟩ | ⟨g, rfl, hb, hg⟩
  · exact absurd h0 hz
  have eg : ∀ args w, (callFunc 125 args).run Tryz.prog w = .ok (.enter 125 args) w := enters_of Tryz.func125 (by kernel_rfl) rfl
  have hsz : l.toArray.size = l.length := by simp
  have hcon := AnyQ.slices_SortFunc Tryz.laysSortT 2 Tryz.isAgg89 Tryz.sizeOf89 encT (fun _ => rfl) (fun x v hv => by simp [encT] at hv; rcases hv with rfl | rfl <;> rfl) cmpT swoT 125 #[] g 0 c l.toArray w eg (cmpLaysT g 0 _ w) (holdsT h) hg (by rw [hsz]; omega)
  rw [hsz] at hcon
  refine hcon.mono ?_
  rintro e w' ⟨rfl, d', n, os, hp, hs, rfl⟩
  have hd : d'.size = l.length := by rw [hp.1, hsz]
  have e1 : d'.toList.Perm l := by
    have := hp.2.2
    rw [← hd] at this
    simp only [Array.extract_size] at this
    rw [hd, show l.length = l.toArray.size by simp, Array.extract_size] at this
    simpa using this
  have hlen : d'.toList.length = l.length := by simpa using hd
  obtain ⟨o, b⟩ := h.sorted (n := n) (os := os) (m := d'.toList) hlen (fun t ht => h.2 t (e1.mem_iff.1 ht))
  rw [Array.toArray_toList] at o b
  refine ⟨rfl, d'.toList, e1, ?_, ?_, b⟩
  · refine List.pairwise_iff_getElem.2 fun i j hi hj hij => ?_
    have hj' : j < d'.size := by simpa using hj
    have := hs i j (Nat.zero_le _) hij (by omega)
    rw [ltT, getElem!_pos _ i (by omega), getElem!_pos _ j hj'] at this
    simpa using this
  · have := o
    unfold OwnT at this ⊢
    rw [hlen] at this ⊢
    exact this
/-! ### slices.Equal -/
def eqT (l m : List Tb) : Bool := allEq (fun x y => x.name.toList == y.name.toList && x.width == y.width) l m
theorem eqT_iff : ∀ l m : List Tb, eqT l m = true ↔ l = m
  | [], [] => by simp [eqT, allEq]
  | [], _ :: _ => by simp [eqT, allEq]
  | _ :: _, [] => by simp [eqT, allEq]
  | x :: l, y :: m => by
    have ih := eqT_iff l m
    unfold eqT at ih ⊢
    unfold allEq
    rw [Bool.and_eq_true, ih, Bool.and_eq_true, beq_iff_eq, beq_iff_eq, ByteArray.toList_eq, ByteArray.toList_eq, List.cons.injEq]
    constructor
    · rintro ⟨⟨h1, h2⟩, h3⟩; exact ⟨key_inj h1 h2, h3⟩
    · rintro ⟨rfl, h3⟩; exact ⟨⟨rfl, rfl⟩, h3⟩
theorem neqT : NeqAt Tryz.prog 89 (fun x : Tb => .agg (encT x).toArray) (fun x y => x.name.toList == y.name.toList && x.width == y.width) := by
  refine ⟨fun x y w => ?_, GuardAt.agg _ (by kernel_rfl)⟩
  have u1 := Tryz.underlying9
  have a1 := Tryz.isAgg9
  have z1 := Tryz.sizeOf9
  have u3 := Tryz.underlying3
  have a3 := Tryz.isAgg3
  have z3 := Tryz.sizeOf3
  have hS : Tryz.prog.underlying 89 = some (.struct (Tryz.prog.fieldsOf 89)) := by kernel_rfl
  have hp : Tryz.prog.stoodInHeld 89 = false := by kernel_rfl
  simp only [encT]
  rw [run_neq_struct, show (10000 : Nat) = 9999 + 1 from rfl, run_equalIn_agg w 9999 89 _ _ hS hp]
  simp only [Program.fieldsOf, Tryz.underlying89]
  go_simp
  by_cases h1 : x.name.toList = y.name.toList <;> by_cases h2 : x.width = y.width <;> simp [h1, h2]
theorem rdT_cells {w : World} {b o : Nat} {l : List Tb} (h : ∀ i t, l[i]? = some t → TbAt w b (o + i * 2) t) : ∀ j, j < l.length → ∀ i v, (encT l[j]!)[i]? = some v → w.cell? ⟨b, o + j * 2 + i, none⟩ = some v := by
  intro j hj i v hv
  have hx := h j l[j] (List.getElem?_eq_getElem hj)
  rw [getElem!_pos _ j hj] at hv
  match i, hv with
  | 0, hv => simp [encT] at hv; subst hv; exact hx.c0
  | 1, hv => simp [encT] at hv; subst hv; exact hx.c1
  | i + 2, hv => simp [encT] at hv
set_option maxRecDepth 100000 in
set_option maxHeartbeats 1600000 in
theorem equalT_any (a b : Option Addr) (c d : Nat) (l m : List Tb) (w : World) (h : RdT w a l) (k : RdT w b m) (hn : l.length ≤ 1048576) (hm : m.length ≤ 1048576) :
    Calls Tryz.prog 95 #[.slice a l.length c, .slice b m.length d] w fun e w' => e = .returned (.bool (eqT l m)) ∧ Below w.heap.size w w' := by
  by_cases hlen : l.length = m.length
  · rcases h with rfl | ⟨b1, o1, rfl, hc⟩
    · obtain rfl : m = [] := List.eq_nil_of_length_eq_zero hlen.symm
      go_enter Tryz.func95, Tryz.ntmps95
      go_wp2_with fail
      refine wp_loop_rounds 1 ?_; rw [rounds_succ]
      go_wp2_with fail
      go_ret
      exact ⟨rfl, Below.refl _ _⟩
    · rcases k with rfl | ⟨b2, o2, rfl, kc⟩
      · obtain rfl : l = [] := List.eq_nil_of_length_eq_zero hlen
        go_enter Tryz.func95, Tryz.ntmps95
        go_wp2_with fail
        refine wp_loop_rounds 1 ?_; rw [rounds_succ]
        go_wp2_with fail
        go_ret
        exact ⟨rfl, Below.refl _ _⟩
      · refine (AnyQ.slices_Equal Tryz.laysEqualT 2 Tryz.isAgg89 Tryz.sizeOf89 encT (fun _ => rfl) _ neqT b1 o1 l.length c b2 o2 m.length d l m w (Nat.le_refl _) (Nat.le_refl _) (by omega) (by omega) (rdT_cells hc) (rdT_cells kc)).mono ?_
        rintro e w' ⟨rfl, q, rfl⟩
        rw [List.take_length, List.take_length]
        exact ⟨rfl, below_drewN (Below.refl _ _) q⟩
  · have hne : ((l.length : Int) != (m.length : Int)) = true := by simp; omega
    have HF := Lib.hid (show eqT l m = false from allEq_len _ _ _ hlen)
    clear hlen
    go_enter Tryz.func95, Tryz.ntmps95
    go_wp2_with fail
    go_ret
    exact ⟨ret_bool HF.out.symm, Below.refl _ _⟩
end Go.Proofs.YtanfllednlpbaaaGreat
namespace Go.Proofs.YtanfllednlpbaaaGreat
open Go.RowKit Go.Maps
set_option linter.unusedSimpArgs false
set_option linter.unusedVariables false
theorem val_slice {ao : Option Addr} {n m c : Nat} (h : n = m) : Value.slice ao n c = .slice ao m c := by rw [h]
theorem tb_new (w : World) (t : Tb) (hs : t.name.size ≤ maxLen) (ty : TypeId) : TbAt (w.alloc (.cells #[.string t.name, .int .i64 t.width] ty)) w.heap.size 0 t :=
  ⟨by rw [World.cell?_alloc_new]; rfl, by rw [World.cell?_alloc_new]; rfl, hs⟩
set_option maxRecDepth 100000 in
set_option maxHeartbeats 4000000 in
theorem told_any (b n : Nat) (f : Fn) (w : World) (h : OwnM w b n f) (hn : n ≤ 1000) :
    Calls Tryz.prog 96 #[.map (some b)] w fun e w' => ∃ l, ToldM f l ∧ l.length ≤ n ∧ MadeT w l e w' := by
  obtain ⟨D, hown, hD⟩ := h
  have hsz := owns_size hown
  have hbl := hown.lt
  have HD := Lib.hid hD; clear hD
  go_enter Tryz.func96, Tryz.ntmps96
  go_wp2_with (first | (at_range; refine wpList_range_own _ rfl _ 73 rfl 9 3 Tryz.keyed Tryz.underlying73 _ b n _ rfl hown ?_; intro w0 hrg0 hg0 hs0) | go_in)
  go_frame
  go_loopw [3] (fun s wr => ∃ (left : Lit → Bool) (cnt : Nat) (l : List Tb) (ao : Option Addr) (c : Nat), wr.ranges Tryz.prog 9 (plainElem Tryz.prog 3) b w.heap.size n D left cnt ∧ s = .slice ao l.length c ∧ OwnT wr (w.heap.size + 1) ao c l ∧ Col f left l ∧ l.length + cnt ≤ n ∧ Below w.heap.size w wr ∧ w.heap.size + 1 ≤ wr.heap.size)
    (fun _ wr => wr.rangeLeft b w.heap.size)
  case atStart => exact ⟨_, _, [], none, 0, hrg0, rfl, OwnT.none_, col_start HD.out, by simpa using hsz, (Below.refl _ _).grown hg0 (Nat.le_refl _) (fun j hj => by cases hj), by omega⟩
  case round =>
    clear hrg0 hg0 hs0
    obtain ⟨left, cnt, l, ao, c, hrg, rfl, ho, hc, hlc, hb, hz⟩ := hrel
    have OW := Lib.hid ho; have CO := Lib.hid hc; have HB := Lib.hid hb
    clear ho hc hb
    go_wp2_with (first | (at_next; refine wpList_next_si _ rfl _ rfl 9 3 Tryz.keyed Tryz.underlying9 Tryz.underlying3 b w.heap.size n _ _ _ rfl hrg ?_ ?_) | go_in)
    · intro hc0 hl0
      have HL := Lib.hid hl0; clear hl0
      go_wp2_with fail
      refine (sortT_any ao c l (w.heap.size + 1) _ OW.out (by omega)).mono ?_
      rintro e w2 ⟨rfl, m, hp, hs, o2, b2⟩
      have TT := Lib.hid (col_told CO.out HL.out hp hs)
      have hlen : m.length = l.length := hp.length_eq
      have O2 := Lib.hid (o2.base_le (Nat.le_succ _))
      have B2 := Lib.hid (HB.out.trans (b2.mono (Nat.le_succ _)))
      clear hp hs o2 b2
      go_wp2_with fail
      go_ret
      exact ⟨m, TT.out, by omega, ao, c, ret_slice hlen.symm, O2.out, B2.out⟩
    · intro x v w1 cnt1 hsx hlx hat hrg1 hlt hg1 hs1 hen
      have RG := Lib.hid hrg1
      have OW1 := Lib.hid (OW.out.grown hg1 (fun a ha e => by have := (OW.out.lt a ha).1; injection e with e; omega))
      have HB1 := Lib.hid (HB.out.grown hg1 HB.out.size (fun j hj => by injection hj with hj; omega))
      have CN := Lib.hid (show Col f (fun z => left z && !z.sameKey (Lit.string x.data.toList)) (l ++ [⟨x, v⟩]) from col_step (t := ⟨x, v⟩) HD.out CO.out hlx hat)
      have ML := Lib.hid hrg.left_eq
      have NE := Lib.hid hrg.ne
      have hz1 : w.heap.size + 1 ≤ w1.heap.size := by omega
      clear hlx hat hg1 hrg1 hrg hs1
      go_wp2_with (first
        | (at_builtin; refine wpList_appendT _ rfl (.tmp 13) (.tmp 17) 24 rfl (w.heap.size + 1) Tryz.underlying24 Tryz.infoTable ao c l.length l rfl rfl (OW1.out.alloc _) _ _ ⟨x, v⟩ rfl (tb_new _ ⟨x, v⟩ hsx _) (by omega) (by simp; omega) ?_; intro ao2 c2 w2 o2 g2)
        | go_in)
      have hrow : ∀ q : Nat, q ≤ w.heap.size → some q ≠ ao.map (·.block) := by
        intro q hq e
        cases ao with
        | none => cases e
        | some a => simp at e; have := (OW1.out.lt a rfl).1; omega
      have RG2 := Lib.hid ((RG.out.alloc (.cells #[.string x, .int .i64 v] 89)).kept g2 (hrow b (by omega)) (hrow _ (Nat.le_refl _)))
      have B2 := Lib.hid ((HB1.out.alloc HB1.out.size (.cells #[.string x, .int .i64 v] 89)).grown g2 (by simp; omega) (fun j hj => by
        cases ao with
        | none => cases hj
        | some a => simp at hj; have := (OW1.out.lt a rfl).1; omega))
      have O2 := Lib.hid o2
      have hz2 : w.heap.size + 1 ≤ w2.heap.size := by have := g2.size; simp at this; omega
      clear o2 g2 hrow
      go_wp2_with fail
      go_roundw
      case rel => exact ⟨_, cnt1, l ++ [⟨x, v⟩], ao2, c2, RG2.out, val_slice (by simp), O2.out, CN.out, by simp; omega, B2.out, hz2⟩
      case measure => rw [RG2.out.left_eq, ML.out]; exact hlt
set_option maxHeartbeats 1000000 in
theorem tableOk_any (t : Tb) (w : World) (hs : t.name.size ≤ maxLen) :
    Calls Tryz.prog 94 #[.agg #[.string t.name, .int .i64 t.width]] w fun e w' => e = .returned (.bool (tableB t)) ∧ Below w.heap.size w w' := by
  have W := Lib.hid (fun W => implWordOk_any t.name W hs)
  cases hw : wordB t.name.data.toList with
  | false =>
    have HW := Lib.hid hw
    have E := Lib.hid (show tableB t = false by unfold tableB Tb.key; rw [hw]; rfl)
    clear hw
    go_enter Tryz.func94, Tryz.ntmps94
    go_wp2_with (go_at_call 123; refine (W.out _).mono ?_; rintro e w' ⟨rfl, rfl⟩; rw [HW.out])
    go_ret
    rw [E.out]
    exact ⟨rfl, (Below.refl _ _).alloc (Nat.le_refl _) _⟩
  | true =>
    have HW := Lib.hid hw
    have E := Lib.hid (show tableB t = decide (1 ≤ t.width ∧ t.width ≤ 6) by unfold tableB Tb.key; rw [hw]; rfl)
    clear hw
    by_cases h1 : 1 ≤ t.width
    · by_cases h2 : t.width ≤ 6
      · have E2 := Lib.hid (show decide (1 ≤ t.width ∧ t.width ≤ 6) = true by simp [h1, h2])
        go_enter Tryz.func94, Tryz.ntmps94
        go_wp2_with (go_at_call 123; refine (W.out _).mono ?_; rintro e w' ⟨rfl, rfl⟩; rw [HW.out])
        go_ret
        rw [E.out, E2.out]
        exact ⟨ret_bool (by simp [h1, h2]), (Below.refl _ _).alloc (Nat.le_refl _) _⟩
      · have h2' : 6 < t.width := by omega
        have E2 := Lib.hid (show decide (1 ≤ t.width ∧ t.width ≤ 6) = false by simp; omega)
        go_enter Tryz.func94, Tryz.ntmps94
        go_wp2_with (go_at_call 123; refine (W.out _).mono ?_; rintro e w' ⟨rfl, rfl⟩; rw [HW.out])
        go_ret
        rw [E.out, E2.out]
        exact ⟨ret_bool (by simp; omega), (Below.refl _ _).alloc (Nat.le_refl _) _⟩
    · have h1' : t.width < 1 := by omega
      have E2 := Lib.hid (show decide (1 ≤ t.width ∧ t.width ≤ 6) = false by simp; omega)
      have hd : decide (1 ≤ t.width) = false := by simp; omega
      go_enter Tryz.func94, Tryz.ntmps94
      go_wp2_with (go_at_call 123; refine (W.out _).mono ?_; rintro e w' ⟨rfl, rfl⟩; rw [HW.out])
      go_ret
      rw [E.out, E2.out]
      exact ⟨rfl, (Below.refl _ _).alloc (Nat.le_refl _) _⟩
theorem OwnM.grown {w w' : World} {b n : Nat} {f : Fn} {row : Option Nat} (h : OwnM w b n f) (hg : w.grownBy w' row) (hne : some b ≠ row) : OwnM w' b n f := by
  obtain ⟨D, h1, h2⟩ := h
  exact ⟨D, h1.kept hg hne, h2⟩
def InPost (w : World) (l : List Tb) (e : Ending) (w' : World) : Prop :=
  Below w.heap.size w w' ∧ if schemaB l = true then ∃ b, w.heap.size ≤ b ∧ e = .returned (.tuple #[.map (some b), .bool true]) ∧ OwnM w' b 8 (fnOf l) else ∃ m, e = .returned (.tuple #[.map m, .bool false])
theorem in_no {w w' : World} {l : List Tb} {e : Ending} {m : Option Nat} (h : schemaB l = false) (hb : Below w.heap.size w w') (he : e = .returned (.tuple #[.map m, .bool false])) : InPost w l e w' :=
  ⟨hb, by rw [h]; exact ⟨m, he⟩⟩
def boxed (w : World) (t : Tb) : World := w.alloc (.cells #[.string t.name, .int .i64 t.width] 89)
theorem boxed_below (w : World) (t : Tb) : Below w.heap.size w (boxed w t) := (Below.refl _ w).alloc (Nat.le_refl _) _
theorem boxed_size (w : World) (t : Tb) : (boxed w t).heap.size = w.heap.size + 1 := by simp [boxed]
theorem below_boxed {w wr w1 : World} {t : Tb} (h : Below w.heap.size w wr) (b1 : Below (boxed wr t).heap.size (boxed wr t) w1) : Below w.heap.size w w1 :=
  (h.trans ((boxed_below wr t).mono h.size)).trans (b1.mono (by rw [boxed_size]; have := h.size; omega))
theorem own_boxed {wr w1 : World} {t : Tb} {b n : Nat} {f : Fn} (h : OwnM wr b n f) (b1 : Below (boxed wr t).heap.size (boxed wr t) w1) : OwnM w1 b n f :=
  (h.below (boxed_below wr t)).below b1
theorem boxed_cells {wr w1 : World} {t : Tb} (b1 : Below (boxed wr t).heap.size (boxed wr t) w1) : w1.cell? ⟨wr.heap.size, 0, none⟩ = some (.string t.name) ∧ w1.cell? ⟨wr.heap.size, 1, none⟩ = some (.int .i64 t.width) := by
  have hz := boxed_size wr t
  constructor
  · rw [b1.cell (p := ⟨wr.heap.size, 0, none⟩) (by rw [hz]; exact Nat.lt_succ_self _)]
    unfold boxed; rw [World.cell?_alloc_new]; rfl
  · rw [b1.cell (p := ⟨wr.heap.size, 1, none⟩) (by rw [hz]; exact Nat.lt_succ_self _)]
    unfold boxed; rw [World.cell?_alloc_new]; rfl
theorem tableB_wf {t : Tb} (h : tableB t = true) : (Lit.int .i64 t.width).wf = true := by
  unfold tableB at h
  rw [Bool.and_eq_true, decide_eq_true_eq] at h
  have h1 := h.2.1; have h2 := h.2.2
  first | exact WalkArith.wf_i64 (by omega) | exact WalkArith.wf_i64 (by omega) (by omega) | (simp [Lit.wf, IntKind.min, IntKind.max]; omega)
theorem OwnM.mono {w : World} {b n n' : Nat} {f : Fn} (h : OwnM w b n f) (hn : n ≤ n') : OwnM w b n' f := by
  obtain ⟨D, h1, h2⟩ := h; exact ⟨D, h1.mono hn, h2⟩
theorem told_schema {l m : List Tb} (h8 : l.length ≤ 8) (hT : ∀ t ∈ l, tableB t = true) (h : ToldM (fnOf l) m) : schemaB l = eqT m l := by
  rw [Bool.eq_iff_iff, schemaB_iff, eqT_iff, told_same h]
  exact ⟨fun hh => hh.2.2, fun hh => ⟨h8, hT, hh⟩⟩
set_option maxRecDepth 100000 in
set_option maxHeartbeats 4000000 in
theorem widthsIn_any (ao : Option Addr) (c : Nat) (l : List Tb) (w : World) (h : RdT w ao l) (hl : l.length ≤ 1048576) :
    Calls Tryz.prog 51 #[.slice ao l.length c] w (InPost w l) := by
  have H := Lib.hid h; clear h
  by_cases h8 : 8 < l.length
  · have h8' : (8 : Int) < l.length := by omega
    have E := Lib.hid (schemaB_no (l := l) fun hh => by omega)
    go_enter Tryz.func51, Tryz.ntmps51
    go_wp2_with fail
    go_ret2
    exact in_no E.out (Below.refl _ _) rfl
  have h8' : (l.length : Int) ≤ 8 := by omega
  have h8n : l.length ≤ 8 := by omega
  clear h8
  have hmm := @run_makeMap Tryz.prog
  have M0 := Lib.hid (show OwnM (w.alloc (.map #[] 0)) w.heap.size 0 (fnOf []) from ⟨.map [], World.ownsMap_made _ _ _ _, FnD.empty⟩)
  have B0 := Lib.hid ((Below.refl w.heap.size w).alloc (Nat.le_refl _) (.map #[] 0))
  go_enter Tryz.func51, Tryz.ntmps51
  go_wp2_with fail
  go_loopw [13] (fun i wr => ∃ j : Nat, j ≤ l.length ∧ i = .int .i64 j ∧ (∀ t ∈ l.take j, tableB t = true) ∧ OwnM wr w.heap.size j (fnOf (l.take j)) ∧ Below w.heap.size w wr) (fun i _ => l.length - (intOf i).toNat)
  case atStart => exact ⟨0, Nat.zero_le _, rfl, (fun t h => by cases h), M0.out, B0.out⟩
  case round =>
    clear M0 B0 hmm
    obtain ⟨j, hj, rfl, ht, hm, hb⟩ := hrel
    have TA := Lib.hid ht; have OM := Lib.hid hm; have HB := Lib.hid hb
    clear ht hm hb
    by_cases hlt : j < l.length
    · obtain ⟨b, off, t, rfl, hn, hat⟩ := (H.out.below HB.out).at_ hlt
      have HN := Lib.hid hn; clear hn
      obtain ⟨c0, c1, nm⟩ := hat
      have hlt' : (j : Int) < l.length := by omega
      have TK := Lib.hid (fun W => tableOk_any t W nm)
      cases hw : tableB t with
      | false =>
        have HW := Lib.hid hw
        have E := Lib.hid (schemaB_no (l := l) fun hh => by have := hh.2.1 t (List.mem_of_getElem? HN.out); rw [hw] at this; cases this)
        clear hw
        go_wp2_with fail
        refine (TK.out _).mono ?_
        rintro e w1 ⟨rfl, b1⟩
        rw [HW.out]
        have B1 := Lib.hid (below_boxed HB.out b1)
        clear b1
        go_wp2_with fail
        go_ret2
        exact in_no E.out B1.out rfl
      | true =>
        have HW := Lib.hid hw; clear hw
        go_wp2_with fail
        refine (TK.out _).mono ?_
        rintro e w1 ⟨rfl, b1⟩
        rw [HW.out]
        have B1 := Lib.hid (below_boxed HB.out b1)
        have OM1 := Lib.hid (own_boxed OM.out b1)
        obtain ⟨d0, d1⟩ := boxed_cells b1
        clear b1
        have TN := Lib.hid (show ∀ s ∈ l.take (j + 1), tableB s = true by
          intro s hs
          rw [List.take_add_one, HN.out] at hs
          rcases List.mem_append.1 hs with h1 | h1
          · exact TA.out s h1
          · simp at h1; subst h1; exact HW.out)
        obtain ⟨D, hown, hD⟩ := OM1.out
        have HD := Lib.hid hD; have WF := Lib.hid (tableB_wf HW.out)
        clear hD OM1
        go_wp2_with (first
          | (at_mapUpdate; refine wpList_mapUpdate_own _ rfl _ _ _ 73 rfl 9 3 Tryz.keyed Tryz.underlying73 _ w.heap.size j _ rfl hown (by unfold maxLen; omega) _ _ _ rfl rfl (WideMaps.keyOf_string_mk Tryz.underlying9 nm) _ [] (plainElem_int Tryz.underlying3 WF.out) ?_; intro w2 hown2 hg2)
          | go_in)
        have B2 := Lib.hid (B1.out.grown hg2 B1.out.size (fun q hq => by injection hq with hq; omega))
        have OM2 := Lib.hid (show OwnM w2 w.heap.size (j + 1) (fnOf (l.take (j + 1))) from ⟨_, hown2, by rw [fnOf_take HN.out]; exact HD.out.put t.key t.width⟩)
        clear hown2 hg2 hown
        go_wp2_with fail
        go_roundw
        case rel => exact ⟨j + 1, by omega, by go_num, TN.out, OM2.out, B2.out⟩
        case measure => simp [intOf]; omega
    · obtain rfl : j = l.length := by omega
      have TA2 := Lib.hid (show ∀ t ∈ l, tableB t = true by have := TA.out; rwa [List.take_length] at this)
      have OM2 := Lib.hid (show OwnM wr w.heap.size l.length (fnOf l) by have := OM.out; rwa [List.take_length] at this)
      clear TA OM
      go_wp2_with fail
      refine (told_any w.heap.size l.length (fnOf l) _ OM2.out (by omega)).mono ?_
      rintro e w1 ⟨m, hT, hml, a1, c1, rfl, o1, b1⟩
      have B1 := Lib.hid (below_step HB.out (Nat.le_refl _) b1)
      have O1 := Lib.hid o1.rd
      have OM3 := Lib.hid ((OM2.out.below b1).mono h8n)
      have E := Lib.hid (told_schema h8n TA2.out hT)
      clear hT o1 b1 OM2
      cases hq : eqT m l with
      | true =>
        have HQ := Lib.hid hq; clear hq
        go_wp2_with fail
        refine (equalT_any a1 ao c1 c m l _ O1.out (H.out.below B1.out) (by omega) hl).mono ?_
        rintro e w2 ⟨rfl, b2⟩
        rw [HQ.out]
        have B2 := Lib.hid (below_step B1.out (Nat.le_refl _) b2)
        have OM4 := Lib.hid (OM3.out.below b2)
        clear b2
        go_wp2_with fail
        go_ret2
        exact ⟨B2.out, by rw [E.out, HQ.out]; exact ⟨w.heap.size, Nat.le_refl _, rfl, OM4.out⟩⟩
      | false =>
        have HQ := Lib.hid hq; clear hq
        go_wp2_with fail
        refine (equalT_any a1 ao c1 c m l _ O1.out (H.out.below B1.out) (by omega) hl).mono ?_
        rintro e w2 ⟨rfl, b2⟩
        rw [HQ.out]
        have B2 := Lib.hid (below_step B1.out (Nat.le_refl _) b2)
        clear b2
        go_wp2_with fail
        go_ret2
        exact in_no (E.out.trans HQ.out) B2.out rfl
set_option maxHeartbeats 1000000 in
theorem implSchema_any (ao : Option Addr) (c : Nat) (l : List Tb) (w : World) (h : RdT w ao l) (hl : l.length ≤ 1048576) :
    Calls Tryz.prog 118 #[.slice ao l.length c] w fun e w' => e = .returned (.bool (schemaB l)) ∧ Below w.heap.size w w' := by
  have WI := Lib.hid (widthsIn_any ao c l w h hl)
  cases hs : schemaB l with
  | true =>
    have HS := Lib.hid hs; clear hs h
    go_enter Tryz.func118, Tryz.ntmps118
    go_wp2_with fail
    refine WI.out.mono ?_
    rintro e w1 ⟨b1, hp⟩
    rw [HS.out] at hp
    obtain ⟨b, hb, rfl, om⟩ := hp
    clear om
    go_wp2_with fail
    go_ret
    exact ⟨rfl, b1⟩
  | false =>
    have HS := Lib.hid hs; clear hs h
    go_enter Tryz.func118, Tryz.ntmps118
    go_wp2_with fail
    refine WI.out.mono ?_
    rintro e w1 ⟨b1, hp⟩
    rw [HS.out] at hp
    obtain ⟨m, rfl⟩ := hp
    go_wp2_with fail
    go_ret
    exact ⟨rfl, b1⟩
end Go.Proofs.YtanfllednlpbaaaGreat
