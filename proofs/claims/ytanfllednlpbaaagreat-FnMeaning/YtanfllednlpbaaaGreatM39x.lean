/-
  Contract of rowsOver at a both. For every two children. Contract of rowsOver at a sort. For every sort and every child. A map of names to widths in memory: what it reads as, key by key; the step of a loop over it. No walk. A map of names to values in memory, whatever the values are. No walk. Contract of rowsOver at a scan. For every scan of a table that is there. Contracts of rowsOver over one child and over two, of impl.gather. For every node.
-/
import Derived.Test.YtanfllednlpbaaaGreatM33x
import Derived.Test.YtanfllednlpbaaaGreatM38x
import Derived.Test.YtanfllednlpbaaaGreatM24x
import Derived.Test.YtanfllednlpbaaaGreatM4x
import Derived.Test.YtanfllednlpbaaaGreatM5x
import Derived.Test.YtanfllednlpbaaaGreatM23x
import Derived.Maps.RangeWalk
import Derived.Maps.OwnSet
import Derived.Maps.OwnOps
import Derived.Test.YtanfllednlpbaaaGreatM31x
namespace Go.Proofs.YtanfllednlpbaaaGreat
open Go.RowKit
set_option linter.unusedSimpArgs false
set_option linter.unusedVariables false
set_option maxRecDepth 100000 in
set_option maxHeartbeats 3200000 in
theorem overBoth_any (z : Nat → Prop) (n : Nd) (hk : n.kind = 4) (a : Option Addr) (c : Nat) (mm : Option Nat) (sa : Option Addr) (sl sc : Nat) (gb cb : Nat) (v v' : Value) (l m : RowsL) (w : World) (hzw : ∀ k, z k → k < w.heap.size) (hv : w.cell? ⟨gb, 0, none⟩ = some v) (hv' : w.cell? ⟨gb, 1, none⟩ = some v') (K : KidAt z w v l) (K' : KidAt z w v' m) (hl : l.length ≤ 1048576) (hm : m.length ≤ 1048576) :
    Calls Tryz.prog 122 #[.agg #[.map mm, .slice sa sl sc], kindV n a c, .slice (some ⟨gb, 0, none⟩) 2 cb] w (OverPost z w (l ++ m)) := by
  rw [show kindV n a c = .iface 160 (.agg #[]) by unfold kindV; simp [hk]]
  have A0 := Tryz.as_bothNode_filterNode
  have A1 := Tryz.as_bothNode_keepNode
  have A2 := Tryz.as_bothNode_joinNode
  have A3 := Tryz.as_bothNode_bothNode
  have hgb : gb < w.heap.size := World.block_lt_of_cell? w ⟨gb, 0, none⟩ hv
  have CH := Lib.hid (fun W => bothO_any (some ⟨gb, 0, none⟩) 2 cb W)
  have KK := Lib.hid K
  have KK' := Lib.hid K'
  have HV := Lib.hid hv
  have HV' := Lib.hid hv'
  clear hk K K' hv hv'
  go_enter Tryz.func122, Tryz.ntmps122
  go_wp2_with (go_at_call 144; refine (CH.out _).mono ?_; rintro e w2 ⟨rfl, rfl⟩)
  go_ret
  show OverPost z w (l ++ m) (.returned (.func (.func 164) #[] #[.pointer (some ⟨w.heap.size + 1 + 1, 0, none⟩)])) _
  obtain ⟨w1, hw1⟩ : ∃ w1, (((w.alloc (.cells #[.map mm, .slice sa sl sc] 116)).alloc (.cells #[] 160)).alloc (.cells #[.slice (some ⟨gb, 0, none⟩) 2 cb] 145)) = w1 := ⟨_, rfl⟩
  have B : Below w.heap.size w w1 := by rw [← hw1]; exact (((Below.refl _ w).alloc (Nat.le_refl _) _).alloc (by simp) _).alloc (by simp; omega) _
  have c1 : w1.cell? ⟨w.heap.size + 1 + 1, 0, none⟩ = some (.slice (some ⟨gb, 0, none⟩) 2 cb) := by rw [← hw1]; simp [go_sem]
  rw [hw1]
  obtain ⟨lb, zs, rfl, hz, hP, hseq⟩ := (KK.out.below B).seq hl
  obtain ⟨lb', ys, rfl, hy, hP', hseq'⟩ := (KK'.out.below B).seq hm
  have c2 := (B.cell (p := ⟨gb, 0, none⟩) hgb).trans HV.out
  have c3 := (B.cell (p := ⟨gb, 1, none⟩) hgb).trans HV'.out
  refine ⟨_, _, rfl, B, enters_of Tryz.func164 (by kernel_rfl) rfl, ?_⟩
  rw [← hz, ← hy, show rowsE zs ++ rowsE ys = rowsE (zs ++ ys) by simp [rowsE]]
  exact toEl (both_sep Fence.wide 5 trivial rfl rfl (by omega) _ _ _ _ trivial enters_values trivial enters_values zs ys _ gb 0 cb w1 (hseq 4 (by omega)) (hseq' 4 (by omega)) c1 c2 c3) (Below.refl _ _) (fun x hx => (List.mem_append.1 hx).elim (hP x) (hP' x))
theorem sort_els {n : Nd} {w : World} {zs : List (Els w)} {l : RowsL} (h : rowsE zs = l) : rowsE (sortL (fun x y : Els w => lessC n.col x.1.r y.1.r) zs) = sortL (lessC n.col) l := by
  subst h
  exact sortL_map (fun x : Els w => x.1.r) (lessC n.col) zs
set_option maxRecDepth 100000 in
set_option maxHeartbeats 3200000 in
theorem overSort_any (z : Nat → Prop) (n : Nd) (hk : n.kind = 5) (a : Option Addr) (c : Nat) (mm : Option Nat) (sa : Option Addr) (sl sc : Nat) (gb cb : Nat) (v : Value) (l : RowsL) (w : World) (hzw : ∀ k, z k → k < w.heap.size) (hv : w.cell? ⟨gb, 0, none⟩ = some v) (K : KidAt z w v l) (hl : l.length ≤ 1048576) (h0 : 0 ≤ n.col) (hfit : ∀ r ∈ l, n.col < (r.length : Int)) :
    Calls Tryz.prog 122 #[.agg #[.map mm, .slice sa sl sc], kindV n a c, .slice (some ⟨gb, 0, none⟩) 1 cb] w (OverPost z w (sortL (lessC n.col) l)) := by
  rw [show kindV n a c = .iface 162 (.agg #[.int .i64 n.col]) by unfold kindV; simp [hk]]
  have A0 := Tryz.as_sortNode_filterNode
  have A1 := Tryz.as_sortNode_keepNode
  have A2 := Tryz.as_sortNode_joinNode
  have A3 := Tryz.as_sortNode_bothNode
  have A4 := Tryz.as_sortNode_sortNode
  have hgb : gb < w.heap.size := World.block_lt_of_cell? w ⟨gb, 0, none⟩ hv
  obtain ⟨Bs, aa, ac, rfl, hbz, hkb, hkr⟩ := K
  obtain ⟨zs, hz, hL, hPz⟩ := hkr.els ac
  have hzl : zs.length = l.length := by rw [← hz, rowsE_len]
  have hbs : Bs < w.heap.size := World.block_lt_of_cell? w ⟨Bs, 0, none⟩ hkb
  obtain ⟨w1, hw1⟩ : ∃ w1, (w.alloc (.cells #[.map mm, .slice sa sl sc] 116)).alloc (.cells #[.int .i64 n.col] 162) = w1 := ⟨_, rfl⟩
  have b1 : Below w.heap.size w w1 := by rw [← hw1]; exact ((Below.refl _ w).alloc (Nat.le_refl _) _).alloc (by simp) _
  have k0 : w1.cell? ⟨w.heap.size + 1, 0, none⟩ = some (.int .i64 n.col) := by rw [← hw1]; simp [go_sem]
  have lt1 := World.block_lt_of_cell? w1 _ k0
  have SRT : Aside _ := sortedR_any (wb := w) (fun x y => lessC n.col x.1.r y.1.r) (wkOf (wkC n.col) fun x : Els w => x.1.r) 145 #[.pointer (some ⟨w.heap.size + 1, 0, none⟩)] (enters_of Tryz.func145 (by kernel_rfl) rfl) 106 w.heap.size #[.pointer (some ⟨Bs, 0, none⟩)] enters_values zs (fun pre => pre <+: zs) (by omega) w1 b1.size
    (fun W hW => valuesR_stops Fence.wide 2 trivial rfl (by omega) Bs w.heap.size (.slice aa l.length ac) zs (by omega) W (by have := hW.size; have := b1.size; omega) (by have := hW.size; have := b1.size; omega) (((b1.trans (hW.mono b1.size)).cell (p := ⟨Bs, 0, none⟩) hbs).trans hkb) (hL.below (b1.trans (hW.mono b1.size))))
    (fun W hW x hx y hy => by
      have hbW := b1.trans (hW.mono b1.size)
      exact over2_less n.col x.1.a y.1.a x.1.r y.1.r x.1.c y.1.c (w.heap.size + 1) W (x.2.1.below hbW) (y.2.1.below hbW) h0 (hfit _ (by rw [← hz]; exact List.mem_map.2 ⟨x, hx, rfl⟩)) (hfit _ (by rw [← hz]; exact List.mem_map.2 ⟨y, hy, rfl⟩)) ((hW.cell (p := ⟨w.heap.size + 1, 0, none⟩) lt1).trans k0))
  have B1 := Lib.hid b1
  have HZ := Lib.hid hz
  have HZL := Lib.hid hzl
  have HP := Lib.hid hPz
  have VAL := Lib.hid (fun a m cap W => callsIn_wide.1 (valuesR_in Fence.wide 1 trivial rfl a m cap W))
  have hv1 := (b1.cell (p := ⟨gb, 0, none⟩) hgb).trans hv
  have hsz1 : w1.heap.size = w.heap.size + 1 + 1 := by rw [← hw1]; simp
  clear hz hPz hzl b1 hkb hkr hL hfit hk
  go_enter Tryz.func122, Tryz.ntmps122
  go_wp2_with fail
  refine Calls.mono SRT.out ?_
  rintro e w2 ⟨v, rfl, h3, _, h4⟩
  have B2 := Lib.hid (below_step B1.out (Nat.le_refl _) h4)
  have EQ := Lib.hid (sort_els (n := n) HZ.out)
  obtain ⟨ao, m, cc, rfl⟩ : ∃ ao n cc, v = .slice ao n cc := by
    rcases h3.2 with ⟨rfl, _⟩ | ⟨g, cap, cur, rfl, _⟩
    · exact ⟨_, _, _, rfl⟩
    · exact ⟨_, _, _, rfl⟩
  have hm : m = zs.length := by
    rcases h3.2 with ⟨e, h⟩ | ⟨g, cap, cur, e, _⟩
    · simp only [Value.slice.injEq] at e; omega
    · simp only [Value.slice.injEq] at e; exact e.2.1
  have RD : Hid (RdX z w2 ao (sortL (lessC n.col) l)) := by
    rw [← EQ.out]
    rw [← hm] at h3
    have h3' : w2.ownsRow w1.heap.size 34 1 (.slice ao m cc) m (((sortL (fun x y : Els w => lessC n.col x.1.r y.1.r) zs).map fun x => x.1).map El.val) := by rw [List.map_map]; exact h3
    have h := owns_rdX (z := z) h3' (fun e he => by obtain ⟨x, _, rfl⟩ := List.mem_map.1 he; exact x.2.below B2.out) (fun k hk => by have := hzw k hk; have := B1.out.size; omega) (fun e he => by
      obtain ⟨x, hx, rfl⟩ := List.mem_map.1 he
      exact HP.out x (((sortL_asc (wkOf (wkC n.col) fun x : Els w => x.1.r) zs).2.mem (wkOf (wkC n.col) fun x : Els w => x.1.r) hx)))
    rw [rowsV_els] at h
    exact h
  have hm2 : m = (sortL (lessC n.col) l).length := by rw [hm, sortL_len, HZL.out]
  have hsl : (sortL (lessC n.col) l).length ≤ 1048576 := by rw [sortL_len]; exact hl
  clear h3 h4 SRT hm
  subst hm2
  go_wp2_with (go_at_call 57; refine (VAL.out _ _ _ _).mono ?_; rintro e w3 ⟨rfl, rfl⟩)
  go_ret
  have B3 := B2.out.alloc B2.out.size (.cells #[.slice ao (sortL (lessC n.col) l).length cc] 29)
  have hk3 : KidAt z (w2.alloc (.cells #[.slice ao (sortL (lessC n.col) l).length cc] 29)) (.func (.func 106) #[] #[.pointer (some ⟨w2.heap.size, 0, none⟩)]) (sortL (lessC n.col) l) :=
    ⟨_, ao, cc, rfl, fun h => by have := hzw _ h; have := B2.out.size; omega, by simp, RD.out.below ((Below.refl _ _).alloc (Nat.le_refl _) _)⟩
  obtain ⟨lb, ys, hlb, hy, hP, hseq⟩ := hk3.seq hsl
  refine ⟨_, _, rfl, B3, enters_values, ?_⟩
  cases hlb
  have h := toEl (hseq 5 (by omega)) (Below.refl _ _) hP
  rw [hy] at h
  exact h
end Go.Proofs.YtanfllednlpbaaaGreat
namespace Go.Proofs.YtanfllednlpbaaaGreat
open Go.RowKit Go.Maps
set_option linter.unusedSimpArgs false
set_option linter.unusedVariables false
abbrev DW := DataW Unit
theorem Tryz.keyed : Keyed Tryz.prog 9 := string_keyed Tryz.underlying9
def FnD (D : DW) (f : Fn) : Prop := IsMap D ∧ ∀ k : Key, has D (.string k) = (f k).isSome ∧ ∀ v, f k = some v → ∀ z, D.atKey (.string k) z = .lit (.int .i64 v)
theorem FnD.empty : FnD (.map []) (fun _ => none) := ⟨isMap_empty, fun k => ⟨rfl, fun v h => by cases h⟩⟩
theorem FnD.put {D : DW} {f : Fn} (h : FnD D f) (k : Key) (v : Int) : FnD (D.put (.string k) (.lit (.int .i64 v))) (upd f k v) := by
  refine ⟨h.1.put _ _, fun x => ?_⟩
  unfold upd
  by_cases e : x = k
  · subst e
    rw [if_pos rfl]
    refine ⟨has_put_same (k := .string x) h.1 trivial _, fun u hu z => ?_⟩
    injection hu with hu; subst hu
    exact atKey_put_same (k := .string x) h.1 trivial _ _
  · rw [if_neg e]
    have hne : (Lit.string x) ≠ .string k := fun h => e (by injection h)
    exact ⟨(has_put_other hne _).trans (h.2 x).1, fun u hu z => (atKey_put_other hne _ _).trans ((h.2 x).2 u hu z)⟩
def OwnM (w : World) (b n : Nat) (f : Fn) : Prop := ∃ D : DW, w.ownsMap Tryz.prog 9 (plainElem Tryz.prog 3) b n D ∧ FnD D f
theorem OwnM.lt {w : World} {b n : Nat} {f : Fn} (h : OwnM w b n f) : b < w.heap.size := by obtain ⟨D, h1, _⟩ := h; exact h1.lt
theorem OwnM.below {w w' : World} {b n : Nat} {f : Fn} (h : OwnM w b n f) (hb : Below w.heap.size w w') : OwnM w' b n f := by
  have hl := h.lt
  obtain ⟨D, ⟨es, clock, h1, h2⟩, h3⟩ := h
  exact ⟨D, ⟨es, clock, (hb.block b hl).trans h1, h2⟩, h3⟩
theorem owns_size {w : World} {b n : Nat} {D : DW} (h : w.ownsMap Tryz.prog 9 (plainElem Tryz.prog 3) b n D) : size D ≤ n := by
  obtain ⟨es, clock, _, _, hs, rfl⟩ := h
  rw [size_eq, length_sorted, List.length_map]; simpa using hs
def Col (f : Fn) (left : Lit → Bool) (l : List Tb) : Prop :=
  l.Pairwise (fun s t => s.key ≠ t.key) ∧ ∀ k v, (f k = some v ∧ left (.string k) = false) ↔ ∃ t ∈ l, t.key = k ∧ t.width = v
theorem col_start {D : DW} {f : Fn} (h : FnD D f) : Col f (has D) [] :=
  ⟨List.Pairwise.nil, fun k v => ⟨fun ⟨h1, h2⟩ => (by rw [(h.2 k).1, h1] at h2; cases h2), fun ⟨t, ht, _⟩ => (by cases ht)⟩⟩
theorem col_step {D : DW} {f : Fn} {left : Lit → Bool} {l : List Tb} {t : Tb} (hD : FnD D f) (h : Col f left l) (hl : left (.string t.key) = true) (hat : ∀ zd, D.atKey (.string t.key) zd = .lit (.int .i64 t.width)) :
    Col f (fun z => left z && !z.sameKey (.string t.key)) (l ++ [t]) := by
  have hf : f t.key = some t.width := by
    cases hv : f t.key with
    | none =>
      have h1 : has D (.string t.key) = false := by rw [(hD.2 t.key).1, hv]; rfl
      have := hat .nil
      rw [atKey_of_not_has h1] at this; cases this
    | some v =>
      have := (hD.2 t.key).2 v hv .nil
      rw [hat .nil] at this
      injection this with this; injection this with _ this; rw [this]
  have hne : ∀ s ∈ l, s.key ≠ t.key := by
    intro s hs e
    have := ((h.2 s.key s.width).2 ⟨s, hs, rfl, rfl⟩).2
    rw [e, hl] at this; cases this
  refine ⟨List.pairwise_append.2 ⟨h.1, by simp, fun a ha b hb => (by rw [show b = t from (by simpa using hb)]; exact hne a ha)⟩, fun k v => ?_⟩
  by_cases e : k = t.key
  · subst e
    have hs : (Lit.string t.key).sameKey (.string t.key) = true := WideAt.sameKey_self trivial
    constructor
    · rintro ⟨h1, _⟩
      rw [hf] at h1; injection h1 with h1
      exact ⟨t, by simp, rfl, h1⟩
    · rintro ⟨s, hs', h1, h2⟩
      refine ⟨?_, by simp [hs]⟩
      rcases List.mem_append.1 hs' with h3 | h3
      · exact absurd h1 (hne s h3)
      · simp at h3; subst h3; rw [hf, h2]
  · have hs : (Lit.string k).sameKey (.string t.key) = false := sameKey_ne fun h => e (by injection h)
    simp only [hs, Bool.not_false, Bool.and_true]
    rw [h.2 k v]
    constructor
    · rintro ⟨s, h1, h2, h3⟩; exact ⟨s, by simp [h1], h2, h3⟩
    · rintro ⟨s, h1, h2, h3⟩
      rcases List.mem_append.1 h1 with h1 | h1
      · exact ⟨s, h1, h2, h3⟩
      · simp at h1; subst h1; exact absurd h2.symm e
theorem col_told {f : Fn} {left : Lit → Bool} {l m : List Tb} (h : Col f left l) (hl : ∀ kl, left kl = false) (hp : m.Perm l) (hs : m.Pairwise (fun s t => ¬ t.key < s.key)) : ToldM f m := by
  have hn : m.Pairwise (fun s t => s.key ≠ t.key) := (hp.pairwise_iff (fun {a b} (h : a.key ≠ b.key) => h.symm)).2 h.1
  refine ⟨?_, fun k v => ?_⟩
  · refine (hs.and hn).imp ?_
    rintro s t ⟨h1, h2⟩
    rcases Std.lt_trichotomy (a := s.key) (b := t.key) with h3 | h3 | h3
    · exact h3
    · exact absurd h3 h2
    · exact absurd h3 h1
  · have := h.2 k v
    rw [hl] at this
    simp only [and_true] at this
    rw [this]
    constructor
    · rintro ⟨t, h1, h2⟩; exact ⟨t, hp.mem_iff.2 h1, h2⟩
    · rintro ⟨t, h1, h2⟩; exact ⟨t, hp.mem_iff.1 h1, h2⟩
theorem wpList_next_si {P : Program} (w : World) {ops : Array Oper} {rest : List Oper} {o : Oper} {a : Act} {Q : Exit → Act → World → Prop} (hg : o.guard = none) (it : Operand) (hop : o.op = Op.next it false) (k e : TypeId) (K : Keyed P k) (hk : P.underlying k = some .string) (he : P.underlying e = some (.int .i64))
    (b r n : Nat) (D : DW) (left : Lit → Bool) (cnt : Nat) (hit : a.eval it = .pointer (some ⟨r, 0, none⟩)) (h : w.ranges P k (plainElem P e) b r n D left cnt)
    (hDone : cnt = 0 → (∀ kl, left kl = false) → wpList P ops Q rest (a.put o.dst (.tuple #[.bool false])) w)
    (hMore : ∀ (x : ByteArray) (c : Int) (w' : World) (cnt' : Nat), x.size ≤ maxLen → left (.string x.data.toList) = true → (∀ zd, D.atKey (.string x.data.toList) zd = .lit (.int .i64 c)) → w'.ranges P k (plainElem P e) b r n D (fun z => left z && !z.sameKey (.string x.data.toList)) cnt' → cnt' < cnt →
      w.grownBy w' (some r) → w'.heap.size = w.heap.size → (Instr.entry (.pointer (some ⟨r, 0, none⟩))).run P w' = .ok (.tuple #[.string x, .int .i64 c]) w' → wpList P ops Q rest (a.put o.dst (.tuple #[.bool true, .string x, .int .i64 c])) w') :
    wpList P ops Q (o :: rest) a w :=
  wpList_next_ranges w hg it hop k K (plainElem P e) Value.string (Value.int .i64) (fun key kl hkey => by obtain ⟨x, rfl, _⟩ := WideMaps.string_of_keyOf hk hkey; exact ⟨x, rfl⟩) (fun v y hv => by obtain ⟨c, rfl, _⟩ := plainElem_int_inv he hv; exact ⟨c, rfl⟩)
    b r n D left cnt hit h hDone (fun x c kl y w' cnt' hkey hlk hv hat hrg hlt hgr hsz hen => by
      obtain ⟨x', ex, rfl, hwx⟩ := WideMaps.string_of_keyOf hk hkey
      cases ex
      obtain ⟨c', ec, rfl, hwc⟩ := plainElem_int_inv he hv
      cases ec
      exact hMore x c w' cnt' hwx hlk hat hrg hlt hgr hsz hen)
abbrev DV := DataW Value
def valMR (v : Value) : Option (DV × List MemPlace) := some (.held v, [])
abbrev FnV := Key → Option Value
def FnVD (D : DV) (f : FnV) : Prop := IsMap D ∧ ∀ k v, f k = some v → ∀ z, D.atKey (.string k) z = .held v
def updV (f : FnV) (k : Key) (v : Value) : FnV := fun x => if x = k then some v else f x
theorem FnVD.empty : FnVD (.map []) (fun _ => none) := ⟨isMap_empty, fun k v h => by cases h⟩
theorem FnVD.put {D : DV} {f : FnV} (h : FnVD D f) (k : Key) (v : Value) : FnVD (D.put (.string k) (.held v)) (updV f k v) := by
  refine ⟨h.1.put _ _, fun x u hu z => ?_⟩
  unfold updV at hu
  by_cases e : x = k
  · subst e
    rw [if_pos rfl] at hu
    injection hu with hu; subst hu
    exact atKey_put_same (k := .string x) h.1 trivial _ _
  · rw [if_neg e] at hu
    have hne : (Lit.string x) ≠ .string k := fun h => e (by injection h)
    exact (atKey_put_other hne _ _).trans (h.2 x u hu z)
def OwnMV (w : World) (b n : Nat) (f : FnV) : Prop := ∃ D : DV, w.ownsMap Tryz.prog 9 valMR b n D ∧ FnVD D f
theorem OwnMV.lt {w : World} {b n : Nat} {f : FnV} (h : OwnMV w b n f) : b < w.heap.size := by obtain ⟨D, h1, _⟩ := h; exact h1.lt
theorem OwnMV.same {w w' : World} {b n : Nat} {f : FnV} (h : OwnMV w b n f) (hb : w'.heap[b]? = w.heap[b]?) : OwnMV w' b n f := by
  obtain ⟨D, ⟨es, clock, h1, h2⟩, h3⟩ := h
  exact ⟨D, ⟨es, clock, hb.trans h1, h2⟩, h3⟩
theorem OwnMV.below {w w' : World} {b n : Nat} {f : FnV} (h : OwnMV w b n f) (hb : Below w.heap.size w w') : OwnMV w' b n f := h.same (hb.block b h.lt)
theorem zeroRows (w : World) : (zeroValue 29).run Tryz.prog w = .ok (.slice none 0 0) w := by kernel_rfl
theorem OwnMV.look {w : World} {b n : Nat} {f : FnV} (h : OwnMV w b n f) {name : ByteArray} (hn : name.size ≤ maxLen) {v : Value} (hv : f name.data.toList = some v) : (Instr.lookup 114 (.map (some b)) (.string name) false).run Tryz.prog w = .ok v w := by
  obtain ⟨D, h1, h2⟩ := h
  obtain ⟨u, ps, hrun, hr⟩ := h1.lookup (t := 114) (e := 29) Tryz.keyed Tryz.underlying114 (zeroRows w) (zd := .held (.slice none 0 0)) (zp := []) rfl (WideMaps.keyOf_string_mk Tryz.underlying9 hn)
  rw [h2.2 _ v hv] at hr
  unfold valMR at hr
  simp only [Option.some.injEq, Prod.mk.injEq, DataW.held.injEq] at hr
  rw [hr.1] at hrun
  exact hrun
end Go.Proofs.YtanfllednlpbaaaGreat
namespace Go.Proofs.YtanfllednlpbaaaGreat
open Go.RowKit
set_option linter.unusedSimpArgs false
set_option linter.unusedVariables false
set_option maxRecDepth 100000 in
set_option maxHeartbeats 3200000 in
theorem overScan_any (z : Nat → Prop) (n : Nd) (hk : n.kind = 0) (a : Option Addr) (c : Nat) (bm nm : Nat) (f : FnV) (sa : Option Addr) (sl sc : Nat) (ra : Option Addr) (rc : Nat) (l : RowsL) (w : World) (hzw : ∀ k, z k → k < w.heap.size) (hm : OwnMV w bm nm f) (hn : n.name.size ≤ maxLen) (hf : f n.name.data.toList = some (.slice ra l.length rc)) (hr : RdX z w ra l) (hl : l.length ≤ 1048576) :
    Calls Tryz.prog 122 #[.agg #[.map (some bm), .slice sa sl sc], kindV n a c, .slice none 0 0] w (OverPost z w l) := by
  rw [show kindV n a c = .iface 164 (.agg #[.string n.name]) by unfold kindV; rw [if_pos hk]]
  have A0 := Tryz.as_scanNode_filterNode
  have A1 := Tryz.as_scanNode_keepNode
  have A2 := Tryz.as_scanNode_joinNode
  have A3 := Tryz.as_scanNode_bothNode
  have A4 := Tryz.as_scanNode_sortNode
  have A5 := Tryz.as_scanNode_limitNode
  have A6 := Tryz.as_scanNode_onceNode
  have A7 := Tryz.as_scanNode_scanNode
  have hlk := (hm.below (((Below.refl _ w).alloc (Nat.le_refl _) (.cells #[.map (some bm), .slice sa sl sc] 116)).alloc (by simp) (.cells #[.string n.name] 164))).look hn hf
  have VAL := Lib.hid (fun a m cap W => callsIn_wide.1 (valuesR_in Fence.wide 1 trivial rfl a m cap W))
  have HR := Lib.hid hr
  clear hk hm hn hf hr
  generalize n.name = name at hlk ⊢
  obtain ⟨m, hml⟩ : ∃ m, l.length = m := ⟨_, rfl⟩
  rw [hml] at hlk hl
  have HM := Lib.hid hml
  clear hml
  go_enter Tryz.func122, Tryz.ntmps122
  go_wp2_with (go_at_call 57; refine (VAL.out _ _ _ _).mono ?_; rintro e w3 ⟨rfl, rfl⟩)
  go_ret
  obtain rfl := HM.out
  have B3 : Below w.heap.size w (((w.alloc (.cells #[.map (some bm), .slice sa sl sc] 116)).alloc (.cells #[.string name] 164)).alloc (.cells #[.slice ra l.length rc] 29)) := (((Below.refl _ w).alloc (Nat.le_refl _) _).alloc (by simp) _).alloc (by simp; omega) _
  have hk3 : KidAt z (((w.alloc (.cells #[.map (some bm), .slice sa sl sc] 116)).alloc (.cells #[.string name] 164)).alloc (.cells #[.slice ra l.length rc] 29)) (.func (.func 106) #[] #[.pointer (some ⟨w.heap.size + 1 + 1, 0, none⟩)]) l :=
    ⟨_, ra, rc, rfl, fun h => by have := hzw _ h; omega, by simp [go_sem], HR.out.below B3⟩
  obtain ⟨lb, ys, hlb, hy, hP, hseq⟩ := hk3.seq hl
  refine ⟨_, _, rfl, B3, enters_values, ?_⟩
  cases hlb
  have h := toEl (hseq 5 (by omega)) (Below.refl _ _) hP
  rw [hy] at h
  exact h
theorem nodeE_1 {n : Nd} (h : nodeB n = true) (hk : n.kind = 1) : 0 ≤ n.col ∧ (n.op = 0 ∨ n.op = 1 ∨ n.op = 2 ∨ n.op = 3) := by
  unfold nodeB at h
  rw [if_neg (by omega), if_pos hk, decide_eq_true_eq] at h
  obtain ⟨_, h1, h2, _⟩ := h
  omega
theorem nodeE_2 {n : Nd} (h : nodeB n = true) (hk : n.kind = 2) : ∀ c ∈ n.cols, 0 ≤ c := by
  unfold nodeB at h
  rw [if_neg (by omega), if_neg (by omega), if_pos hk, Bool.and_eq_true] at h
  intro c hc
  have := List.all_eq_true.1 h.2 c hc
  unfold colB at this
  simp at this
  omega
theorem nodeE_3 {n : Nd} (h : nodeB n = true) (hk : n.kind = 3) : 0 ≤ n.col ∧ 0 ≤ n.num := by
  unfold nodeB at h
  rw [if_neg (by omega), if_neg (by omega), if_neg (by omega), if_pos hk, decide_eq_true_eq] at h
  obtain ⟨_, h1, _, h2, _⟩ := h
  omega
theorem nodeE_5 {n : Nd} (h : nodeB n = true) (hk : n.kind = 5) : 0 ≤ n.col := by
  unfold nodeB at h
  rw [if_neg (by omega), if_neg (by omega), if_neg (by omega), if_neg (by omega), if_neg (by omega), if_pos hk, decide_eq_true_eq] at h
  obtain ⟨_, h1, _⟩ := h
  omega
theorem nodeE_6 {n : Nd} (h : nodeB n = true) (hk : n.kind = 6) : 0 ≤ n.num := by
  unfold nodeB at h
  rw [if_neg (by omega), if_neg (by omega), if_neg (by omega), if_neg (by omega), if_neg (by omega), if_neg (by omega), if_pos hk, decide_eq_true_eq] at h
  obtain ⟨_, _, _, h1, _⟩ := h
  omega
theorem overOne_any (z : Nat → Prop) (n : Nd) (hnb : nodeB n = true) (ha : arity n.kind = 1) (a : Option Addr) (c : Nat) (mm : Option Nat) (sa : Option Addr) (sl sc : Nat) (gb cb : Nat) (v : Value) (l : RowsL) (w : World) (hzw : ∀ k, z k → k < w.heap.size) (hv : w.cell? ⟨gb, 0, none⟩ = some v) (K : KidAt z w v l) (hl : l.length ≤ 1048576)
    (hcols : Rd w .i64 a n.cols) (wd : Int) (hw : AllW wd l) (ho : over1 n wd ≠ -1) :
    Calls Tryz.prog 122 #[.agg #[.map mm, .slice sa sl sc], kindV n a c, .slice (some ⟨gb, 0, none⟩) 1 cb] w (OverPost z w (on1 n l)) := by
  rcases arity_1 ha with e | e | e | e | e
  · obtain ⟨h1, h2⟩ := nodeE_1 hnb e
    rw [on1_1 e]
    exact overFilter_any z n e h2 a c mm sa sl sc gb cb v l w hzw hv K hl h1 (fun r hr => by have := hw r hr; have := (over1_c (.inl e) ho).2; omega)
  · have h1 := nodeE_2 hnb e
    have h2 := cols_of_nodeB hnb e
    rw [on1_2 e]
    exact overKeep_any z n e a c mm sa sl sc gb cb v l w hzw hv K hl hcols (by omega) (fun r hr cc hcc => by have := hw r hr; have := (over1_k e ho).2 cc hcc; have := h1 cc hcc; omega)
  · rw [on1_5 e]
    exact overSort_any z n e a c mm sa sl sc gb cb v l w hzw hv K hl (nodeE_5 hnb e) (fun r hr => by have := hw r hr; have := (over1_c (.inr e) ho).2; omega)
  · rw [on1_6 e]
    exact overLimit_any z n e a c mm sa sl sc gb cb v l w hzw hv K hl (nodeE_6 hnb e)
  · rw [on1_7 e]
    exact overOnce_any z n e a c mm sa sl sc gb cb v l w hzw hv K hl
theorem overTwo_any (z : Nat → Prop) (n : Nd) (hnb : nodeB n = true) (ha : arity n.kind = 2) (a : Option Addr) (c : Nat) (mm : Option Nat) (sa : Option Addr) (sl sc : Nat) (gb cb : Nat) (v v' : Value) (l m : RowsL) (w : World) (hzw : ∀ k, z k → k < w.heap.size) (hv : w.cell? ⟨gb, 0, none⟩ = some v) (hv' : w.cell? ⟨gb, 1, none⟩ = some v') (K : KidAt z w v l) (K' : KidAt z w v' m) (hl : l.length ≤ 1048576) (hm : m.length ≤ 1048576)
    (wd we : Int) (hw : AllW wd l) (hw' : AllW we m) (h1 : wd ≤ 64) (h2 : we ≤ 64) (ho : over2 n wd we ≠ -1) :
    Calls Tryz.prog 122 #[.agg #[.map mm, .slice sa sl sc], kindV n a c, .slice (some ⟨gb, 0, none⟩) 2 cb] w (OverPost z w (on2 n l m)) := by
  rcases arity_2 ha with e | e
  · obtain ⟨h3, h4⟩ := nodeE_3 hnb e
    obtain ⟨_, h5, h6, h7⟩ := over2_j e ho
    unfold on2
    rw [if_pos e]
    exact overJoin_any z n e a c mm sa sl sc gb cb v v' l m w hzw hv hv' K K' hl hm h3 h4 (fun r hr => by have := hw r hr; omega) (fun r hr => by have := hw' r hr; omega)
  · unfold on2
    rw [if_neg (by omega)]
    exact overBoth_any z n e a c mm sa sl sc gb cb v v' l m w hzw hv hv' K K' hl hm
def GRes (z : Nat → Prop) (w' : World) (L : RowsL) (v : Value) (ok : Bool) : Prop :=
  (few L = some L ∧ ok = true ∧ ∃ a c, v = .slice a L.length c ∧ RdX z w' a L) ∨ (few L = none ∧ ok = false ∧ v = .slice none 0 0)
def GatherPost (z : Nat → Prop) (w : World) (L : RowsL) (e : Ending) (w' : World) : Prop :=
  ∃ v ok, e = .returned (.tuple #[v, .bool ok]) ∧ Below w.heap.size w w' ∧ GRes z w' L v ok
theorem gather_any (z : Nat → Prop) (g : Nat) (lb : Array Value) (L : RowsL) (w : World) (hz : ∀ k, z k → k < w.heap.size) (eg : ∀ args W, (callFunc g args).run Tryz.prog W = .ok (.enter g args) W) (h : ElSeq Fence.wide 5 g lb z L w) :
    Calls Tryz.prog 121 #[.func (.func g) #[] lb] w (GatherPost z w L) := by
  refine (callsIn_wide.1 (gather_in Fence.wide 6 trivial rfl (by omega) g lb trivial eg (PX z) L w w (Below.refl _ _) h)).mono ?_
  rintro e w' ⟨hb, ⟨hl, v, xs, rfl, h1, h2, h3, h4⟩ | ⟨hl, rfl⟩⟩
  · have hn : xs.length = L.length := by rw [← h1]; simp [rowsV]
    obtain ⟨ao, n, c, rfl⟩ : ∃ ao n c, v = .slice ao n c := by
      rcases h4.2 with ⟨rfl, _⟩ | ⟨g', cap, cur, rfl, _⟩
      · exact ⟨_, _, _, rfl⟩
      · exact ⟨_, _, _, rfl⟩
    have hm : n = xs.length := by
      rcases h4.2 with ⟨e, h⟩ | ⟨g', cap, cur, e, _⟩
      · simp only [Value.slice.injEq] at e; omega
      · simp only [Value.slice.injEq] at e; exact e.2.1
    refine ⟨_, true, rfl, hb, .inl ⟨few_of hl, rfl, ao, c, by rw [hm, hn], ?_⟩⟩
    rw [← h1]
    rw [← hm] at h4
    exact owns_rdX h4 h2 hz h3
  · exact ⟨_, false, rfl, hb, .inr ⟨few_no hl, rfl, rfl⟩⟩
end Go.Proofs.YtanfllednlpbaaaGreat
