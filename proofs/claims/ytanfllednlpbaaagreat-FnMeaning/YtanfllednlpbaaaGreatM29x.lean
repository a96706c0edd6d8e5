/-
  Contract of slices.Concat of two slices of numbers: one list behind the other. For all slices with a number each. A region that draws its order, within a round of a range over a function: by an invariant over what has come up. Scopes without a jump, fenced. For any program.
-/
import Derived.Test.YtanfllednlpbaaaGreatM2x
import Derived.Test.YtanfllednlpbaaaGreatShelf4
import Derived.OrdersIn
import Derived.Scope
import Derived.ControlIn
namespace Go.Proofs.YtanfllednlpbaaaGreat
open Go.RowKit Go.Shelf
set_option linter.unusedSimpArgs false
set_option linter.unusedVariables false
theorem infoIc : (Tryz.prog.info? 3).map (fun i => (i.zero, i.size, i.bytes)) = some (some (.int .i64 0), 1, 8) := by kernel_rfl
theorem growI_any (x : Int) (n : Nat) (hx : x = (n : Int)) (w : World) (h0 : 0 < n) (hn : n ≤ 4194304) :
    Calls Tryz.prog 182 #[.slice none 0 0, .int .i64 x] w fun e w' => ∃ c, e = .returned (.slice (some ⟨w.heap.size, 0, none⟩) 0 c) ∧ w'.ownsRow w.heap.size 3 1 (.slice (some ⟨w.heap.size, 0, none⟩) 0 c) 0 [] ∧ Below w.heap.size w w' := by
  subst hx
  obtain ⟨i0, hi, hz0, hz1, hz2⟩ := info_parts infoIc
  refine (Any8.slices_Grow_grow Tryz.laysGrowI i0 _ hi hz0 (by rw [hz1]; omega) none 0 0 n [] w (Nat.le_refl _) (by omega) (by rw [hz2]; omega) (by omega) (by simp) (fun _ => rfl) (by intro a ha; cases ha)).mono ?_
  rintro e w' ⟨rfl, rfl⟩
  have hge := grownCap_ge w (0 + n) 0 3
  have hcm := grownCap_le_maxLen w (0 + n) 0 3 (by unfold maxLen; omega)
  refine ⟨_, rfl, ⟨rfl, .inr ⟨w.heap.size, _, _, rfl, Nat.le_refl _, heap_alloc_new w.drew _, Nat.zero_le _, hcm, ?_, ?_⟩⟩, ?_⟩
  · have key : ∀ (z : Array Value) (G : Nat), z.size = 1 → 0 + n ≤ G → (#[] ++ Builtin.zeroCells z (0 + n - 0) ++ Builtin.zeroCells z (G - (0 + n))).size = G * 1 := by
      intro z G hz hG
      simp only [Array.size_append, size_zeroCells, hz]
      simp
      omega
    exact key _ _ rfl hge
  · simp
  · exact ((Below.refl _ w).drew).alloc (by simp) _
theorem wpList_appendIs {P : Program} (w : World) {ops : Array Oper} {rest : List Oper} {o : Oper} {a : Act} {Q : Exit → Act → World → Prop} (hgd : o.guard = none) (s x : Operand) (t : TypeId)
    (ho : o.op = .call { callee := .builtin .append, args := #[s, x], argTypes := #[t, t] }) (base : Nat) {z : Value} (ht : P.underlying t = some (.slice 3))
    (hi : (P.info? 3).map (fun i => (i.zero, i.size, i.bytes)) = some (some z, 1, 8)) (hz : z.cells.size = 1) (v : Value) (n : Nat) (xs : List Value) (hs : a.eval s = v)
    (hown : w.ownsRow base 3 1 v n xs) (b off m c2 : Nat) (l2 : List Int) (hx : a.eval x = .slice (some ⟨b, off, none⟩) m c2) (hm : m = l2.length)
    (hc : ∀ i, i < l2.length → w.cell? ⟨b, off + i, none⟩ = some (.int .i64 (l2.getD i 0))) (hj : n + m ≤ 16777216) (hbase : base ≤ w.heap.size)
    (h : ∀ v' w', w'.ownsRow base 3 1 v' (n + m) (xs ++ l2.map (.int .i64 ·)) → w.grownBy w' v.ownBlock → (v'.ownBlock = v.ownBlock ∨ v'.ownBlock = some w.heap.size) → wpList P ops Q rest (a.put o.dst v') w') :
    wpList P ops Q (o :: rest) a w := by
  obtain ⟨i, hi0, hz0, hz1, hz2⟩ := info_parts hi
  subst hm
  refine wpList_append_own_at w hgd s x t ho base 3 i z 1 8 ht hi0 hz0 hz1 hz2 hz (by omega) _ n xs hs hown ⟨b, off, none⟩ l2.length c2 (l2.map (.int .i64 ·)) hx (by simp) ?_ ?_ (by unfold maxLen; omega) (by omega) hbase ?_
  · intro j u hu
    rw [List.getElem?_map] at hu
    have hj' : j < l2.length := by
      rcases Nat.lt_or_ge j l2.length with h1 | h1
      · exact h1
      · rw [List.getElem?_eq_none h1] at hu; cases hu
    rw [List.getElem?_eq_getElem hj'] at hu
    have := hc j hj'
    rw [List.getD_eq_getElem?_getD, List.getElem?_eq_getElem hj'] at this
    simp only [Option.map_some, Option.some.injEq, Option.getD_some] at hu this
    subst hu
    unfold Addr.add
    split
    · rename_i h0; subst h0; exact this
    · exact this
  · intro u hu
    obtain ⟨y, _, rfl⟩ := List.mem_map.1 hu
    rfl
  · intro v' w' h1 h2 h3 h4
    exact h v' w' h1 h2 (by assumption)
def CatI (w : World) (l : List Int) (e : Ending) (w' : World) : Prop := ∃ g c, e = .returned (.slice (some ⟨g, 0, none⟩) l.length c) ∧ w.heap.size ≤ g ∧ g < w'.heap.size ∧ Rd w' .i64 (some ⟨g, 0, none⟩) l ∧ l.length ≤ c ∧ c ≤ maxLen ∧ Below w.heap.size w w'
theorem catI_end {w w' : World} {v : Value} {l0 l1 : List Int} (ho : w'.ownsRow w.heap.size 3 1 v (0 + l0.length + l1.length) ([] ++ l0.map (.int .i64 ·) ++ l1.map (.int .i64 ·))) (hne : 0 < l0.length) (hb : Below w.heap.size w w') :
    ∃ g c, v = .slice (some ⟨g, 0, none⟩) (l0 ++ l1).length c ∧ w.heap.size ≤ g ∧ g < w'.heap.size ∧ Rd w' .i64 (some ⟨g, 0, none⟩) (l0 ++ l1) ∧ (l0 ++ l1).length ≤ c ∧ c ≤ maxLen := by
  rcases ho.2 with ⟨rfl, hz⟩ | ⟨g, cap, cur, rfl, h1, h2, h3, h4, h5, h6⟩
  · omega
  · refine ⟨g, cap, by simp, h1, (Array.getElem?_eq_some_iff.1 h2).1, .inr ⟨g, 0, rfl, fun i hi => ?_⟩, by simp; omega, h4⟩
    have hi' : i < l0.length + l1.length := by simpa using hi
    rw [Nat.zero_add, World.ownsRow.cellAt ho i (by omega), List.nil_append, ← List.map_append, List.getElem?_map, List.getElem?_eq_getElem hi, List.getD_eq_getElem?_getD, List.getElem?_eq_getElem hi]
    rfl
set_option maxRecDepth 100000 in
set_option maxHeartbeats 1600000 in
theorem concatI_any (bv b0 o0 c0 b1 o1 c1 : Nat) (l0 l1 : List Int) (w : World) (h0 : ∀ i, i < l0.length → w.cell? ⟨b0, o0 + i, none⟩ = some (.int .i64 (l0.getD i 0))) (h1 : ∀ i, i < l1.length → w.cell? ⟨b1, o1 + i, none⟩ = some (.int .i64 (l1.getD i 0)))
    (v0 : w.cell? ⟨bv, 0, none⟩ = some (.slice (some ⟨b0, o0, none⟩) l0.length c0)) (v1 : w.cell? ⟨bv, 1, none⟩ = some (.slice (some ⟨b1, o1, none⟩) l1.length c1))
    (hne : 0 < l0.length) (hne1 : 0 < l1.length) (k0 : l0.length ≤ 1048576) (k1 : l1.length ≤ 1048576) :
    Calls Tryz.prog 163 #[.slice (some ⟨bv, 0, none⟩) 2 2] w (CatI w (l0 ++ l1)) := by
  have N0 := Lib.hid h0; have N1 := Lib.hid h1
  have hbv : bv < w.heap.size := World.block_lt_of_cell? w ⟨bv, 0, none⟩ v0
  have lb0 := World.block_lt_of_cell? w _ (h0 0 hne)
  have lb1 := World.block_lt_of_cell? w _ (h1 0 hne1)
  simp only at lb0 lb1
  clear h0 h1
  go_enter Tryz.func163, Tryz.ntmps163
  go_wp2_with fail
  refine wp_loop_rounds 3 ?_; rw [rounds_succ]
  go_wp2_with fail
  rw [rounds_succ]
  go_wp2_with fail
  rw [rounds_succ]
  go_wp2_with fail
  refine (growI_any _ (l0.length + l1.length) (by omega) _ (by omega) (by omega)).mono ?_
  rintro e w1 ⟨c, rfl, og, b1'⟩
  have OG := Lib.hid og; have B1 := Lib.hid b1'
  have u0 := (b1'.cell (p := ⟨bv, 0, none⟩) hbv).trans v0
  have u1 := (b1'.cell (p := ⟨bv, 1, none⟩) hbv).trans v1
  have hz1 := b1'.size
  clear og b1'
  go_wp2_with fail
  refine wp_loop_rounds 3 ?_; rw [rounds_succ]
  go_wp2_with (at_builtin; go_must (refine wpList_appendIs _ rfl (.tmp 31) (.tmp 32) 34 rfl w.heap.size Tryz.underlying34 infoIc rfl _ 0 [] rfl OG.out b0 o0 _ c0 l0 rfl rfl (fun i hi => (B1.out.cell (p := ⟨b0, o0 + i, none⟩) lb0).trans (N0.out i hi)) (by omega) hz1 ?_; intro x2 w2 o2' g2 _; have OW2 := Lib.hid o2'; have B2 := Lib.hid (B1.out.grown g2 hz1 (fun g hg => (OG.out.lt g hg).1)); clear o2' g2))
  have hz2 := B2.out.size
  have u1' := (B2.out.cell (p := ⟨bv, 1, none⟩) hbv).trans v1
  clear u0 u1
  rw [rounds_succ]
  go_wp2_with (at_builtin; go_must (refine wpList_appendIs _ rfl (.tmp 31) (.tmp 32) 34 rfl w.heap.size Tryz.underlying34 infoIc rfl _ _ _ rfl OW2.out b1 o1 _ c1 l1 rfl rfl (fun i hi => (B2.out.cell (p := ⟨b1, o1 + i, none⟩) lb1).trans (N1.out i hi)) (by omega) hz2 ?_; intro x3 w3 o3' g3 _; have OW3 := Lib.hid o3'; have B3 := Lib.hid (B2.out.grown g3 hz2 (fun g hg => (OW2.out.lt g hg).1)); clear o3' g3))
  obtain ⟨g, cc, rfl, hrd⟩ := catI_end OW3.out hne B3.out
  have RD := Lib.hid hrd
  clear hrd u1'
  rw [rounds_succ]
  go_wp2_with fail
  go_ret
  exact ⟨_, _, rfl, RD.out.1, RD.out.2.1, RD.out.2.2.1, RD.out.2.2.2.1, RD.out.2.2.2.2, B3.out⟩
end Go.Proofs.YtanfllednlpbaaaGreat
namespace Go.Proofs.YtanfllednlpbaaaGreat
set_option linter.unusedSimpArgs false
set_option linter.unusedVariables false
section
variable {F : Fence} {n : Nat} {P : Program} {ops : Array Oper} {Q : Exit → Act → World → Prop} {md : Region.Mode}
theorem count_set {l : List Bool} {i : Nat} (h : l[i]? = some false) : (l.set i true).count false + 1 = l.count false := by
  induction l generalizing i with
  | nil => cases h
  | cons b l ih =>
    cases i with
    | zero => simp at h; subst h; simp
    | succ i =>
      simp at h
      have := ih h
      simp only [List.set_cons_succ, List.count_cons]
      omega
def backB (ops : Array Oper) : Bool := (List.range ops.size).all fun i => match ops[i]? with
  | none => true
  | some o => o.after.toList.all fun e => decide (e.on < i)
theorem backB_spec (h : backB ops = true) : ∀ (i : Nat) (o : Oper), ops[i]? = some o → ∀ e ∈ o.after, e.on < i := by
  intro i o ho e he
  have := List.all_eq_true.1 h i (List.mem_range.2 (Array.getElem?_eq_some_iff.1 ho).1)
  rw [ho] at this
  exact of_decide_eq_true (List.all_eq_true.1 this e (by simpa using he))
def needs (md : Region.Mode) (ops : Array Oper) (i : Nat) : List Nat := match ops[i]? with
  | none => []
  | some o => (o.after.toList.filter fun e => Region.binds md e).map fun e => e.on
theorem ready_needs {l : Array Bool} {i : Nat} (h : i ∈ Region.ready md ops l) : i < ops.size ∧ l.getD i true = false ∧ ∀ j ∈ needs md ops i, l.getD j false = true := by
  obtain ⟨h1, o, ho, h2⟩ := mem_ready.1 h
  refine ⟨(Array.getElem?_eq_some_iff.1 ho).1, h1, fun j hj => ?_⟩
  unfold needs at hj
  rw [ho] at hj
  simp only [List.mem_map, List.mem_filter] at hj
  obtain ⟨e, ⟨he, hb⟩, rfl⟩ := hj
  exact h2 e (by simpa using he) hb
theorem wpAnyIn_inv (I : Array Bool → Act → World → Prop) (hb : backB ops = true) (hsz : ∀ l a w, I l a w → l.size = ops.size)
    (hstep : ∀ l a w, I l a w → ∀ i ∈ Region.ready md ops l, wpOpIn F n P ops Q i (I (l.setIfInBounds i true)) a w)
    (hdone : ∀ l a w, I l a w → (∀ i, i < ops.size → l.getD i false = true) → Q .normal a w) :
    ∀ (fuel : Nat) (l : Array Bool) (a : Act) (w : World), I l a w → l.toList.count false ≤ fuel → wpAnyIn F n P md ops Q fuel l a w := by
  have hback := backB_spec hb
  have hall : ∀ l : Array Bool, l.size = ops.size → Region.ready md ops l = [] → ∀ i, i < ops.size → l.getD i false = true := by
    intro l hs hr i
    induction i using Nat.strongRecOn with
    | _ i ih =>
      intro hi
      cases h : l.getD i false with
      | true => rfl
      | false =>
        have hm : i ∈ Region.ready md ops l := by
          refine mem_ready.2 ⟨?_, ops[i], Array.getElem?_eq_getElem hi, fun e he _ => ?_⟩
          · have : i < l.size := by omega
            simp [this] at h ⊢; exact h
          · have hlt := hback i ops[i] (Array.getElem?_eq_getElem hi) e he
            exact ih e.on hlt (by omega)
        rw [hr] at hm
        cases hm
  have hcount : ∀ (l : Array Bool) (i : Nat), i ∈ Region.ready md ops l → l.toList[i]? = some false := by
    intro l i hi
    have h := (mem_ready.1 hi).1
    rcases Nat.lt_or_ge i l.size with h1 | h1
    · simp [h1] at h ⊢; exact h
    · simp [Array.getElem?_eq_none h1] at h
  intro fuel
  induction fuel with
  | zero =>
    intro l a w hI hc
    have hr : Region.ready md ops l = [] := by
      cases hr : Region.ready md ops l with
      | nil => rfl
      | cons i rs =>
        have h := hcount l i (by rw [hr]; simp)
        have : false ∈ l.toList := List.mem_of_getElem? h
        have := List.count_pos_iff.2 this
        omega
    exact ⟨hr, hdone l a w hI (hall l (hsz l a w hI) hr)⟩
  | succ fuel ih =>
    intro l a w hI hc
    refine ⟨fun hr => hdone l a w hI (hall l (hsz l a w hI) hr), fun i hi => wpOpIn_mono (fun a' w' h' => ih _ a' w' h' ?_) (hstep l a w hI i hi)⟩
    have := count_set (hcount l i hi)
    rw [Array.toList_setIfInBounds]
    omega
theorem stepR_scope {b : Frame} {a : Act} {k : List Item} {cs : List Frame} {w : World} {c : Code} : step P (lone (b.atR a (.code (.scope c) :: k)) cs w) = .next (lone (b.atR a (.code c :: .inScope c :: k)) cs w) :=
  step_lone_go (by simp [stepG, stepG.exec, Frame.atR])
theorem stepR_inScope {b : Frame} {a : Act} {k : List Item} {cs : List Frame} {w : World} {c : Code} : step P (lone (b.atR a (.inScope c :: k)) cs w) = .next (lone (b.atR a k) cs w) :=
  step_lone_go (by simp [stepG, stepG.exec, Frame.atR])
theorem wpIn_scope_straight {a : Act} {w : World} {c : Code} (h : c.wpIn F n P (Exit.noGoto Q) a w) : (Code.scope c).wpIn F n P Q a w := by
  intro b k cs hro hb hr
  have h0 : (lone (b.atR a (.code (.scope c) :: k)) cs w).fenced P F := fenced_calm hb hr rfl
  obtain ⟨e, a₁, w₁, hq, harr⟩ := h b (.inScope c :: k) cs hro hb hr
  cases e with
  | normal => exact ⟨.normal, a₁, w₁, hq, .head h0 stepR_scope (StepsIn.trans harr (.one (fenced_calm hb hr rfl) stepR_inScope))⟩
  | exit id' =>
    have hx : exitTo id' (.inScope c :: k) = exitTo id' k := by simp [exitTo]
    exact ⟨.exit id', a₁, w₁, hq, fun k' hk => .head h0 stepR_scope (harr.1 k' (by rw [hx]; exact hk)),
      fun hr' hk => let ⟨k₁, h1, h2⟩ := harr.2 hr' (by rw [hx]; exact hk); ⟨k₁, h1, .head h0 stepR_scope h2⟩⟩
  | goto l => exact hq.elim
  | ret => exact ⟨_, a₁, w₁, hq, .of_steps (.one h0 stepR_scope) harr⟩
  | panic ch => exact ⟨_, a₁, w₁, hq, .of_steps (.one h0 stepR_scope) harr⟩
  | outgrown => exact ⟨_, a₁, w₁, hq, .of_steps (.one h0 stepR_scope) harr⟩
end
end Go.Proofs.YtanfllednlpbaaaGreat
