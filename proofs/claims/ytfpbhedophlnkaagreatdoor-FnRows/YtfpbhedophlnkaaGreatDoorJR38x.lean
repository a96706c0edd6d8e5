/-
  Contracts of ChildrenOf, of the model and of the program. For every slice of nodes and every number. Contract of toNodeS. For every slice of nodes. Contracts of spec.l01Copy and spec.l02Copy: the same numbers, the same nodes, in memory of the call's own. For every slice.
-/
import Derived.Test.YtfpbhedophlnkaaGreatDoorJR37x
import Derived.Test.YtfpbhedophlnkaaGreatDoorJR6x
import Derived.Test.YtfpbhedophlnkaaGreatDoorJR30x
namespace Go.Proofs.YtfpbhedophlnkaaGreatDoor
open Go.RowKit
set_option linter.unusedSimpArgs false
set_option linter.unusedVariables false

/-- The places of a node's children. -/
def kidsN (p : List Nd) (k : Int) : List Int :=
  match treeN p with
  | none => []
  | some T =>
    match fnd k T with
    | none => []
    | some S => S.kids.map fun c => (c.pl : Int)
theorem kidsN_no {p : List Nd} {k : Int} (h : goodB p k = false) : kidsN p k = [] := by
  unfold kidsN
  rcases good_none h with ht | ⟨T, ht, hf⟩
  · rw [ht]
  · rw [ht]; simp only; rw [hf]

/-- A tree is made of the trees that begin where its children do. -/
theorem grow_inv {p : List Nd} {f k : Nat} {S : Tr} (h : growT p f k = some S) : ∃ n, p[k]? = some n ∧ nodeB n = true ∧
    ((S = .t0 n k (k + 1) ∧ arity n.kind = 0) ∨ (∃ c, S = .t1 n k c.en c ∧ arity n.kind = 1 ∧ growT p f (k + 1) = some c) ∨ (∃ c d, S = .t2 n k d.en c d ∧ arity n.kind = 2 ∧ growT p f (k + 1) = some c ∧ growT p f c.en = some d)) := by
  cases f with
  | zero => cases h
  | succ f =>
    cases hn : p[k]? with
    | none => simp [growT, hn] at h
    | some n =>
      cases hb : nodeB n with
      | false => rw [growT_no hn hb] at h; cases h
      | true =>
        refine ⟨n, rfl, hb, ?_⟩
        rcases arity_of_nodeB hb with ha | ha | ha
        · rw [growT_0 hn hb (by omega) (by omega)] at h; cases h; exact .inl ⟨rfl, ha⟩
        · cases hc : growT p f (k + 1) with
          | none => rw [growT_1n hn ha hc] at h; cases h
          | some c => rw [growT_1s hn hb ha hc] at h; cases h; exact .inr (.inl ⟨c, rfl, ha, growT_more p _ _ _ hc⟩)
        · cases hc : growT p f (k + 1) with
          | none => rw [growT_2n hn ha hc] at h; cases h
          | some c =>
            cases hd : growT p f c.en with
            | none => rw [growT_2sn hn ha hc hd] at h; cases h
            | some d => rw [growT_2ss hn hb ha hc hd] at h; cases h; exact .inr (.inr ⟨c, d, rfl, ha, growT_more p _ _ _ hc, growT_more p _ _ _ hd⟩)
theorem endN_of_grow {p : List Nd} {T c : Tr} {k : Nat} (ht : treeN p = some T) (hg : growT p p.length k = some c) (hd : c.depth ≤ 10) : endN p 10 k = some (c.en, c.depth) := by
  rw [endN_grow p (treeN_all ht) p.length 10 k (by omega), hg]
  simp only
  rw [if_pos hd]

/-- What l02Kids answers, at a good place. -/
def KidsOk (p : List Nd) (k : Nat) (l : List Int) : Prop :=
  ∃ n, p[k]? = some n ∧ ((arity n.kind = 0 ∧ l = []) ∨ (arity n.kind = 1 ∧ l = [(k : Int) + 1] ∧ ∃ e d, endN p 10 (k + 1) = some (e, d)) ∨
    (arity n.kind = 2 ∧ ∃ e d e' d', endN p 10 (k + 1) = some (e, d) ∧ endN p 10 e = some (e', d') ∧ l = [(k : Int) + 1, (e : Int)]))
theorem kids_ok {p : List Nd} {k : Int} (h : goodB p k = true) : KidsOk p k.toNat (kidsN p k) := by
  obtain ⟨T, S, ht, hf, _, _, _, hd, _, h0, _, hg⟩ := good_some h
  have hk : kidsN p k = S.kids.map fun c => (c.pl : Int) := by unfold kidsN; rw [ht]; simp only; rw [hf]
  rw [hk]
  obtain ⟨n, hn, _, hS | ⟨c, rfl, ha, hc⟩ | ⟨c, d, rfl, ha, hc, hdd⟩⟩ := grow_inv hg
  · obtain ⟨rfl, ha⟩ := hS
    exact ⟨n, hn, .inl ⟨ha, rfl⟩⟩
  · have hpl := (growT_sound p _ _ _ hc).1
    refine ⟨n, hn, .inr (.inl ⟨ha, ?_, _, _, endN_of_grow ht hc (by simp only [Tr.depth] at hd; omega)⟩)⟩
    simp [Tr.kids, hpl]
  · have hpl := (growT_sound p _ _ _ hc).1
    have hpl' := (growT_sound p _ _ _ hdd).1
    simp only [Tr.depth] at hd
    refine ⟨n, hn, .inr (.inr ⟨ha, _, _, _, _, endN_of_grow ht hc (by omega), endN_of_grow ht hdd (by omega), ?_⟩)⟩
    simp [Tr.kids, hpl, hpl']


set_option maxRecDepth 100000 in
set_option maxHeartbeats 4000000 in
theorem specKids_any (ao : Option Addr) (c : Nat) (p : List Nd) (k : Int) (l : List Int) (w : World) (h : RdN w ao p) (hp : p.length ≤ 1048576) (h0 : 0 ≤ k) (h1 : k < p.length) (hok : KidsOk p k.toNat l) :
    Calls Tryz.prog 157 #[.slice ao p.length c, .int .i64 k] w (Made w 3 .i64 l) := by
  obtain ⟨n, hn, hc⟩ := hok
  obtain ⟨b, off, n', a, c', rfl, hn', hat⟩ := h.at_ (i := k.toNat) (by omega)
  rw [hn] at hn'; cases hn'
  have H := Lib.hid h; clear h
  have c0 := hat.c0
  have hbl := hat.lt
  clear hat hn
  have AR := Lib.hid (fun w => specArity_any n.kind w)
  have EN := Lib.hid (fun kk W (hw : RdN W (some ⟨b, off, none⟩) p) (q0 : 0 ≤ kk) (q1 : kk ≤ 1048576) => specEnd_any (some ⟨b, off, none⟩) c p hp 10 kk 10 W hw q0 q1 (by omega) (by omega) (by omega))
  have W0 : w.heap.size ≤ (w.alloc (.cells #[] 3)).heap.size := by simp
  rcases hc with ⟨ha, rfl⟩ | ⟨ha, rfl, e, d, he⟩ | ⟨ha, e, d, e', d', he, he', rfl⟩
  · have HA := Lib.hid ha; clear ha
    go_enter Tryz.func157, Tryz.ntmps157
    go_wp2_with fail
    refine wp_loop_rounds 1 ?_; rw [rounds_succ]
    go_wp2_with (go_at_call 140; refine (AR.out _).mono ?_; rintro e w' ⟨rfl, rfl⟩; rw [HA.out])
    go_ret
    exact ⟨_, _, rfl, own_empty (Nat.le_refl _), (Below.refl _ _).alloc (Nat.le_refl _) _⟩
  · obtain ⟨q1, q2, q3, q4⟩ := endN_bd _ _ _ _ _ he
    have HE := Lib.hid he; clear he
    have O0 := Lib.hid (own_empty (w := w) (base := w.heap.size) (e := 3) (k := .i64) (Nat.le_refl _))
    have B0 := Lib.hid ((Below.refl w.heap.size w).alloc (Nat.le_refl _) (.cells #[] 3))
    have HA := Lib.hid ha; clear ha
    have kt : (k.toNat : Int) = k := Int.toNat_of_nonneg h0
    have KT := Lib.hid kt; clear kt
    go_enter Tryz.func157, Tryz.ntmps157
    go_wp2_with fail
    refine wp_loop_rounds 2 ?_; rw [rounds_succ]
    go_wp2_with (first | (go_at_call 140; refine (AR.out _).mono ?_; rintro e w' ⟨rfl, rfl⟩; rw [HA.out]) | (at_builtin; refine wpList_appendI _ rfl (.tmp 21) (.tmp 23) 47 rfl w.heap.size 3 Tryz.underlying47 Tryz.infoInt (some ⟨w.heap.size, 0, none⟩) 0 0 [] rfl rfl (O0.out.alloc _) (w.heap.size + 1) 1 (k + 1) rfl (by simp) (by simp) (by simp; omega) ?_; intro ao2 c2 w2 o2 g2; have b2 := below_app B0.out O0.out g2; have hc2 := (b2.cell (p := ⟨b, off + k.toNat * 7, none⟩) hbl).trans c0; have O2 := Lib.hid o2; have B2 := Lib.hid b2; have R2 := Lib.hid (H.out.below b2); clear o2 g2 b2))
    refine (EN.out _ _ R2.out (by omega) (by omega)).mono ?_
    rintro ee w' ⟨rfl, rfl⟩
    rw [show (k + 1).toNat = k.toNat + 1 from by omega, HE.out]
    simp only [endV]
    go_wp2_with fail
    rw [rounds_succ]
    go_wp2_with (go_at_call 140; refine (AR.out _).mono ?_; rintro e w' ⟨rfl, rfl⟩; rw [HA.out])
    go_ret
    refine ⟨ao2, c2, rfl, ?_, B2.out⟩
    rw [KT.out]; exact O2.out
  · obtain ⟨q1, q2, q3, q4⟩ := endN_bd _ _ _ _ _ he
    obtain ⟨q5, q6, q7, q8⟩ := endN_bd _ _ _ _ _ he'
    have HE := Lib.hid he; have HE' := Lib.hid he'; clear he he'
    generalize e = e1 at *
    have O0 := Lib.hid (own_empty (w := w) (base := w.heap.size) (e := 3) (k := .i64) (Nat.le_refl _))
    have B0 := Lib.hid ((Below.refl w.heap.size w).alloc (Nat.le_refl _) (.cells #[] 3))
    have HA := Lib.hid ha; clear ha
    have kt : (k.toNat : Int) = k := Int.toNat_of_nonneg h0
    have KT := Lib.hid kt; clear kt
    go_enter Tryz.func157, Tryz.ntmps157
    go_wp2_with fail
    refine wp_loop_rounds 3 ?_; rw [rounds_succ]
    go_wp2_with (first | (go_at_call 140; refine (AR.out _).mono ?_; rintro e w' ⟨rfl, rfl⟩; rw [HA.out]) | (at_builtin; refine wpList_appendI _ rfl (.tmp 21) (.tmp 23) 47 rfl w.heap.size 3 Tryz.underlying47 Tryz.infoInt (some ⟨w.heap.size, 0, none⟩) 0 0 [] rfl rfl (O0.out.alloc _) (w.heap.size + 1) 1 (k + 1) rfl (by simp) (by simp) (by simp; omega) ?_; intro ao2 c2 w2 o2 g2; have b2 := below_app B0.out O0.out g2; have hc2 := (b2.cell (p := ⟨b, off + k.toNat * 7, none⟩) hbl).trans c0; have O2 := Lib.hid o2; have B2 := Lib.hid b2; have R2 := Lib.hid (H.out.below b2); clear o2 g2 b2))
    refine (EN.out _ _ R2.out (by omega) (by omega)).mono ?_
    rintro ee w' ⟨rfl, rfl⟩
    rw [show (k + 1).toNat = k.toNat + 1 from by omega, HE.out]
    simp only [endV]
    go_wp2_with fail
    rw [rounds_succ]
    go_wp2_with (first | (go_at_call 140; refine (AR.out _).mono ?_; rintro e w' ⟨rfl, rfl⟩; rw [HA.out]) | (at_builtin; refine wpList_appendI _ rfl (.tmp 21) (.tmp 23) 47 rfl w.heap.size 3 Tryz.underlying47 Tryz.infoInt ao2 c2 1 [k + 1] rfl rfl (O2.out.alloc _) w2.heap.size 1 (e1 : Int) rfl (cell_one _ _ _) (by simp) (by have := B2.out.size; simp; omega) ?_; intro ao3 c3 w3 o3 g3; have b3 := below_app B2.out O2.out g3; have hc3 := (b3.cell (p := ⟨b, off + k.toNat * 7, none⟩) hbl).trans c0; have O3 := Lib.hid o3; have B3 := Lib.hid b3; have R3 := Lib.hid (H.out.below b3); clear o3 g3 b3))
    refine (EN.out _ _ R3.out (by omega) (by omega)).mono ?_
    rintro ee w' ⟨rfl, rfl⟩
    rw [Int.toNat_natCast, HE'.out]
    simp only [endV]
    go_wp2_with fail
    rw [rounds_succ]
    go_wp2_with (go_at_call 140; refine (AR.out _).mono ?_; rintro e w' ⟨rfl, rfl⟩; rw [HA.out])
    go_ret
    refine ⟨ao3, c3, rfl, ?_, B3.out⟩
    rw [KT.out]; exact O3.out
end Go.Proofs.YtfpbhedophlnkaaGreatDoor
namespace Go.Proofs.YtfpbhedophlnkaaGreatDoor
open Go.RowKit
set_option linter.unusedSimpArgs false
set_option linter.unusedVariables false

theorem Tryz.infoNode : (Tryz.prog.info? 92).map (fun i => (i.zero, i.size, i.bytes)) = some (some (.agg #[.int .i64 0, .string ⟨#[]⟩, .int .i64 0, .int .i64 0, .int .i64 0, .bool false, .slice none 0 0]), 7, 80) := by kernel_rfl

end Go.Proofs.YtfpbhedophlnkaaGreatDoor
namespace Go.Proofs.YtfpbhedophlnkaaGreatDoor
open Go.RowKit
set_option linter.unusedSimpArgs false
set_option linter.unusedVariables false

set_option maxHeartbeats 1600000 in
theorem l01Copy_any (a : Option Addr) (c : Nat) (l : List Int) (w : World) (h : Rd w .i64 a l) (hl : l.length ≤ 1048576) :
    Calls Tryz.prog 186 #[.slice a l.length c] w (Made w 3 .i64 l) := by
  have H := Lib.hid h; clear h
  have O0 := Lib.hid (own_empty (w := w) (base := w.heap.size) (e := 3) (k := .i64) (Nat.le_refl _))
  have B0 := Lib.hid ((Below.refl w.heap.size w).alloc (Nat.le_refl _) (.cells #[] 3))
  go_enter Tryz.func186, Tryz.ntmps186
  go_wp2_with fail
  go_loopw [3, 4] (fun s i wr => ∃ (j : Nat) (ao : Option Addr) (cc : Nat), j ≤ l.length ∧ i = .int .i64 j ∧ s = .slice ao j cc ∧ Own wr w.heap.size 3 .i64 ao cc (l.take j) ∧ Below w.heap.size w wr) (fun _ i _ => l.length - (intOf i).toNat)
  case atStart => exact ⟨0, _, _, Nat.zero_le _, rfl, rfl, O0.out, B0.out⟩
  case round =>
    clear O0 B0
    obtain ⟨j, ao, cc, hj, rfl, rfl, ho, hb⟩ := hrel
    have HO := Lib.hid ho; have HB := Lib.hid hb
    by_cases hlt : j < l.length
    · obtain ⟨b, off, rfl, hc⟩ : ∃ b off, a = some ⟨b, off, none⟩ ∧ ∀ i, i < l.length → wr.cell? ⟨b, off + i, none⟩ = some (.int .i64 (l.getD i 0)) := by
        rcases H.out.below hb with rfl | h'
        · simp at hlt
        · exact h'
      obtain ⟨z, _, _, hcz, ht⟩ := Rd.at_ hc hlt
      have HT := Lib.hid ht
      have hlen : (l.take j).length = j := by simp; omega
      have HL := Lib.hid hlen
      clear ho hb hc ht hlen
      go_wp2_with (at_builtin; refine wpList_appendI _ rfl (.tmp 12) (.tmp 17) 47 rfl w.heap.size 3 Tryz.underlying47 Tryz.infoInt ao cc j (l.take j) rfl HL.out.symm (HO.out.alloc _) wr.heap.size 1 z rfl (cell_one _ _ _) (by have := HL.out; omega) (by have := HB.out.size; simp; omega) ?_; intro ao2 c2 w2 o2 g2; have b2 := below_app HB.out HO.out g2; have O2 := Lib.hid o2; have B2 := Lib.hid b2; clear o2 g2 b2)
      go_roundw
      case rel => exact ⟨j + 1, ao2, c2, by omega, by go_num, by first | rfl | rw [HL.out], by rw [HT.out]; exact O2.out, B2.out⟩
      case measure => simp [intOf]; omega
    · obtain rfl : j = l.length := by omega
      clear ho hb
      go_wp2_with fail
      go_ret
      refine ⟨ao, cc, rfl, ?_, HB.out⟩
      have := HO.out
      rwa [List.take_length] at this

/-- 'append(xs, n)' at a row of nodes of the call's own. -/
theorem wpList_appendN {P : Program} (w : World) {ops : Array Oper} {rest : List Oper} {o : Oper} {a : Act} {Q : Exit → Act → World → Prop} (hgd : o.guard = none) (s x : Operand) (t : TypeId)
    (ho : o.op = .call { callee := .builtin .append, args := #[s, x], argTypes := #[t, t] }) (base : Nat) {e : TypeId} {z : Value} (ht : P.underlying t = some (.slice e))
    (hi : (P.info? e).map (fun i => (i.zero, i.size, i.bytes)) = some (some z, 7, 80)) (g cc j : Nat) (xs : List Value) (hs : a.eval s = .slice (some ⟨g, 0, none⟩) j cc)
    (hown : w.ownsRow base e 7 (.slice (some ⟨g, 0, none⟩) j cc) j xs) (bl : Nat) (n : Nd) (a2 : Option Addr) (c2 : Nat) (hx : a.eval x = .slice (some ⟨bl, 0, none⟩) 1 1)
    (hc : ∀ t u, (ndCells n a2 c2)[t]? = some u → w.cell? ⟨bl, t, none⟩ = some u) (hj : j ≤ 1048576) (hbase : base ≤ w.heap.size) (hz : z.cells.size = 7)
    (h : ∀ v' w', w'.ownsRow base e 7 v' (j + 1) (xs ++ ndCells n a2 c2) → w.grownBy w' (some g) → (v'.ownBlock = some g ∨ v'.ownBlock = some w.heap.size) → wpList P ops Q rest (a.put o.dst v') w') :
    wpList P ops Q (o :: rest) a w := by
  obtain ⟨i, hi0, hz0, hz1, hz2⟩ := info_parts hi
  refine wpList_append_own_at w hgd s x t ho base e i z 7 80 ht hi0 hz0 hz1 hz2 hz (by omega) _ j xs hs hown ⟨bl, 0, none⟩ 1 1 (ndCells n a2 c2) hx (by simp [ndCells]) ?_ ?_ (by unfold maxLen; omega) (by omega) hbase ?_
  · intro t u hu
    have := hc t u hu
    unfold Addr.add
    split
    · rename_i h0; subst h0; exact this
    · simpa using this
  · intro u hu
    simp [ndCells] at hu
    rcases hu with rfl | rfl | rfl | rfl | rfl | rfl | rfl <;> rfl
  · intro v' w' h1 h2 _ h4
    exact h v' w' h1 h2 h4
theorem cells_new (w : World) (n : Nd) (a2 : Option Addr) (c2 : Nat) : ∀ t u, (ndCells n a2 c2)[t]? = some u → (w.alloc (.cells (ndCells n a2 c2).toArray 92)).cell? ⟨w.heap.size, t, none⟩ = some u := by
  intro t u hu
  rw [World.cell?_alloc_new]
  simpa using hu
theorem grown_row {w wr W3 w4 : World} {g : Nat} (hb : Below w.heap.size w wr) (hw : Below wr.heap.size wr W3) (hg : w.heap.size ≤ g) (h : W3.grownBy w4 (some g)) : Below w.heap.size w w4 :=
  (below_step hb (Nat.le_refl _) hw).grown h (Nat.le_trans hb.size hw.size) (by intro g' hg'; cases hg'; exact hg)

/-- One node more of a copy. -/
theorem copy_step {wr W3 w4 : World} {base g cc j : Nat} {l : List Nd} {xs : List Value} {A : Nat → Option Addr} {C : Nat → Nat} {n : Nd} {a2 : Option Addr} {c2 : Nat} {v' : Value}
    (hp : PartN wr base g cc j l j xs A C) (hn : l[j]? = some n) (hs : n.name.size ≤ maxLen) (hb : Below wr.heap.size wr W3) (ho2 : Own W3 wr.heap.size 3 .i64 a2 c2 n.cols) (hbase : base ≤ wr.heap.size)
    (ho : w4.ownsRow base 92 7 v' (j + 1) (xs ++ ndCells n a2 c2)) (hg : W3.grownBy w4 (some g)) (hblk : v'.ownBlock = some g ∨ v'.ownBlock = some W3.heap.size) :
    ∃ g' c4 xs' A' C', v' = .slice (some ⟨g', 0, none⟩) (j + 1) c4 ∧ PartN w4 base g' c4 (j + 1) l (j + 1) xs' A' C' := by
  have hjl : j < l.length := by
    rcases Nat.lt_or_ge j l.length with h1 | h1
    · exact h1
    · rw [List.getElem?_eq_none h1] at hn; cases hn
  have hgb := owns_block hp.own
  have h3 := hp.below hb
  have z3 := hb.size
  rcases ho.2 with ⟨rfl, hz⟩ | ⟨g', c4, cur, rfl, r⟩
  · omega
  · have hg' : g' = g ∨ g' = W3.heap.size := by simpa [Value.ownBlock] using hblk
    have hAlt : ∀ (i : Nat) (x : Addr), i < j → i < l.length → A i = some x → x.block < wr.heap.size := fun i x hi hil hx => ((hp.cols i _ hi (List.getElem?_eq_getElem hil)).lt x hx).2
    refine ⟨g', c4, _, _, _, rfl, PartN.app (A := A) (C := C) hp.own.1 hp.cells ?_ hp.name hp.apart hn ho ?_ hs ?_ ?_ ?_⟩
    · intro i m hi hm
      have hil : i < l.length := by
        rcases Nat.lt_or_ge i l.length with h1 | h1
        · exact h1
        · rw [List.getElem?_eq_none h1] at hm; cases hm
      exact (h3.cols i m hi hm).grown hg (fun x hx => by simp; exact hp.row i x hi hil hx)
    · exact (ho2.grown hg (fun x hx => by have := (ho2.lt x hx).1; simp; omega)).base_le hbase
    · intro i x hi hil hx
      rcases hg' with rfl | rfl
      · exact hp.row i x hi hil hx
      · have := hAlt i x hi hil hx; omega
    · intro x hx
      have h5 := ho2.lt x hx
      rcases hg' with rfl | rfl <;> omega
    · intro i x y hi hil hx hy
      have := hAlt i x hi hil hx
      have := (ho2.lt y hy).1
      omega

set_option maxRecDepth 100000 in
set_option maxHeartbeats 4000000 in
theorem l02CopyP_any (ao : Option Addr) (c : Nat) (l : List Nd) (w : World) (h : RdN w ao l) (hl : l.length ≤ 1048576) (hcol : ∀ n ∈ l, n.cols.length ≤ 1048576) :
    Calls Tryz.prog 220 #[.slice ao l.length c] w (MadeP w l) := by
  obtain ⟨i0, hi0, hz0, hz1, hz2⟩ := info_parts Tryz.infoNode
  have I0 := Lib.hid hi0; have Z0 := Lib.hid hz0; have Z1 := Lib.hid hz1; have Z2 := Lib.hid hz2
  clear hi0 hz0 hz1 hz2
  have H := Lib.hid h; clear h
  have HCOL := Lib.hid hcol; clear hcol
  have P0 : Hid (∃ xs A C, PartN (w.alloc (.cells #[] 92)) w.heap.size w.heap.size 0 0 l 0 xs A C) :=
    ⟨[], fun _ => none, fun _ => 0, ⟨⟨rfl, .inr ⟨w.heap.size, 0, #[], rfl, Nat.le_refl _, heap_alloc_new w _, Nat.le_refl _, Nat.zero_le _, rfl, rfl⟩⟩, fun i n hi => absurd hi (Nat.not_lt_zero _), fun i n hi => absurd hi (Nat.not_lt_zero _), fun i n hi => absurd hi (Nat.not_lt_zero _), fun i x hi => absurd hi (Nat.not_lt_zero _), fun i k x y hi => absurd hi (Nat.not_lt_zero _)⟩⟩
  have B0 := Lib.hid ((Below.refl w.heap.size w).alloc (Nat.le_refl _) (.cells #[] 92))
  go_enter Tryz.func220, Tryz.ntmps220
  go_wp2_with fail
  go_loopw [3, 4] (fun s i wr => ∃ (j g cc : Nat), j ≤ l.length ∧ i = .int .i64 j ∧ s = .slice (some ⟨g, 0, none⟩) j cc ∧ (∃ xs A C, PartN wr w.heap.size g cc j l j xs A C) ∧ Below w.heap.size w wr) (fun _ i _ => l.length - (intOf i).toNat)
  case atStart => exact ⟨0, _, _, Nat.zero_le _, rfl, rfl, P0.out, B0.out⟩
  case round =>
    clear P0 B0
    obtain ⟨j, g, cc, hj, rfl, rfl, ⟨xs, A, C, hp⟩, hb⟩ := hrel
    have HP := Lib.hid hp; have HB := Lib.hid hb
    by_cases hlt : j < l.length
    · obtain ⟨b, off, n, a, c', rfl, hn, hat⟩ := (H.out.below hb).at_ hlt
      have hcl := HCOL.out n (List.mem_of_getElem? hn)
      have hbl := hat.lt
      have HN := Lib.hid hn; have NM := Lib.hid hat.nm; have RD := Lib.hid hat.rd
      obtain ⟨c0, c1, c2, c3, c4, c5, c6, _⟩ := hat
      have hxl := Lib.hid hp.own.1
      clear hn hp hb
      have hl' : j ≤ 1048576 := by omega
      by_cases hz : n.cols = []
      · obtain ⟨kd, nmm, co, op, nu, sl, cs⟩ := n
        simp only at hz; subst hz
        simp only [List.length_nil] at c6
        have BW := Lib.hid (show Below wr.heap.size wr ((wr.alloc (.cells #[.int .i64 kd, .string nmm, .int .i64 co, .int .i64 op, .int .i64 nu, .bool sl, .slice none 0 0] 92)).alloc (.cells #[.int .i64 kd, .string nmm, .int .i64 co, .int .i64 op, .int .i64 nu, .bool sl, .slice none 0 0] 92)) from ((Below.refl _ _).alloc (Nat.le_refl _) _).alloc (by simp) _)
        have OW := Lib.hid (show Own ((wr.alloc (.cells #[.int .i64 kd, .string nmm, .int .i64 co, .int .i64 op, .int .i64 nu, .bool sl, .slice none 0 0] 92)).alloc (.cells #[.int .i64 kd, .string nmm, .int .i64 co, .int .i64 op, .int .i64 nu, .bool sl, .slice none 0 0] 92)) wr.heap.size 3 .i64 none 0 [] from Own.none_)
        have P3 := Lib.hid (HP.out.below BW.out)
        go_wp2_with (at_builtin; go_must (refine wpList_appendN _ rfl (.tmp 32) (.tmp 34) 25 rfl w.heap.size Tryz.underlying25 Tryz.infoNode g cc j xs rfl P3.out.own (wr.heap.size + 1) ⟨kd, nmm, co, op, nu, sl, []⟩ none 0 rfl (by simp [ndCells]) hl' (by have := HB.out.size; simp; omega) rfl ?_; intro v' w4 o4 g4 k4; obtain ⟨g', c4', xs', A', C', rfl, hp'⟩ := copy_step HP.out HN.out NM.out BW.out OW.out HB.out.size o4 g4 k4; have P4 := Lib.hid hp'; have B4 := Lib.hid (grown_row HB.out BW.out (owns_block HP.out.own).1 g4); clear o4 g4 k4 hp'))
        go_roundw
        case rel => exact ⟨j + 1, g', c4', by omega, by go_num, rfl, ⟨xs', A', C', P4.out⟩, B4.out⟩
        case measure => simp [intOf]; omega
      · have hpos : 0 < n.cols.length := List.length_pos_iff.2 hz
        have hpos' : (0 : Int) < (n.cols.length : Int) := by omega
        clear hz
        go_wp2_with fail
        refine (l01Copy_any a c' n.cols _ (RD.out.below ((Below.refl _ wr).alloc (Nat.le_refl _) _)) hcl).mono ?_
        rintro e w2 ⟨a2, c2', rfl, o2, b2⟩
        have hq := fun o => b2.cell (p := ⟨wr.heap.size, o, none⟩) (by simp)
        have hqf := fun o => b2.frozen (p := ⟨wr.heap.size, o, none⟩) (by simp)
        have hz2 : wr.heap.size < w2.heap.size := by have := b2.size; simp at this; omega
        have B2 := Lib.hid (((Below.refl _ wr).alloc (Nat.le_refl _) _).trans (b2.mono (by simp)))
        have O2 := Lib.hid o2
        have BW := Lib.hid (show Below wr.heap.size wr ((w2.setCell ⟨wr.heap.size, 6, none⟩ (.slice a2 n.cols.length c2')).alloc (.cells #[.int .i64 n.kind, .string n.name, .int .i64 n.col, .int .i64 n.op, .int .i64 n.num, .bool n.slot, .slice a2 n.cols.length c2'] 92)) from (B2.out.setCell (p := ⟨wr.heap.size, 6, none⟩) (Nat.le_refl _) _).alloc (by have := B2.out.size; simpa [World.setCell] using this) _)
        have OW := Lib.hid (show Own ((w2.setCell ⟨wr.heap.size, 6, none⟩ (.slice a2 n.cols.length c2')).alloc (.cells #[.int .i64 n.kind, .string n.name, .int .i64 n.col, .int .i64 n.op, .int .i64 n.num, .bool n.slot, .slice a2 n.cols.length c2'] 92)) wr.heap.size 3 .i64 a2 c2' n.cols from ((o2.far (p := ⟨wr.heap.size, 6, none⟩) (fun x hx => by have := (o2.lt x hx).1; simp at this; simp only; omega) _).alloc _).base_le (by simp))
        have P3 := Lib.hid (HP.out.below BW.out)
        clear o2 b2
        go_wp2_with (at_builtin; go_must (refine wpList_appendN _ rfl (.tmp 32) (.tmp 34) 25 rfl w.heap.size Tryz.underlying25 Tryz.infoNode g cc j xs rfl P3.out.own w2.heap.size n a2 c2' rfl (by have := cells_new (w2.setCell ⟨wr.heap.size, 6, none⟩ (.slice a2 n.cols.length c2')) n a2 c2'; simpa [ndCells, World.setCell] using this) hl' (by have := HB.out.size; have := B2.out.size; simp [World.setCell]; omega) rfl ?_; intro v' w4 o4 g4 k4; obtain ⟨g', c4', xs', A', C', rfl, hp'⟩ := copy_step HP.out HN.out NM.out BW.out OW.out HB.out.size o4 g4 k4; have P4 := Lib.hid hp'; have B4 := Lib.hid (grown_row HB.out BW.out (owns_block HP.out.own).1 g4); clear o4 g4 k4 hp'))
        go_roundw
        case rel => exact ⟨j + 1, g', c4', by omega, by go_num, rfl, ⟨xs', A', C', P4.out⟩, B4.out⟩
        case measure => simp [intOf]; omega
    · obtain rfl : j = l.length := by omega
      clear hp hb
      go_wp2_with fail
      go_ret
      exact ⟨_, _, _, _, _, rfl, HP.out, HB.out⟩
theorem l02Copy_any (ao : Option Addr) (c : Nat) (l : List Nd) (w : World) (h : RdN w ao l) (hl : l.length ≤ 1048576) (hcol : ∀ n ∈ l, n.cols.length ≤ 1048576) :
    Calls Tryz.prog 220 #[.slice ao l.length c] w (MadeN w l) := (l02CopyP_any ao c l w h hl hcol).mono fun _ _ h => h.made
end Go.Proofs.YtfpbhedophlnkaaGreatDoor
