/-
  Contract of impl.EncodeSchema. For every slice of tables.
-/
import Derived.Test.YtcegekkhlfpgfaaIPutE
import Derived.Test.YtcegekkhlfpgfaaKQ1
import Derived.Test.YtcegekkhlfpgfaaITold
import Derived.Test.YtcegekkhlfpgfaaIEncO
import Derived.Deep.AppendLies
namespace Go.Proofs.Ytcegekkhlfpgfaa
open Go.RowKit
set_option linter.unusedSimpArgs false
set_option linter.unusedVariables false

/-- A schema's parts: the number of tables, and the bytes of the first j. -/
def parQ (p : List Tb) (j : Nat) : List (List Int) := putN p.length :: (p.take j).flatMap fun t => [putW t.name, putN t.width]
theorem parQ_succ {p : List Tb} {j : Nat} {t : Tb} (h : p[j]? = some t) : parQ p (j + 1) = parQ p j ++ [putW t.name, putN t.width] := by
  simp [parQ, List.take_add_one, h, List.flatMap_append]
theorem parQ_flat (p : List Tb) (j : Nat) : (parQ p j).flatten = preQ p j := by
  simp only [parQ, preQ, List.flatten_cons]
  congr 1
  generalize p.take j = m
  induction m with
  | nil => rfl
  | cons t m ih => simp [putTb, ih, List.flatMap_cons]
theorem parQ_len : ∀ (p : List Tb) (j : Nat), j ≤ p.length → (parQ p j).length = 2 * j + 1 := by
  intro p j h
  have : ∀ m : List Tb, (m.flatMap fun t => [putW t.name, putN t.width]).length = 2 * m.length := by
    intro m
    induction m with
    | nil => rfl
    | cons t m ih => simp only [List.flatMap_cons, List.length_append, List.length_cons, List.length_nil, ih]; omega
  simp only [parQ, List.length_cons, this, List.length_take]; omega
def EyRel (w wr : World) (p : List Tb) (v i : Value) : Prop :=
  ∃ (ao : Option Addr) (c m j : Nat), v = .slice ao m c ∧ m = 2 * j + 1 ∧ i = .int .i64 j ∧ j ≤ p.length ∧ OwnB wr w.heap.size ao c (parQ p j) ∧ Below w.heap.size w wr
/-- Several more are appended. -/
theorem OwnB.pushs {w1 w3 : World} {base : Nat} {ao ao' : Option Addr} {c c' : Nat} {ls ms : List (List Int)} {vs us : List Value}
    (hV : OwnV w1 base 26 ao c vs) (hl : vs.length = ls.length) (hp : ∀ (i : Nat) (l : List Int), ls[i]? = some l → ∃ (a : Option Addr) (c' : Nat), vs[i]? = some (Value.slice a l.length c') ∧ Own w1 base 5 .u8 a c' l)
    (hu : us.length = ms.length) (hq : ∀ (i : Nat) (l : List Int), ms[i]? = some l → ∃ (a : Option Addr) (c' : Nat), us[i]? = some (Value.slice a l.length c') ∧ Own w1 base 5 .u8 a c' l)
    (hV3 : OwnV w3 base 26 ao' c' (vs ++ us)) (hg : w1.grownBy w3 (ao.map (·.block))) : OwnB w3 base ao' c' (ls ++ ms) := by
  have keep : ∀ a c' l, Own w1 base 5 .u8 a c' l → Own w3 base 5 .u8 a c' l := by
    intro a c' l h
    refine h.grown hg ?_
    intro y hy
    cases ao with
    | none => simp
    | some x => simp; exact own_blocks (by decide) hV h x y rfl hy
  refine ⟨_, hV3, by simp [hl, hu], fun i l hi => ?_⟩
  rcases Nat.lt_or_ge i ls.length with h | h
  · rw [List.getElem?_append_left h] at hi
    obtain ⟨a, c', h4, h5⟩ := hp i l hi
    exact ⟨a, c', by rw [List.getElem?_append_left (by omega)]; exact h4, keep _ _ _ h5⟩
  · rw [List.getElem?_append_right h] at hi
    obtain ⟨a, c', h4, h5⟩ := hq _ l hi
    exact ⟨a, c', by rw [List.getElem?_append_right (by omega), hl]; exact h4, keep _ _ _ h5⟩
theorem news_two (w : World) (t : TypeId) (x y : Value) (o : Obj) (ho : o = .cells #[x, y] t) : ∀ j u, [x, y][j]? = some u → (w.alloc o).cell? ((⟨w.heap.size, 0, none⟩ : Addr).add j) = some u := by
  subst ho
  intro j u hj
  match j, hj with
  | 0, hj => cases hj; show (w.alloc (.cells #[x, y] t)).cell? ⟨w.heap.size, 0, none⟩ = _; rw [World.cell?_alloc_new]; rfl
  | 1, hj => cases hj; show (w.alloc (.cells #[x, y] t)).cell? ⟨w.heap.size, 1, none⟩ = _; rw [World.cell?_alloc_new]; rfl

theorem grown_row {w w' : World} {ao : Option Addr} {n c : Nat} (h : w.grownBy w' (Value.slice ao n c).ownBlock) : w.grownBy w' (ao.map (·.block)) := by
  cases ao <;> exact h
theorem own6 {w6 : World} {base : Nat} {e : TypeId} {ao : Option Addr} {c m : Nat} {vs : List Value} {o : Obj} (hm : m = vs.length) (h : OwnV w6 base e ao c vs) : (w6.alloc o).ownsRow base e 1 (.slice ao m c) m vs := by
  subst hm; exact h.alloc o

set_option maxRecDepth 100000 in
set_option maxHeartbeats 1600000 in
theorem implEncodeSchema_any (ao : Option Addr) (c : Nat) (p : List Tb) (w : World) (h : RdT w ao p) (hp : p.length ≤ 1048576) :
    Calls Try.prog 27 #[.slice ao p.length c] w (Made2 w 5 .u8 (encQ p) (schemaB p)) := by
  have H := Lib.hid h; clear h
  have PO := Lib.hid (fun w h => implSchema_any ao c p w h hp)
  cases hg : schemaB p with
  | false =>
    rw [encQ_no hg]
    rw [hg] at PO
    clear hg
    go_enter Try.func27, Try.ntmps27
    go_wp2_with fail
    refine (PO.out _ H.out).mono ?_
    rintro e w1 ⟨rfl, b1⟩
    go_wp2_with fail
    go_ret2
    exact ⟨none, 0, rfl, Own.none_, b1⟩
  | true =>
    rw [hg] at PO
    have hl8 := schemaB_l8 hg
    have E := Lib.hid (encQ_yes hg)
    clear hg
    obtain ⟨i0, hi0, hz0, hz1, hz2⟩ := info_parts Try.infoBs
    have I0 := Lib.hid hi0; have Z0 := Lib.hid hz0; have Z1 := Lib.hid hz1; have Z2 := Lib.hid hz2
    clear hi0 hz0 hz1 hz2
    obtain ⟨q0, hq0⟩ : ∃ q, q = putN (p.length : Int) := ⟨_, rfl⟩
    have P0 : Hid (∀ w : World, Calls Try.prog 41 #[.int .i64 p.length] w (Made w 5 .u8 q0)) := by rw [hq0]; exact fun w => implPutNum_any _ w
    have HQ0 : Hid (parQ p 0 = [q0]) := by show _ = _; rw [hq0]; simp [parQ]
    clear hq0
    go_enter Try.func27, Try.ntmps27
    go_wp2_with fail
    refine (PO.out _ H.out).mono ?_
    rintro e w1 ⟨rfl, b1⟩
    have B1 := Lib.hid b1; clear b1
    go_wp2_with fail
    refine (P0.out _).mono ?_
    rintro e w2 ⟨a2, c2, rfl, o2, b2⟩
    have B2 := Lib.hid ((below_step B1.out (Nat.le_refl _) b2).alloc (below_step B1.out (Nat.le_refl _) b2).size (.cells #[.slice a2 q0.length c2] 26))
    have O2 := Lib.hid (ownB_one (o2.base_le B1.out.size) (below_step B1.out (Nat.le_refl _) b2).size)
    clear o2 b2
    go_wp2_with fail
    go_loopw [4, 16] (fun v i wr => EyRel w wr p v i) (fun _ i _ => p.length - (intOf i).toNat)
    case atStart => exact ⟨_, _, _, 0, rfl, rfl, rfl, Nat.zero_le _, by rw [HQ0.out]; exact O2.out, B2.out⟩
    case round =>
      obtain ⟨a3, c3, m3, j, rfl, hm3, rfl, hj, ho, hb⟩ := hrel
      have HO := Lib.hid ho; have HB := Lib.hid hb; have HM3 := Lib.hid hm3; clear ho hb hm3
      by_cases hlt : j < p.length
      · obtain ⟨b, off, t, rfl, hn, hat⟩ := (H.out.below HB.out).at_ hlt
        have HN := Lib.hid hn; clear hn
        obtain ⟨c0, c1, nm⟩ := hat
        obtain ⟨q, hq⟩ : ∃ q, q = putW t.name := ⟨_, rfl⟩
        obtain ⟨u, hu⟩ : ∃ u, u = putN t.width := ⟨_, rfl⟩
        have HQ : Hid (parQ p (j + 1) = parQ p j ++ [q, u]) := by show _ = _; rw [hq, hu, parQ_succ HN.out]
        have PW : Hid (∀ w : World, Calls Try.prog 57 #[.string t.name] w (Made w 5 .u8 q)) := by rw [hq]; exact fun w => implPutWord_any _ w nm
        have PN : Hid (∀ w : World, Calls Try.prog 41 #[.int .i64 t.width] w (Made w 5 .u8 u)) := by rw [hu]; exact fun w => implPutNum_any _ w
        obtain ⟨vs, hV, hvl, hvp⟩ := HO.out
        have hjv : m3 = vs.length := by rw [hvl, parQ_len p j hj]; exact HM3.out
        have HV := Lib.hid hV; have HVP := Lib.hid hvp; have HVL := Lib.hid hvl; have HJV := Lib.hid hjv
        have hv17 : vs.length ≤ 17 := by have := HM3.out; omega
        have hm17 : m3 ≤ 17 := by omega
        clear hq hu hV hvp hvl hjv
        obtain ⟨W1, hW1⟩ : ∃ W1, W1 = wr.alloc (.cells #[.string t.name, .int .i64 t.width] 77) := ⟨_, rfl⟩
        have A1 : Hid (Below wr.heap.size wr W1) := by rw [hW1]; exact (Below.refl _ wr).alloc (Nat.le_refl _) _
        have z1 : W1.heap.size = wr.heap.size + 1 := by rw [hW1]; simp
        have u0 : W1.cell? ⟨wr.heap.size, 0, none⟩ = some (.string t.name) := by rw [hW1]; exact (cell_of_row _ _ _ _ _ _ (heap_alloc_new wr _)).trans rfl
        have u1 : W1.cell? ⟨wr.heap.size, 1, none⟩ = some (.int .i64 t.width) := by rw [hW1]; exact (cell_of_row _ _ _ _ _ _ (heap_alloc_new wr _)).trans rfl
        have KP : Hid (∀ w', Below W1.heap.size W1 w' → w'.cell? ⟨wr.heap.size, 0, none⟩ = some (.string t.name) ∧ w'.cell? ⟨wr.heap.size, 1, none⟩ = some (.int .i64 t.width)) := fun w' hw => ⟨(hw.cell (p := ⟨wr.heap.size, 0, none⟩) (by show wr.heap.size < _; omega)).trans u0, (hw.cell (p := ⟨wr.heap.size, 1, none⟩) (by show wr.heap.size < _; omega)).trans u1⟩
        have KQ : Hid (∀ x w7, Below W1.heap.size W1 x → x.grownBy w7 (a3.map (·.block)) → w7.cell? ⟨wr.heap.size, 0, none⟩ = some (.string t.name) ∧ w7.cell? ⟨wr.heap.size, 1, none⟩ = some (.int .i64 t.width)) := fun x w7 hx hg => by
          have hb := hg.block wr.heap.size (by have := hx.size; omega) (by
            cases a3 with
            | none => simp
            | some y => simp; have := (HV.out.lt y rfl).2; omega)
          obtain ⟨p0, p1⟩ := KP.out x hx
          exact ⟨(World.cell?_of_block (a := ⟨wr.heap.size, 0, none⟩) hb).trans p0, (World.cell?_of_block (a := ⟨wr.heap.size, 1, none⟩) hb).trans p1⟩
        have D0 := Lib.hid (Below.refl W1.heap.size W1).drew
        go_wp2_with fail
        rw [← hW1]
        clear hW1
        have hzb := HB.out.size
        have hza := A1.out.size
        go_region_held3 (fun w' => w'.cell? ⟨wr.heap.size, 0, none⟩ = some (.string t.name) ∧ w'.cell? ⟨wr.heap.size, 1, none⟩ = some (.int .i64 t.width))
          (first | exact KQ.out _ _ E7 g7' | exact KP.out _ D6 | exact KP.out _ (D6.alloc D6.size _) | exact KP.out _ D5 | go_keep)
          (first
            | (go_at_call 57; refine (PW.out _).mono ?_; rintro e w5 ⟨a5, c5, rfl, o5, b5⟩; have D5 := below_step D0.out (Nat.le_refl _) b5)
            | (go_at_call 41; refine (PN.out _).mono ?_; rintro e w6 ⟨a6, c6, rfl, o6, b6⟩; have D6 := below_step D5 (Nat.le_refl _) b6; have hz6 := D6.size; have F6 := A1.out.trans (D6.mono hza))
            | (refine step_append_lies _ (by rfl) (.tmp 20) (.tmp 27) 70 (by rfl) w.heap.size 26 i0 _ 1 24 Try.underlying70 I0.out Z0.out Z1.out Z2.out rfl (by omega) (.slice a3 m3 c3) m3 vs (by simp [Act.eval, Act.put]) (own6 HJV.out (HV.out.below F6)) ⟨w6.heap.size, 0, none⟩ 2 2 [.slice a5 q.length c5, .slice a6 u.length c6] (by simp [Act.eval, Act.put]) rfl (news_two _ _ _ _ _ rfl) (by intro u hu; simp at hu; rcases hu with rfl | rfl <;> rfl) (by omega) (by unfold maxLen; omega) (by omega) (by simp; omega) _ rfl ?_; intro g cap w7 o7 g7 _ _; have g7' := grown_row g7; have E7 := D6.alloc D6.size (.cells #[.slice a5 q.length c5, .slice a6 u.length c6] 26)))
        all_goals
          have hlen : (vs ++ [Value.slice a5 q.length c5, Value.slice a6 u.length c6]).length = m3 + 2 := by simp [HJV.out]
          have NEW := OwnB.pushs (ms := [q, u]) (us := [.slice a5 q.length c5, .slice a6 u.length c6]) ((HV.out.below F6).alloc (.cells #[.slice a5 q.length c5, .slice a6 u.length c6] 26)) HVL.out (fun i l' hi => by obtain ⟨x, y, h4, h5⟩ := HVP.out i l' hi; exact ⟨x, y, h4, (h5.below F6).alloc _⟩) rfl (fun i l' hi => by
            match i, hi with
            | 0, hi => cases hi; exact ⟨a5, c5, rfl, ((o5.base_le (by show w.heap.size ≤ W1.heap.size; omega)).below b6).alloc _⟩
            | 1, hi => cases hi; exact ⟨a6, c6, rfl, (o6.base_le (by have := D5.size; omega)).alloc _⟩) (by unfold OwnV; rw [hlen]; exact o7) g7'
          have hB' : Below w.heap.size w w7 := below_grow (((HB.out.trans (F6.mono hzb))).alloc (by omega) _) (Nat.le_refl _) g7' (fun x hx => (HV.out.lt x hx).1)
          rw [← HQ.out] at NEW
          have NEW' := Lib.hid NEW; have HB' := Lib.hid hB'
          clear NEW hB' o7 g7 g7' hlen D6 D5 F6 o6 b6 o5 b5
          go_wp2_with fail
          go_roundw
          case rel => exact ⟨_, cap, _, j + 1, rfl, by have := HM3.out; omega, by go_num, by omega, NEW'.out, HB'.out⟩
          case measure => simp [intOf]; omega
      · obtain rfl : j = p.length := by omega
        have hpl := preQ_len p.length hl8
        have hpby := preQ_by p p.length
        have BH := Lib.hid (bhd_any a3 c3 m3 (parQ p p.length) wr HO.out.rd (by rw [parQ_len p _ (Nat.le_refl _)]; exact HM3.out) (by rw [parQ_len p _ (Nat.le_refl _)]; omega) (by rw [parQ_flat]; omega))
        rw [parQ_flat] at BH
        obtain ⟨acc, hacc⟩ : ∃ acc, acc = preQ p p.length := ⟨_, rfl⟩
        rw [← hacc] at BH hpl hpby
        have e : encQ p = frameL acc := by rw [E.out, hacc]
        have HBY := Lib.hid hpby
        have HE := Lib.hid e
        clear hacc hpby e
        go_wp2_with fail
        refine BH.out.mono ?_
        rintro e w4 ⟨a4, c4, rfl, o4, b4⟩
        have FR := Lib.hid (implFrame_any a4 c4 acc w4 o4.rd o4.nilcap HBY.out (by unfold maxLen; omega))
        rw [show decide (acc.length ≤ 4000) = true by simp; omega, ← HE.out] at FR
        have B4 := Lib.hid (below_step HB.out (Nat.le_refl _) b4)
        clear o4 b4
        go_wp2_with fail
        refine FR.out.mono ?_
        rintro e w5 ⟨a5, c5, rfl, o5, b5⟩
        have O5 := Lib.hid (o5.base_le B4.out.size); have B5 := Lib.hid (below_step B4.out (Nat.le_refl _) b5)
        clear o5 b5
        go_wp2_with fail
        go_ret2
        exact ⟨a5, c5, rfl, O5.out, B5.out⟩
end Go.Proofs.Ytcegekkhlfpgfaa
