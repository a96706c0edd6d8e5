/-
  Contracts of widths.told, tableOk and widthsIn: the tables by their names, whichever order the map tells them in. For every slice of tables.
-/
import Derived.Test.YtcegekkhlfpgfaaDoorMapT
import Derived.Test.YtcegekkhlfpgfaaDoorTbSort
import Derived.Test.YtcegekkhlfpgfaaDoorHTb
import Derived.Test.YtcegekkhlfpgfaaDoorWord
namespace Go.Proofs.YtcegekkhlfpgfaaDoor
open Go.RowKit Go.Maps
set_option linter.unusedSimpArgs false
set_option linter.unusedVariables false

theorem val_slice {ao : Option Addr} {n m c : Nat} (h : n = m) : Value.slice ao n c = .slice ao m c := by rw [h]
theorem tb_new (w : World) (t : Tb) (hs : t.name.size ≤ maxLen) (ty : TypeId) : TbAt (w.alloc (.cells #[.string t.name, .int .i64 t.width] ty)) w.heap.size 0 t :=
  ⟨by rw [World.cell?_alloc_new]; rfl, by rw [World.cell?_alloc_new]; rfl, hs⟩

set_option maxRecDepth 100000 in
set_option maxHeartbeats 4000000 in
theorem told_any (b n : Nat) (f : Fn) (w : World) (h : OwnM w b n f) (hn : n ≤ 1000) :
    Calls Tryd.prog 109 #[.map (some b)] w fun e w' => ∃ l, ToldM f l ∧ l.length ≤ n ∧ MadeT w l e w' := by
  obtain ⟨D, hown, hD⟩ := h
  have hsz := owns_size hown
  have hbl := hown.lt
  have HD := Lib.hid hD; clear hD
  go_enter Tryd.func109, Tryd.ntmps109
  go_wp2_with (first | (at_range; refine wpList_range_own _ rfl _ 109 rfl 9 3 Tryd.keyed Tryd.underlying109 _ b n _ rfl hown ?_; intro w0 hrg0 hg0 hs0) | go_in)
  go_frame
  go_loopw [3] (fun s wr => ∃ (left : Lit → Bool) (cnt : Nat) (l : List Tb) (ao : Option Addr) (c : Nat), wr.ranges Tryd.prog 9 (plainElem Tryd.prog 3) b w.heap.size n D left cnt ∧ s = .slice ao l.length c ∧ OwnT wr (w.heap.size + 1) ao c l ∧ Col f left l ∧ l.length + cnt ≤ n ∧ Below w.heap.size w wr ∧ w.heap.size + 1 ≤ wr.heap.size)
    (fun _ wr => wr.rangeLeft b w.heap.size)
  case atStart => exact ⟨_, _, [], none, 0, hrg0, rfl, OwnT.none_, col_start HD.out, by simpa using hsz, (Below.refl _ _).grown hg0 (Nat.le_refl _) (fun j hj => by cases hj), by omega⟩
  case round =>
    clear hrg0 hg0 hs0
    obtain ⟨left, cnt, l, ao, c, hrg, rfl, ho, hc, hlc, hb, hz⟩ := hrel
    have OW := Lib.hid ho; have CO := Lib.hid hc; have HB := Lib.hid hb
    clear ho hc hb
    go_wp2_with (first | (at_next; refine wpList_next_si _ rfl _ rfl 9 3 Tryd.keyed Tryd.underlying9 Tryd.underlying3 b w.heap.size n _ _ _ rfl hrg ?_ ?_) | go_in)
    · intro hc0 hl0
      have HL := Lib.hid hl0; clear hl0
      go_wp2_with fail
      refine (sortT_any ao c l (w.heap.size + 1) _ OW.out (by omega)).mono ?_
      rintro e w2 ⟨rfl, m, hp, hs, o2, b2⟩
      have TT := Lib.hid (col_told CO.out HL.out hp hs)
      have hlen : m.length = l.length := hp.length_eq
      have O2 := Lib.hid (o2.base_le (Nat.le_succ _))
      have B2 := Lib.hid (HB.out.trans (b2.mono (Nat.le_succ _)))
      clear hp hs o2 b2
      go_wp2_with fail
      go_ret
      exact ⟨m, TT.out, by omega, ao, c, ret_slice hlen.symm, O2.out, B2.out⟩
    · intro x v w1 cnt1 hsx hlx hat hrg1 hlt hg1 hs1 hen
      have RG := Lib.hid hrg1
      have OW1 := Lib.hid (OW.out.grown hg1 (fun a ha e => by have := (OW.out.lt a ha).1; injection e with e; omega))
      have HB1 := Lib.hid (HB.out.grown hg1 HB.out.size (fun j hj => by injection hj with hj; omega))
      have CN := Lib.hid (show Col f (fun z => left z && !z.sameKey (Lit.string x.data.toList)) (l ++ [⟨x, v⟩]) from col_step (t := ⟨x, v⟩) HD.out CO.out hlx hat)
      have ML := Lib.hid hrg.left_eq
      have NE := Lib.hid hrg.ne
      have hz1 : w.heap.size + 1 ≤ w1.heap.size := by omega
      clear hlx hat hg1 hrg1 hrg hs1
      go_wp2_with (first
        | (at_builtin; refine wpList_appendT _ rfl (.tmp 13) (.tmp 17) 34 rfl (w.heap.size + 1) Tryd.underlying34 Tryd.infoTable ao c l.length l rfl rfl (OW1.out.alloc _) _ _ ⟨x, v⟩ rfl (tb_new _ ⟨x, v⟩ hsx _) (by omega) (by simp; omega) ?_; intro ao2 c2 w2 o2 g2)
        | go_in)
      have hrow : ∀ q : Nat, q ≤ w.heap.size → some q ≠ ao.map (·.block) := by
        intro q hq e
        cases ao with
        | none => cases e
        | some a => simp at e; have := (OW1.out.lt a rfl).1; omega
      have RG2 := Lib.hid ((RG.out.alloc (.cells #[.string x, .int .i64 v] 71)).kept g2 (hrow b (by omega)) (hrow _ (Nat.le_refl _)))
      have B2 := Lib.hid ((HB1.out.alloc HB1.out.size (.cells #[.string x, .int .i64 v] 71)).grown g2 (by simp; omega) (fun j hj => by
        cases ao with
        | none => cases hj
        | some a => simp at hj; have := (OW1.out.lt a rfl).1; omega))
      have O2 := Lib.hid o2
      have hz2 : w.heap.size + 1 ≤ w2.heap.size := by have := g2.size; simp at this; omega
      clear o2 g2 hrow
      go_wp2_with fail
      go_roundw
      case rel => exact ⟨_, cnt1, l ++ [⟨x, v⟩], ao2, c2, RG2.out, val_slice (by simp), O2.out, CN.out, by simp; omega, B2.out, hz2⟩
      case measure => rw [RG2.out.left_eq, ML.out]; exact hlt

set_option maxHeartbeats 1000000 in
theorem tableOk_any (t : Tb) (w : World) (hs : t.name.size ≤ maxLen) :
    Calls Tryd.prog 107 #[.agg #[.string t.name, .int .i64 t.width]] w fun e w' => e = .returned (.bool (tableB t)) ∧ Below w.heap.size w w' := by
  have W := Lib.hid (fun W => implWordOk_any t.name W hs)
  cases hw : wordB t.name.data.toList with
  | false =>
    have HW := Lib.hid hw
    have E := Lib.hid (show tableB t = false by unfold tableB Tb.key; rw [hw]; rfl)
    clear hw
    go_enter Tryd.func107, Tryd.ntmps107
    go_wp2_with (go_at_call 71; refine (W.out _).mono ?_; rintro e w' ⟨rfl, rfl⟩; rw [HW.out])
    go_ret
    rw [E.out]
    exact ⟨rfl, (Below.refl _ _).alloc (Nat.le_refl _) _⟩
  | true =>
    have HW := Lib.hid hw
    have E := Lib.hid (show tableB t = decide (1 ≤ t.width ∧ t.width ≤ 6) by unfold tableB Tb.key; rw [hw]; rfl)
    clear hw
    by_cases h1 : 1 ≤ t.width
    · by_cases h2 : t.width ≤ 6
      · have E2 := Lib.hid (show decide (1 ≤ t.width ∧ t.width ≤ 6) = true by simp [h1, h2])
        go_enter Tryd.func107, Tryd.ntmps107
        go_wp2_with (go_at_call 71; refine (W.out _).mono ?_; rintro e w' ⟨rfl, rfl⟩; rw [HW.out])
        go_ret
        rw [E.out, E2.out]
        exact ⟨ret_bool (by simp [h1, h2]), (Below.refl _ _).alloc (Nat.le_refl _) _⟩
      · have h2' : 6 < t.width := by omega
        have E2 := Lib.hid (show decide (1 ≤ t.width ∧ t.width ≤ 6) = false by simp; omega)
        go_enter Tryd.func107, Tryd.ntmps107
        go_wp2_with (go_at_call 71; refine (W.out _).mono ?_; rintro e w' ⟨rfl, rfl⟩; rw [HW.out])
        go_ret
        rw [E.out, E2.out]
        exact ⟨ret_bool (by simp; omega), (Below.refl _ _).alloc (Nat.le_refl _) _⟩
    · have h1' : t.width < 1 := by omega
      have E2 := Lib.hid (show decide (1 ≤ t.width ∧ t.width ≤ 6) = false by simp; omega)
      have hd : decide (1 ≤ t.width) = false := by simp; omega
      go_enter Tryd.func107, Tryd.ntmps107
      go_wp2_with (go_at_call 71; refine (W.out _).mono ?_; rintro e w' ⟨rfl, rfl⟩; rw [HW.out])
      go_ret
      rw [E.out, E2.out]
      exact ⟨rfl, (Below.refl _ _).alloc (Nat.le_refl _) _⟩

theorem OwnM.grown {w w' : World} {b n : Nat} {f : Fn} {row : Option Nat} (h : OwnM w b n f) (hg : w.grownBy w' row) (hne : some b ≠ row) : OwnM w' b n f := by
  obtain ⟨D, h1, h2⟩ := h
  exact ⟨D, h1.kept hg hne, h2⟩

/-- What widthsIn answers: the schema's own map, and true; or something, and false. -/
def InPost (w : World) (l : List Tb) (e : Ending) (w' : World) : Prop :=
  Below w.heap.size w w' ∧ if schemaB l = true then ∃ b, w.heap.size ≤ b ∧ e = .returned (.tuple #[.map (some b), .bool true]) ∧ OwnM w' b 8 (fnOf l) else ∃ m, e = .returned (.tuple #[.map m, .bool false])
theorem in_no {w w' : World} {l : List Tb} {e : Ending} {m : Option Nat} (h : schemaB l = false) (hb : Below w.heap.size w w') (he : e = .returned (.tuple #[.map m, .bool false])) : InPost w l e w' :=
  ⟨hb, by rw [h]; exact ⟨m, he⟩⟩

/-- A table laid into a new block: what a loop's variable does. -/
def boxed (w : World) (t : Tb) : World := w.alloc (.cells #[.string t.name, .int .i64 t.width] 71)
theorem boxed_below (w : World) (t : Tb) : Below w.heap.size w (boxed w t) := (Below.refl _ w).alloc (Nat.le_refl _) _
theorem boxed_size (w : World) (t : Tb) : (boxed w t).heap.size = w.heap.size + 1 := by simp [boxed]
theorem below_boxed {w wr w1 : World} {t : Tb} (h : Below w.heap.size w wr) (b1 : Below (boxed wr t).heap.size (boxed wr t) w1) : Below w.heap.size w w1 :=
  (h.trans ((boxed_below wr t).mono h.size)).trans (b1.mono (by rw [boxed_size]; have := h.size; omega))
theorem own_boxed {wr w1 : World} {t : Tb} {b n : Nat} {f : Fn} (h : OwnM wr b n f) (b1 : Below (boxed wr t).heap.size (boxed wr t) w1) : OwnM w1 b n f :=
  (h.below (boxed_below wr t)).below b1
theorem boxed_cells {wr w1 : World} {t : Tb} (b1 : Below (boxed wr t).heap.size (boxed wr t) w1) : w1.cell? ⟨wr.heap.size, 0, none⟩ = some (.string t.name) ∧ w1.cell? ⟨wr.heap.size, 1, none⟩ = some (.int .i64 t.width) := by
  have hz := boxed_size wr t
  constructor
  · rw [b1.cell (p := ⟨wr.heap.size, 0, none⟩) (by rw [hz]; exact Nat.lt_succ_self _)]
    unfold boxed; rw [World.cell?_alloc_new]; rfl
  · rw [b1.cell (p := ⟨wr.heap.size, 1, none⟩) (by rw [hz]; exact Nat.lt_succ_self _)]
    unfold boxed; rw [World.cell?_alloc_new]; rfl
theorem tableB_wf {t : Tb} (h : tableB t = true) : (Lit.int .i64 t.width).wf = true := by
  unfold tableB at h
  rw [Bool.and_eq_true, decide_eq_true_eq] at h
  have h1 := h.2.1; have h2 := h.2.2
  first | exact WalkArith.wf_i64 (by omega) | exact WalkArith.wf_i64 (by omega) (by omega) | (simp [Lit.wf, IntKind.min, IntKind.max]; omega)
theorem OwnM.mono {w : World} {b n n' : Nat} {f : Fn} (h : OwnM w b n f) (hn : n ≤ n') : OwnM w b n' f := by
  obtain ⟨D, h1, h2⟩ := h; exact ⟨D, h1.mono hn, h2⟩
theorem told_schema {l m : List Tb} (h8 : l.length ≤ 8) (hT : ∀ t ∈ l, tableB t = true) (h : ToldM (fnOf l) m) : schemaB l = eqT m l := by
  rw [Bool.eq_iff_iff, schemaB_iff, eqT_iff, told_same h]
  exact ⟨fun hh => hh.2.2, fun hh => ⟨h8, hT, hh⟩⟩

set_option maxRecDepth 100000 in
set_option maxHeartbeats 4000000 in
theorem widthsIn_any (ao : Option Addr) (c : Nat) (l : List Tb) (w : World) (h : RdT w ao l) (hl : l.length ≤ 1048576) :
    Calls Tryd.prog 86 #[.slice ao l.length c] w (InPost w l) := by
  have H := Lib.hid h; clear h
  by_cases h8 : 8 < l.length
  · have h8' : (8 : Int) < l.length := by omega
    have E := Lib.hid (schemaB_no (l := l) fun hh => by omega)
    go_enter Tryd.func86, Tryd.ntmps86
    go_wp2_with fail
    go_ret2
    exact in_no E.out (Below.refl _ _) rfl
  have h8' : (l.length : Int) ≤ 8 := by omega
  have h8n : l.length ≤ 8 := by omega
  clear h8
  have hmm := @run_makeMap Tryd.prog
  have M0 := Lib.hid (show OwnM (w.alloc (.map #[] 0)) w.heap.size 0 (fnOf []) from ⟨.map [], World.ownsMap_made _ _ _ _, FnD.empty⟩)
  have B0 := Lib.hid ((Below.refl w.heap.size w).alloc (Nat.le_refl _) (.map #[] 0))
  go_enter Tryd.func86, Tryd.ntmps86
  go_wp2_with fail
  go_loopw [13] (fun i wr => ∃ j : Nat, j ≤ l.length ∧ i = .int .i64 j ∧ (∀ t ∈ l.take j, tableB t = true) ∧ OwnM wr w.heap.size j (fnOf (l.take j)) ∧ Below w.heap.size w wr) (fun i _ => l.length - (intOf i).toNat)
  case atStart => exact ⟨0, Nat.zero_le _, rfl, (fun t h => by cases h), M0.out, B0.out⟩
  case round =>
    clear M0 B0 hmm
    obtain ⟨j, hj, rfl, ht, hm, hb⟩ := hrel
    have TA := Lib.hid ht; have OM := Lib.hid hm; have HB := Lib.hid hb
    clear ht hm hb
    by_cases hlt : j < l.length
    · obtain ⟨b, off, t, rfl, hn, hat⟩ := (H.out.below HB.out).at_ hlt
      have HN := Lib.hid hn; clear hn
      obtain ⟨c0, c1, nm⟩ := hat
      have hlt' : (j : Int) < l.length := by omega
      have TK := Lib.hid (fun W => tableOk_any t W nm)
      cases hw : tableB t with
      | false =>
        have HW := Lib.hid hw
        have E := Lib.hid (schemaB_no (l := l) fun hh => by have := hh.2.1 t (List.mem_of_getElem? HN.out); rw [hw] at this; cases this)
        clear hw
        go_wp2_with fail
        refine (TK.out _).mono ?_
        rintro e w1 ⟨rfl, b1⟩
        rw [HW.out]
        have B1 := Lib.hid (below_boxed HB.out b1)
        clear b1
        go_wp2_with fail
        go_ret2
        exact in_no E.out B1.out rfl
      | true =>
        have HW := Lib.hid hw; clear hw
        go_wp2_with fail
        refine (TK.out _).mono ?_
        rintro e w1 ⟨rfl, b1⟩
        rw [HW.out]
        have B1 := Lib.hid (below_boxed HB.out b1)
        have OM1 := Lib.hid (own_boxed OM.out b1)
        obtain ⟨d0, d1⟩ := boxed_cells b1
        clear b1
        have TN := Lib.hid (show ∀ s ∈ l.take (j + 1), tableB s = true by
          intro s hs
          rw [List.take_add_one, HN.out] at hs
          rcases List.mem_append.1 hs with h1 | h1
          · exact TA.out s h1
          · simp at h1; subst h1; exact HW.out)
        obtain ⟨D, hown, hD⟩ := OM1.out
        have HD := Lib.hid hD; have WF := Lib.hid (tableB_wf HW.out)
        clear hD OM1
        go_wp2_with (first
          | (at_mapUpdate; refine wpList_mapUpdate_own _ rfl _ _ _ 109 rfl 9 3 Tryd.keyed Tryd.underlying109 _ w.heap.size j _ rfl hown (by unfold maxLen; omega) _ _ _ rfl rfl (WideMaps.keyOf_string_mk Tryd.underlying9 nm) _ [] (plainElem_int Tryd.underlying3 WF.out) ?_; intro w2 hown2 hg2)
          | go_in)
        have B2 := Lib.hid (B1.out.grown hg2 B1.out.size (fun q hq => by injection hq with hq; omega))
        have OM2 := Lib.hid (show OwnM w2 w.heap.size (j + 1) (fnOf (l.take (j + 1))) from ⟨_, hown2, by rw [fnOf_take HN.out]; exact HD.out.put t.key t.width⟩)
        clear hown2 hg2 hown
        go_wp2_with fail
        go_roundw
        case rel => exact ⟨j + 1, by omega, by go_num, TN.out, OM2.out, B2.out⟩
        case measure => simp [intOf]; omega
    · obtain rfl : j = l.length := by omega
      have TA2 := Lib.hid (show ∀ t ∈ l, tableB t = true by have := TA.out; rwa [List.take_length] at this)
      have OM2 := Lib.hid (show OwnM wr w.heap.size l.length (fnOf l) by have := OM.out; rwa [List.take_length] at this)
      clear TA OM
      go_wp2_with fail
      refine (told_any w.heap.size l.length (fnOf l) _ OM2.out (by omega)).mono ?_
      rintro e w1 ⟨m, hT, hml, a1, c1, rfl, o1, b1⟩
      have B1 := Lib.hid (below_step HB.out (Nat.le_refl _) b1)
      have O1 := Lib.hid o1.rd
      have OM3 := Lib.hid ((OM2.out.below b1).mono h8n)
      have E := Lib.hid (told_schema h8n TA2.out hT)
      clear hT o1 b1 OM2
      cases hq : eqT m l with
      | true =>
        have HQ := Lib.hid hq; clear hq
        go_wp2_with fail
        refine (equalT_any a1 ao c1 c m l _ O1.out (H.out.below B1.out) (by omega) hl).mono ?_
        rintro e w2 ⟨rfl, b2⟩
        rw [HQ.out]
        have B2 := Lib.hid (below_step B1.out (Nat.le_refl _) b2)
        have OM4 := Lib.hid (OM3.out.below b2)
        clear b2
        go_wp2_with fail
        go_ret2
        exact ⟨B2.out, by rw [E.out, HQ.out]; exact ⟨w.heap.size, Nat.le_refl _, rfl, OM4.out⟩⟩
      | false =>
        have HQ := Lib.hid hq; clear hq
        go_wp2_with fail
        refine (equalT_any a1 ao c1 c m l _ O1.out (H.out.below B1.out) (by omega) hl).mono ?_
        rintro e w2 ⟨rfl, b2⟩
        rw [HQ.out]
        have B2 := Lib.hid (below_step B1.out (Nat.le_refl _) b2)
        clear b2
        go_wp2_with fail
        go_ret2
        exact in_no (E.out.trans HQ.out) B2.out rfl

set_option maxHeartbeats 1000000 in
theorem implSchema_any (ao : Option Addr) (c : Nat) (l : List Tb) (w : World) (h : RdT w ao l) (hl : l.length ≤ 1048576) :
    Calls Tryd.prog 55 #[.slice ao l.length c] w fun e w' => e = .returned (.bool (schemaB l)) ∧ Below w.heap.size w w' := by
  have WI := Lib.hid (widthsIn_any ao c l w h hl)
  cases hs : schemaB l with
  | true =>
    have HS := Lib.hid hs; clear hs h
    go_enter Tryd.func55, Tryd.ntmps55
    go_wp2_with fail
    refine WI.out.mono ?_
    rintro e w1 ⟨b1, hp⟩
    rw [HS.out] at hp
    obtain ⟨b, hb, rfl, om⟩ := hp
    clear om
    go_wp2_with fail
    go_ret
    exact ⟨rfl, b1⟩
  | false =>
    have HS := Lib.hid hs; clear hs h
    go_enter Tryd.func55, Tryd.ntmps55
    go_wp2_with fail
    refine WI.out.mono ?_
    rintro e w1 ⟨b1, hp⟩
    rw [HS.out] at hp
    obtain ⟨m, rfl⟩ := hp
    go_wp2_with fail
    go_ret
    exact ⟨rfl, b1⟩
end Go.Proofs.YtcegekkhlfpgfaaDoor
