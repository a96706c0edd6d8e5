/-
  Contracts of widths.told, tableOk and widthsIn: the tables by their names, whichever order the map tells them in. For every slice of tables. Contract of spec.SchemaOk. For every slice of tables. Contracts of l03Find and of FindTable, of the model and of the program. For every slice of tables and every text.
-/
import Derived.Test.YtanfllednlpbaaaGreatMapT
import Derived.Test.YtanfllednlpbaaaGreatJ9x
import Derived.Test.YtanfllednlpbaaaGreatJ6x
import Derived.Deep.RegionWith
import Derived.Deep.QuietTactic
namespace Go.Proofs.YtanfllednlpbaaaGreat
open Go.RowKit Go.Maps
set_option linter.unusedSimpArgs false
set_option linter.unusedVariables false

theorem val_slice {ao : Option Addr} {n m c : Nat} (h : n = m) : Value.slice ao n c = .slice ao m c := by rw [h]
theorem tb_new (w : World) (t : Tb) (hs : t.name.size ≤ maxLen) (ty : TypeId) : TbAt (w.alloc (.cells #[.string t.name, .int .i64 t.width] ty)) w.heap.size 0 t :=
  ⟨by rw [World.cell?_alloc_new]; rfl, by rw [World.cell?_alloc_new]; rfl, hs⟩

set_option maxRecDepth 100000 in
set_option maxHeartbeats 4000000 in
theorem told_any (b n : Nat) (f : Fn) (w : World) (h : OwnM w b n f) (hn : n ≤ 1000) :
    Calls Tryz.prog 96 #[.map (some b)] w fun e w' => ∃ l, ToldM f l ∧ l.length ≤ n ∧ MadeT w l e w' := by
  obtain ⟨D, hown, hD⟩ := h
  have hsz := owns_size hown
  have hbl := hown.lt
  have HD := Lib.hid hD; clear hD
  go_enter Tryz.func96, Tryz.ntmps96
  go_wp2_with (first | (at_range; refine wpList_range_own _ rfl _ 73 rfl 9 3 Tryz.keyed Tryz.underlying73 _ b n _ rfl hown ?_; intro w0 hrg0 hg0 hs0) | go_in)
  go_frame
  go_loopw [3] (fun s wr => ∃ (left : Lit → Bool) (cnt : Nat) (l : List Tb) (ao : Option Addr) (c : Nat), wr.ranges Tryz.prog 9 (plainElem Tryz.prog 3) b w.heap.size n D left cnt ∧ s = .slice ao l.length c ∧ OwnT wr (w.heap.size + 1) ao c l ∧ Col f left l ∧ l.length + cnt ≤ n ∧ Below w.heap.size w wr ∧ w.heap.size + 1 ≤ wr.heap.size)
    (fun _ wr => wr.rangeLeft b w.heap.size)
  case atStart => exact ⟨_, _, [], none, 0, hrg0, rfl, OwnT.none_, col_start HD.out, by simpa using hsz, (Below.refl _ _).grown hg0 (Nat.le_refl _) (fun j hj => by cases hj), by omega⟩
  case round =>
    clear hrg0 hg0 hs0
    obtain ⟨left, cnt, l, ao, c, hrg, rfl, ho, hc, hlc, hb, hz⟩ := hrel
    have OW := Lib.hid ho; have CO := Lib.hid hc; have HB := Lib.hid hb
    clear ho hc hb
    go_wp2_with (first | (at_next; refine wpList_next_si _ rfl _ rfl 9 3 Tryz.keyed Tryz.underlying9 Tryz.underlying3 b w.heap.size n _ _ _ rfl hrg ?_ ?_) | go_in)
    · intro hc0 hl0
      have HL := Lib.hid hl0; clear hl0
      go_wp2_with fail
      refine (sortT_any ao c l (w.heap.size + 1) _ OW.out (by omega)).mono ?_
      rintro e w2 ⟨rfl, m, hp, hs, o2, b2⟩
      have TT := Lib.hid (col_told CO.out HL.out hp hs)
      have hlen : m.length = l.length := hp.length_eq
      have O2 := Lib.hid (o2.base_le (Nat.le_succ _))
      have B2 := Lib.hid (HB.out.trans (b2.mono (Nat.le_succ _)))
      clear hp hs o2 b2
      go_wp2_with fail
      go_ret
      exact ⟨m, TT.out, by omega, ao, c, ret_slice hlen.symm, O2.out, B2.out⟩
    · intro x v w1 cnt1 hsx hlx hat hrg1 hlt hg1 hs1 hen
      have RG := Lib.hid hrg1
      have OW1 := Lib.hid (OW.out.grown hg1 (fun a ha e => by have := (OW.out.lt a ha).1; injection e with e; omega))
      have HB1 := Lib.hid (HB.out.grown hg1 HB.out.size (fun j hj => by injection hj with hj; omega))
      have CN := Lib.hid (show Col f (fun z => left z && !z.sameKey (Lit.string x.data.toList)) (l ++ [⟨x, v⟩]) from col_step (t := ⟨x, v⟩) HD.out CO.out hlx hat)
      have ML := Lib.hid hrg.left_eq
      have NE := Lib.hid hrg.ne
      have hz1 : w.heap.size + 1 ≤ w1.heap.size := by omega
      clear hlx hat hg1 hrg1 hrg hs1
      go_wp2_with (first
        | (at_builtin; refine wpList_appendT _ rfl (.tmp 13) (.tmp 17) 24 rfl (w.heap.size + 1) Tryz.underlying24 Tryz.infoTable ao c l.length l rfl rfl (OW1.out.alloc _) _ _ ⟨x, v⟩ rfl (tb_new _ ⟨x, v⟩ hsx _) (by omega) (by simp; omega) ?_; intro ao2 c2 w2 o2 g2)
        | go_in)
      have hrow : ∀ q : Nat, q ≤ w.heap.size → some q ≠ ao.map (·.block) := by
        intro q hq e
        cases ao with
        | none => cases e
        | some a => simp at e; have := (OW1.out.lt a rfl).1; omega
      have RG2 := Lib.hid ((RG.out.alloc (.cells #[.string x, .int .i64 v] 89)).kept g2 (hrow b (by omega)) (hrow _ (Nat.le_refl _)))
      have B2 := Lib.hid ((HB1.out.alloc HB1.out.size (.cells #[.string x, .int .i64 v] 89)).grown g2 (by simp; omega) (fun j hj => by
        cases ao with
        | none => cases hj
        | some a => simp at hj; have := (OW1.out.lt a rfl).1; omega))
      have O2 := Lib.hid o2
      have hz2 : w.heap.size + 1 ≤ w2.heap.size := by have := g2.size; simp at this; omega
      clear o2 g2 hrow
      go_wp2_with fail
      go_roundw
      case rel => exact ⟨_, cnt1, l ++ [⟨x, v⟩], ao2, c2, RG2.out, val_slice (by simp), O2.out, CN.out, by simp; omega, B2.out, hz2⟩
      case measure => rw [RG2.out.left_eq, ML.out]; exact hlt

set_option maxHeartbeats 1000000 in
theorem tableOk_any (t : Tb) (w : World) (hs : t.name.size ≤ maxLen) :
    Calls Tryz.prog 94 #[.agg #[.string t.name, .int .i64 t.width]] w fun e w' => e = .returned (.bool (tableB t)) ∧ Below w.heap.size w w' := by
  have W := Lib.hid (fun W => implWordOk_any t.name W hs)
  cases hw : wordB t.name.data.toList with
  | false =>
    have HW := Lib.hid hw
    have E := Lib.hid (show tableB t = false by unfold tableB Tb.key; rw [hw]; rfl)
    clear hw
    go_enter Tryz.func94, Tryz.ntmps94
    go_wp2_with (go_at_call 123; refine (W.out _).mono ?_; rintro e w' ⟨rfl, rfl⟩; rw [HW.out])
    go_ret
    rw [E.out]
    exact ⟨rfl, (Below.refl _ _).alloc (Nat.le_refl _) _⟩
  | true =>
    have HW := Lib.hid hw
    have E := Lib.hid (show tableB t = decide (1 ≤ t.width ∧ t.width ≤ 6) by unfold tableB Tb.key; rw [hw]; rfl)
    clear hw
    by_cases h1 : 1 ≤ t.width
    · by_cases h2 : t.width ≤ 6
      · have E2 := Lib.hid (show decide (1 ≤ t.width ∧ t.width ≤ 6) = true by simp [h1, h2])
        go_enter Tryz.func94, Tryz.ntmps94
        go_wp2_with (go_at_call 123; refine (W.out _).mono ?_; rintro e w' ⟨rfl, rfl⟩; rw [HW.out])
        go_ret
        rw [E.out, E2.out]
        exact ⟨ret_bool (by simp [h1, h2]), (Below.refl _ _).alloc (Nat.le_refl _) _⟩
      · have h2' : 6 < t.width := by omega
        have E2 := Lib.hid (show decide (1 ≤ t.width ∧ t.width ≤ 6) = false by simp; omega)
        go_enter Tryz.func94, Tryz.ntmps94
        go_wp2_with (go_at_call 123; refine (W.out _).mono ?_; rintro e w' ⟨rfl, rfl⟩; rw [HW.out])
        go_ret
        rw [E.out, E2.out]
        exact ⟨ret_bool (by simp; omega), (Below.refl _ _).alloc (Nat.le_refl _) _⟩
    · have h1' : t.width < 1 := by omega
      have E2 := Lib.hid (show decide (1 ≤ t.width ∧ t.width ≤ 6) = false by simp; omega)
      have hd : decide (1 ≤ t.width) = false := by simp; omega
      go_enter Tryz.func94, Tryz.ntmps94
      go_wp2_with (go_at_call 123; refine (W.out _).mono ?_; rintro e w' ⟨rfl, rfl⟩; rw [HW.out])
      go_ret
      rw [E.out, E2.out]
      exact ⟨rfl, (Below.refl _ _).alloc (Nat.le_refl _) _⟩

theorem OwnM.grown {w w' : World} {b n : Nat} {f : Fn} {row : Option Nat} (h : OwnM w b n f) (hg : w.grownBy w' row) (hne : some b ≠ row) : OwnM w' b n f := by
  obtain ⟨D, h1, h2⟩ := h
  exact ⟨D, h1.kept hg hne, h2⟩

/-- What widthsIn answers: the schema's own map, and true; or something, and false. -/
def InPost (w : World) (l : List Tb) (e : Ending) (w' : World) : Prop :=
  Below w.heap.size w w' ∧ if schemaB l = true then ∃ b, w.heap.size ≤ b ∧ e = .returned (.tuple #[.map (some b), .bool true]) ∧ OwnM w' b 8 (fnOf l) else ∃ m, e = .returned (.tuple #[.map m, .bool false])
theorem in_no {w w' : World} {l : List Tb} {e : Ending} {m : Option Nat} (h : schemaB l = false) (hb : Below w.heap.size w w') (he : e = .returned (.tuple #[.map m, .bool false])) : InPost w l e w' :=
  ⟨hb, by rw [h]; exact ⟨m, he⟩⟩

/-- A table laid into a new block: what a loop's variable does. -/
def boxed (w : World) (t : Tb) : World := w.alloc (.cells #[.string t.name, .int .i64 t.width] 89)
theorem boxed_below (w : World) (t : Tb) : Below w.heap.size w (boxed w t) := (Below.refl _ w).alloc (Nat.le_refl _) _
theorem boxed_size (w : World) (t : Tb) : (boxed w t).heap.size = w.heap.size + 1 := by simp [boxed]
theorem below_boxed {w wr w1 : World} {t : Tb} (h : Below w.heap.size w wr) (b1 : Below (boxed wr t).heap.size (boxed wr t) w1) : Below w.heap.size w w1 :=
  (h.trans ((boxed_below wr t).mono h.size)).trans (b1.mono (by rw [boxed_size]; have := h.size; omega))
theorem own_boxed {wr w1 : World} {t : Tb} {b n : Nat} {f : Fn} (h : OwnM wr b n f) (b1 : Below (boxed wr t).heap.size (boxed wr t) w1) : OwnM w1 b n f :=
  (h.below (boxed_below wr t)).below b1
theorem boxed_cells {wr w1 : World} {t : Tb} (b1 : Below (boxed wr t).heap.size (boxed wr t) w1) : w1.cell? ⟨wr.heap.size, 0, none⟩ = some (.string t.name) ∧ w1.cell? ⟨wr.heap.size, 1, none⟩ = some (.int .i64 t.width) := by
  have hz := boxed_size wr t
  constructor
  · rw [b1.cell (p := ⟨wr.heap.size, 0, none⟩) (by rw [hz]; exact Nat.lt_succ_self _)]
    unfold boxed; rw [World.cell?_alloc_new]; rfl
  · rw [b1.cell (p := ⟨wr.heap.size, 1, none⟩) (by rw [hz]; exact Nat.lt_succ_self _)]
    unfold boxed; rw [World.cell?_alloc_new]; rfl
theorem tableB_wf {t : Tb} (h : tableB t = true) : (Lit.int .i64 t.width).wf = true := by
  unfold tableB at h
  rw [Bool.and_eq_true, decide_eq_true_eq] at h
  have h1 := h.2.1; have h2 := h.2.2
  first | exact WalkArith.wf_i64 (by omega) | exact WalkArith.wf_i64 (by omega) (by omega) | (simp [Lit.wf, IntKind.min, IntKind.max]; omega)
theorem OwnM.mono {w : World} {b n n' : Nat} {f : Fn} (h : OwnM w b n f) (hn : n ≤ n') : OwnM w b n' f := by
  obtain ⟨D, h1, h2⟩ := h; exact ⟨D, h1.mono hn, h2⟩
theorem told_schema {l m : List Tb} (h8 : l.length ≤ 8) (hT : ∀ t ∈ l, tableB t = true) (h : ToldM (fnOf l) m) : schemaB l = eqT m l := by
  rw [Bool.eq_iff_iff, schemaB_iff, eqT_iff, told_same h]
  exact ⟨fun hh => hh.2.2, fun hh => ⟨h8, hT, hh⟩⟩

set_option maxRecDepth 100000 in
set_option maxHeartbeats 4000000 in
theorem widthsIn_any (ao : Option Addr) (c : Nat) (l : List Tb) (w : World) (h : RdT w ao l) (hl : l.length ≤ 1048576) :
    Calls Tryz.prog 51 #[.slice ao l.length c] w (InPost w l) := by
  have H := Lib.hid h; clear h
  by_cases h8 : 8 < l.length
  · have h8' : (8 : Int) < l.length := by omega
    have E := Lib.hid (schemaB_no (l := l) fun hh => by omega)
    go_enter Tryz.func51, Tryz.ntmps51
    go_wp2_with fail
    go_ret2
    exact in_no E.out (Below.refl _ _) rfl
  have h8' : (l.length : Int) ≤ 8 := by omega
  have h8n : l.length ≤ 8 := by omega
  clear h8
  have hmm := @run_makeMap Tryz.prog
  have M0 := Lib.hid (show OwnM (w.alloc (.map #[] 0)) w.heap.size 0 (fnOf []) from ⟨.map [], World.ownsMap_made _ _ _ _, FnD.empty⟩)
  have B0 := Lib.hid ((Below.refl w.heap.size w).alloc (Nat.le_refl _) (.map #[] 0))
  go_enter Tryz.func51, Tryz.ntmps51
  go_wp2_with fail
  go_loopw [13] (fun i wr => ∃ j : Nat, j ≤ l.length ∧ i = .int .i64 j ∧ (∀ t ∈ l.take j, tableB t = true) ∧ OwnM wr w.heap.size j (fnOf (l.take j)) ∧ Below w.heap.size w wr) (fun i _ => l.length - (intOf i).toNat)
  case atStart => exact ⟨0, Nat.zero_le _, rfl, (fun t h => by cases h), M0.out, B0.out⟩
  case round =>
    clear M0 B0 hmm
    obtain ⟨j, hj, rfl, ht, hm, hb⟩ := hrel
    have TA := Lib.hid ht; have OM := Lib.hid hm; have HB := Lib.hid hb
    clear ht hm hb
    by_cases hlt : j < l.length
    · obtain ⟨b, off, t, rfl, hn, hat⟩ := (H.out.below HB.out).at_ hlt
      have HN := Lib.hid hn; clear hn
      obtain ⟨c0, c1, nm⟩ := hat
      have hlt' : (j : Int) < l.length := by omega
      have TK := Lib.hid (fun W => tableOk_any t W nm)
      cases hw : tableB t with
      | false =>
        have HW := Lib.hid hw
        have E := Lib.hid (schemaB_no (l := l) fun hh => by have := hh.2.1 t (List.mem_of_getElem? HN.out); rw [hw] at this; cases this)
        clear hw
        go_wp2_with fail
        refine (TK.out _).mono ?_
        rintro e w1 ⟨rfl, b1⟩
        rw [HW.out]
        have B1 := Lib.hid (below_boxed HB.out b1)
        clear b1
        go_wp2_with fail
        go_ret2
        exact in_no E.out B1.out rfl
      | true =>
        have HW := Lib.hid hw; clear hw
        go_wp2_with fail
        refine (TK.out _).mono ?_
        rintro e w1 ⟨rfl, b1⟩
        rw [HW.out]
        have B1 := Lib.hid (below_boxed HB.out b1)
        have OM1 := Lib.hid (own_boxed OM.out b1)
        obtain ⟨d0, d1⟩ := boxed_cells b1
        clear b1
        have TN := Lib.hid (show ∀ s ∈ l.take (j + 1), tableB s = true by
          intro s hs
          rw [List.take_add_one, HN.out] at hs
          rcases List.mem_append.1 hs with h1 | h1
          · exact TA.out s h1
          · simp at h1; subst h1; exact HW.out)
        obtain ⟨D, hown, hD⟩ := OM1.out
        have HD := Lib.hid hD; have WF := Lib.hid (tableB_wf HW.out)
        clear hD OM1
        go_wp2_with (first
          | (at_mapUpdate; refine wpList_mapUpdate_own _ rfl _ _ _ 73 rfl 9 3 Tryz.keyed Tryz.underlying73 _ w.heap.size j _ rfl hown (by unfold maxLen; omega) _ _ _ rfl rfl (WideMaps.keyOf_string_mk Tryz.underlying9 nm) _ [] (plainElem_int Tryz.underlying3 WF.out) ?_; intro w2 hown2 hg2)
          | go_in)
        have B2 := Lib.hid (B1.out.grown hg2 B1.out.size (fun q hq => by injection hq with hq; omega))
        have OM2 := Lib.hid (show OwnM w2 w.heap.size (j + 1) (fnOf (l.take (j + 1))) from ⟨_, hown2, by rw [fnOf_take HN.out]; exact HD.out.put t.key t.width⟩)
        clear hown2 hg2 hown
        go_wp2_with fail
        go_roundw
        case rel => exact ⟨j + 1, by omega, by go_num, TN.out, OM2.out, B2.out⟩
        case measure => simp [intOf]; omega
    · obtain rfl : j = l.length := by omega
      have TA2 := Lib.hid (show ∀ t ∈ l, tableB t = true by have := TA.out; rwa [List.take_length] at this)
      have OM2 := Lib.hid (show OwnM wr w.heap.size l.length (fnOf l) by have := OM.out; rwa [List.take_length] at this)
      clear TA OM
      go_wp2_with fail
      refine (told_any w.heap.size l.length (fnOf l) _ OM2.out (by omega)).mono ?_
      rintro e w1 ⟨m, hT, hml, a1, c1, rfl, o1, b1⟩
      have B1 := Lib.hid (below_step HB.out (Nat.le_refl _) b1)
      have O1 := Lib.hid o1.rd
      have OM3 := Lib.hid ((OM2.out.below b1).mono h8n)
      have E := Lib.hid (told_schema h8n TA2.out hT)
      clear hT o1 b1 OM2
      cases hq : eqT m l with
      | true =>
        have HQ := Lib.hid hq; clear hq
        go_wp2_with fail
        refine (equalT_any a1 ao c1 c m l _ O1.out (H.out.below B1.out) (by omega) hl).mono ?_
        rintro e w2 ⟨rfl, b2⟩
        rw [HQ.out]
        have B2 := Lib.hid (below_step B1.out (Nat.le_refl _) b2)
        have OM4 := Lib.hid (OM3.out.below b2)
        clear b2
        go_wp2_with fail
        go_ret2
        exact ⟨B2.out, by rw [E.out, HQ.out]; exact ⟨w.heap.size, Nat.le_refl _, rfl, OM4.out⟩⟩
      | false =>
        have HQ := Lib.hid hq; clear hq
        go_wp2_with fail
        refine (equalT_any a1 ao c1 c m l _ O1.out (H.out.below B1.out) (by omega) hl).mono ?_
        rintro e w2 ⟨rfl, b2⟩
        rw [HQ.out]
        have B2 := Lib.hid (below_step B1.out (Nat.le_refl _) b2)
        clear b2
        go_wp2_with fail
        go_ret2
        exact in_no (E.out.trans HQ.out) B2.out rfl

set_option maxHeartbeats 1000000 in
theorem implSchema_any (ao : Option Addr) (c : Nat) (l : List Tb) (w : World) (h : RdT w ao l) (hl : l.length ≤ 1048576) :
    Calls Tryz.prog 118 #[.slice ao l.length c] w fun e w' => e = .returned (.bool (schemaB l)) ∧ Below w.heap.size w w' := by
  have WI := Lib.hid (widthsIn_any ao c l w h hl)
  cases hs : schemaB l with
  | true =>
    have HS := Lib.hid hs; clear hs h
    go_enter Tryz.func118, Tryz.ntmps118
    go_wp2_with fail
    refine WI.out.mono ?_
    rintro e w1 ⟨b1, hp⟩
    rw [HS.out] at hp
    obtain ⟨b, hb, rfl, om⟩ := hp
    clear om
    go_wp2_with fail
    go_ret
    exact ⟨rfl, b1⟩
  | false =>
    have HS := Lib.hid hs; clear hs h
    go_enter Tryz.func118, Tryz.ntmps118
    go_wp2_with fail
    refine WI.out.mono ?_
    rintro e w1 ⟨b1, hp⟩
    rw [HS.out] at hp
    obtain ⟨m, rfl⟩ := hp
    go_wp2_with fail
    go_ret
    exact ⟨rfl, b1⟩
end Go.Proofs.YtanfllednlpbaaaGreat
namespace Go.Proofs.YtanfllednlpbaaaGreat
open Go.RowKit
set_option linter.unusedSimpArgs false
set_option linter.unusedVariables false

theorem specWordOk_is {s : ByteArray} {r : Bool} (hr : wordB s.data.toList = r) (w : World) (hs : s.size ≤ maxLen) :
    Calls Tryz.prog 112 #[.string s] w fun e w' => e = .returned (.bool r) ∧ ∃ m, w' = w.drewN m := by
  rw [← hr]
  refine (specWordOk_any s w hs).mono ?_
  rintro e w' ⟨rfl, rfl⟩; exact ⟨rfl, 0, rfl⟩
theorem l01In_is {x a b : Int} {r : Bool} (hr : (decide (a ≤ x) && decide (x ≤ b)) = r) (w : World) :
    Calls Tryz.prog 72 #[.int .i64 x, .int .i64 a, .int .i64 b] w fun e w' => e = .returned (.bool r) ∧ ∃ m, w' = w.drewN m := by
  rw [← hr]
  refine (l01In_any x a b w).mono ?_
  rintro e w' ⟨rfl, rfl⟩; exact ⟨rfl, 0, rfl⟩
theorem schema_table {l : List Tb} {j : Nat} {t : Tb} (ht : l[j]? = some t) (h : tableB t = false) : schemaB l = false :=
  schemaB_no fun hh => by have := hh.2.1 t (List.mem_of_getElem? ht); rw [h] at this; cases this
theorem schema_order {l : List Tb} {j : Nat} {s t : Tb} (hs : l[j]? = some s) (ht : l[j + 1]? = some t) (h : lessS s.name t.name = false) : schemaB l = false :=
  schemaB_no fun hh => by
    have := ascT_neigh hh.2.2 hs ht
    unfold lessS at h
    simp only [decide_eq_false_iff_not] at h
    exact h this

set_option maxRecDepth 100000 in
set_option maxHeartbeats 4000000 in
theorem specSchema_any (ao : Option Addr) (c : Nat) (l : List Tb) (w : World) (h : RdT w ao l) (hl : l.length ≤ 4194304) :
    Calls Tryz.prog 76 #[.slice ao l.length c] w fun e w' => e = .returned (.bool (schemaB l)) ∧ Below w.heap.size w w' := by
  have H := Lib.hid h; clear h
  by_cases h8 : 8 < l.length
  · have h8' : (8 : Int) < l.length := by omega
    have E := Lib.hid (schemaB_no (l := l) fun hh => by omega)
    go_enter Tryz.func76, Tryz.ntmps76
    go_wp2_with fail
    go_ret
    exact ⟨ret_bool E.out.symm, Below.refl _ _⟩
  have h8' : (l.length : Int) ≤ 8 := by omega
  clear h8 hl
  go_enter Tryz.func76, Tryz.ntmps76
  go_wp2_with fail
  go_loopw [3] (fun i wr => ∃ j : Nat, j ≤ l.length ∧ i = .int .i64 j ∧ (∀ t ∈ l.take j, tableB t = true) ∧ AscT (l.take j) ∧ Below w.heap.size w wr) (fun i _ => l.length - (intOf i).toNat)
  case atStart => exact ⟨0, Nat.zero_le _, rfl, (fun t h => by cases h), List.Pairwise.nil, Below.refl _ _⟩
  case round =>
    obtain ⟨j, hj, rfl, ht, ha, hb⟩ := hrel
    have TA := Lib.hid ht; have AS := Lib.hid ha; have HB := Lib.hid hb
    have HR := Lib.hid (H.out.below hb)
    clear ht ha hb
    by_cases hlt : j < l.length
    · obtain ⟨b, off, t, rfl, hn, hat⟩ := HR.out.at_ hlt
      have HN := Lib.hid hn; clear hn
      obtain ⟨c0, c1, nm⟩ := hat
      have hlt' : (j : Int) < l.length := by omega
      cases hw : wordB t.key with
      | false =>
        have HW := Lib.hid (show wordB t.name.data.toList = false from hw)
        have E := Lib.hid (schema_table HN.out (by unfold tableB; rw [hw]; rfl))
        clear hw
        go_wp2_with fail
        go_quiet ((go_at_call 112; exact Calls.quiet_of (specWordOk_is HW.out _ nm)))
        all_goals
          go_wp2_with fail
          go_ret
          exact ⟨ret_bool E.out.symm, below_drewN HB.out _⟩
      | true =>
        have HW := Lib.hid (show wordB t.name.data.toList = true from hw)
        cases hi : (decide (1 ≤ t.width) && decide (t.width ≤ 6)) with
        | false =>
          have HI := Lib.hid hi
          have E := Lib.hid (schema_table HN.out (by unfold tableB; rw [hw, Bool.true_and]; simpa using hi))
          clear hw hi
          go_wp2_with fail
          go_quiet (first | (go_at_call 112; exact Calls.quiet_of (specWordOk_is HW.out _ nm)) | (go_at_call 72; exact Calls.quiet_of (l01In_is HI.out _)))
          all_goals
            go_wp2_with fail
            go_ret
            exact ⟨ret_bool E.out.symm, below_drewN HB.out _⟩
        | true =>
          have HI := Lib.hid hi
          have TT := Lib.hid (show tableB t = true by unfold tableB; rw [hw, Bool.true_and]; simpa using hi)
          clear hw hi
          have TN := Lib.hid (show ∀ s ∈ l.take (j + 1), tableB s = true by
            intro s hs
            rw [List.take_add_one, HN.out] at hs
            rcases List.mem_append.1 hs with h1 | h1
            · exact TA.out s h1
            · simp at h1; subst h1; exact TT.out)
          by_cases hj0 : j = 0
          · have AN := Lib.hid (ascT_succ AS.out HN.out fun s h => by omega)
            have hz : (j : Int) ≤ 0 := by omega
            have hd : decide (0 < j) = false := by simp; omega
            clear hj0
            go_wp2_with fail
            go_quiet (first | (go_at_call 112; exact Calls.quiet_of (specWordOk_is HW.out _ nm)) | (go_at_call 72; exact Calls.quiet_of (l01In_is HI.out _)))
            all_goals
              go_wp2_with fail
              go_roundw
              case rel => exact ⟨j + 1, by omega, by go_num, TN.out, AN.out, below_drewN HB.out _⟩
              case measure => simp [intOf]; omega
          · obtain ⟨i, rfl⟩ : ∃ i, j = i + 1 := ⟨j - 1, by omega⟩
            obtain ⟨b', off', s, hbo, hs, has⟩ := HR.out.at_ (i := i) (by omega)
            simp only [Option.some.injEq, Addr.mk.injEq, and_true] at hbo
            obtain ⟨rfl, rfl⟩ := hbo
            have HS := Lib.hid hs; clear hs
            obtain ⟨d0, d1, ns⟩ := has
            have hi1 : (0 : Int) ≤ (i + 1 : Nat) - 1 := by omega
            have hi2 : (((i + 1 : Nat) : Int) - 1) < l.length := by omega
            have hi3 : (((i + 1 : Nat) : Int) - 1).toNat = i := by omega
            cases hls : lessS s.name t.name with
            | true =>
              have LS := Lib.hid hls
              have AN := Lib.hid (ascT_succ AS.out HN.out fun s' _ hs' => by
                rw [show i + 1 - 1 = i by omega, HS.out] at hs'
                injection hs' with hs'; subst hs'
                exact of_decide_eq_true hls)
              clear hls
              go_wp2_with fail
              go_quiet (first | (go_at_call 112; exact Calls.quiet_of (specWordOk_is HW.out _ nm)) | (go_at_call 72; exact Calls.quiet_of (l01In_is HI.out _)) | (go_at_call 113; exact Calls.quiet_of (l01Less_is LS.out _ ns nm)))
              all_goals
                go_wp2_with fail
                go_roundw
                case rel => exact ⟨i + 1 + 1, by omega, by go_num, TN.out, AN.out, below_drewN HB.out _⟩
                case measure => simp [intOf]; omega
            | false =>
              have LS := Lib.hid hls
              have E := Lib.hid (schema_order HS.out HN.out hls)
              clear hls
              go_wp2_with fail
              go_quiet (first | (go_at_call 112; exact Calls.quiet_of (specWordOk_is HW.out _ nm)) | (go_at_call 72; exact Calls.quiet_of (l01In_is HI.out _)) | (go_at_call 113; exact Calls.quiet_of (l01Less_is LS.out _ ns nm)))
              all_goals
                go_wp2_with fail
                go_ret
                exact ⟨ret_bool E.out.symm, below_drewN HB.out _⟩
    · obtain rfl : j = l.length := by omega
      have E := Lib.hid (schemaB_iff.2 ⟨show l.length ≤ 8 by omega, by have := TA.out; rwa [List.take_length] at this, by have := AS.out; rwa [List.take_length] at this⟩)
      go_wp2_with fail
      go_ret
      exact ⟨ret_bool E.out.symm, HB.out⟩
end Go.Proofs.YtanfllednlpbaaaGreat
namespace Go.Proofs.YtanfllednlpbaaaGreat
open Go.RowKit Go.Maps
set_option linter.unusedSimpArgs false
set_option linter.unusedVariables false

/-- What l03Find finds. -/
def FoundAt (l : List Tb) (x : ByteArray) (r : Int) : Prop := (r = -1 ∧ ∀ t ∈ l, t.key ≠ x.data.toList) ∨ ∃ (i : Nat) (t : Tb), r = i ∧ l[i]? = some t ∧ t.name = x
theorem name_eq {x y : ByteArray} (h : x.toList = y.toList) : x = y := by
  rw [ByteArray.toList_eq, ByteArray.toList_eq] at h
  apply ByteArray.ext; exact Array.toList_inj.1 h

set_option maxRecDepth 100000 in
set_option maxHeartbeats 1600000 in
theorem l03Find_any (ao : Option Addr) (c : Nat) (l : List Tb) (x : ByteArray) (w : World) (h : RdT w ao l) (hl : l.length ≤ 1048576) :
    Calls Tryz.prog 79 #[.slice ao l.length c, .string x] w fun e w' => w = w' ∧ ∃ r : Int, e = .returned (.int .i64 r) ∧ FoundAt l x r := by
  have H := Lib.hid h; clear h
  go_enter Tryz.func79, Tryz.ntmps79
  go_wp2_with fail
  go_loop [5] (fun i => ∃ j : Nat, j ≤ l.length ∧ i = .int .i64 j ∧ ∀ t ∈ l.take j, t.key ≠ x.data.toList) (fun i => l.length - (intOf i).toNat)
  case atStart => exact ⟨0, Nat.zero_le _, rfl, fun t h => by cases h⟩
  case round =>
    obtain ⟨j, hj, rfl, ht⟩ := hrel
    have TA := Lib.hid ht; clear ht
    by_cases hlt : j < l.length
    · obtain ⟨b, off, t, rfl, hn, hat⟩ := H.out.at_ hlt
      have HN := Lib.hid hn; clear hn
      obtain ⟨c0, c1, nm⟩ := hat
      cases hb : (t.name.toList == x.toList) with
      | true =>
        have E := Lib.hid (show FoundAt l x (j : Int) from .inr ⟨j, t, rfl, HN.out, name_eq (by simpa using hb)⟩)
        go_wp2
        go_ret
        exact ⟨rfl, _, rfl, E.out⟩
      | false =>
        have E := Lib.hid (show ∀ s ∈ l.take (j + 1), s.key ≠ x.data.toList by
          intro s hs
          rw [List.take_add_one, HN.out] at hs
          rcases List.mem_append.1 hs with h1 | h1
          · exact TA.out s h1
          · simp at h1; subst h1
            intro e
            have : s.name.toList = x.toList := by rw [ByteArray.toList_eq, ByteArray.toList_eq]; exact e
            rw [this] at hb; simp at hb)
        go_wp2
        go_round
        case rel => exact ⟨j + 1, by omega, by go_num, E.out⟩
        case measure => simp [intOf]; omega
    · obtain rfl : j = l.length := by omega
      have E := Lib.hid (show FoundAt l x (-1) from .inl ⟨rfl, by have := TA.out; rwa [List.take_length] at this⟩)
      go_wp2
      go_ret
      exact ⟨rfl, _, rfl, E.out⟩

/-- What FindTable finds. -/
def findT (l : List Tb) (x : ByteArray) : Option Int := if schemaB l = true then fnOf l x.data.toList else none
def fdT (l : List Tb) (x : ByteArray) : Tb := match findT l x with | some v => ⟨x, v⟩ | none => ⟨⟨#[]⟩, 0⟩
def fdB (l : List Tb) (x : ByteArray) : Bool := (findT l x).isSome
theorem findT_no {l : List Tb} (h : schemaB l = false) (x : ByteArray) : findT l x = none := by unfold findT; rw [if_neg (by rw [h]; simp)]
theorem findT_none {l : List Tb} {x : ByteArray} (hs : schemaB l = true) (h : ∀ t ∈ l, t.key ≠ x.data.toList) : findT l x = none := by
  unfold findT; rw [if_pos hs]
  cases hv : fnOf l x.data.toList with
  | none => rfl
  | some v =>
    obtain ⟨t, ht, h1, _⟩ := ((told_self l (schemaB_iff.1 hs).2.2).2 _ _).1 hv
    exact absurd h1 (h t ht)
theorem findT_some {l : List Tb} {x : ByteArray} {i : Nat} {t : Tb} (hs : schemaB l = true) (h : l[i]? = some t) (hx : t.name = x) : findT l x = some t.width := by
  unfold findT; rw [if_pos hs]
  exact ((told_self l (schemaB_iff.1 hs).2.2).2 _ _).2 ⟨t, List.mem_of_getElem? h, by unfold Tb.key; rw [hx], rfl⟩
/-- Both answer so. -/
def FindPostT (w : World) (l : List Tb) (x : ByteArray) (e : Ending) (w' : World) : Prop :=
  e = .returned (.tuple #[.agg #[.string (fdT l x).name, .int .i64 (fdT l x).width], .bool (fdB l x)]) ∧ Below w.heap.size w w'
theorem fdNone {w w' : World} {l : List Tb} {x : ByteArray} {e : Ending} (h : findT l x = none) (he : e = .returned (.tuple #[.agg #[.string ⟨#[]⟩, .int .i64 0], .bool false])) (hb : Below w.heap.size w w') : FindPostT w l x e w' := by
  refine ⟨?_, hb⟩
  rw [he]; unfold fdT fdB; rw [h]; rfl
theorem fdSome {w w' : World} {l : List Tb} {x : ByteArray} {v : Int} {e : Ending} (h : findT l x = some v) (he : e = .returned (.tuple #[.agg #[.string x, .int .i64 v], .bool true])) (hb : Below w.heap.size w w') : FindPostT w l x e w' := by
  refine ⟨?_, hb⟩
  rw [he]; unfold fdT fdB; rw [h]; rfl

theorem Tryz.zeroInt (w : World) : (zeroValue 3).run Tryz.prog w = .ok (.int .i64 0) w := by kernel_rfl

end Go.Proofs.YtanfllednlpbaaaGreat
