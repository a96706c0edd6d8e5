/-
  Contracts of the helpers over slices of bytes: eqByteS, toByteS, markByteS, heldByteS. For every slice of bytes. Append of one number onto a row of the call's own, as a law of the walk; and the contracts of spec.PutNum, spec.l01Bytes, spec.l01Join. Contracts of spec.PutNum, spec.l01Bytes, spec.l01Join.
-/
import Derived.Test.YtfpbhedophlnkaaGreatDoorRows
import Derived.Test.YtfpbhedophlnkaaGreatDoorJR3x
import Derived.Test.YtfpbhedophlnkaaGreatDoorJR5x
import Derived.WalkKit
import Derived.WalkSpells
import Derived.WalkLawsBesides
import Derived.Deep.QuietTactic
import Derived.BigQuiet
namespace Go.Proofs.YtfpbhedophlnkaaGreatDoor
open Go.RowKit
set_option linter.unusedSimpArgs false
set_option linter.unusedVariables false

set_option maxHeartbeats 800000 in
theorem eqByteS_any (a b : Option Addr) (c d : Nat) (l m : List Int) (w : World) (h : Rd w .u8 a l) (k : Rd w .u8 b m) (hn : l.length ≤ maxLen) (hm : m.length ≤ maxLen) :
    Calls Tryz.prog 61 #[.slice a l.length c, .slice b m.length d] w fun e w' => e = .returned (.bool (eqL l m)) ∧ Below w.heap.size w w' := by
  unfold maxLen at hn hm
  by_cases hlen : l.length = m.length
  · have hne : ((l.length : Int) != (m.length : Int)) = false := by simp [hlen]
    have HL := Lib.hid hlen; clear hlen
    rcases h with rfl | ⟨b1, o1, rfl, hc⟩
    · have hm0 : m = [] := List.eq_nil_of_length_eq_zero HL.out.symm
      subst hm0
      clear hne
      go_enter Tryz.func61, Tryz.ntmps61
      go_wp2
      refine wp_loop_rounds 1 ?_; rw [rounds_succ]; go_wp2
      go_ret
      exact ⟨rfl, Below.refl _ _⟩
    · rcases k with rfl | ⟨b2, o2, rfl, kc⟩
      · have hl0 : l = [] := List.eq_nil_of_length_eq_zero HL.out
        subst hl0
        clear hne hc
        go_enter Tryz.func61, Tryz.ntmps61
        go_wp2
        refine wp_loop_rounds 1 ?_; rw [rounds_succ]; go_wp2
        go_ret
        exact ⟨rfl, Below.refl _ _⟩
      · have HC := Lib.hid hc; have KC := Lib.hid kc; clear hc kc
        go_enter Tryz.func61, Tryz.ntmps61
        go_wp2
        go_loopw [5] (fun i wr => ∃ j q : Nat, j ≤ l.length ∧ i = .int .i64 j ∧ l.take j = m.take j ∧ wr = w.drewN q) (fun i _ => l.length - (intOf i).toNat)
        case atStart => exact ⟨0, 0, Nat.zero_le _, rfl, rfl, rfl⟩
        case round =>
          obtain ⟨j, q, hj, rfl, ht, rfl⟩ := hrel
          have HT := Lib.hid ht; clear ht
          by_cases hlt : j < l.length
          · have hlt2 : j < m.length := by have := HL.out; omega
            obtain ⟨x, _, hx, hcx, htx⟩ := Rd.at_ HC.out hlt
            obtain ⟨y, _, hy, hcy, hty⟩ := Rd.at_ KC.out hlt2
            have X := Lib.hid hx; have Y := Lib.hid hy; have TX := Lib.hid htx; have TY := Lib.hid hty
            clear hx hy htx hty
            have i1 : (j : Int) < (l.length : Int) := by omega
            have i2 : (j : Int) < (m.length : Int) := by omega
            by_cases hxy : x = y
            · subst hxy
              have hb : (x != x) = false := by simp
              go_wp2
              go_quiet (fail)
              go_wp2
              go_roundw
              case rel => exact ⟨j + 1, _, by omega, by go_num, by rw [TX.out, TY.out, HT.out], by first | rfl | rw [World.drewN_drewN]⟩
              case measure => simp [intOf]; omega
            · have hb : (x != y) = true := by simp [hxy]
              have HF := Lib.hid (eqL_no hxy X.out Y.out)
              clear hxy
              go_wp2
              go_quiet (fail)
              go_wp2
              go_ret
              exact ⟨ret_bool HF.out.symm, by first | exact below_drewN (Below.refl _ _) _ | exact below_drewN (below_drewN (Below.refl _ _) _) _⟩
          · go_wp2
            go_ret
            exact ⟨ret_bool (eqL_yes HL.out (by omega) HT.out).symm, below_drewN (Below.refl _ _) _⟩
  · have hne : ((l.length : Int) != (m.length : Int)) = true := by simp; omega
    have HF : Hid (eqL l m = false) := by
      show eqL l m = false
      unfold eqL; simp; rintro rfl; exact hlen rfl
    go_enter Tryz.func61, Tryz.ntmps61
    go_wp2
    go_ret
    exact ⟨ret_bool HF.out.symm, Below.refl _ _⟩

theorem Tryz.infoU8 : (Tryz.prog.info? 5).map (fun i => (i.zero, i.size, i.bytes)) = some (some (.int .u8 0), 1, 1) := by kernel_rfl
set_option maxHeartbeats 800000 in
theorem toByteS_any (a : Option Addr) (c : Nat) (l : List Int) (w : World) (h : Rd w .u8 a l) (hn : l.length ≤ 281474976710656) :
    Calls Tryz.prog 59 #[.slice a l.length c] w (Made w 5 .u8 l) := by
  obtain ⟨i0, hi, hz0, hz1, hz2⟩ := info_parts Tryz.infoU8
  have H := Lib.hid h; clear h
  rcases H.out with rfl | ⟨b, off, rfl, _⟩
  · go_enter Tryz.func59, Tryz.ntmps59
    go_wp2_with (at_make; refine wpList_make_full _ rfl (.tmp 6) (.tmp 6) 22 rfl w.heap.size 5 i0 (.int .u8 0) 1 Tryz.underlying22 hi hz0 hz1 .i64 .i64 _ _ 0 rfl rfl rfl rfl (by omega) (by unfold maxLen; omega) (Nat.le_refl _) ?_; intro w1 hown hgrow)
    refine wp_loop_rounds 1 ?_; rw [rounds_succ]; go_wp2
    go_ret
    rw [made_ints] at hown
    exact ⟨_, _, rfl, hown, below_of_grown hgrow (Nat.le_refl _) (by intro g hg; cases hg)⟩
  · go_enter Tryz.func59, Tryz.ntmps59
    go_wp2_with (at_make; refine wpList_make_full _ rfl (.tmp 6) (.tmp 6) 22 rfl w.heap.size 5 i0 (.int .u8 0) 1 Tryz.underlying22 hi hz0 hz1 .i64 .i64 _ _ l.length rfl rfl rfl rfl (by rw [hz2]; omega) (by unfold maxLen; omega) (Nat.le_refl _) ?_; intro w1 hown hgrow)
    rw [made_ints, ← fillL_zero] at hown
    have hbel : Below w.heap.size w w1 := below_of_grown hgrow (Nat.le_refl _) (by intro g hg; cases hg)
    clear hgrow hi hz0 hz1 hz2
    go_loopw [4] (fun i wr => ∃ j : Nat, j ≤ l.length ∧ i = .int .i64 j ∧ wr.ownsRow w.heap.size 5 1 (.slice (some ⟨w.heap.size, 0, none⟩) l.length l.length) l.length ((fillL l j).map (Value.int .u8)) ∧ Below w.heap.size w wr) (fun i _ => l.length - (intOf i).toNat)
    case atStart => exact ⟨0, Nat.zero_le _, rfl, hown, hbel⟩
    case round =>
      clear hown hbel
      obtain ⟨j, hj, rfl, ho, hb⟩ := hrel
      by_cases hlt : j < l.length
      · obtain ⟨b', off', heq, hc⟩ : ∃ b' off', (some ⟨b, off, none⟩ : Option Addr) = some ⟨b', off', none⟩ ∧ ∀ i, i < l.length → wr.cell? ⟨b', off' + i, none⟩ = some (.int .u8 (l.getD i 0)) := by
          rcases H.out.below hb with rfl | h'
          · simp at hlt
          · exact h'
        simp only [Option.some.injEq, Addr.mk.injEq, and_true] at heq
        obtain ⟨rfl, rfl⟩ := heq
        obtain ⟨z, _, _, hcz, ht⟩ := Rd.at_ hc hlt
        obtain ⟨y, hy⟩ := toS_cell hlt ho
        have hf := ho.frozenAt j
        have R := Lib.hid (toS_round hlt ht (Nat.le_refl _) ho hb)
        clear ht hc ho hb
        go_wp2
        go_roundw
        case rel => exact ⟨j + 1, by omega, by go_num, R.out.1, R.out.2⟩
        case measure => simp [intOf]; omega
      · go_wp2
        go_ret
        refine ⟨_, _, rfl, ?_, hb⟩
        rw [fillL_all l j (by omega)] at ho
        exact ho

set_option maxHeartbeats 800000 in
theorem markByteS_any (base : Nat) (ao : Option Addr) (c : Nat) (l : List Int) (m : Int) (w : World) (h : Own w base 5 .u8 ao c l) (h0 : 0 ≤ m) (hm : m + l.length ≤ 4611686018427387904) :
    Calls Tryz.prog 62 #[.slice ao l.length c, .int .i64 m] w (Marked w IntKind.u8.wrap .u8 ao l.length m) := by
  rcases h.form with ⟨rfl, rfl, rfl⟩ | ⟨g, rfl, _⟩
  · go_enter Tryz.func62, Tryz.ntmps62
    go_wp2
    refine wp_loop_rounds 1 ?_; rw [rounds_succ]; go_wp2
    go_ret
    exact ⟨ret_int (by simp), .inl rfl, World.grownBy.refl _ _⟩
  · have hs : MarkRel w w base 5 .u8 IntKind.u8.wrap m g c l 0 := ⟨by have h' := h; unfold Own at h'; simpa [marksL] using h', World.grownBy.refl _ _⟩
    clear h
    go_enter Tryz.func62, Tryz.ntmps62
    go_wp2
    go_loopw [1, 5] (fun q i wr => ∃ j : Nat, j ≤ l.length ∧ i = .int .i64 j ∧ q = .int .i64 (m + j) ∧ MarkRel w wr base 5 .u8 IntKind.u8.wrap m g c l j) (fun _ i _ => l.length - (intOf i).toNat)
    case atStart => exact ⟨0, Nat.zero_le _, rfl, by simp, hs⟩
    case round =>
      clear hs
      obtain ⟨j, hj, rfl, rfl, hr⟩ := hrel
      by_cases hlt : j < l.length
      · obtain ⟨y, hy⟩ := hr.cell hlt
        have hf := hr.1.frozenAt j
        have R := Lib.hid (hr.step hlt)
        clear hr
        go_wp2
        go_roundw
        case rel => exact ⟨j + 1, by omega, by go_num, by go_num, R.out⟩
        case measure => simp [intOf]; omega
      · have e : j = l.length := by omega
        have D := Lib.hid (hr.done e)
        have G := Lib.hid hr.2
        clear hr
        subst e
        go_wp2
        go_ret
        exact ⟨rfl, D.out, G.out⟩

end Go.Proofs.YtfpbhedophlnkaaGreatDoor
namespace Go.Proofs.YtfpbhedophlnkaaGreatDoor
open Go.RowKit
set_option linter.unusedSimpArgs false
set_option linter.unusedVariables false

theorem own_slice {w : World} {base : Nat} {e : TypeId} {v : Value} {n : Nat} {xs : List Value} (h : w.ownsRow base e 1 v n xs) : ∃ ao c, v = .slice ao n c := by
  rcases h.2 with ⟨rfl, rfl⟩ | ⟨g, cap, _, rfl, _⟩
  · exact ⟨_, _, rfl⟩
  · exact ⟨_, _, rfl⟩

theorem wpList_append1 {P : Program} (w : World) {ops : Array Oper} {rest : List Oper} {o : Oper} {a : Act} {Q : Exit → Act → World → Prop} (hgd : o.guard = none) (s x : Operand) (t : TypeId)
    (ho : o.op = .call { callee := .builtin .append, args := #[s, x], argTypes := #[t, t] })
    (base : Nat) (e : TypeId) (k : IntKind) (bytes : Nat) (ht : P.underlying t = some (.slice e)) (hinfo : (P.info? e).map (fun i => (i.zero, i.size, i.bytes)) = some (some (.int k 0), 1, bytes))
    (ao : Option Addr) (c n : Nat) (l : List Int) (hs : a.eval s = .slice ao n c) (hn : n = l.length) (hown : Own w base e k ao c l)
    (g cx : Nat) (z : Int) (hx : a.eval x = .slice (some ⟨g, 0, none⟩) 1 cx) (hc : w.cell? ⟨g, 0, none⟩ = some (.int k z))
    (h63 : l.length + 1 ≤ maxLen) (hbytes : (l.length + 1) * bytes ≤ 140737488355328) (hbase : base ≤ w.heap.size)
    (h : ∀ ao' c' w', Own w' base e k ao' c' (l ++ [z]) → w.grownBy w' (ao.map (·.block)) → wpList P ops Q rest (a.put o.dst (.slice ao' (l.length + 1) c')) w') : wpList P ops Q (o :: rest) a w := by
  subst hn
  obtain ⟨i, hi, hz, hsize, hby⟩ := info_parts hinfo
  refine wpList_append_own (P := P) w hgd s x t ho base e i (.int k 0) 1 bytes ht hi hz hsize hby rfl (by decide) _ _ _ hs hown ⟨g, 0, none⟩ 1 cx [.int k z] hx rfl ?_ ?_ h63 hbytes hbase ?_
  · intro j u hj
    match j, hj with
    | 0, hj => simp at hj; subst hj; simpa [Addr.add] using hc
  · intro u hu; simp at hu; subst hu; rfl
  · intro v' w' hown' hgrow _
    obtain ⟨ao', c', rfl⟩ := own_slice hown'
    refine h ao' c' w' ?_ ?_
    · unfold Own; simpa using hown'
    · cases ao <;> exact hgrow

def enc (n : Nat) : List Int := if n < 128 then [(n : Int)] else (128 + (n : Int) % 128) :: enc (n / 128)
termination_by n
decreasing_by omega
theorem enc_lt {n : Nat} (h : n < 128) : enc n = [(n : Int)] := by rw [enc, if_pos h]
theorem enc_ge {n : Nat} (h : 128 ≤ n) : enc n = (128 + (n : Int) % 128) :: enc (n / 128) := by rw [enc, if_neg (by omega)]
theorem enc_by (n : Nat) : By (enc n) := by
  induction n using Nat.strongRecOn with
  | _ n ih =>
    by_cases h : n < 128
    · rw [enc_lt h]; exact By.one (by omega) (by omega)
    · rw [enc_ge (by omega)]
      intro z hz
      rcases List.mem_cons.1 hz with rfl | hz
      · omega
      · exact ih (n / 128) (by omega) z hz
theorem enc_len (n : Nat) (h : n ≤ 2097151) : 1 ≤ (enc n).length ∧ (enc n).length ≤ 3 := by
  by_cases h1 : n < 128
  · rw [enc_lt h1]; simp
  · rw [enc_ge (by omega)]
    by_cases h2 : n / 128 < 128
    · rw [enc_lt h2]; simp
    · rw [enc_ge (by omega), enc_lt (by omega)]; simp
def fold (x : Int) : Nat := if 0 ≤ x then (2 * x).toNat else (-2 * x - 1).toNat
def isN (x : Int) : Bool := decide (-1000000 ≤ x) && decide (x ≤ 1000000)
theorem isN_of {x : Int} (h : isN x = true) : -1000000 ≤ x ∧ x ≤ 1000000 := by unfold isN at h; simpa using h
theorem isN_mk {x : Int} (h : -1000000 ≤ x ∧ x ≤ 1000000) : isN x = true := by unfold isN; simpa using h
theorem isN_not {x : Int} (h : ¬ (-1000000 ≤ x ∧ x ≤ 1000000)) : isN x = false := by
  cases hc : isN x with
  | false => rfl
  | true => exact absurd (isN_of hc) h
theorem fold_le {x : Int} (h : -1000000 ≤ x ∧ x ≤ 1000000) : fold x ≤ 2000000 := by unfold fold; split <;> omega
def putN (x : Int) : List Int := if isN x then enc (fold x) else []
theorem putN_by (x : Int) : By (putN x) := by unfold putN; split; exact enc_by _; exact By.nil
theorem putN_len (x : Int) : (putN x).length ≤ 3 := by
  unfold putN; split
  · rename_i h; exact (enc_len _ (by have := fold_le (isN_of h); omega)).2
  · simp

theorem l01Number_t (x : Int) (w : World) (h : -1000000 ≤ x ∧ x ≤ 1000000) : Calls Tryz.prog 188 #[.int .i64 x] w fun e w' => e = .returned (.bool true) ∧ w = w' := by
  go_enter Tryz.func188, Tryz.ntmps188
  go_wp2
  go_ret
  exact ⟨rfl, rfl⟩
theorem l01Number_f (x : Int) (w : World) (h : ¬ (-1000000 ≤ x ∧ x ≤ 1000000)) : Calls Tryz.prog 188 #[.int .i64 x] w fun e w' => e = .returned (.bool false) ∧ w = w' := by
  by_cases h1 : -1000000 ≤ x
  · have h2 : ¬ x ≤ 1000000 := by omega
    go_enter Tryz.func188, Tryz.ntmps188
    go_wp2
    go_ret
    exact ⟨rfl, rfl⟩
  · have h3 : decide (-1000000 ≤ x) = false := by simp; omega
    go_enter Tryz.func188, Tryz.ntmps188
    go_wp2
    go_ret
    exact ⟨rfl, rfl⟩
end Go.Proofs.YtfpbhedophlnkaaGreatDoor
namespace Go.Proofs.YtfpbhedophlnkaaGreatDoor
open Go.RowKit
set_option linter.unusedSimpArgs false
set_option linter.unusedVariables false

/-- Behind 'append(out, x)': x lay in a block of its own. -/
theorem below_app1 {w wr w1 : World} {e : TypeId} {k : IntKind} {ao : Option Addr} {c : Nat} {l : List Int} {o : Obj} (hb : Below w.heap.size w wr) (ho : Own wr w.heap.size e k ao c l) (hg : (wr.alloc o).grownBy w1 (ao.map (·.block))) : Below w.heap.size w w1 := by
  refine (hb.alloc hb.size o).grown hg (by have := hb.size; simp; omega) ?_
  intro g hg'
  rcases ao with _ | a
  · cases hg'
  · simp at hg'; subst hg'; exact (ho.lt a rfl).1

def PutRel (w wr : World) (e : TypeId) (u0 : Nat) (v q : Value) : Prop :=
  ∃ (ao : Option Addr) (c : Nat) (acc : List Int) (u : Nat), v = .slice ao acc.length c ∧ q = .int .i64 u ∧ u ≤ 2000000 ∧ Own wr w.heap.size e .u8 ao c acc ∧ acc ++ enc u = enc u0 ∧ Below w.heap.size w wr
theorem putRel_step {w wr w1 : World} {e : TypeId} {u0 u : Nat} {ao ao' : Option Addr} {c c' : Nat} {acc : List Int} {o : Obj} {z : Int} (hz : z = 128 + (u : Int) % 128) (h128 : 128 ≤ u) (hu : u ≤ 2000000)
    (he : acc ++ enc u = enc u0) (ho : Own wr w.heap.size e .u8 ao c acc) (hb : Below w.heap.size w wr) (ho' : Own w1 w.heap.size e .u8 ao' c' (acc ++ [z])) (hg : (wr.alloc o).grownBy w1 (ao.map (·.block))) :
    PutRel w w1 e u0 (.slice ao' (acc.length + 1) c') (.int .i64 ((u : Int) / 128)) := by
  subst hz
  refine ⟨ao', c', acc ++ [128 + (u : Int) % 128], u / 128, by simp, by simp, by omega, ho', ?_, below_app1 hb ho hg⟩
  rw [List.append_assoc, ← he, enc_ge h128]; rfl
theorem acc_len {acc : List Int} {u u0 : Nat} (h : acc ++ enc u = enc u0) (h0 : u0 ≤ 2000000) : acc.length ≤ 3 := by
  have := congrArg List.length h
  have := (enc_len u0 (by omega)).2
  simp at *; omega

theorem base_le {w wr : World} {o : Obj} (hb : Below w.heap.size w wr) : w.heap.size ≤ (wr.alloc o).heap.size := by have := hb.size; simp; omega

set_option maxRecDepth 100000 in
set_option maxHeartbeats 800000 in
theorem specPutNum_any (x : Int) (w : World) : Calls Tryz.prog 113 #[.int .i64 x] w (Made w 5 .u8 (putN x)) := by
  by_cases hx : -1000000 ≤ x ∧ x ≤ 1000000
  · have hfold := fold_le hx
    rw [show putN x = enc (fold x) by unfold putN; rw [isN_mk hx]; rfl]
    obtain ⟨u0, hu0⟩ : ∃ u0 : Nat, u0 = fold x := ⟨_, rfl⟩
    rw [← hu0] at hfold ⊢
    have hst : Own (w.alloc (Obj.cells #[] 5)) w.heap.size 5 .u8 (some ⟨w.heap.size, 0, none⟩) 0 [] := World.ownsRow_lit w #[] 0 (Nat.le_refl _) (Nat.zero_le _) rfl
    have HST := Lib.hid hst; clear hst
    have HF := Lib.hid hfold
    have hf' : (u0 : Int) ≤ 2000000 := by omega
    rcases Int.lt_or_le x 0 with h0 | h0
    · have hu : -2 * x - 1 = (u0 : Int) := by rw [hu0]; unfold fold; rw [if_neg (by omega)]; omega
      have hd : decide (x < 0) = true := by simp; omega
      clear hu0 hfold
      go_enter Tryz.func113, Tryz.ntmps113
      go_wp2_with (go_at_call 188; refine (l01Number_t _ _ hx).mono ?_; rintro e w' ⟨rfl, rfl⟩)
      clear hu hx
      go_loopw [3, 4] (fun v q wr => PutRel w wr 5 u0 v q) (fun _ q _ => (intOf q).toNat)
      case atStart => exact ⟨_, _, [], u0, rfl, rfl, HF.out, HST.out, rfl, (Below.refl _ _).alloc (Nat.le_refl _) _⟩
      case round =>
        obtain ⟨ao, c, acc, u, rfl, rfl, hu, ho, he, hb⟩ := hrel
        have hal := acc_len he HF.out
        have HE := Lib.hid he; have HO := Lib.hid ho; have HB := Lib.hid hb
        have hu' : (u : Int) ≤ 2000000 := by omega
        have HU := Lib.hid hu; clear hu he ho hb
        by_cases h128 : 128 ≤ u
        · have h128' : (128 : Int) ≤ u := by omega
          go_wp2_with (at_builtin; refine wpList_append1 _ rfl (.tmp 18) (.tmp 23) 22 rfl w.heap.size 5 .u8 1 Tryz.underlying22 Tryz.infoU8 ao c acc.length acc rfl rfl (HO.out.alloc _) wr.heap.size 1 (128 + (u : Int) % 128) rfl (cell_one _ _ _) (by unfold maxLen; omega) (by omega) (base_le HB.out) ?_; intro ao' c' w1 ho' hg')
          go_roundw
          case rel => exact putRel_step rfl h128 HU.out HE.out HO.out HB.out ho' hg'
          case measure => simp [intOf]; omega
        · have h128' : (u : Int) < 128 := by omega
          clear h128 hu' hf'
          go_wp2_with (at_builtin; refine wpList_append1 _ rfl (.tmp 27) (.tmp 30) 22 rfl w.heap.size 5 .u8 1 Tryz.underlying22 Tryz.infoU8 ao c acc.length acc rfl rfl (HO.out.alloc _) wr.heap.size 1 (u : Int) rfl (cell_one _ _ _) (by unfold maxLen; omega) (by omega) (base_le HB.out) ?_; intro ao' c' w1 ho' hg')
          go_ret
          refine ⟨ao', c', ?_, ?_, below_app1 HB.out HO.out hg'⟩
          · rw [← HE.out, enc_lt (by omega)]; simp
          · rw [← HE.out, enc_lt (by omega)]; exact ho'
    · have hu : 2 * x = (u0 : Int) := by rw [hu0]; unfold fold; rw [if_pos h0]; omega
      have hd : decide (x < 0) = false := by simp; omega
      clear hu0 hfold
      go_enter Tryz.func113, Tryz.ntmps113
      go_wp2_with (go_at_call 188; refine (l01Number_t _ _ hx).mono ?_; rintro e w' ⟨rfl, rfl⟩)
      clear hu hx
      go_loopw [3, 4] (fun v q wr => PutRel w wr 5 u0 v q) (fun _ q _ => (intOf q).toNat)
      case atStart => exact ⟨_, _, [], u0, rfl, rfl, HF.out, HST.out, rfl, (Below.refl _ _).alloc (Nat.le_refl _) _⟩
      case round =>
        obtain ⟨ao, c, acc, u, rfl, rfl, hu, ho, he, hb⟩ := hrel
        have hal := acc_len he HF.out
        have HE := Lib.hid he; have HO := Lib.hid ho; have HB := Lib.hid hb
        have hu' : (u : Int) ≤ 2000000 := by omega
        have HU := Lib.hid hu; clear hu he ho hb
        by_cases h128 : 128 ≤ u
        · have h128' : (128 : Int) ≤ u := by omega
          go_wp2_with (at_builtin; refine wpList_append1 _ rfl (.tmp 18) (.tmp 23) 22 rfl w.heap.size 5 .u8 1 Tryz.underlying22 Tryz.infoU8 ao c acc.length acc rfl rfl (HO.out.alloc _) wr.heap.size 1 (128 + (u : Int) % 128) rfl (cell_one _ _ _) (by unfold maxLen; omega) (by omega) (base_le HB.out) ?_; intro ao' c' w1 ho' hg')
          go_roundw
          case rel => exact putRel_step rfl h128 HU.out HE.out HO.out HB.out ho' hg'
          case measure => simp [intOf]; omega
        · have h128' : (u : Int) < 128 := by omega
          clear h128 hu' hf'
          go_wp2_with (at_builtin; refine wpList_append1 _ rfl (.tmp 27) (.tmp 30) 22 rfl w.heap.size 5 .u8 1 Tryz.underlying22 Tryz.infoU8 ao c acc.length acc rfl rfl (HO.out.alloc _) wr.heap.size 1 (u : Int) rfl (cell_one _ _ _) (by unfold maxLen; omega) (by omega) (base_le HB.out) ?_; intro ao' c' w1 ho' hg')
          go_ret
          refine ⟨ao', c', ?_, ?_, below_app1 HB.out HO.out hg'⟩
          · rw [← HE.out, enc_lt (by omega)]; simp
          · rw [← HE.out, enc_lt (by omega)]; exact ho'
  · rw [show putN x = [] by unfold putN; rw [isN_not hx]; rfl]
    have HX := Lib.hid hx; clear hx
    go_enter Tryz.func113, Tryz.ntmps113
    go_wp2_with (go_at_call 188; refine (l01Number_f _ _ HX.out).mono ?_; rintro e w' ⟨rfl, rfl⟩)
    go_ret
    exact ⟨none, 0, rfl, Own.none_, (Below.refl _ _).alloc (Nat.le_refl _) _⟩
end Go.Proofs.YtfpbhedophlnkaaGreatDoor
