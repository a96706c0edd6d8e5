/-
  Contract of impl.numberIn, at every number. For every text that is not too long. Contract of impl.numberIn, at every number, as a schema's and a row's text ask it. For every text that is not too long. Contract of impl.numberIn, as a schema's text asks it. For every text that is not too long. Contracts of markTableS and heldTableS. For every row of tables of the call's own. Contract of spec.ParseSchema. For every text.
-/
import Derived.Test.YtfpbhedophlnkaaGreatDoorJW44x
import Derived.Test.YtfpbhedophlnkaaGreatDoorShelf6
import Derived.Lib.AtoiErrMem
import Derived.Lib.AtoiTie
import Derived.Lib.LaidTab
import Derived.Test.YtfpbhedophlnkaaGreatDoorJW43x
import Derived.Test.YtfpbhedophlnkaaGreatDoorJW5x
import Derived.Deep.RegionWith
import Derived.Test.YtfpbhedophlnkaaGreatDoorJW7x
namespace Go.Proofs.YtfpbhedophlnkaaGreatDoor
open Go.RowKit Go.Shelf
set_option linter.unusedSimpArgs false
set_option linter.unusedVariables false

theorem var_below {P : Program} {w w' : World} {n : String} {cs : Array Value} (h : w.var? P n = some cs) (hb : Below w.heap.size w w') : w'.var? P n = some cs := by
  unfold World.var? at h ⊢
  cases hg : P.globalNamed n with
  | none => simp [hg] at h
  | some g =>
    simp only [hg, Option.bind_some] at h ⊢
    by_cases hlt : g < w.heap.size
    · rw [hb.block g hlt]
      exact h
    · have hn : w.heap[g]? = none := Array.getElem?_eq_none (by omega)
      simp [hn] at h
/-- What reading a number asks of the library's variables. -/
structure GlobN (w : World) : Prop where
  tab : Lib.TabIs Tryz.prog w "internal/strconv.uint64pow10" .u64 Lib.pow10Tab
  syn : ∃ tp p, w.var? Tryz.prog "strconv.ErrSyntax" = some #[.iface tp p]
  rng : ∃ tp p, w.var? Tryz.prog "strconv.ErrRange" = some #[.iface tp p]
theorem GlobN.below {w w' : World} (h : GlobN w) (hb : Below w.heap.size w w') : GlobN w' := by
  obtain ⟨tp, p, hs⟩ := h.syn
  obtain ⟨tq, q, hr⟩ := h.rng
  exact ⟨var_below h.tab hb, ⟨tp, p, var_below hs hb⟩, ⟨tq, q, var_below hr hb⟩⟩
theorem isNumB_any (x : Int) (w : World) : Calls Tryz.prog 171 #[.int .i64 x] w fun e w' => e = .returned (.bool (decide (-1000000 ≤ x) && decide (x ≤ 1000000))) ∧ w = w' := by
  by_cases h1 : -1000000 ≤ x
  · by_cases h2 : x ≤ 1000000
    · go_enter Tryz.func171, Tryz.ntmps171
      go_wp2
      go_ret
      exact ⟨ret_bool (by simp [h1, h2]), rfl⟩
    · have h3 : 1000000 < x := by omega
      go_enter Tryz.func171, Tryz.ntmps171
      go_wp2
      go_ret
      exact ⟨ret_bool (by simp [h2]), rfl⟩
  · have h3 : x < -1000000 := by omega
    have h4 : decide (-1000000 ≤ x) = false := by simp; omega
    go_enter Tryz.func171, Tryz.ntmps171
    go_wp2
    go_ret
    exact ⟨ret_bool (by simp), rfl⟩
theorem decFrom_digits : ∀ (l : List UInt8) (acc : Nat), (∀ c ∈ l, 48 ≤ c.toNat ∧ c.toNat ≤ 57) → Lib.decFrom acc l = some (l.foldl (fun a c => 10 * a + (c.toNat - 48)) acc)
  | [], acc, _ => rfl
  | c :: r, acc, h => by
    have hc := h c (by simp)
    have hd : Lib.digitVal c = some (c.toNat - 48) := by simp [Lib.digitVal, hc.1, hc.2]
    unfold Lib.decFrom
    rw [hd]
    simp only [List.foldl_cons]
    rw [decFrom_digits r _ (fun x hx => h x (List.mem_cons_of_mem _ hx)), Nat.mul_comm acc 10]
theorem decNat_dec (u : Nat) : Lib.decNat (Lib.decDigits u) = some u := by
  unfold Lib.decNat
  have h1 := dec_pos u
  have h2 := valD_dec u
  unfold valD at h2
  rw [decFrom_digits _ _ (dec_digit u), h2]
  cases hc : Lib.decDigits u with
  | nil => rw [hc] at h1; simp at h1
  | cons a b => rfl
theorem atoi_all {y : Int} (h1 : -1000000 ≤ y) (h2 : y ≤ 1000000) : Lib.atoiAll (numT y).data.toList = .ok y := by
  have hz := (num_size y h1 h2).2
  rw [← size_list] at hz
  rw [Lib.atoiAll_short _ (by omega), numT_list]
  have key : Lib.atoi (Lib.itoa y) = some y := by
    unfold Lib.itoa
    split
    · have : Lib.atoi (45 :: Lib.decDigits y.natAbs) = (Lib.decNat (Lib.decDigits y.natAbs)).map fun (m : Nat) => -(m : Int) := by
        simp [Lib.atoi]
      rw [this, decNat_dec]
      simp; omega
    · have hp := dec_pos y.toNat
      have hd := dec_digit y.toNat
      have hn := decNat_dec y.toNat
      cases hc : Lib.decDigits y.toNat with
      | nil => rw [hc] at hp; simp at hp
      | cons a b =>
        rw [hc] at hd hn
        have ha := hd a (by simp)
        have e1 : (a == 45) = false := by
          cases hq : a == 45 with
          | false => rfl
          | true => have := eq_of_beq hq; subst this; simp at ha
        have e2 : (a == 43) = false := by
          cases hq : a == 43 with
          | false => rfl
          | true => have := eq_of_beq hq; subst this; simp at ha
        simp only [Lib.atoi, e1, e2, hn]
        simp; omega
  rw [key]; rfl
def NumAll (s : ByteArray) (w : World) (e : Ending) (w' : World) : Prop :=
  Below w.heap.size w w' ∧ ((∃ x : Int, e = .returned (.tuple #[.int .i64 x, .bool true]) ∧ s = numT x ∧ -1000000 ≤ x ∧ x ≤ 1000000) ∨ (e = .returned (.tuple #[.int .i64 0, .bool false]) ∧ ∀ y : Int, -1000000 ≤ y → y ≤ 1000000 → s ≠ numT y))
theorem all_noN {s : ByteArray} {w w' : World} {e : Ending} (he : e = .returned (.tuple #[.int .i64 0, .bool false])) (hb : Below w.heap.size w w') (h : ∀ y : Int, -1000000 ≤ y → y ≤ 1000000 → s ≠ numT y) : NumAll s w e w' :=
  ⟨hb, .inr ⟨he, h⟩⟩
theorem grow_below (w : World) (k : Nat) (os : Array Obj) : Below w.heap.size w (Sort.grow (w.drewN k) os) :=
  ⟨rfl, rfl, rfl, by simp [Sort.grow, World.drewN], fun i hi => by show (w.heap ++ os)[i]? = _; rw [Array.getElem?_append_left hi]⟩

set_option maxRecDepth 100000 in
set_option maxHeartbeats 1600000 in
theorem numberIn_N (s : ByteArray) (w : World) (hs : s.size ≤ 1048576) (hg : GlobN w) :
    Calls Tryz.prog 87 #[.string s] w (NumAll s w) := by
  have HG := Lib.hid hg; clear hg
  rcases hA : Lib.atoiAll s.data.toList with v | _ | _
  · have V := Lib.hid (show ∀ y : Int, -1000000 ≤ y → y ≤ 1000000 → s = numT y → v = y from fun y h1 h2 hy => by rw [hy, atoi_all h1 h2] at hA; injection hA with hA; exact hA.symm)
    have AT := Lib.hid ((Any.strconv_Atoi_ok Tryz.lays172 s (by omega) v hA w).mono (R' := fun e w' => e = .returned (.tuple #[.int .i64 v, .nilIface]) ∧ Below w.heap.size w w') (fun e w' ⟨he, hw⟩ => ⟨he, by
      rcases hw with rfl | ⟨t, rfl⟩
      · exact Below.refl _ _
      · exact Lib.bytesWorld_below _ _ _⟩))
    clear hA
    by_cases hn : -1000000 ≤ v ∧ v ≤ 1000000
    · obtain ⟨hn1, hn2⟩ := hn
      by_cases hq : numT v = s
      · have hs2 : ((numT v).toList == s.toList) = true := by rw [str_same]; simp [hq]
        have hs3 : ((numT v).toList != s.toList) = false := by simp [bne, hs2]
        have HQ := Lib.hid hq; clear hq
        go_enter Tryz.func87, Tryz.ntmps87
        go_wp2_with fail
        refine AT.out.mono ?_
        rintro e w1 ⟨rfl, b1⟩
        have B1 := Lib.hid b1; have G1 := Lib.hid (HG.out.below b1); clear b1
        go_wp2_with (first | (go_at_call 171; refine (isNumB_any _ _).mono ?_; rintro e w' ⟨rfl, rfl⟩) | (go_at_call 83; refine ((Any.strconv_Itoa Tryz.laysM171 v (by omega) (by omega) _ G1.out.tab).mono (R' := fun e w' => e = .returned (.string (numT v)) ∧ Below w1.heap.size w1 w') (fun e w' ⟨he, k, os, hw⟩ => ⟨he, hw ▸ grow_below _ _ _⟩)).mono ?_; rintro e w2 ⟨rfl, b2⟩; have B2 := Lib.hid (below_step B1.out (Nat.le_refl _) b2); clear b2))
        go_ret2
        exact ⟨B2.out, .inl ⟨v, rfl, HQ.out.symm, hn1, hn2⟩⟩
      · have hs2 : ((numT v).toList == s.toList) = false := by rw [str_same]; simp [hq]
        have hs3 : ((numT v).toList != s.toList) = true := by simp [bne, hs2]
        have NO := Lib.hid (show ∀ y : Int, -1000000 ≤ y → y ≤ 1000000 → s ≠ numT y from fun y h1 h2 hy => hq (by rw [V.out y h1 h2 hy, hy]))
        clear hq
        go_enter Tryz.func87, Tryz.ntmps87
        go_wp2_with fail
        refine AT.out.mono ?_
        rintro e w1 ⟨rfl, b1⟩
        have B1 := Lib.hid b1; have G1 := Lib.hid (HG.out.below b1); clear b1
        go_wp2_with (first | (go_at_call 171; refine (isNumB_any _ _).mono ?_; rintro e w' ⟨rfl, rfl⟩) | (go_at_call 83; refine ((Any.strconv_Itoa Tryz.laysM171 v (by omega) (by omega) _ G1.out.tab).mono (R' := fun e w' => e = .returned (.string (numT v)) ∧ Below w1.heap.size w1 w') (fun e w' ⟨he, k, os, hw⟩ => ⟨he, hw ▸ grow_below _ _ _⟩)).mono ?_; rintro e w2 ⟨rfl, b2⟩; have B2 := Lib.hid (below_step B1.out (Nat.le_refl _) b2); clear b2))
        go_ret2
        exact all_noN rfl B2.out NO.out
    · have NO := Lib.hid (show ∀ y : Int, -1000000 ≤ y → y ≤ 1000000 → s ≠ numT y from fun y h1 h2 hy => hn (by rw [V.out y h1 h2 hy]; omega))
      have HB := Lib.hid (show (decide (-1000000 ≤ v) && decide (v ≤ 1000000)) = false by simp; omega)
      clear hn
      go_enter Tryz.func87, Tryz.ntmps87
      go_wp2_with fail
      refine AT.out.mono ?_
      rintro e w1 ⟨rfl, b1⟩
      have B1 := Lib.hid b1; clear b1
      go_wp2_with (go_at_call 171; refine (isNumB_any _ _).mono ?_; rintro e w' ⟨rfl, rfl⟩; rw [HB.out])
      go_ret2
      exact all_noN rfl B1.out NO.out
  · obtain ⟨tp, p, hv⟩ := HG.out.syn
    have NO := Lib.hid (show ∀ y : Int, -1000000 ≤ y → y ≤ 1000000 → s ≠ numT y from fun y h1 h2 hy => by rw [hy, atoi_all h1 h2] at hA; cases hA)
    have AT := Lib.hid (Any.strconv_Atoi_syntax_var Tryz.lays172 s (by omega) hA tp p w hv)
    clear hA hv
    go_enter Tryz.func87, Tryz.ntmps87
    go_wp2_with fail
    refine AT.out.mono ?_
    rintro e w1 ⟨N, rfl, _, _, b1⟩
    have B1 := Lib.hid b1; clear b1
    go_wp2_with fail
    go_ret2
    exact all_noN rfl B1.out NO.out
  · obtain ⟨tp, p, hv⟩ := HG.out.rng
    have NO := Lib.hid (show ∀ y : Int, -1000000 ≤ y → y ≤ 1000000 → s ≠ numT y from fun y h1 h2 hy => by rw [hy, atoi_all h1 h2] at hA; cases hA)
    have AT := Lib.hid (Any.strconv_Atoi_range_var Tryz.lays172 s (by omega) hA tp p w hv)
    clear hA hv
    generalize Lib.atoiSat s.data.toList = sat at AT
    go_enter Tryz.func87, Tryz.ntmps87
    go_wp2_with fail
    refine AT.out.mono ?_
    rintro e w1 ⟨N, rfl, _, _, b1⟩
    have B1 := Lib.hid b1; clear b1
    go_wp2_with fail
    go_ret2
    exact all_noN rfl B1.out NO.out
end Go.Proofs.YtfpbhedophlnkaaGreatDoor
namespace Go.Proofs.YtfpbhedophlnkaaGreatDoor
open Go.RowKit Go.Shelf
set_option linter.unusedSimpArgs false
set_option linter.unusedVariables false

/-- What the walk asks of the library's variables. -/
structure Glob (w : World) : Prop where
  tab : Lib.TabIs Tryz.prog w "internal/strconv.uint64pow10" .u64 Lib.pow10Tab
  syn : ∃ tp p, w.var? Tryz.prog "strconv.ErrSyntax" = some #[.iface tp p]
  rng : ∃ tp p, w.var? Tryz.prog "strconv.ErrRange" = some #[.iface tp p]
  mxl : ∃ m, w.cell? ⟨Tryz.lays147_ren.g 1, 0, none⟩ = some (.int .i64 m)
theorem Glob.below {w w' : World} (h : Glob w) (hb : Below w.heap.size w w') : Glob w' := by
  obtain ⟨tp, p, hs⟩ := h.syn
  obtain ⟨tq, q, hr⟩ := h.rng
  obtain ⟨m, hm⟩ := h.mxl
  exact ⟨var_below h.tab hb, ⟨tp, p, var_below hs hb⟩, ⟨tq, q, var_below hr hb⟩, ⟨m, (hb.cell (World.block_lt_of_cell? w _ hm)).trans hm⟩⟩
theorem Glob.n {w : World} (h : Glob w) : GlobN w := ⟨h.tab, h.syn, h.rng⟩
theorem numberIn_all (s : ByteArray) (w : World) (hs : s.size ≤ 1048576) (hg : Glob w) :
    Calls Tryz.prog 87 #[.string s] w (NumAll s w) := numberIn_N s w hs hg.n
end Go.Proofs.YtfpbhedophlnkaaGreatDoor
namespace Go.Proofs.YtfpbhedophlnkaaGreatDoor
open Go.RowKit Go.Shelf
set_option linter.unusedSimpArgs false
set_option linter.unusedVariables false

def NumPostR (s : ByteArray) (w : World) (e : Ending) (w' : World) : Prop :=
  ∃ (x : Int) (ok : Bool), e = .returned (.tuple #[.int .i64 x, .bool ok]) ∧ -1000000 ≤ x ∧ x ≤ 1000000 ∧ Below w.heap.size w w' ∧ ∀ y : Int, 1 ≤ y → y ≤ 6 → s = numT y → x = y
theorem numberIn_any (s : ByteArray) (w : World) (hs : s.size ≤ 1048576) (hg : Glob w) :
    Calls Tryz.prog 87 #[.string s] w (NumPostR s w) :=
  (numberIn_all s w hs hg).mono fun e w' ⟨hb, h⟩ => by
    rcases h with ⟨x, he, hx, h1, h2⟩ | ⟨he, h⟩
    · exact ⟨x, true, he, h1, h2, hb, fun y _ _ hy => numT_inj (hx.symm.trans hy)⟩
    · exact ⟨0, false, he, by omega, by omega, hb, fun y h1 h2 hy => absurd hy (h y (by omega) (by omega))⟩
end Go.Proofs.YtfpbhedophlnkaaGreatDoor
namespace Go.Proofs.YtfpbhedophlnkaaGreatDoor
open Go.RowKit
set_option linter.unusedSimpArgs false
set_option linter.unusedVariables false

/-- What marking lays into n tables from the number m on. -/
def marksT (m : Int) (n : Nat) : List Tb := (List.range n).map fun (i : Nat) => ⟨mtext (m + 2 * (i : Int)), m + 2 * (i : Int) + 1⟩
theorem marksT_len (m : Int) (n : Nat) : (marksT m n).length = n := by simp [marksT]
theorem marksT_succ (m : Int) (n : Nat) : marksT m (n + 1) = marksT m n ++ [⟨mtext (m + 2 * (n : Int)), m + 2 * (n : Int) + 1⟩] := by simp [marksT, List.range_succ]
theorem marksT_get (m : Int) (n i : Nat) (h : i < n) : (marksT m n)[i]? = some ⟨mtext (m + 2 * (i : Int)), m + 2 * (i : Int) + 1⟩ := by simp [marksT, h]
theorem marksT_step (m : Int) (l : List Tb) (j : Nat) (h : j < l.length) :
    ((tbC (marksT m j ++ l.drop j)).set (j * 2) (.string (mtext (m + 2 * (j : Int))))).set (j * 2 + 1) (.int .i64 (m + 2 * (j : Int) + 1)) = tbC (marksT m (j + 1) ++ l.drop (j + 1)) := by
  rw [tbC_app, List.drop_eq_getElem_cons h, marksT_succ, List.append_assoc, tbC_app]
  have hl : (tbC (marksT m j)).length = j * 2 := by rw [tbC_len, marksT_len]
  rw [List.set_append_right _ _ (by omega), List.set_append_right _ _ (by omega), hl, Nat.sub_self, show j * 2 + 1 - j * 2 = 1 by omega]
  rfl
/-- A row of tables, by its cells alone. -/
def RowT (w : World) (base : Nat) (ao : Option Addr) (c : Nat) (l : List Tb) : Prop := w.ownsRow base 99 2 (.slice ao l.length c) l.length (tbC l)
def MarkedT (w : World) (base : Nat) (ao : Option Addr) (c n : Nat) (m : Int) (en : Ending) (w' : World) : Prop :=
  en = .returned (.int .i64 (m + 2 * n)) ∧ RowT w' base ao c (marksT m n) ∧ w.grownBy w' (ao.map (·.block))
def MarkRelT (w wr : World) (base : Nat) (m : Int) (g c : Nat) (l : List Tb) (j : Nat) : Prop :=
  wr.ownsRow base 99 2 (.slice (some ⟨g, 0, none⟩) l.length c) l.length (tbC (marksT m j ++ l.drop j)) ∧ w.grownBy wr (some g)

theorem RowT.form {w : World} {base : Nat} {ao : Option Addr} {c : Nat} {l : List Tb} (h : RowT w base ao c l) : (ao = none ∧ l = []) ∨ ∃ g, ao = some ⟨g, 0, none⟩ ∧ base ≤ g ∧ g < w.heap.size := by
  rcases h.2 with ⟨hv, hn⟩ | ⟨g, cap, cur, hv, hb, hg, _⟩
  · simp only [Value.slice.injEq] at hv
    exact .inl ⟨hv.1, List.eq_nil_of_length_eq_zero hn⟩
  · simp only [Value.slice.injEq] at hv
    exact .inr ⟨g, hv.1, hb, (Array.getElem?_eq_some_iff.1 hg).1⟩
theorem RowT.below {w w' : World} {base : Nat} {ao : Option Addr} {c : Nat} {l : List Tb} (h : RowT w base ao c l) (hb : Below w.heap.size w w') : RowT w' base ao c l := by
  refine ⟨h.1, ?_⟩
  rcases h.2 with h2 | ⟨g, cap, cur, hv, hb', hg, r⟩
  · exact .inl h2
  · exact .inr ⟨g, cap, cur, hv, hb', (hb.block g (Array.getElem?_eq_some_iff.1 hg).1).trans hg, r⟩

section
variable {w wr w1 : World} {base : Nat} {m : Int} {g c : Nat} {l : List Tb} {j : Nat}
theorem MarkRelT.lt (h : MarkRelT w wr base m g c l j) : g < wr.heap.size := (h.1.lt g rfl).2
theorem MarkRelT.below (h : MarkRelT w wr base m g c l j) (hb : Below wr.heap.size wr w1) : MarkRelT w w1 base m g c l j := by
  have hlt := h.lt
  refine ⟨⟨h.1.1, ?_⟩, ?_⟩
  · rcases h.1.2 with h2 | ⟨g', cap, cur, hv, hb', hg, r⟩
    · exact .inl h2
    · exact .inr ⟨g', cap, cur, hv, hb', (hb.block g' (Array.getElem?_eq_some_iff.1 hg).1).trans hg, r⟩
  · exact ⟨hb.os.trans h.2.os, hb.tape.trans h.2.tape, hb.output.trans h.2.output, Nat.le_trans h.2.size hb.size, fun i hi hne => (hb.block i (Nat.lt_of_lt_of_le hi h.2.size)).trans (h.2.block i hi hne)⟩
theorem MarkRelT.cell (h : MarkRelT w wr base m g c l j) {o : Nat} (ho : o < l.length * 2) : ∃ y, wr.cell? ⟨g, o, none⟩ = some y := by
  have h1 := h.1.cellAt o ho
  have hl : o < (tbC (marksT m j ++ l.drop j)).length := by rw [h.1.1]; exact ho
  exact ⟨_, h1.trans (List.getElem?_eq_getElem hl)⟩
theorem MarkRelT.step (h : MarkRelT w wr base m g c l j) (hj : j < l.length) :
    MarkRelT w ((wr.setCell ⟨g, j * 2, none⟩ (.string (mtext (m + 2 * (j : Int))))).setCell ⟨g, j * 2 + 1, none⟩ (.int .i64 (m + 2 * (j : Int) + 1))) base m g c l (j + 1) := by
  have h1 := h.1.stored (j * 2) (.string (mtext (m + 2 * (j : Int))))
  have h2 := h1.1.stored (j * 2 + 1) (.int .i64 (m + 2 * (j : Int) + 1))
  rw [marksT_step m l j hj] at h2
  have g1 := h1.2
  have g2 := h2.2
  exact ⟨h2.1, ⟨g2.os.trans (g1.os.trans h.2.os), g2.tape.trans (g1.tape.trans h.2.tape), g2.output.trans (g1.output.trans h.2.output), Nat.le_trans h.2.size (Nat.le_trans g1.size g2.size),
    fun i hi hne => (g2.block i (Nat.lt_of_lt_of_le hi (Nat.le_trans h.2.size g1.size)) hne).trans ((g1.block i (Nat.lt_of_lt_of_le hi h.2.size) hne).trans (h.2.block i hi hne))⟩⟩
theorem MarkRelT.done (h : MarkRelT w wr base m g c l j) (hj : j = l.length) : RowT wr base (some ⟨g, 0, none⟩) c (marksT m l.length) := by
  subst hj
  have h1 := h.1
  rw [List.drop_length, List.append_nil] at h1
  unfold RowT
  rw [marksT_len]; exact h1
end

end Go.Proofs.YtfpbhedophlnkaaGreatDoor
namespace Go.Proofs.YtfpbhedophlnkaaGreatDoor
open Go.RowKit
set_option linter.unusedSimpArgs false
set_option linter.unusedVariables false

/-- The call returned a slice of tables of its own beside a bool, and nothing that was there has turned. -/
def MadeTB (w : World) (l : List Tb) (ok : Bool) (en : Ending) (w' : World) : Prop :=
  ∃ ao c, en = .returned (.tuple #[.slice ao l.length c, .bool ok]) ∧ OwnT w' w.heap.size ao c l ∧ Below w.heap.size w w'
/-- What parsing a schema answers. -/
def ParsePost (s : ByteArray) (w : World) (e : Ending) (w' : World) : Prop :=
  ∃ l ok, MadeTB w l ok e w' ∧ ((ok = true ∧ schemaB l = true ∧ s.data.toList = schT l) ∨ (ok = false ∧ l = [] ∧ ∀ m, schemaB m = true → s.data.toList ≠ schT m))
theorem ownT_none {w : World} {base : Nat} : OwnT w base none 0 [] := ⟨World.ownsRow_nil _ _ _ _, by simp⟩
theorem parse_no {s : ByteArray} {w w' : World} {e : Ending} (he : e = .returned (.tuple #[.slice none 0 0, .bool false])) (hb : Below w.heap.size w w') (h : ∀ m, schemaB m = true → s.data.toList ≠ schT m) : ParsePost s w e w' :=
  ⟨[], false, ⟨none, 0, he, ownT_none, hb⟩, .inr ⟨rfl, rfl, h⟩⟩
/-- A row of tables and a row of texts are two rows. -/
theorem own_two {w : World} {b1 b2 : Nat} {ao wa : Option Addr} {c wc : Nat} {l : List Tb} {m : List ByteArray} (h : OwnT w b1 ao c l) (k : OwnS w b2 wa wc m) : ∀ x y, wa = some x → ao = some y → x.block ≠ y.block := by
  intro x y hx hy hxy
  rcases h.1.2 with ⟨hv, _⟩ | ⟨g, cap, cur, hv, _, hg, _⟩
  · simp only [Value.slice.injEq] at hv; rw [hv.1] at hy; cases hy
  · simp only [Value.slice.injEq] at hv
    rcases k.2 with ⟨hv', _⟩ | ⟨g', cap', cur', hv', _, hg', _⟩
    · simp only [Value.slice.injEq] at hv'; rw [hv'.1] at hx; cases hx
    · simp only [Value.slice.injEq] at hv'
      rw [hv'.1] at hx; rw [hv.1] at hy
      cases hx; cases hy
      simp only at hxy
      rw [hxy, hg] at hg'
      simp at hg'
theorem ownT_blk {w : World} {base : Nat} {ao : Option Addr} {c q : Nat} {l : List Tb} (h : OwnT w base ao c l) (hq : ao.map (·.block) = some q) : base ≤ q := by
  rcases h.1.2 with ⟨hv, _⟩ | ⟨g, cap, cur, hv, hb, _⟩
  · simp only [Value.slice.injEq] at hv; rw [hv.1] at hq; cases hq
  · simp only [Value.slice.injEq] at hv; rw [hv.1] at hq; simp at hq; omega
def SPRel (w : World) (s : ByteArray) (wa : Option Addr) (wc : Nat) (wr : World) (o i : Value) : Prop :=
  ∃ (j n : Nat) (ao : Option Addr) (c : Nat) (out : List Tb), o = .slice ao n c ∧ i = .int .i64 j ∧ n = out.length ∧ out.length = j ∧ j ≤ (splitB 32 s.data.toList).length ∧ OwnT wr w.heap.size ao c out ∧ OwnS wr w.heap.size wa wc (partsSP 32 s) ∧ Below w.heap.size w wr ∧ (splitB 32 s.data.toList).take j = out.map wordOf ∧ ∀ t ∈ out, no47 t
theorem sp_next {w w1 : World} {s : ByteArray} {wa : Option Addr} {wc j : Nat} {ao : Option Addr} {c : Nat} {out : List Tb} {x a d : List UInt8} {y : Int} (hx : (splitB 32 s.data.toList)[j]? = some x) (hj : out.length = j) (ht : (splitB 32 s.data.toList).take j = out.map wordOf) (hn : ∀ t ∈ out, no47 t)
    (hs : splitB 47 x = [a, d]) (hd : mkB d = numT y) (ho : OwnT w1 w.heap.size ao c (out ++ [⟨mkB a, y⟩])) (hos : OwnS w1 w.heap.size wa wc (partsSP 32 s)) (hb : Below w.heap.size w w1) :
    SPRel w s wa wc w1 (.slice ao (out.length + 1) c) (.int .i64 ((j : Int) + 1)) := by
  have hd' : d = Lib.itoa y := by
    have := congrArg (fun b : ByteArray => b.data.toList) hd
    simpa [mkB, numT_list] using this
  obtain ⟨h1, h2⟩ := word_of hs hd'
  have hlt := (List.getElem?_eq_some_iff.1 hx).1
  refine ⟨j + 1, _, ao, c, _, rfl, by simp, by simp, by simp; omega, hlt, ho, hos, hb, ?_, ?_⟩
  · rw [List.take_add_one, hx, ht, List.map_append, h1]; rfl
  · intro t htm
    rcases List.mem_append.1 htm with h | h
    · exact hn t h
    · rw [List.mem_singleton] at h; rw [h]; exact h2

theorem schT_nil : schT [] = [] := rfl
theorem schema_nil : schemaB [] = true := schemaB_iff.2 ⟨by simp, by simp, List.Pairwise.nil⟩
theorem schT_small {l : List Tb} (h : schemaB l = true) : (schT l).length ≤ 120 := by
  have := schT_len (schema_all h)
  have := (schemaB_iff.1 h).1
  omega
end Go.Proofs.YtfpbhedophlnkaaGreatDoor
