/-
  Contract of impl.numberIn, at every number. For every text that is not too long. Contract of impl.numberIn, at every number, as a schema's and a row's text ask it. For every text that is not too long. Contract of spec.ParseRow. For every text. Contract of impl.ParseRow. For every text that is not too long.
-/
import Derived.Test.YtfpbhedophlnkaaGreatDoorSRead
import Derived.Test.YtfpbhedophlnkaaGreatDoorShelf6
import Derived.Lib.AtoiErrMem
import Derived.Lib.AtoiTie
import Derived.Lib.LaidTab
import Derived.Test.YtfpbhedophlnkaaGreatDoorJR27x
import Derived.Test.YtfpbhedophlnkaaGreatDoorJR18x
import Derived.Test.YtfpbhedophlnkaaGreatDoorJR51x
namespace Go.Proofs.YtfpbhedophlnkaaGreatDoor
open Go.RowKit Go.Shelf
set_option linter.unusedSimpArgs false
set_option linter.unusedVariables false

theorem var_below {P : Program} {w w' : World} {n : String} {cs : Array Value} (h : w.var? P n = some cs) (hb : Below w.heap.size w w') : w'.var? P n = some cs := by
  unfold World.var? at h ⊢
  cases hg : P.globalNamed n with
  | none => simp [hg] at h
  | some g =>
    simp only [hg, Option.bind_some] at h ⊢
    by_cases hlt : g < w.heap.size
    · rw [hb.block g hlt]
      exact h
    · have hn : w.heap[g]? = none := Array.getElem?_eq_none (by omega)
      simp [hn] at h
/-- What reading a number asks of the library's variables. -/
structure GlobN (w : World) : Prop where
  tab : Lib.TabIs Tryz.prog w "internal/strconv.uint64pow10" .u64 Lib.pow10Tab
  syn : ∃ tp p, w.var? Tryz.prog "strconv.ErrSyntax" = some #[.iface tp p]
  rng : ∃ tp p, w.var? Tryz.prog "strconv.ErrRange" = some #[.iface tp p]
theorem GlobN.below {w w' : World} (h : GlobN w) (hb : Below w.heap.size w w') : GlobN w' := by
  obtain ⟨tp, p, hs⟩ := h.syn
  obtain ⟨tq, q, hr⟩ := h.rng
  exact ⟨var_below h.tab hb, ⟨tp, p, var_below hs hb⟩, ⟨tq, q, var_below hr hb⟩⟩
theorem isNumB_any (x : Int) (w : World) : Calls Tryz.prog 171 #[.int .i64 x] w fun e w' => e = .returned (.bool (decide (-1000000 ≤ x) && decide (x ≤ 1000000))) ∧ w = w' := by
  by_cases h1 : -1000000 ≤ x
  · by_cases h2 : x ≤ 1000000
    · go_enter Tryz.func171, Tryz.ntmps171
      go_wp2
      go_ret
      exact ⟨ret_bool (by simp [h1, h2]), rfl⟩
    · have h3 : 1000000 < x := by omega
      go_enter Tryz.func171, Tryz.ntmps171
      go_wp2
      go_ret
      exact ⟨ret_bool (by simp [h2]), rfl⟩
  · have h3 : x < -1000000 := by omega
    have h4 : decide (-1000000 ≤ x) = false := by simp; omega
    go_enter Tryz.func171, Tryz.ntmps171
    go_wp2
    go_ret
    exact ⟨ret_bool (by simp), rfl⟩
theorem decFrom_digits : ∀ (l : List UInt8) (acc : Nat), (∀ c ∈ l, 48 ≤ c.toNat ∧ c.toNat ≤ 57) → Lib.decFrom acc l = some (l.foldl (fun a c => 10 * a + (c.toNat - 48)) acc)
  | [], acc, _ => rfl
  | c :: r, acc, h => by
    have hc := h c (by simp)
    have hd : Lib.digitVal c = some (c.toNat - 48) := by simp [Lib.digitVal, hc.1, hc.2]
    unfold Lib.decFrom
    rw [hd]
    simp only [List.foldl_cons]
    rw [decFrom_digits r _ (fun x hx => h x (List.mem_cons_of_mem _ hx)), Nat.mul_comm acc 10]
theorem decNat_dec (u : Nat) : Lib.decNat (Lib.decDigits u) = some u := by
  unfold Lib.decNat
  have h1 := dec_pos u
  have h2 := valD_dec u
  unfold valD at h2
  rw [decFrom_digits _ _ (dec_digit u), h2]
  cases hc : Lib.decDigits u with
  | nil => rw [hc] at h1; simp at h1
  | cons a b => rfl
theorem atoi_all {y : Int} (h1 : -1000000 ≤ y) (h2 : y ≤ 1000000) : Lib.atoiAll (numT y).data.toList = .ok y := by
  have hz := (num_size y h1 h2).2
  rw [← size_list] at hz
  rw [Lib.atoiAll_short _ (by omega), numT_list]
  have key : Lib.atoi (Lib.itoa y) = some y := by
    unfold Lib.itoa
    split
    · have : Lib.atoi (45 :: Lib.decDigits y.natAbs) = (Lib.decNat (Lib.decDigits y.natAbs)).map fun (m : Nat) => -(m : Int) := by
        simp [Lib.atoi]
      rw [this, decNat_dec]
      simp; omega
    · have hp := dec_pos y.toNat
      have hd := dec_digit y.toNat
      have hn := decNat_dec y.toNat
      cases hc : Lib.decDigits y.toNat with
      | nil => rw [hc] at hp; simp at hp
      | cons a b =>
        rw [hc] at hd hn
        have ha := hd a (by simp)
        have e1 : (a == 45) = false := by
          cases hq : a == 45 with
          | false => rfl
          | true => have := eq_of_beq hq; subst this; simp at ha
        have e2 : (a == 43) = false := by
          cases hq : a == 43 with
          | false => rfl
          | true => have := eq_of_beq hq; subst this; simp at ha
        simp only [Lib.atoi, e1, e2, hn]
        simp; omega
  rw [key]; rfl
def NumAll (s : ByteArray) (w : World) (e : Ending) (w' : World) : Prop :=
  Below w.heap.size w w' ∧ ((∃ x : Int, e = .returned (.tuple #[.int .i64 x, .bool true]) ∧ s = numT x ∧ -1000000 ≤ x ∧ x ≤ 1000000) ∨ (e = .returned (.tuple #[.int .i64 0, .bool false]) ∧ ∀ y : Int, -1000000 ≤ y → y ≤ 1000000 → s ≠ numT y))
theorem all_noN {s : ByteArray} {w w' : World} {e : Ending} (he : e = .returned (.tuple #[.int .i64 0, .bool false])) (hb : Below w.heap.size w w') (h : ∀ y : Int, -1000000 ≤ y → y ≤ 1000000 → s ≠ numT y) : NumAll s w e w' :=
  ⟨hb, .inr ⟨he, h⟩⟩
theorem grow_below (w : World) (k : Nat) (os : Array Obj) : Below w.heap.size w (Sort.grow (w.drewN k) os) :=
  ⟨rfl, rfl, rfl, by simp [Sort.grow, World.drewN], fun i hi => by show (w.heap ++ os)[i]? = _; rw [Array.getElem?_append_left hi]⟩

set_option maxRecDepth 100000 in
set_option maxHeartbeats 1600000 in
theorem numberIn_N (s : ByteArray) (w : World) (hs : s.size ≤ 1048576) (hg : GlobN w) :
    Calls Tryz.prog 87 #[.string s] w (NumAll s w) := by
  have HG := Lib.hid hg; clear hg
  rcases hA : Lib.atoiAll s.data.toList with v | _ | _
  · have V := Lib.hid (show ∀ y : Int, -1000000 ≤ y → y ≤ 1000000 → s = numT y → v = y from fun y h1 h2 hy => by rw [hy, atoi_all h1 h2] at hA; injection hA with hA; exact hA.symm)
    have AT := Lib.hid ((Any.strconv_Atoi_ok Tryz.lays172 s (by omega) v hA w).mono (R' := fun e w' => e = .returned (.tuple #[.int .i64 v, .nilIface]) ∧ Below w.heap.size w w') (fun e w' ⟨he, hw⟩ => ⟨he, by
      rcases hw with rfl | ⟨t, rfl⟩
      · exact Below.refl _ _
      · exact Lib.bytesWorld_below _ _ _⟩))
    clear hA
    by_cases hn : -1000000 ≤ v ∧ v ≤ 1000000
    · obtain ⟨hn1, hn2⟩ := hn
      by_cases hq : numT v = s
      · have hs2 : ((numT v).toList == s.toList) = true := by rw [str_same]; simp [hq]
        have hs3 : ((numT v).toList != s.toList) = false := by simp [bne, hs2]
        have HQ := Lib.hid hq; clear hq
        go_enter Tryz.func87, Tryz.ntmps87
        go_wp2_with fail
        refine AT.out.mono ?_
        rintro e w1 ⟨rfl, b1⟩
        have B1 := Lib.hid b1; have G1 := Lib.hid (HG.out.below b1); clear b1
        go_wp2_with (first | (go_at_call 171; refine (isNumB_any _ _).mono ?_; rintro e w' ⟨rfl, rfl⟩) | (go_at_call 83; refine ((Any.strconv_Itoa Tryz.laysM171 v (by omega) (by omega) _ G1.out.tab).mono (R' := fun e w' => e = .returned (.string (numT v)) ∧ Below w1.heap.size w1 w') (fun e w' ⟨he, k, os, hw⟩ => ⟨he, hw ▸ grow_below _ _ _⟩)).mono ?_; rintro e w2 ⟨rfl, b2⟩; have B2 := Lib.hid (below_step B1.out (Nat.le_refl _) b2); clear b2))
        go_ret2
        exact ⟨B2.out, .inl ⟨v, rfl, HQ.out.symm, hn1, hn2⟩⟩
      · have hs2 : ((numT v).toList == s.toList) = false := by rw [str_same]; simp [hq]
        have hs3 : ((numT v).toList != s.toList) = true := by simp [bne, hs2]
        have NO := Lib.hid (show ∀ y : Int, -1000000 ≤ y → y ≤ 1000000 → s ≠ numT y from fun y h1 h2 hy => hq (by rw [V.out y h1 h2 hy, hy]))
        clear hq
        go_enter Tryz.func87, Tryz.ntmps87
        go_wp2_with fail
        refine AT.out.mono ?_
        rintro e w1 ⟨rfl, b1⟩
        have B1 := Lib.hid b1; have G1 := Lib.hid (HG.out.below b1); clear b1
        go_wp2_with (first | (go_at_call 171; refine (isNumB_any _ _).mono ?_; rintro e w' ⟨rfl, rfl⟩) | (go_at_call 83; refine ((Any.strconv_Itoa Tryz.laysM171 v (by omega) (by omega) _ G1.out.tab).mono (R' := fun e w' => e = .returned (.string (numT v)) ∧ Below w1.heap.size w1 w') (fun e w' ⟨he, k, os, hw⟩ => ⟨he, hw ▸ grow_below _ _ _⟩)).mono ?_; rintro e w2 ⟨rfl, b2⟩; have B2 := Lib.hid (below_step B1.out (Nat.le_refl _) b2); clear b2))
        go_ret2
        exact all_noN rfl B2.out NO.out
    · have NO := Lib.hid (show ∀ y : Int, -1000000 ≤ y → y ≤ 1000000 → s ≠ numT y from fun y h1 h2 hy => hn (by rw [V.out y h1 h2 hy]; omega))
      have HB := Lib.hid (show (decide (-1000000 ≤ v) && decide (v ≤ 1000000)) = false by simp; omega)
      clear hn
      go_enter Tryz.func87, Tryz.ntmps87
      go_wp2_with fail
      refine AT.out.mono ?_
      rintro e w1 ⟨rfl, b1⟩
      have B1 := Lib.hid b1; clear b1
      go_wp2_with (go_at_call 171; refine (isNumB_any _ _).mono ?_; rintro e w' ⟨rfl, rfl⟩; rw [HB.out])
      go_ret2
      exact all_noN rfl B1.out NO.out
  · obtain ⟨tp, p, hv⟩ := HG.out.syn
    have NO := Lib.hid (show ∀ y : Int, -1000000 ≤ y → y ≤ 1000000 → s ≠ numT y from fun y h1 h2 hy => by rw [hy, atoi_all h1 h2] at hA; cases hA)
    have AT := Lib.hid (Any.strconv_Atoi_syntax_var Tryz.lays172 s (by omega) hA tp p w hv)
    clear hA hv
    go_enter Tryz.func87, Tryz.ntmps87
    go_wp2_with fail
    refine AT.out.mono ?_
    rintro e w1 ⟨N, rfl, _, _, b1⟩
    have B1 := Lib.hid b1; clear b1
    go_wp2_with fail
    go_ret2
    exact all_noN rfl B1.out NO.out
  · obtain ⟨tp, p, hv⟩ := HG.out.rng
    have NO := Lib.hid (show ∀ y : Int, -1000000 ≤ y → y ≤ 1000000 → s ≠ numT y from fun y h1 h2 hy => by rw [hy, atoi_all h1 h2] at hA; cases hA)
    have AT := Lib.hid (Any.strconv_Atoi_range_var Tryz.lays172 s (by omega) hA tp p w hv)
    clear hA hv
    generalize Lib.atoiSat s.data.toList = sat at AT
    go_enter Tryz.func87, Tryz.ntmps87
    go_wp2_with fail
    refine AT.out.mono ?_
    rintro e w1 ⟨N, rfl, _, _, b1⟩
    have B1 := Lib.hid b1; clear b1
    go_wp2_with fail
    go_ret2
    exact all_noN rfl B1.out NO.out
end Go.Proofs.YtfpbhedophlnkaaGreatDoor
namespace Go.Proofs.YtfpbhedophlnkaaGreatDoor
open Go.RowKit Go.Shelf
set_option linter.unusedSimpArgs false
set_option linter.unusedVariables false

/-- What the walk asks of the library's variables. -/
structure Glob (w : World) : Prop where
  tab : Lib.TabIs Tryz.prog w "internal/strconv.uint64pow10" .u64 Lib.pow10Tab
  syn : ∃ tp p, w.var? Tryz.prog "strconv.ErrSyntax" = some #[.iface tp p]
  rng : ∃ tp p, w.var? Tryz.prog "strconv.ErrRange" = some #[.iface tp p]
  mxl : ∃ m, w.cell? ⟨Tryz.lays147_ren.g 1, 0, none⟩ = some (.int .i64 m)
theorem Glob.below {w w' : World} (h : Glob w) (hb : Below w.heap.size w w') : Glob w' := by
  obtain ⟨tp, p, hs⟩ := h.syn
  obtain ⟨tq, q, hr⟩ := h.rng
  obtain ⟨m, hm⟩ := h.mxl
  exact ⟨var_below h.tab hb, ⟨tp, p, var_below hs hb⟩, ⟨tq, q, var_below hr hb⟩, ⟨m, (hb.cell (World.block_lt_of_cell? w _ hm)).trans hm⟩⟩
theorem Glob.n {w : World} (h : Glob w) : GlobN w := ⟨h.tab, h.syn, h.rng⟩
theorem numberIn_all (s : ByteArray) (w : World) (hs : s.size ≤ 1048576) (hg : Glob w) :
    Calls Tryz.prog 87 #[.string s] w (NumAll s w) := numberIn_N s w hs hg.n
end Go.Proofs.YtfpbhedophlnkaaGreatDoor
namespace Go.Proofs.YtfpbhedophlnkaaGreatDoor
open Go.RowKit
set_option linter.unusedSimpArgs false
set_option linter.unusedVariables false

theorem own_twoI {w : World} {b1 b2 : Nat} {ao wa : Option Addr} {c wc : Nat} {l : List Int} {m : List ByteArray} (h : Own w b1 3 .i64 ao c l) (k : OwnS w b2 wa wc m) : ∀ x y, wa = some x → ao = some y → x.block ≠ y.block := by
  intro x y hx hy hxy
  rcases h.2 with ⟨hv, _⟩ | ⟨g, cap, cur, hv, _, hg, _⟩
  · simp only [Value.slice.injEq] at hv; rw [hv.1] at hy; cases hy
  · simp only [Value.slice.injEq] at hv
    rcases k.2 with ⟨hv', _⟩ | ⟨g', cap', cur', hv', _, hg', _⟩
    · simp only [Value.slice.injEq] at hv'; rw [hv'.1] at hx; cases hx
    · simp only [Value.slice.injEq] at hv'
      rw [hv'.1] at hx; rw [hv.1] at hy
      cases hx; cases hy
      simp only at hxy
      rw [hxy, hg] at hg'
      simp at hg'
def SRRel (w : World) (s : ByteArray) (wa : Option Addr) (wc : Nat) (wr : World) (o i : Value) : Prop :=
  ∃ (j n : Nat) (ao : Option Addr) (c : Nat) (out : List Int), o = .slice ao n c ∧ i = .int .i64 j ∧ n = out.length ∧ out.length = j ∧ j ≤ (prt s).length ∧ Own wr w.heap.size 3 .i64 ao c out ∧ OwnS wr w.heap.size wa wc (partsSP 44 s) ∧ Below w.heap.size w wr ∧ (prt s).take j = out.map vL ∧ ∀ z ∈ out, valR z
theorem sr_next {w w1 W : World} {s : ByteArray} {wa : Option Addr} {wc j : Nat} {ao ao' : Option Addr} {c c' : Nat} {out : List Int} {x : List UInt8} {y : Int} (hx : (prt s)[j]? = some x) (hj : out.length = j) (ht : (prt s).take j = out.map vL) (hno : ∀ z ∈ out, valR z)
    (hv : valR y) (hxy : x = vL y) (ho : Own w1 w.heap.size 3 .i64 ao' c' (out ++ [y])) (hs : OwnS W w.heap.size wa wc (partsSP 44 s)) (hoW : Own W w.heap.size 3 .i64 ao c out) (hg : W.grownBy w1 (ao.map (·.block))) (hb : Below w.heap.size w w1) (o : Value) (ho' : o = .slice ao' (out.length + 1) c') :
    SRRel w s wa wc w1 o (.int .i64 ((j : Int) + 1)) := by
  refine ⟨j + 1, out.length + 1, ao', c', out ++ [y], ho', by simp, by simp, by simp; omega, (List.getElem?_eq_some_iff.1 hx).1, ho, hs.apart hg (own_twoI hoW hs), hb, ?_, ?_⟩
  · rw [List.take_add_one, hx, ht, hxy]; simp
  · intro z hz
    rcases List.mem_append.1 hz with h | h
    · exact hno z h
    · simp at h; subst h; exact hv
theorem str_is (s : ByteArray) (l : List UInt8) : (s.toList == l) = decide (s.data.toList = l) := by
  rw [ByteArray.toList_eq]
  cases h : decide (s.data.toList = l) with
  | true => have := of_decide_eq_true h; rw [this]; simp
  | false => have := of_decide_eq_false h; simp [this]
theorem read_cases (s : ByteArray) (w : World) (hs : s.size ≤ maxLen) : Calls Tryz.prog 258 #[.string s] w fun e w' => Below w.heap.size w w' ∧
    ((∃ x : Int, e = .returned (.tuple #[.int .i64 x, .bool true]) ∧ s = numT x ∧ -1000000 ≤ x ∧ x ≤ 1000000) ∨ (∃ x : Int, e = .returned (.tuple #[.int .i64 x, .bool false]) ∧ ∀ y : Int, -1000000 ≤ y → y ≤ 1000000 → s ≠ numT y)) :=
  (read_any s w hs).mono fun e w' ⟨x, ok, he, hb, h1, h2⟩ => ⟨hb, by
    cases ok with
    | true => exact .inl ⟨x, he, h1 rfl⟩
    | false => exact .inr ⟨x, he, h2 rfl⟩⟩

end Go.Proofs.YtfpbhedophlnkaaGreatDoor
namespace Go.Proofs.YtfpbhedophlnkaaGreatDoor
open Go.RowKit Go.Shelf
set_option linter.unusedSimpArgs false
set_option linter.unusedVariables false

theorem splitC_any (s : ByteArray) (w : World) (hs : s.size ≤ 1048576) (hg : Glob w) :
    Calls Tryz.prog 85 #[.string s, .string ⟨#[44]⟩, .int .i64 65] w fun e w' =>
      e = .returned (.slice (some ⟨w.heap.size, 0, none⟩) (cparts s).length (min 65 (s.size + 1))) ∧ w' = w.alloc (.cells (Lib.cellsOf (cparts s) (min 65 (s.size + 1))) 9) := by
  obtain ⟨m, hm⟩ := hg.mxl
  have h := Any.strings_SplitN { Tryz.lays147 with } Tryz.lays147.i9 s ⟨#[44]⟩ 65 m w (by omega) hm (Nat.le_refl _) (by omega) (by omega)
  exact h
theorem cellsC_word (w : World) (WS : List ByteArray) (N : Nat) (t : TypeId) (j : Nat) (x : ByteArray) (h : WS[j]? = some x) : (w.alloc (.cells (Lib.cellsOf WS N) t)).cell? ⟨w.heap.size, j, none⟩ = some (.string x) := by
  rw [World.cell?_alloc_new]
  unfold Lib.cellsOf
  have hl := (List.getElem?_eq_some_iff.1 h).1
  simp [List.getElem?_append_left, hl, h]
  rw [List.getElem?_eq_getElem hl] at h
  injection h
def ValPost (x : List UInt8) (w : World) (e : Ending) (w' : World) : Prop :=
  Below w.heap.size w w' ∧ ((∃ y : Int, e = .returned (.tuple #[.int .i64 y, .bool true]) ∧ valR y ∧ x = vL y) ∨ (∃ y : Int, e = .returned (.tuple #[.int .i64 y, .bool false]) ∧ ∀ z, valR z → x ≠ vL z))
set_option maxRecDepth 100000 in
theorem valueIn_any (x : List UInt8) (w : World) (hs : (mkB x).size ≤ 1048576) (hg : Glob w) :
    Calls Tryz.prog 109 #[.string (mkB x)] w (ValPost x w) := by
  by_cases hm : x = [45]
  · have hm1 : ((mkB x).toList == [45]) = true := by rw [str_is]; simp [mkB, hm]
    have HM := Lib.hid hm; clear hm
    generalize mkB x = T at hm1
    go_enter Tryz.func109, Tryz.ntmps109
    go_wp2_with fail
    go_ret2
    exact ⟨Below.refl _ _, .inl ⟨_, rfl, .inr rfl, HM.out.trans part_none⟩⟩
  · have hm1 : ((mkB x).toList == [45]) = false := by rw [str_is]; simp [mkB, hm]
    have HM := Lib.hid hm; clear hm
    have NI := Lib.hid (numberIn_all (mkB x) w hs hg)
    have HT := Lib.hid (rfl : mkB x = mkB x)
    generalize hT : mkB x = T at hm1 NI HT
    have HT2 := Lib.hid hT; clear hT
    go_enter Tryz.func109, Tryz.ntmps109
    go_wp2_with fail
    refine NI.out.mono ?_
    rintro e w1 ⟨b1, ⟨y, rfl, hy, h1, h2⟩ | ⟨rfl, hn⟩⟩
    · have B1 := Lib.hid b1; have E := Lib.hid (part_num (HT2.out.trans hy) h1 h2); have V := Lib.hid (show valR y from .inl ⟨h1, h2⟩)
      clear b1 hy
      go_wp2_with fail
      go_ret2
      exact ⟨B1.out, .inl ⟨y, rfl, V.out, E.out⟩⟩
    · have B1 := Lib.hid b1; have E := Lib.hid (part_no HM.out (by rw [HT2.out]; exact hn))
      clear b1 hn
      go_wp2_with fail
      go_ret2
      exact ⟨B1.out, .inr ⟨_, rfl, E.out⟩⟩
def IRRel (w1 : World) (s : ByteArray) (wr : World) (o i : Value) : Prop :=
  ∃ (j n : Nat) (ao : Option Addr) (c : Nat) (out : List Int), o = .slice ao n c ∧ i = .int .i64 j ∧ n = out.length ∧ out.length = j ∧ j ≤ (prt s).length ∧ Own wr w1.heap.size 3 .i64 ao c out ∧ Below w1.heap.size w1 wr ∧ (prt s).take j = out.map vL ∧ ∀ z ∈ out, valR z
theorem ir_next {w1 w2 : World} {s : ByteArray} {j : Nat} {ao' : Option Addr} {c' : Nat} {out : List Int} {x : List UInt8} {y : Int} (hx : (prt s)[j]? = some x) (hj : out.length = j) (ht : (prt s).take j = out.map vL) (hno : ∀ z ∈ out, valR z)
    (hv : valR y) (hxy : x = vL y) (ho : Own w2 w1.heap.size 3 .i64 ao' c' (out ++ [y])) (hb : Below w1.heap.size w1 w2) (o : Value) (ho' : o = .slice ao' (out.length + 1) c') :
    IRRel w1 s w2 o (.int .i64 ((j : Int) + 1)) := by
  refine ⟨j + 1, out.length + 1, ao', c', out ++ [y], ho', by simp, by simp, by simp; omega, (List.getElem?_eq_some_iff.1 hx).1, ho, hb, ?_, ?_⟩
  · rw [List.take_add_one, hx, ht, hxy]; simp
  · intro z hz
    rcases List.mem_append.1 hz with h | h
    · exact hno z h
    · simp at h; subst h; exact hv

set_option maxRecDepth 100000 in
set_option maxHeartbeats 4000000 in
theorem implParseRow_any (s : ByteArray) (w : World) (hs : s.size ≤ 1048576) (hg : Glob w) :
    Calls Tryz.prog 29 #[.string s] w (RowPost s w) := by
  by_cases hf : s.data.toList = [40, 41]
  · have hq : (s.toList == [40, 41]) = true := by rw [str_is]; simp [hf]
    have E := Lib.hid hf; clear hf hg
    go_enter Tryz.func29, Tryz.ntmps29
    go_wp2_with fail
    go_ret2
    exact .inl ⟨[], none, 0, rfl, ⟨(fun z h => by cases h), by simp⟩, E.out, Own.none_, Below.refl _ _⟩
  have hq : (s.toList == [40, 41]) = false := by rw [str_is]; simp [hf]
  have NF := Lib.hid hf; clear hf
  have SPL := Lib.hid (splitC_any s w hs hg)
  have HG := Lib.hid hg; clear hg
  by_cases h64 : 64 < (prt s).length
  · have NO := Lib.hid (row_long NF.out h64)
    have L := Lib.hid (cparts_more h64)
    have B := Lib.hid (fun o => (Below.refl w.heap.size w).alloc (Nat.le_refl _) o)
    rw [L.out] at SPL
    generalize min 65 (s.size + 1) = N at SPL
    clear h64
    go_enter Tryz.func29, Tryz.ntmps29
    go_wp2_with fail
    refine SPL.out.mono ?_
    rintro e w1 ⟨rfl, rfl⟩
    go_wp2_with fail
    go_ret2
    exact .inr ⟨rfl, B.out _, NO.out⟩
  have FEW := Lib.hid (cparts_few (show (prt s).length ≤ 64 by omega))
  have PL := Lib.hid (show (cparts s).length = (prt s).length by rw [FEW.out, List.length_map])
  have hpl : (cparts s).length ≤ 64 := by have := PL.out; omega
  have XW := Lib.hid (show ∀ j x, (prt s)[j]? = some x → (cparts s)[j]? = some (mkB x) by intro j x hx; rw [FEW.out, List.getElem?_map, hx]; rfl)
  clear h64 FEW
  generalize min 65 (s.size + 1) = N at SPL
  generalize cparts s = WS at SPL PL hpl XW
  generalize hpn : WS.length = pn at SPL PL hpl
  clear hpn
  go_enter Tryz.func29, Tryz.ntmps29
  go_wp2_with fail
  refine SPL.out.mono ?_
  rintro e w1 ⟨rfl, hw1⟩
  have B01 := Lib.hid (show Below w.heap.size w w1 by rw [hw1]; exact (Below.refl _ _).alloc (Nat.le_refl _) _)
  have WC := Lib.hid (show ∀ j x, (prt s)[j]? = some x → w1.cell? ⟨w.heap.size, j, none⟩ = some (.string (mkB x)) by intro j x hx; rw [hw1]; exact cellsC_word w WS N _ j _ (XW.out j x hx))
  have hz1 : w.heap.size < w1.heap.size := by rw [hw1]; simp
  have P0 := Lib.hid (show IRRel w1 s w1 (.slice none 0 0) (.int .i64 0) from ⟨0, 0, none, 0, [], rfl, rfl, rfl, rfl, Nat.zero_le _, Own.none_, Below.refl _ _, rfl, by simp⟩)
  clear hw1 SPL XW
  have hpl' : (pn : Int) ≤ 64 := by omega
  go_wp2_with fail
  go_loopw [5, 19] (fun o i wr => IRRel w1 s wr o i) (fun _ i _ => pn - (intOf i).toNat)
  case atStart => exact P0.out
  case round =>
    clear P0
    obtain ⟨j, n, ao, c, out, rfl, rfl, hn, hoj, hj, hot, hb, htk, hno⟩ := hrel
    have HN := Lib.hid hn; have HOJ := Lib.hid hoj; have HOT := Lib.hid hot; have HB := Lib.hid hb; have HTK := Lib.hid htk; have HNO := Lib.hid hno
    have hz := hb.size
    have hjp0 : j ≤ pn := by have := PL.out; omega
    have hn2 : n ≤ 64 := by omega
    have hol : out.length ≤ 64 := by omega
    clear hn hoj hot htk hno
    by_cases hlt : j < pn
    · have hlt2 : j < (prt s).length := by have := PL.out; omega
      have hx0 : (prt s)[j]? = some (prt s)[j] := List.getElem?_eq_getElem hlt2
      generalize (prt s)[j] = x at hx0
      have HX := Lib.hid hx0
      have hxl : (mkB x).size ≤ 1048576 := by
        have h1 := split_part_len 44 s.data.toList x (List.mem_of_getElem? hx0)
        rw [size_list] at h1
        rw [mkC_size]; omega
      have hlt' : (j : Int) < (pn : Int) := by omega
      have hc0 := (hb.cell (p := ⟨w.heap.size, j, none⟩) hz1).trans (WC.out j x hx0)
      have GR := Lib.hid (HG.out.below B01.out |>.below hb)
      have VI := Lib.hid (valueIn_any x wr hxl GR.out)
      generalize mkB x = T at hc0 hxl VI
      clear hx0 hb
      go_wp2_with fail
      refine VI.out.mono ?_
      rintro e w2 ⟨b2, ⟨y, rfl, hv, hxy⟩ | ⟨y, rfl, hno⟩⟩
      · have B2 := Lib.hid (below_step HB.out (Nat.le_refl _) b2); have OT2 := Lib.hid (HOT.out.below b2)
        have V := Lib.hid hv; have XY := Lib.hid hxy
        have hz2 := B2.out.size
        clear b2 hv hxy hc0
        go_wp2_with (at_builtin; refine wpList_appendI _ rfl (.tmp 30) (.tmp 32) 47 rfl w1.heap.size 3 Tryz.underlying47 Tryz.infoInt ao c n out rfl HN.out (OT2.out.alloc _) w2.heap.size 1 y rfl (cell_one _ _ _) (by omega) (by simp; omega) ?_; intro ao2 c2 w3 o3 g3; have b3 := below_app B2.out OT2.out g3; have R3 := Lib.hid (ir_next HX.out HOJ.out HTK.out HNO.out V.out XY.out o3 b3 _ rfl); clear o3 g3 b3)
        go_roundw
        case rel => exact R3.out
        case measure => simp [intOf]; omega
      · have B2 := Lib.hid (below_step B01.out (Nat.le_refl _) (below_step HB.out (Nat.le_refl _) b2))
        have NO := Lib.hid (row_no NF.out HX.out hno)
        clear b2 hno hc0
        go_wp2_with fail
        go_ret2
        exact .inr ⟨rfl, B2.out, NO.out⟩
    · have hjp : j = (prt s).length := by have := PL.out; omega
      have hlt' : ¬ (j : Int) < (pn : Int) := by omega
      have E := Lib.hid (show s.data.toList = rowT out from row_yes (by have := HTK.out; rw [hjp, List.take_length] at this; exact this))
      have BW := Lib.hid (below_step B01.out (Nat.le_refl _) hb)
      clear hb
      go_wp2_with fail
      go_ret2
      refine .inl ⟨out, ao, c, ret_two HN.out, ⟨HNO.out, by have := HOJ.out; omega⟩, E.out, HOT.out.base_le (Nat.le_of_lt hz1), BW.out⟩
end Go.Proofs.YtfpbhedophlnkaaGreatDoor
