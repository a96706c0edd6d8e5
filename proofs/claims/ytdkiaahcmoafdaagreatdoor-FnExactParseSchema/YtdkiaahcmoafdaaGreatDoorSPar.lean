/-
  Contract of spec.ParseSchema. For every text.
-/
import Derived.Test.YtdkiaahcmoafdaaGreatDoorPSch
import Derived.Test.YtdkiaahcmoafdaaGreatDoorSParts
import Derived.Test.YtdkiaahcmoafdaaGreatDoorSRead
import Derived.Test.YtdkiaahcmoafdaaGreatDoorTbM
import Derived.Test.YtdkiaahcmoafdaaGreatDoorHTb
namespace Go.Proofs.YtdkiaahcmoafdaaGreatDoor
open Go.RowKit
set_option linter.unusedSimpArgs false
set_option linter.unusedVariables false

/-- The call returned a slice of tables of its own beside a bool, and nothing that was there has turned. -/
def MadeTB (w : World) (l : List Tb) (ok : Bool) (en : Ending) (w' : World) : Prop :=
  ∃ ao c, en = .returned (.tuple #[.slice ao l.length c, .bool ok]) ∧ OwnT w' w.heap.size ao c l ∧ Below w.heap.size w w'
/-- What parsing a schema answers. -/
def ParsePost (s : ByteArray) (w : World) (e : Ending) (w' : World) : Prop :=
  ∃ l ok, MadeTB w l ok e w' ∧ ((ok = true ∧ schemaB l = true ∧ s.data.toList = schT l) ∨ (ok = false ∧ l = [] ∧ ∀ m, schemaB m = true → s.data.toList ≠ schT m))
theorem ownT_none {w : World} {base : Nat} : OwnT w base none 0 [] := ⟨World.ownsRow_nil _ _ _ _, by simp⟩
theorem parse_no {s : ByteArray} {w w' : World} {e : Ending} (he : e = .returned (.tuple #[.slice none 0 0, .bool false])) (hb : Below w.heap.size w w') (h : ∀ m, schemaB m = true → s.data.toList ≠ schT m) : ParsePost s w e w' :=
  ⟨[], false, ⟨none, 0, he, ownT_none, hb⟩, .inr ⟨rfl, rfl, h⟩⟩
theorem parts47_any (s : ByteArray) (w : World) (hs : s.size ≤ 100000) : Calls Tryz.prog 9 #[.string s, .int .u8 47] w (MadeS w (partsS 47 s)) := parts_any s 47 w hs
theorem parts32_any (s : ByteArray) (w : World) (hs : s.size ≤ 100000) : Calls Tryz.prog 9 #[.string s, .int .u8 32] w (MadeS w (partsS 32 s)) := parts_any s 32 w hs
/-- A row of tables and a row of texts are two rows. -/
theorem own_two {w : World} {b1 b2 : Nat} {ao wa : Option Addr} {c wc : Nat} {l : List Tb} {m : List ByteArray} (h : OwnT w b1 ao c l) (k : OwnS w b2 wa wc m) : ∀ x y, wa = some x → ao = some y → x.block ≠ y.block := by
  intro x y hx hy hxy
  rcases h.1.2 with ⟨hv, _⟩ | ⟨g, cap, cur, hv, _, hg, _⟩
  · simp only [Value.slice.injEq] at hv; rw [hv.1] at hy; cases hy
  · simp only [Value.slice.injEq] at hv
    rcases k.2 with ⟨hv', _⟩ | ⟨g', cap', cur', hv', _, hg', _⟩
    · simp only [Value.slice.injEq] at hv'; rw [hv'.1] at hx; cases hx
    · simp only [Value.slice.injEq] at hv'
      rw [hv'.1] at hx; rw [hv.1] at hy
      cases hx; cases hy
      simp only at hxy
      rw [hxy, hg] at hg'
      simp at hg'
theorem ownT_blk {w : World} {base : Nat} {ao : Option Addr} {c q : Nat} {l : List Tb} (h : OwnT w base ao c l) (hq : ao.map (·.block) = some q) : base ≤ q := by
  rcases h.1.2 with ⟨hv, _⟩ | ⟨g, cap, cur, hv, hb, _⟩
  · simp only [Value.slice.injEq] at hv; rw [hv.1] at hq; cases hq
  · simp only [Value.slice.injEq] at hv; rw [hv.1] at hq; simp at hq; omega
def SPRel (w : World) (s : ByteArray) (wa : Option Addr) (wc : Nat) (wr : World) (o i : Value) : Prop :=
  ∃ (j n : Nat) (ao : Option Addr) (c : Nat) (out : List Tb), o = .slice ao n c ∧ i = .int .i64 j ∧ n = out.length ∧ out.length = j ∧ j ≤ (splitB 32 s.data.toList).length ∧ OwnT wr w.heap.size ao c out ∧ OwnS wr w.heap.size wa wc (partsS 32 s) ∧ Below w.heap.size w wr ∧ (splitB 32 s.data.toList).take j = out.map wordOf ∧ ∀ t ∈ out, no47 t
theorem sp_next {w w1 : World} {s : ByteArray} {wa : Option Addr} {wc j : Nat} {ao : Option Addr} {c : Nat} {out : List Tb} {x a d : List UInt8} {y : Int} (hx : (splitB 32 s.data.toList)[j]? = some x) (hj : out.length = j) (ht : (splitB 32 s.data.toList).take j = out.map wordOf) (hn : ∀ t ∈ out, no47 t)
    (hs : splitB 47 x = [a, d]) (hd : mkB d = numT y) (ho : OwnT w1 w.heap.size ao c (out ++ [⟨mkB a, y⟩])) (hos : OwnS w1 w.heap.size wa wc (partsS 32 s)) (hb : Below w.heap.size w w1) :
    SPRel w s wa wc w1 (.slice ao (out.length + 1) c) (.int .i64 ((j : Int) + 1)) := by
  have hd' : d = Lib.itoa y := by
    have := congrArg (fun b : ByteArray => b.data.toList) hd
    simpa [mkB, numT_list] using this
  obtain ⟨h1, h2⟩ := word_of hs hd'
  have hlt := (List.getElem?_eq_some_iff.1 hx).1
  refine ⟨j + 1, _, ao, c, _, rfl, by simp, by simp, by simp; omega, hlt, ho, hos, hb, ?_, ?_⟩
  · rw [List.take_add_one, hx, ht, List.map_append, h1]; rfl
  · intro t htm
    rcases List.mem_append.1 htm with h | h
    · exact hn t h
    · rw [List.mem_singleton] at h; rw [h]; exact h2

set_option maxRecDepth 100000 in
set_option maxHeartbeats 2000000 in
theorem specParse_mid (s : ByteArray) (w : World) (h0 : 1 ≤ s.size) (h200 : s.size ≤ 200) :
    Calls Tryz.prog 4 #[.string s] w (ParsePost s w) := by
  have hsl := size_list s
  have SNE := Lib.hid (show s.data.toList ≠ [] by intro hh; rw [hh] at hsl; simp at hsl; omega)
  have SL := Lib.hid hsl; clear hsl
  have hq : (s.toList == []) = false := by
    rw [ByteArray.toList_eq]
    cases hc : (s.data.toList == []) with
    | false => rfl
    | true => exact absurd (eq_of_beq hc) SNE.out
  have hq' : s.toList.isEmpty = false := by
    rw [ByteArray.toList_eq]
    cases hc : s.data.toList with
    | nil => exact absurd hc SNE.out
    | cons a b => rfl
  have h200' : (s.size : Int) ≤ 200 := by omega
  have O0 := Lib.hid (show OwnT (w.alloc (.cells #[] 33)) w.heap.size (some ⟨w.heap.size, 0, none⟩) 0 [] from ⟨World.ownsRow_lit w #[] 0 (Nat.le_refl _) (Nat.zero_le _) rfl, by simp⟩)
  have B0 := Lib.hid ((Below.refl w.heap.size w).alloc (Nat.le_refl _) (.cells #[] 33))
  have hWl := split_len 32 s.data.toList
  rw [SL.out] at hWl
  go_enter Tryz.func4, Tryz.ntmps4
  go_wp2_with fail
  refine (parts32_any s _ (by omega)).mono ?_
  rintro e w1 ⟨wa, wc, rfl, o1, b1⟩
  have P0 := Lib.hid (show SPRel w s wa wc w1 (.slice (some ⟨w.heap.size, 0, none⟩) 0 0) (.int .i64 0) from ⟨0, 0, _, _, [], rfl, rfl, rfl, rfl, Nat.zero_le _, O0.out.below b1, o1.base_le (by simp), below_step B0.out (Nat.le_refl _) b1, rfl, by simp⟩)
  have PL := Lib.hid (show (partsS 32 s).length = (splitB 32 s.data.toList).length by unfold partsS; rw [List.length_map])
  clear o1 b1 O0 B0
  generalize hpn : (partsS 32 s).length = pn at PL
  have HPN := Lib.hid hpn; clear hpn
  have hpn1 : pn ≤ 201 := by rw [PL.out]; omega
  go_wp2_with fail
  go_loopw [4, 6] (fun o i wr => SPRel w s wa wc wr o i) (fun _ i _ => pn - (intOf i).toNat)
  case atStart => exact P0.out
  case round =>
    clear P0
    obtain ⟨j, n, ao, c, out, rfl, rfl, hn, hoj, hj, hot, hos, hb, htk, hno⟩ := hrel
    have HN := Lib.hid hn; have HOJ := Lib.hid hoj; have HOT := Lib.hid hot; have HOS := Lib.hid hos; have HB := Lib.hid hb; have HTK := Lib.hid htk; have HNO := Lib.hid hno
    have hz := hb.size
    have hn2 : n ≤ 201 := by omega
    clear hn hoj hot hos hb htk hno
    by_cases hlt : j < pn
    · have hlt2 : j < (splitB 32 s.data.toList).length := by have := PL.out; omega
      have hx0 : (splitB 32 s.data.toList)[j]? = some (splitB 32 s.data.toList)[j] := List.getElem?_eq_getElem hlt2
      generalize (splitB 32 s.data.toList)[j] = x at hx0
      have HX := Lib.hid hx0
      have hlt' : (j : Int) < (pn : Int) := by omega
      obtain ⟨gw, rfl, hgw⟩ : ∃ gw, wa = some ⟨gw, 0, none⟩ ∧ wr.cell? ⟨gw, j, none⟩ = some (.string (mkB x)) := by
        rcases HOS.out.form with ⟨_, _, hh⟩ | ⟨g, rfl, _⟩
        · have := HPN.out; rw [hh] at this; simp at this; omega
        · refine ⟨g, rfl, ?_⟩
          have := HOS.out.cell j (by rw [HPN.out]; exact hlt)
          rw [this]
          unfold partsS
          rw [List.getD_eq_getElem?_getD, List.getElem?_map, HX.out]; rfl
      clear hx0
      have hxl : x.length ≤ 200 := by have := split_part_len 32 s.data.toList x (List.mem_of_getElem? HX.out); rw [SL.out] at this; omega
      have hxs : (mkB x).size ≤ 200 := by rw [← size_list]; simpa [mkB] using hxl
      have PX := Lib.hid (show partsS 47 (mkB x) = (splitB 47 x).map mkB by unfold partsS; simp [mkB])
      go_wp2_with fail
      refine (parts47_any (mkB x) _ (by omega)).mono ?_
      rintro e w2 ⟨pa, pc, rfl, o2, b2⟩
      have B2 := Lib.hid (below_step HB.out (Nat.le_refl _) b2)
      have T2 := Lib.hid (HOT.out.below b2); have S2 := Lib.hid (HOS.out.below b2)
      by_cases h2 : ∃ a d, splitB 47 x = [a, d]
      · obtain ⟨a, d, had⟩ := h2
        have HAD := Lib.hid had
        have E2 : partsS 47 (mkB x) = [mkB a, mkB d] := by rw [PX.out, had]; rfl
        rw [E2] at o2
        rw [E2]
        clear E2 had
        obtain ⟨gp, rfl, hp0, hp1, hpl⟩ : ∃ gp, pa = some ⟨gp, 0, none⟩ ∧ w2.cell? ⟨gp, 0, none⟩ = some (.string (mkB a)) ∧ w2.cell? ⟨gp, 1, none⟩ = some (.string (mkB d)) ∧ gp < w2.heap.size := by
          rcases o2.form with ⟨_, _, hh⟩ | ⟨g, rfl, _, hl⟩
          · cases hh
          · exact ⟨g, rfl, o2.cell 0 (by simp), o2.cell 1 (by simp), hl⟩
        have hal : a.length ≤ 200 := by have := split_part_len 47 x a (by rw [HAD.out]; simp); omega
        have hdl : d.length ≤ 200 := by have := split_part_len 47 x d (by rw [HAD.out]; simp); omega
        have has : (mkB a).size ≤ 200 := by rw [← size_list]; simpa [mkB] using hal
        have hds : (mkB d).size ≤ 200 := by rw [← size_list]; simpa [mkB] using hdl
        clear o2 b2
        go_wp2_with fail
        refine (read_any (mkB d) _ (by unfold maxLen; omega)).mono ?_
        rintro e w3 ⟨y, ok, rfl, b3, hok, hbad⟩
        have B3 := Lib.hid (below_step B2.out (Nat.le_refl _) b3)
        have T3 := Lib.hid (T2.out.below b3); have S3 := Lib.hid (S2.out.below b3)
        cases ok with
        | false =>
          have NO := Lib.hid (show ∀ m, schemaB m = true → s.data.toList ≠ schT m from fun m hm he => by
            obtain ⟨t, ht, hs⟩ := sch_at SNE.out HX.out hm he
            rw [HAD.out] at hs
            simp only [List.cons.injEq, and_true] at hs
            obtain ⟨_, h1, h2⟩ := tableB_iff ht
            refine hbad rfl t.width (by omega) (by omega) ?_
            unfold mkB numT
            rw [hs.2])
          clear hbad hok b3
          go_wp2_with fail
          go_ret2
          exact parse_no rfl B3.out NO.out
        | true =>
          obtain ⟨hd, _, _⟩ := hok rfl
          have HD := Lib.hid hd
          have u0 := (b3.cell (p := ⟨gp, 0, none⟩) hpl).trans hp0
          have hz3 := B3.out.size
          clear hbad hok hd b3 hp0 hp1
          have N3 := Lib.hid (T3.out.below ((Below.refl _ w3).alloc (Nat.le_refl _) (.cells #[.string (mkB a), .int .i64 y] 33)))
          have M3 := Lib.hid (S3.out.below ((Below.refl _ w3).alloc (Nat.le_refl _) (.cells #[.string (mkB a), .int .i64 y] 33)))
          have TA := Lib.hid (show TbAt (w3.alloc (.cells #[.string (mkB a), .int .i64 y] 33)) w3.heap.size 0 ⟨mkB a, y⟩ from ⟨by rw [World.cell?_alloc_new]; rfl, by rw [World.cell?_alloc_new]; rfl, by unfold maxLen; simp only; omega⟩)
          have hnn : out.length + 1 ≤ 4194304 := by have := HN.out; omega
          have hz4 : w.heap.size ≤ (w3.alloc (.cells #[.string (mkB a), .int .i64 y] 33)).heap.size := by simp; omega
          go_wp2_with (at_builtin; refine wpList_appendT _ rfl (.tmp 42) (.tmp 48) 22 rfl w.heap.size Tryz.underlying22 Tryz.infoTable ao c n out rfl HN.out N3.out w3.heap.size 1 ⟨mkB a, y⟩ rfl TA.out hnn hz4 ?_; intro ao' c' w4 o4 g4; have R := Lib.hid (sp_next HX.out HOJ.out HTK.out HNO.out HAD.out HD.out o4 (M3.out.apart g4 (own_two N3.out M3.out)) ((B3.out.alloc B3.out.size _).grown g4 hz4 (fun q hq => ownT_blk T3.out hq))); clear o4 g4)
          go_roundw
          case rel => exact R.out
          case measure => simp [intOf]; omega
      · have hq2 : ((splitB 47 x).length : Int) ≠ 2 := by
          intro hh
          apply h2
          match hs : splitB 47 x, hh with
          | [a, d], _ => exact ⟨a, d, rfl⟩
          | [], hh => simp at hh
          | [a], hh => simp at hh
          | a :: b :: c :: r, hh => simp at hh; omega
        have EL : (partsS 47 (mkB x)).length = (splitB 47 x).length := by rw [PX.out, List.length_map]
        rw [EL]
        generalize (splitB 47 x).length = q at hq2
        have hq3 : ((q : Int) != 2) = true := by simp; omega
        have NO := Lib.hid (show ∀ m, schemaB m = true → s.data.toList ≠ schT m from fun m hm he => by
          obtain ⟨t, ht, hs⟩ := sch_at SNE.out HX.out hm he
          exact h2 ⟨_, _, hs⟩)
        clear h2 EL b2 o2
        go_wp2_with fail
        go_ret2
        exact parse_no rfl B2.out NO.out
    · have hjp : pn ≤ j := by omega
      have HW := Lib.hid (show splitB 32 s.data.toList = out.map wordOf by
        have h1 := HTK.out
        rw [List.take_of_length_le (by have := PL.out; omega)] at h1
        exact h1)
      obtain rfl : n = out.length := HN.out
      have RT := Lib.hid HOT.out.rd
      have hol : out.length ≤ 201 := hn2
      go_wp2_with fail
      refine (specSchema_any ao c out _ RT.out (by omega)).mono ?_
      rintro e w2 ⟨rfl, b2⟩
      have B2 := Lib.hid (below_step HB.out (Nat.le_refl _) b2); have T2 := Lib.hid (HOT.out.below b2)
      clear b2
      cases hsb : schemaB out with
      | false =>
        have NO := Lib.hid (sch_none SNE.out hsb HW.out HNO.out)
        clear hsb
        go_wp2_with fail
        go_ret2
        exact parse_no rfl B2.out NO.out
      | true =>
        have YES := Lib.hid (sch_back hsb HW.out); have HSB := Lib.hid hsb
        clear hsb
        go_wp2_with fail
        go_ret2
        exact ⟨out, true, ⟨ao, c, rfl, T2.out, B2.out⟩, .inl ⟨rfl, HSB.out, YES.out⟩⟩

theorem schT_nil : schT [] = [] := rfl
theorem schema_nil : schemaB [] = true := schemaB_iff.2 ⟨by simp, by simp, List.Pairwise.nil⟩
theorem schT_small {l : List Tb} (h : schemaB l = true) : (schT l).length ≤ 120 := by
  have := schT_len (schema_all h)
  have := (schemaB_iff.1 h).1
  omega
set_option maxRecDepth 100000 in
set_option maxHeartbeats 1600000 in
theorem specParse_any (s : ByteArray) (w : World) (hs : s.size ≤ maxLen) :
    Calls Tryz.prog 4 #[.string s] w (ParsePost s w) := by
  unfold maxLen at hs
  have hsl := size_list s
  by_cases h0 : s.size = 0
  · have he : s = ⟨#[]⟩ := by
      apply ByteArray.ext
      exact Array.eq_empty_of_size_eq_zero h0
    subst he
    have O0 := Lib.hid (show OwnT (w.alloc (.cells #[] 33)) w.heap.size (some ⟨w.heap.size, 0, none⟩) 0 [] from ⟨World.ownsRow_lit w #[] 0 (Nat.le_refl _) (Nat.zero_le _) rfl, by simp⟩)
    have B0 := Lib.hid ((Below.refl w.heap.size w).alloc (Nat.le_refl _) (.cells #[] 33))
    clear hsl hs h0
    go_enter Tryz.func4, Tryz.ntmps4
    go_wp2_with fail
    go_ret2
    exact ⟨[], true, ⟨_, _, rfl, O0.out, B0.out⟩, .inl ⟨rfl, schema_nil, rfl⟩⟩
  · by_cases h200 : s.size ≤ 200
    · exact specParse_mid s w (by omega) h200
    · have NO := Lib.hid (show ∀ m, schemaB m = true → s.data.toList ≠ schT m from fun m hm he => by
        have := schT_small hm
        rw [← he, hsl] at this
        omega)
      have SNE : s.data.toList ≠ [] := by intro hh; rw [hh] at hsl; simp at hsl; omega
      have hq : (s.toList == []) = false := by
        rw [ByteArray.toList_eq]
        cases hc : (s.data.toList == []) with
        | false => rfl
        | true => exact absurd (eq_of_beq hc) SNE
      have hq' : s.toList.isEmpty = false := by
        rw [ByteArray.toList_eq]
        cases hc : s.data.toList with
        | nil => exact absurd hc SNE
        | cons a b => rfl
      have h200' : (200 : Int) < (s.size : Int) := by omega
      have B0 := Lib.hid ((Below.refl w.heap.size w).alloc (Nat.le_refl _) (.cells #[] 33))
      clear hsl SNE h0 h200
      go_enter Tryz.func4, Tryz.ntmps4
      go_wp2_with fail
      go_ret2
      exact parse_no rfl B0.out NO.out
end Go.Proofs.YtdkiaahcmoafdaaGreatDoor
