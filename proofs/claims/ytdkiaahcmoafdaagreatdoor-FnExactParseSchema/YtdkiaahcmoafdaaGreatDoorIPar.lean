/-
  Contract of impl.ParseSchema. For every text that is not too long.
-/
import Derived.Test.YtdkiaahcmoafdaaGreatDoorIParP
import Derived.Test.YtdkiaahcmoafdaaGreatDoorINum
import Derived.Test.YtdkiaahcmoafdaaGreatDoorSPar
import Derived.Test.YtdkiaahcmoafdaaGreatDoorTxtC
namespace Go.Proofs.YtdkiaahcmoafdaaGreatDoor
open Go.RowKit Go.Shelf
set_option linter.unusedSimpArgs false
set_option linter.unusedVariables false

theorem splitN_any (s : ByteArray) (w : World) (hs : s.size ≤ 1048576) (hg : Glob w) :
    Calls Tryz.prog 12 #[.string s, .string ⟨#[32]⟩, .int .i64 9] w fun e w' =>
      e = .returned (.slice (some ⟨w.heap.size, 0, none⟩) (Lib.splitB ⟨#[32]⟩ 0 (min 9 (s.size + 1) - 1) s).length (min 9 (s.size + 1))) ∧ w' = w.alloc (.cells (Lib.cellsOf (Lib.splitB ⟨#[32]⟩ 0 (min 9 (s.size + 1) - 1) s) (min 9 (s.size + 1))) 9) := by
  obtain ⟨m, hm⟩ := hg.mxl
  have h := Any.strings_SplitN { Tryz.lays147 with } Tryz.lays147.i9 s ⟨#[32]⟩ 9 m w (by omega) hm (Nat.le_refl _) (by omega) (by omega)
  exact h
theorem cut_any (s : ByteArray) (w : World) (hs : s.size ≤ 1048576) (hg : Glob w) :
    Calls Tryz.prog 13 #[.string s, .string ⟨#[47]⟩] w fun e w' => e = .returned (.tuple #[.string (mkB (Lib.cut s.data.toList [47]).1), .string (mkB (Lib.cut s.data.toList [47]).2.1), .bool (Lib.cut s.data.toList [47]).2.2]) ∧ Below w.heap.size w w' := by
  obtain ⟨m, hm⟩ := hg.mxl
  refine (Any.strings_Cut { Tryz.lays145 with } s ⟨#[47]⟩ m w (by omega) hm).mono ?_
  rintro e w' ⟨he, n, rfl⟩
  exact ⟨he, ⟨rfl, rfl, rfl, Nat.le_refl _, fun _ _ => rfl⟩⟩
theorem cells_word (w : World) (WS : List ByteArray) (N : Nat) (t : TypeId) (j : Nat) (x : ByteArray) (h : WS[j]? = some x) : (w.alloc (.cells (Lib.cellsOf WS N) t)).cell? ⟨w.heap.size, j, none⟩ = some (.string x) := by
  rw [World.cell?_alloc_new]
  unfold Lib.cellsOf
  have hl := (List.getElem?_eq_some_iff.1 h).1
  simp [List.getElem?_append_left, hl, h]
  rw [List.getElem?_eq_getElem hl] at h
  injection h
def IPRel (w1 : World) (WS : List ByteArray) (wr : World) (o i : Value) : Prop :=
  ∃ (j n : Nat) (ao : Option Addr) (c : Nat) (out : List Tb), o = .slice ao n c ∧ i = .int .i64 j ∧ n = out.length ∧ out.length = j ∧ j ≤ WS.length ∧ OwnT wr w1.heap.size ao c out ∧ Below w1.heap.size w1 wr ∧ Cuts WS out

set_option maxRecDepth 100000 in
set_option maxHeartbeats 2000000 in
theorem implParse_mid (s : ByteArray) (w : World) (h0 : 1 ≤ s.size) (hs : s.size ≤ 1048576) (hg : Glob w) :
    Calls Tryz.prog 5 #[.string s] w (ParsePost s w) := by
  have hsl := size_list s
  have SNE := Lib.hid (show s.data.toList ≠ [] by intro hh; rw [hh] at hsl; simp at hsl; omega)
  clear hsl
  have hq : (s.toList == []) = false := by
    rw [ByteArray.toList_eq]
    cases hc : (s.data.toList == []) with
    | false => rfl
    | true => exact absurd (eq_of_beq hc) SNE.out
  have hq' : s.toList.isEmpty = false := by
    rw [ByteArray.toList_eq]
    cases hc : s.data.toList with
    | nil => exact absurd hc SNE.out
    | cons a b => rfl
  have SPL := Lib.hid (splitN_any s w hs hg)
  have CS := Lib.hid (fun (m out : List Tb) (hm : schemaB m = true) (he : s.data.toList = schT m) => cuts_sch (out := out) hm (by rintro rfl; exact SNE.out he) he)
  have LE := Lib.hid (splitN_le ⟨#[32]⟩ 0 (min 9 (s.size + 1) - 1) s)
  have L9 := Lib.hid (show (Lib.splitB ⟨#[32]⟩ 0 (min 9 (s.size + 1) - 1) s).length ≤ 9 by have := Lib.splitB_length_le ⟨#[32]⟩ 0 (min 9 (s.size + 1) - 1) s; omega)
  generalize Lib.splitB ⟨#[32]⟩ 0 (min 9 (s.size + 1) - 1) s = WS at SPL CS LE L9
  generalize min 9 (s.size + 1) = N at SPL
  have HG := Lib.hid hg; clear hg
  go_enter Tryz.func5, Tryz.ntmps5
  go_wp2_with fail
  refine SPL.out.mono ?_
  rintro e w1 ⟨rfl, hw1⟩
  have B01 := Lib.hid (show Below w.heap.size w w1 by rw [hw1]; exact (Below.refl _ _).alloc (Nat.le_refl _) _)
  have WC := Lib.hid (show ∀ j x, WS[j]? = some x → w1.cell? ⟨w.heap.size, j, none⟩ = some (.string x) by intro j x hx; rw [hw1]; exact cells_word w WS N _ j x hx)
  have hz1 : w.heap.size < w1.heap.size := by rw [hw1]; simp
  have P0 := Lib.hid (show IPRel w1 WS w1 (.slice none 0 0) (.int .i64 0) from ⟨0, 0, none, 0, [], rfl, rfl, rfl, rfl, Nat.zero_le _, ownT_none, Below.refl _ _, fun i t h => by simp at h⟩)
  clear hw1 SPL
  have hW9 := L9.out
  generalize hpn : WS.length = pn at hW9
  have HPN := Lib.hid hpn; clear hpn
  go_wp2_with fail
  go_loopw [4, 17] (fun o i wr => IPRel w1 WS wr o i) (fun _ i _ => pn - (intOf i).toNat)
  case atStart => exact P0.out
  case round =>
    clear P0
    obtain ⟨j, n, ao, c, out, rfl, rfl, hn, hoj, hj, hot, hb, hcu⟩ := hrel
    have HN := Lib.hid hn; have HOJ := Lib.hid hoj; have HOT := Lib.hid hot; have HB := Lib.hid hb; have HCU := Lib.hid hcu
    have hz := hb.size
    have hn2 : n ≤ 9 := by have := HPN.out; omega
    clear hn hoj hot hcu
    by_cases hlt : j < pn
    · have hx0 : WS[j]? = some (WS[j]'(by have := HPN.out; omega)) := List.getElem?_eq_getElem (by have := HPN.out; omega)
      generalize WS[j]'(by have := HPN.out; omega) = x at hx0
      have HX := Lib.hid hx0
      have hlt' : (j : Int) < (pn : Int) := by omega
      have hc0 := (hb.cell (p := ⟨w.heap.size, j, none⟩) hz1).trans (WC.out j x hx0)
      have hxs := LE.out x (List.mem_of_getElem? hx0)
      have hxl := size_list x
      have cz := cut_size x.data.toList [47]
      rw [hxl] at cz
      have GR := Lib.hid (HG.out.below B01.out |>.below hb)
      have CT := Lib.hid (cut_any x wr (by omega) GR.out)
      have CU := Lib.hid (fun t hn hx => HCU.out.snoc (t := t) (wd := x) (by rw [HOJ.out]; exact HX.out) hn hx)
      generalize (Lib.cut x.data.toList [47]).1 = cn at cz CT CU
      generalize (Lib.cut x.data.toList [47]).2.1 = cd at cz CT CU
      generalize (Lib.cut x.data.toList [47]).2.2 = cb at CT
      have hcn : (mkB cn).size ≤ 1048576 := by rw [mkB_size]; omega
      have hcd : (mkB cd).size ≤ 1048576 := by rw [mkB_size]; omega
      clear hx0 hb hxl
      go_wp2_with fail
      refine CT.out.mono ?_
      rintro e w2 ⟨rfl, b2⟩
      have B2 := Lib.hid (below_step HB.out (Nat.le_refl _) b2); have T2 := Lib.hid (HOT.out.below b2); have G2 := Lib.hid (GR.out.below b2)
      clear b2 hc0
      go_wp2_with fail
      refine (numberIn_any (mkB cd) _ hcd G2.out).mono ?_
      rintro e w3 ⟨y, ok, rfl, hy1, hy2, b3, hyy⟩
      have B3 := Lib.hid (below_step B2.out (Nat.le_refl _) b3); have T3 := Lib.hid (T2.out.below b3)
      have YY := Lib.hid hyy
      have hz3 := B3.out.size
      clear b3 hyy
      have N3 := Lib.hid (T3.out.below ((Below.refl _ w3).alloc (Nat.le_refl _) (.cells #[.string (mkB cn), .int .i64 y] 33)))
      have TA := Lib.hid (show TbAt (w3.alloc (.cells #[.string (mkB cn), .int .i64 y] 33)) w3.heap.size 0 ⟨mkB cn, y⟩ from ⟨by rw [World.cell?_alloc_new]; rfl, by rw [World.cell?_alloc_new]; rfl, by unfold maxLen; simp only; omega⟩)
      have hnn : out.length + 1 ≤ 4194304 := by have := HN.out; omega
      have hz4 : w1.heap.size ≤ (w3.alloc (.cells #[.string (mkB cn), .int .i64 y] 33)).heap.size := by simp; omega
      go_wp2_with (at_builtin; refine wpList_appendT _ rfl (.tmp 32) (.tmp 36) 22 rfl w1.heap.size Tryz.underlying22 Tryz.infoTable ao c n out rfl HN.out N3.out w3.heap.size 1 ⟨mkB cn, y⟩ rfl TA.out hnn hz4 ?_; intro ao' c' w4 o4 g4; have R := Lib.hid (show IPRel w1 WS w4 (.slice ao' (out.length + 1) c') (.int .i64 ((j : Int) + 1)) from ⟨j + 1, _, ao', c', out ++ [⟨mkB cn, y⟩], rfl, by simp, by simp, by have := HOJ.out; simp; omega, by have := HPN.out; omega, o4, (B3.out.alloc B3.out.size _).grown g4 hz4 (fun q hq => ownT_blk T3.out hq), CU.out _ rfl (fun z h1 h2 h3 => YY.out z h1 h2 h3)⟩); clear o4 g4)
      go_roundw
      case rel => exact R.out
      case measure => simp [intOf]; omega
    · have hjp : pn ≤ j := by omega
      obtain rfl : n = out.length := HN.out
      have RT := Lib.hid HOT.out.rd
      have BW := Lib.hid (below_step B01.out (Nat.le_refl _) hb)
      clear hb
      have TX := Lib.hid (implText_any ao c out wr RT.out (by omega))
      have EQ := Lib.hid (show txtO out = s → schemaB out = true ∧ s.data.toList = schT out from fun hh => by
        unfold txtO at hh
        split at hh
        · rename_i hb
          exact ⟨hb, by rw [← hh]⟩
        · exact absurd (by rw [← hh]) SNE.out)
      have NE := Lib.hid (show txtO out ≠ s → ∀ m, schemaB m = true → s.data.toList ≠ schT m from fun hh m hm he => by
        have := CS.out m out hm he (by have := HPN.out; have := HOJ.out; omega) HCU.out
        subst this
        apply hh
        unfold txtO
        rw [if_pos hm]
        apply ByteArray.ext
        apply Array.toList_inj.1
        rw [he])
      generalize txtO out = tx at TX EQ NE
      by_cases hq2 : tx = s
      · subst hq2
        have E := Lib.hid (EQ.out rfl)
        have hs3 : (tx.toList != tx.toList) = false := by simp
        clear EQ NE
        go_wp2_with fail
        refine TX.out.mono ?_
        rintro e w2 ⟨rfl, b2⟩
        have B2 := Lib.hid (below_step BW.out (Nat.le_refl _) b2); have T2 := Lib.hid ((HOT.out.below b2).base_le (Nat.le_of_lt hz1))
        clear b2
        go_wp2_with fail
        go_ret2
        exact ⟨out, true, ⟨ao, c, rfl, T2.out, B2.out⟩, .inl ⟨rfl, E.out.1, E.out.2⟩⟩
      · have hs2 : (tx.toList == s.toList) = false := by rw [str_same]; simp [hq2]
        have hs3 : (tx.toList != s.toList) = true := by simp [bne, hs2]
        have E := Lib.hid (NE.out hq2)
        clear EQ NE hq2
        go_wp2_with fail
        refine TX.out.mono ?_
        rintro e w2 ⟨rfl, b2⟩
        have B2 := Lib.hid (below_step BW.out (Nat.le_refl _) b2)
        clear b2
        go_wp2_with fail
        go_ret2
        exact parse_no rfl B2.out E.out

set_option maxRecDepth 100000 in
theorem implParse_any (s : ByteArray) (w : World) (hs : s.size ≤ 1048576) (hg : Glob w) :
    Calls Tryz.prog 5 #[.string s] w (ParsePost s w) := by
  by_cases h0 : s.size = 0
  · have he : s = ⟨#[]⟩ := by
      apply ByteArray.ext
      exact Array.eq_empty_of_size_eq_zero h0
    subst he
    clear hg hs h0
    go_enter Tryz.func5, Tryz.ntmps5
    go_wp2_with fail
    go_ret2
    exact ⟨[], true, ⟨none, 0, rfl, ownT_none, Below.refl _ _⟩, .inl ⟨rfl, schema_nil, rfl⟩⟩
  · exact implParse_mid s w (by omega) hs hg
end Go.Proofs.YtdkiaahcmoafdaaGreatDoor
