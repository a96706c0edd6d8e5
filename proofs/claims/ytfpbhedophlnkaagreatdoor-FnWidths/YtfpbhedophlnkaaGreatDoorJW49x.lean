/-
  Contract of impl.SchemaText. For every slice of tables. Contract of impl.ParseSchema. For every text that is not too long. The contract of impl.PutNum: in memory of its own, the number's bytes; nothing where it is no number. For every integer. Slices of slices of bytes: what one reads as, what of it the call itself owns; the contract of impl.behindEachOther: all their bytes, one behind the other, in memory of its own.
-/
import Derived.Test.YtfpbhedophlnkaaGreatDoorJW43x
import Derived.Test.YtfpbhedophlnkaaGreatDoorJW8x
import Derived.Test.YtfpbhedophlnkaaGreatDoorShelf5
import Derived.Test.YtfpbhedophlnkaaGreatDoorShelf9
import Derived.Deep.AppendLies
import Derived.Deep.RegionLaw
import Derived.Test.YtfpbhedophlnkaaGreatDoorJW44x
import Derived.Test.YtfpbhedophlnkaaGreatDoorJW46x
import Derived.Test.YtfpbhedophlnkaaGreatDoorJW26x
import Derived.Test.YtfpbhedophlnkaaGreatDoorJW32x
import Derived.Test.YtfpbhedophlnkaaGreatDoorJW11x
import Derived.Laws.CopyOwn
namespace Go.Proofs.YtfpbhedophlnkaaGreatDoor
open Go.RowKit Go.Shelf
set_option linter.unusedSimpArgs false
set_option linter.unusedVariables false

theorem Tryz.extra156 : Builder.Extra Tryz.prog Tryz.lays156_ren where
  sizeBuilder := by kernel_rfl
  liesBuilder := by kernel_rfl
  t5 := Tryz.underlying5
  a5 := Tryz.isAgg5
  z5 := Tryz.sizeOf5
  v5 := Tryz.zeroValue5
  infoByte := by kernel_rfl
  cellsByte := by kernel_rfl
  sizeByte := by kernel_rfl
  neB5 := by decide

theorem itoa_any (x : Int) (w : World) (h1 : 1 ≤ x) (h2 : x ≤ 6) :
    Calls Tryz.prog 83 #[.int .i64 x] w fun e w' => e = .returned (.string (digS x)) ∧ w' = w := by
  have h := Any.strconv_Itoa_small Tryz.lays171 x.toNat (by omega) w
  have e1 : ((x.toNat : Nat) : Int) = x := by omega
  have e2 : Lib.decDigits x.toNat = [UInt8.ofNat (48 + x.toNat)] := by rw [Lib.decDigits, dif_pos (by omega)]
  rw [e1, e2] at h
  exact h

/-- A table's text, as the program makes it. -/
def tbB (t : Tb) : ByteArray := t.name ++ ⟨#[47]⟩ ++ digS t.width
theorem tbB_list (t : Tb) : (tbB t).data.toList = tbT t := by
  unfold tbB tbT digS
  simp [ByteArray.data_append]
def WrdRel (w : World) (l : List Tb) (wr : World) (s i : Value) : Prop :=
  ∃ (j : Nat) (ao : Option Addr) (c n : Nat), j ≤ l.length ∧ i = .int .i64 j ∧ s = .slice ao n c ∧ n = j ∧ OwnS wr w.heap.size ao c ((l.take j).map tbB) ∧ Below w.heap.size w wr
theorem wrd_next {w w1 : World} {l : List Tb} {j : Nat} {t : Tb} {ao : Option Addr} {c : Nat} (ht : l[j]? = some t) (ho : OwnS w1 w.heap.size ao c ((l.take j).map tbB ++ [tbB t])) (hb : Below w.heap.size w w1) :
    WrdRel w l w1 (.slice ao ((l.take j).map tbB ++ [tbB t]).length c) (.int .i64 ((j : Int) + 1)) := by
  have hj : j < l.length := (List.getElem?_eq_some_iff.1 ht).1
  have e : l[j] = t := by rw [List.getElem?_eq_getElem hj] at ht; injection ht
  refine ⟨j + 1, ao, c, _, hj, by simp, rfl, by simp; omega, ?_, hb⟩
  rw [List.take_succ_eq_append_getElem hj, e, List.map_append, List.map_cons, List.map_nil]
  exact ho
theorem cell_one_s (w : World) (y : ByteArray) (t : TypeId) : ∀ i, i < [y].length → (w.alloc (.cells #[.string y] t)).cell? ⟨w.heap.size, i, none⟩ = some (.string ([y].getD i ByteArray.empty)) := by
  intro i hi
  obtain rfl : i = 0 := by simp at hi; omega
  rw [World.cell?_alloc_new]; rfl

theorem ownS_cap {w : World} {base : Nat} {ao : Option Addr} {c : Nat} {l : List ByteArray} (h : OwnS w base ao c l) : l.length ≤ c := by
  rcases h.2 with ⟨hv, hn⟩ | ⟨g, cap, cur, hv, _, _, h1, _⟩
  · omega
  · simp only [Value.slice.injEq] at hv; omega
theorem join_any (base : Nat) (ao : Option Addr) (c n : Nat) (xs : List ByteArray) (hn : n = xs.length) (w : World) (h : OwnS w base ao c xs) (hlen : (jn (xs.map (·.data.toList))).length ≤ 140737488355328) (h8 : xs.length ≤ 8) :
    Calls Tryz.prog 84 #[.slice ao n c, .string ⟨#[32]⟩] w fun e w' => e = .returned (.string ⟨(jn (xs.map (·.data.toList))).toArray⟩) ∧ Below w.heap.size w w' := by
  subst hn
  rcases h.form with ⟨rfl, rfl, rfl⟩ | ⟨g, rfl, _, hg⟩
  · exact (Any.strings_Join_none Tryz.lays156 Tryz.extra156 none 0 ⟨#[32]⟩ w).mono fun e w' ⟨he, hw⟩ => ⟨he, hw ▸ Below.refl _ _⟩
  · have hj := Any.strings_Join Tryz.lays156 Tryz.extra156 g 0 c xs ⟨#[32]⟩ w (fun j x hx => by
      have hl := (List.getElem?_eq_some_iff.1 hx).1
      have := h.cell j hl
      rw [List.getD_eq_getElem?_getD, hx] at this
      rw [Nat.zero_add]; exact this) hg (by omega) (ownS_cap h) (by
        have e := jn_join (xs.map (·.data.toList))
        show (Lib.join _ [32]).length ≤ _
        rw [e]; exact hlen)
    have e := jn_join (xs.map (·.data.toList))
    have e' : Lib.join (xs.map (·.data.toList)) (ByteArray.mk #[32]).data.toList = jn (xs.map (·.data.toList)) := e
    rw [e'] at hj
    exact hj

theorem own_below_row {w w' : World} {base : Nat} {e : TypeId} {size : Nat} {v : Value} {n : Nat} {xs : List Value} (h : w.ownsRow base e size v n xs) (hb : Below w.heap.size w w') : w'.ownsRow base e size v n xs := by
  refine ⟨h.1, ?_⟩
  rcases h.2 with h2 | ⟨g, cap, cur, hv, hbg, hg, r⟩
  · exact .inl h2
  · refine .inr ⟨g, cap, cur, hv, hbg, ?_, r⟩
    have hlt : g < w.heap.size := by
      rcases Nat.lt_or_ge g w.heap.size with h1 | h1
      · exact h1
      · rw [Array.getElem?_eq_none h1] at hg; cases hg
    rw [hb.block g hlt]; exact hg
theorem news_one (W : World) (S : ByteArray) (t : TypeId) (H : Nat) (hH : W.heap.size = H) : ∀ j u, [Value.string S][j]? = some u → (W.alloc (.cells #[.string S] t)).cell? ((⟨H, 0, none⟩ : Addr).add j) = some u := by
  subst hH
  intro j u hj
  match j, hj with
  | 0, hj =>
    simp at hj; subst hj
    rw [show (⟨W.heap.size, 0, none⟩ : Addr).add 0 = ⟨W.heap.size, 0, none⟩ from rfl, World.cell?_alloc_new]; rfl
theorem wrd_next' {w wr W w1 : World} {l : List Tb} {j n : Nat} {t : Tb} {wo : Option Addr} {wc g cap : Nat} (ht : l[j]? = some t) (hn : n = ((l.take j).map tbB).length) (ho : OwnS wr w.heap.size wo wc ((l.take j).map tbB)) (hb : Below w.heap.size w W) (hWw : Below wr.heap.size wr W)
    (o4 : w1.ownsRow w.heap.size 9 1 (.slice (some ⟨g, 0, none⟩) (n + 1) cap) (n + 1) (((l.take j).map tbB).map Value.string ++ [.string (t.name ++ ⟨#[47]⟩ ++ digS t.width)])) (hg : W.grownBy w1 (Value.ownBlock (.slice wo n wc))) :
    WrdRel w l w1 (.slice (some ⟨g, 0, none⟩) (n + 1) cap) (.int .i64 ((j : Int) + 1)) := by
  subst hn
  have e : ((l.take j).map tbB ++ [tbB t]).length = ((l.take j).map tbB).length + 1 := by simp
  have h1 : OwnS w1 w.heap.size (some ⟨g, 0, none⟩) cap ((l.take j).map tbB ++ [tbB t]) := by
    unfold OwnS
    rw [List.map_append, e]
    exact o4
  have h2 : Below w.heap.size w w1 := hb.grown hg hb.size (by
    intro x hx
    rcases ho.form with ⟨rfl, _⟩ | ⟨q, rfl, hq, _⟩
    · simp [Value.ownBlock] at hx
    · simp [Value.ownBlock] at hx; omega)
  have := wrd_next ht h1 h2
  rw [e] at this
  exact this

set_option maxRecDepth 100000 in
set_option maxHeartbeats 1600000 in
theorem implText_yes (ao : Option Addr) (c : Nat) (l : List Tb) (w : World) (h : RdT w ao l) (hs : schemaB l = true) :
    Calls Tryz.prog 20 #[.slice ao l.length c] w fun e w' => e = .returned (.string ⟨(schT l).toArray⟩) ∧ Below w.heap.size w w' := by
  have hl8 := (schemaB_iff.1 hs).1
  have HT := Lib.hid (schemaB_iff.1 hs).2.1
  have H := Lib.hid h; have HB := Lib.hid hs; clear h hs
  go_enter Tryz.func20, Tryz.ntmps20
  go_wp2_with fail
  refine (implSchema_any ao c l _ H.out (by omega)).mono ?_
  rintro e w1 ⟨rfl, b1⟩
  rw [HB.out]
  have P0 := Lib.hid (show WrdRel w l w1 (.slice none 0 0) (.int .i64 0) from ⟨0, none, 0, 0, Nat.zero_le _, rfl, rfl, rfl, OwnS.none_, b1⟩)
  clear b1
  go_wp2_with fail
  go_loopw [3, 11] (fun s i wr => WrdRel w l wr s i) (fun _ i _ => l.length - (intOf i).toNat)
  case atStart => exact P0.out
  case round =>
    clear P0
    obtain ⟨j, wo, wc, n, hj, rfl, rfl, hnj, ho, hb⟩ := hrel
    have HNJ := Lib.hid hnj; have HO := Lib.hid ho; have HBL := Lib.hid hb
    clear hnj
    by_cases hlt : j < l.length
    · obtain ⟨b, off, t, rfl, ht, hat⟩ := (H.out.below hb).at_ hlt
      have htb := HT.out t (List.mem_of_getElem? ht)
      have hns := (tbT_len htb).2
      unfold tableB at htb
      rw [Bool.and_eq_true, decide_eq_true_eq] at htb
      obtain ⟨hw1, hw2⟩ := htb.2
      obtain ⟨c0, c1, nm⟩ := hat
      have hbl : b < wr.heap.size := World.block_lt_of_cell? wr ⟨b, off + j * 2, none⟩ c0
      have hlt' : (j : Int) < (l.length : Int) := by omega
      have TT := Lib.hid ht
      clear ho hb htb ht nm
      have hds := digS_size t.width
      have e1 : ¬ (9223372036854775807 < t.name.size + 1) := by omega
      have e2 : ¬ (9223372036854775807 < t.name.size + 1 + (digS t.width).size) := by omega
      have HD := Lib.hid hds; clear hds
      go_wp2_with fail
      have HLEN := Lib.hid (show n = ((l.take j).map tbB).length by rw [HNJ.out]; simp; omega)
      have hn8 : n ≤ 8 := by have := HNJ.out; omega
      have HOW := Lib.hid (show wr.ownsRow w.heap.size 9 1 (.slice wo n wc) n (((l.take j).map tbB).map Value.string) by have := HO.out; unfold OwnS at this; rw [← HLEN.out] at this; exact this)
      obtain ⟨i0, hi0, hz0, hz1, hz2⟩ := info_parts Tryz.infoStr
      have I0 := Lib.hid hi0; have Z0 := Lib.hid hz0; have Z1 := Lib.hid hz1; have Z2 := Lib.hid hz2
      clear hi0 hz0 hz1 hz2
      have hzw := HBL.out.size
      have WB := Lib.hid (show ∀ (o o' : Obj), Below wr.heap.size wr ((wr.alloc o).drew.alloc o') from fun o o' => (((Below.refl _ wr).alloc (Nat.le_refl _) o).drew).alloc (by simp) o')
      go_region_law (first | (refine step_append_lies _ rfl (.tmp 15) (.tmp 23) 70 rfl w.heap.size 9 i0 _ 1 16 Tryz.underlying70 I0.out Z0.out Z1.out Z2.out rfl (by omega) (.slice wo n wc) n (((l.take j).map tbB).map Value.string) (by simp [Act.eval, Act.put]) (own_below_row HOW.out (WB.out _ _)) ⟨wr.heap.size + 1, 0, none⟩ 1 1 [.string (t.name ++ ⟨#[47]⟩ ++ digS t.width)] (by simp [Act.eval, Act.put]) rfl (news_one _ _ _ _ (by simp)) (by intro u hu; simp at hu; subst hu; rfl) (by omega) (by unfold maxLen; omega) (by omega) (by simp; omega) _ rfl ?_; intro g cap w4 o4 g4 _ _; have R := Lib.hid (wrd_next' TT.out HLEN.out HO.out (below_step HBL.out (Nat.le_refl _) (WB.out _ _)) (WB.out _ _) o4 g4); clear o4 g4) | (go_simp; go_at_call 83; refine (itoa_any t.width _ hw1 hw2).mono ?_; rintro e w' ⟨rfl, rfl⟩))
      all_goals
        go_wp2_with fail
        go_roundw
        case rel => exact R.out
        case measure => simp [intOf]; omega
    · obtain rfl : j = l.length := by omega
      have hOw := HO.out
      rw [List.take_length] at hOw
      have e : (l.map tbB).map (·.data.toList) = l.map tbT := by rw [List.map_map]; exact List.map_congr_left (fun t _ => tbB_list t)
      have hlen := schT_len (l := l) HT.out
      have J := join_any w.heap.size wo wc n (l.map tbB) (by rw [HNJ.out, List.length_map]) wr hOw (by rw [e]; unfold schT at hlen; omega) (by rw [List.length_map]; exact hl8)
      rw [e] at J
      have JJ := Lib.hid J
      clear J e hlen hOw ho hb
      go_wp2_with fail
      refine JJ.out.mono ?_
      rintro e w2 ⟨rfl, b2⟩
      have B2 := Lib.hid (below_step HBL.out (Nat.le_refl _) b2); clear b2
      go_wp2_with fail
      go_ret
      exact ⟨rfl, B2.out⟩

set_option maxHeartbeats 1000000 in
theorem implText_any (ao : Option Addr) (c : Nat) (l : List Tb) (w : World) (h : RdT w ao l) (hl : l.length ≤ 1048576) :
    Calls Tryz.prog 20 #[.slice ao l.length c] w fun e w' => e = .returned (.string (txtO l)) ∧ Below w.heap.size w w' := by
  cases hs : schemaB l with
  | true => unfold txtO; rw [if_pos hs]; exact implText_yes ao c l w h hs
  | false =>
    have E := Lib.hid (show txtO l = ⟨#[]⟩ by unfold txtO; rw [if_neg (by rw [hs]; simp)])
    have H := Lib.hid h; have HB := Lib.hid hs; clear h hs
    go_enter Tryz.func20, Tryz.ntmps20
    go_wp2_with fail
    refine (implSchema_any ao c l _ H.out hl).mono ?_
    rintro e w1 ⟨rfl, b1⟩
    rw [HB.out]
    have B1 := Lib.hid b1; clear b1
    go_wp2_with fail
    go_ret
    rw [E.out]
    exact ⟨rfl, B1.out⟩
end Go.Proofs.YtfpbhedophlnkaaGreatDoor
namespace Go.Proofs.YtfpbhedophlnkaaGreatDoor
open Go.RowKit Go.Shelf
set_option linter.unusedSimpArgs false
set_option linter.unusedVariables false

theorem splitN_any (s : ByteArray) (w : World) (hs : s.size ≤ 1048576) (hg : Glob w) :
    Calls Tryz.prog 85 #[.string s, .string ⟨#[32]⟩, .int .i64 9] w fun e w' =>
      e = .returned (.slice (some ⟨w.heap.size, 0, none⟩) (Lib.splitB ⟨#[32]⟩ 0 (min 9 (s.size + 1) - 1) s).length (min 9 (s.size + 1))) ∧ w' = w.alloc (.cells (Lib.cellsOf (Lib.splitB ⟨#[32]⟩ 0 (min 9 (s.size + 1) - 1) s) (min 9 (s.size + 1))) 9) := by
  obtain ⟨m, hm⟩ := hg.mxl
  have h := Any.strings_SplitN { Tryz.lays147 with } Tryz.lays147.i9 s ⟨#[32]⟩ 9 m w (by omega) hm (Nat.le_refl _) (by omega) (by omega)
  exact h
theorem cut_any (s : ByteArray) (w : World) (hs : s.size ≤ 1048576) (hg : Glob w) :
    Calls Tryz.prog 86 #[.string s, .string ⟨#[47]⟩] w fun e w' => e = .returned (.tuple #[.string (mkB (Lib.cut s.data.toList [47]).1), .string (mkB (Lib.cut s.data.toList [47]).2.1), .bool (Lib.cut s.data.toList [47]).2.2]) ∧ Below w.heap.size w w' := by
  obtain ⟨m, hm⟩ := hg.mxl
  refine (Any.strings_Cut { Tryz.lays145 with } s ⟨#[47]⟩ m w (by omega) hm).mono ?_
  rintro e w' ⟨he, n, rfl⟩
  exact ⟨he, ⟨rfl, rfl, rfl, Nat.le_refl _, fun _ _ => rfl⟩⟩
theorem cells_word (w : World) (WS : List ByteArray) (N : Nat) (t : TypeId) (j : Nat) (x : ByteArray) (h : WS[j]? = some x) : (w.alloc (.cells (Lib.cellsOf WS N) t)).cell? ⟨w.heap.size, j, none⟩ = some (.string x) := by
  rw [World.cell?_alloc_new]
  unfold Lib.cellsOf
  have hl := (List.getElem?_eq_some_iff.1 h).1
  simp [List.getElem?_append_left, hl, h]
  rw [List.getElem?_eq_getElem hl] at h
  injection h
def IPRel (w1 : World) (WS : List ByteArray) (wr : World) (o i : Value) : Prop :=
  ∃ (j n : Nat) (ao : Option Addr) (c : Nat) (out : List Tb), o = .slice ao n c ∧ i = .int .i64 j ∧ n = out.length ∧ out.length = j ∧ j ≤ WS.length ∧ OwnT wr w1.heap.size ao c out ∧ Below w1.heap.size w1 wr ∧ Cuts WS out

set_option maxRecDepth 100000 in
set_option maxHeartbeats 2000000 in
theorem implParse_mid (s : ByteArray) (w : World) (h0 : 1 ≤ s.size) (hs : s.size ≤ 1048576) (hg : Glob w) :
    Calls Tryz.prog 21 #[.string s] w (ParsePost s w) := by
  have hsl := size_list s
  have SNE := Lib.hid (show s.data.toList ≠ [] by intro hh; rw [hh] at hsl; simp at hsl; omega)
  clear hsl
  have hq : (s.toList == []) = false := by
    rw [ByteArray.toList_eq]
    cases hc : (s.data.toList == []) with
    | false => rfl
    | true => exact absurd (eq_of_beq hc) SNE.out
  have hq' : s.toList.isEmpty = false := by
    rw [ByteArray.toList_eq]
    cases hc : s.data.toList with
    | nil => exact absurd hc SNE.out
    | cons a b => rfl
  have SPL := Lib.hid (splitN_any s w hs hg)
  have CS := Lib.hid (fun (m out : List Tb) (hm : schemaB m = true) (he : s.data.toList = schT m) => cuts_sch (out := out) hm (by rintro rfl; exact SNE.out he) he)
  have LE := Lib.hid (splitN_le ⟨#[32]⟩ 0 (min 9 (s.size + 1) - 1) s)
  have L9 := Lib.hid (show (Lib.splitB ⟨#[32]⟩ 0 (min 9 (s.size + 1) - 1) s).length ≤ 9 by have := Lib.splitB_length_le ⟨#[32]⟩ 0 (min 9 (s.size + 1) - 1) s; omega)
  generalize Lib.splitB ⟨#[32]⟩ 0 (min 9 (s.size + 1) - 1) s = WS at SPL CS LE L9
  generalize min 9 (s.size + 1) = N at SPL
  have HG := Lib.hid hg; clear hg
  go_enter Tryz.func21, Tryz.ntmps21
  go_wp2_with fail
  refine SPL.out.mono ?_
  rintro e w1 ⟨rfl, hw1⟩
  have B01 := Lib.hid (show Below w.heap.size w w1 by rw [hw1]; exact (Below.refl _ _).alloc (Nat.le_refl _) _)
  have WC := Lib.hid (show ∀ j x, WS[j]? = some x → w1.cell? ⟨w.heap.size, j, none⟩ = some (.string x) by intro j x hx; rw [hw1]; exact cells_word w WS N _ j x hx)
  have hz1 : w.heap.size < w1.heap.size := by rw [hw1]; simp
  have P0 := Lib.hid (show IPRel w1 WS w1 (.slice none 0 0) (.int .i64 0) from ⟨0, 0, none, 0, [], rfl, rfl, rfl, rfl, Nat.zero_le _, ownT_none, Below.refl _ _, fun i t h => by simp at h⟩)
  clear hw1 SPL
  have hW9 := L9.out
  generalize hpn : WS.length = pn at hW9
  have HPN := Lib.hid hpn; clear hpn
  go_wp2_with fail
  go_loopw [4, 17] (fun o i wr => IPRel w1 WS wr o i) (fun _ i _ => pn - (intOf i).toNat)
  case atStart => exact P0.out
  case round =>
    clear P0
    obtain ⟨j, n, ao, c, out, rfl, rfl, hn, hoj, hj, hot, hb, hcu⟩ := hrel
    have HN := Lib.hid hn; have HOJ := Lib.hid hoj; have HOT := Lib.hid hot; have HB := Lib.hid hb; have HCU := Lib.hid hcu
    have hz := hb.size
    have hn2 : n ≤ 9 := by have := HPN.out; omega
    clear hn hoj hot hcu
    by_cases hlt : j < pn
    · have hx0 : WS[j]? = some (WS[j]'(by have := HPN.out; omega)) := List.getElem?_eq_getElem (by have := HPN.out; omega)
      generalize WS[j]'(by have := HPN.out; omega) = x at hx0
      have HX := Lib.hid hx0
      have hlt' : (j : Int) < (pn : Int) := by omega
      have hc0 := (hb.cell (p := ⟨w.heap.size, j, none⟩) hz1).trans (WC.out j x hx0)
      have hxs := LE.out x (List.mem_of_getElem? hx0)
      have hxl := size_list x
      have cz := cut_size x.data.toList [47]
      rw [hxl] at cz
      have GR := Lib.hid (HG.out.below B01.out |>.below hb)
      have CT := Lib.hid (cut_any x wr (by omega) GR.out)
      have CU := Lib.hid (fun t hn hx => HCU.out.snoc (t := t) (wd := x) (by rw [HOJ.out]; exact HX.out) hn hx)
      generalize (Lib.cut x.data.toList [47]).1 = cn at cz CT CU
      generalize (Lib.cut x.data.toList [47]).2.1 = cd at cz CT CU
      generalize (Lib.cut x.data.toList [47]).2.2 = cb at CT
      have hcn : (mkB cn).size ≤ 1048576 := by rw [mkB_size]; omega
      have hcd : (mkB cd).size ≤ 1048576 := by rw [mkB_size]; omega
      clear hx0 hb hxl
      go_wp2_with fail
      refine CT.out.mono ?_
      rintro e w2 ⟨rfl, b2⟩
      have B2 := Lib.hid (below_step HB.out (Nat.le_refl _) b2); have T2 := Lib.hid (HOT.out.below b2); have G2 := Lib.hid (GR.out.below b2)
      clear b2 hc0
      go_wp2_with fail
      refine (numberIn_any (mkB cd) _ hcd G2.out).mono ?_
      rintro e w3 ⟨y, ok, rfl, hy1, hy2, b3, hyy⟩
      have B3 := Lib.hid (below_step B2.out (Nat.le_refl _) b3); have T3 := Lib.hid (T2.out.below b3)
      have YY := Lib.hid hyy
      have hz3 := B3.out.size
      clear b3 hyy
      have N3 := Lib.hid (T3.out.below ((Below.refl _ w3).alloc (Nat.le_refl _) (.cells #[.string (mkB cn), .int .i64 y] 99)))
      have TA := Lib.hid (show TbAt (w3.alloc (.cells #[.string (mkB cn), .int .i64 y] 99)) w3.heap.size 0 ⟨mkB cn, y⟩ from ⟨by rw [World.cell?_alloc_new]; rfl, by rw [World.cell?_alloc_new]; rfl, by unfold maxLen; simp only; omega⟩)
      have hnn : out.length + 1 ≤ 4194304 := by have := HN.out; omega
      have hz4 : w1.heap.size ≤ (w3.alloc (.cells #[.string (mkB cn), .int .i64 y] 99)).heap.size := by simp; omega
      go_wp2_with (at_builtin; refine wpList_appendT _ rfl (.tmp 32) (.tmp 36) 24 rfl w1.heap.size Tryz.underlying24 Tryz.infoTable ao c n out rfl HN.out N3.out w3.heap.size 1 ⟨mkB cn, y⟩ rfl TA.out hnn hz4 ?_; intro ao' c' w4 o4 g4; have R := Lib.hid (show IPRel w1 WS w4 (.slice ao' (out.length + 1) c') (.int .i64 ((j : Int) + 1)) from ⟨j + 1, _, ao', c', out ++ [⟨mkB cn, y⟩], rfl, by simp, by simp, by have := HOJ.out; simp; omega, by have := HPN.out; omega, o4, (B3.out.alloc B3.out.size _).grown g4 hz4 (fun q hq => ownT_blk T3.out hq), CU.out _ rfl (fun z h1 h2 h3 => YY.out z h1 h2 h3)⟩); clear o4 g4)
      go_roundw
      case rel => exact R.out
      case measure => simp [intOf]; omega
    · have hjp : pn ≤ j := by omega
      obtain rfl : n = out.length := HN.out
      have RT := Lib.hid HOT.out.rd
      have BW := Lib.hid (below_step B01.out (Nat.le_refl _) hb)
      clear hb
      have TX := Lib.hid (implText_any ao c out wr RT.out (by omega))
      have EQ := Lib.hid (show txtO out = s → schemaB out = true ∧ s.data.toList = schT out from fun hh => by
        unfold txtO at hh
        split at hh
        · rename_i hb
          exact ⟨hb, by rw [← hh]⟩
        · exact absurd (by rw [← hh]) SNE.out)
      have NE := Lib.hid (show txtO out ≠ s → ∀ m, schemaB m = true → s.data.toList ≠ schT m from fun hh m hm he => by
        have := CS.out m out hm he (by have := HPN.out; have := HOJ.out; omega) HCU.out
        subst this
        apply hh
        unfold txtO
        rw [if_pos hm]
        apply ByteArray.ext
        apply Array.toList_inj.1
        rw [he])
      generalize txtO out = tx at TX EQ NE
      by_cases hq2 : tx = s
      · subst hq2
        have E := Lib.hid (EQ.out rfl)
        have hs3 : (tx.toList != tx.toList) = false := by simp
        clear EQ NE
        go_wp2_with fail
        refine TX.out.mono ?_
        rintro e w2 ⟨rfl, b2⟩
        have B2 := Lib.hid (below_step BW.out (Nat.le_refl _) b2); have T2 := Lib.hid ((HOT.out.below b2).base_le (Nat.le_of_lt hz1))
        clear b2
        go_wp2_with fail
        go_ret2
        exact ⟨out, true, ⟨ao, c, rfl, T2.out, B2.out⟩, .inl ⟨rfl, E.out.1, E.out.2⟩⟩
      · have hs2 : (tx.toList == s.toList) = false := by rw [str_same]; simp [hq2]
        have hs3 : (tx.toList != s.toList) = true := by simp [bne, hs2]
        have E := Lib.hid (NE.out hq2)
        clear EQ NE hq2
        go_wp2_with fail
        refine TX.out.mono ?_
        rintro e w2 ⟨rfl, b2⟩
        have B2 := Lib.hid (below_step BW.out (Nat.le_refl _) b2)
        clear b2
        go_wp2_with fail
        go_ret2
        exact parse_no rfl B2.out E.out

set_option maxRecDepth 100000 in
theorem implParse_any (s : ByteArray) (w : World) (hs : s.size ≤ 1048576) (hg : Glob w) :
    Calls Tryz.prog 21 #[.string s] w (ParsePost s w) := by
  by_cases h0 : s.size = 0
  · have he : s = ⟨#[]⟩ := by
      apply ByteArray.ext
      exact Array.eq_empty_of_size_eq_zero h0
    subst he
    clear hg hs h0
    go_enter Tryz.func21, Tryz.ntmps21
    go_wp2_with fail
    go_ret2
    exact ⟨[], true, ⟨none, 0, rfl, ownT_none, Below.refl _ _⟩, .inl ⟨rfl, schema_nil, rfl⟩⟩
  · exact implParse_mid s w (by omega) hs hg
end Go.Proofs.YtfpbhedophlnkaaGreatDoor
namespace Go.Proofs.YtfpbhedophlnkaaGreatDoor
open Go.RowKit
set_option linter.unusedSimpArgs false
set_option linter.unusedVariables false

set_option maxRecDepth 100000 in
theorem implPutNum_any (x : Int) (w : World) : Calls Tryz.prog 88 #[.int .i64 x] w (Made w 5 .u8 (putN x)) := by
  by_cases hx : -1000000 ≤ x ∧ x ≤ 1000000
  · rw [show putN x = enc (fold x) by unfold putN; rw [isN_mk hx]; rfl]
    have HX := Lib.hid hx; clear hx
    go_enter Tryz.func88, Tryz.ntmps88
    go_wp2_with (go_at_call 171; refine (isNum_t _ _ HX.out).mono ?_; rintro e w' ⟨rfl, rfl⟩)
    refine (addNum_any w.heap.size w.heap.size [] x _ HX.out (Wr.new w _ _) (by simp) (by simp)).mono ?_
    rintro e w1 ⟨rfl, ⟨ao, c, hblk, _, ho⟩, hb⟩
    have hc := cell_of_one hblk
    have HO := Lib.hid ho; have HB := Lib.hid hb; clear ho hb hblk
    rw [List.nil_append] at hc HO
    go_wp2
    go_ret
    exact ⟨ao, c, rfl, HO.out, below_after HB.out⟩
  · rw [show putN x = [] by unfold putN; rw [isN_not hx]; rfl]
    have HX := Lib.hid hx; clear hx
    go_enter Tryz.func88, Tryz.ntmps88
    go_wp2_with (go_at_call 171; refine (isNum_f _ _ HX.out).mono ?_; rintro e w' ⟨rfl, rfl⟩)
    go_ret
    exact ⟨none, 0, rfl, Own.none_, Below.refl _ _⟩
end Go.Proofs.YtfpbhedophlnkaaGreatDoor
namespace Go.Proofs.YtfpbhedophlnkaaGreatDoor
open Go.RowKit
set_option linter.unusedSimpArgs false
set_option linter.unusedVariables false

/-- The slice that begins at 'ao' reads as the slices of bytes ls. -/
def RdB (w : World) (ao : Option Addr) (ls : List (List Int)) : Prop :=
  ls = [] ∨ ∃ b off, ao = some ⟨b, off, none⟩ ∧ ∀ (i : Nat) (l : List Int), ls[i]? = some l → ∃ a c, w.cell? ⟨b, off + i, none⟩ = some (.slice a l.length c) ∧ Rd w .u8 a l
theorem RdB.below {w w' : World} {ao : Option Addr} {ls : List (List Int)} (h : RdB w ao ls) (hb : Below w.heap.size w w') : RdB w' ao ls := by
  rcases h with h | ⟨b, off, rfl, hc⟩
  · exact .inl h
  · refine .inr ⟨b, off, rfl, fun i l hi => ?_⟩
    obtain ⟨a, c, h1, h2⟩ := hc i l hi
    exact ⟨a, c, (hb.cell (p := ⟨b, off + i, none⟩) (World.block_lt_of_cell? w ⟨b, off + i, none⟩ h1)).trans h1, h2.below hb⟩
theorem RdB.at_ {w : World} {ao : Option Addr} {ls : List (List Int)} (h : RdB w ao ls) {i : Nat} (hi : i < ls.length) :
    ∃ b off l a c, ao = some ⟨b, off, none⟩ ∧ ls[i]? = some l ∧ w.cell? ⟨b, off + i, none⟩ = some (.slice a l.length c) ∧ Rd w .u8 a l := by
  rcases h with rfl | ⟨b, off, rfl, hc⟩
  · simp at hi
  · obtain ⟨a, c, h1, h2⟩ := hc i _ (List.getElem?_eq_getElem hi)
    exact ⟨b, off, _, a, c, rfl, List.getElem?_eq_getElem hi, h1, h2⟩

/-- A slice of slices of bytes of the call's own, and so each of them. -/
def OwnB (w : World) (base : Nat) (ao : Option Addr) (c : Nat) (ls : List (List Int)) : Prop :=
  ∃ vs, OwnV w base 22 ao c vs ∧ vs.length = ls.length ∧ ∀ (i : Nat) (l : List Int), ls[i]? = some l → ∃ (a : Option Addr) (c' : Nat), vs[i]? = some (Value.slice a l.length c') ∧ Own w base 5 .u8 a c' l
theorem OwnB.below {w w' : World} {base : Nat} {ao : Option Addr} {c : Nat} {ls : List (List Int)} (h : OwnB w base ao c ls) (hb : Below w.heap.size w w') : OwnB w' base ao c ls := by
  obtain ⟨vs, h1, h2, h3⟩ := h
  refine ⟨vs, h1.below hb, h2, fun i l hi => ?_⟩
  obtain ⟨a, c', h4, h5⟩ := h3 i l hi
  exact ⟨a, c', h4, h5.below hb⟩
theorem OwnB.rd {w : World} {base : Nat} {ao : Option Addr} {c : Nat} {ls : List (List Int)} (h : OwnB w base ao c ls) : RdB w ao ls := by
  obtain ⟨vs, h1, h2, h3⟩ := h
  rcases h1.form with ⟨_, _, rfl⟩ | ⟨g, rfl, _⟩
  · left; exact List.eq_nil_of_length_eq_zero h2.symm
  · refine .inr ⟨g, 0, rfl, fun i l hi => ?_⟩
    obtain ⟨a, c', h4, h5⟩ := h3 i l hi
    have hil : i < vs.length := (List.getElem?_eq_some_iff.1 h4).1
    exact ⟨a, c', by rw [Nat.zero_add, h1.cell i hil]; exact h4, h5.rd⟩
theorem OwnB.none_ {w : World} {base : Nat} : OwnB w base none 0 [] := ⟨[], OwnV.none_, rfl, fun i l hi => by simp at hi⟩
/-- Rows of two types lie in two blocks. -/
theorem own_blocks {w : World} {base : Nat} {e e' : TypeId} {ao a : Option Addr} {c c' : Nat} {vs : List Value} {l : List Int} (he : e ≠ e') (h : OwnV w base e ao c vs) (k : Own w base e' .u8 a c' l) : ∀ x y, ao = some x → a = some y → y.block ≠ x.block := by
  intro x y hx hy hh
  rcases h.2 with ⟨hv, _⟩ | ⟨g, cap, cur, hv, _, hg, _⟩
  · simp only [Value.slice.injEq] at hv; rw [hx] at hv; cases hv.1
  rcases k.2 with ⟨hv', _⟩ | ⟨g', cap', cur', hv', _, hg', _⟩
  · simp only [Value.slice.injEq] at hv'; rw [hy] at hv'; cases hv'.1
  simp only [Value.slice.injEq] at hv hv'
  rw [hx] at hv; rw [hy] at hv'
  have e1 : x = ⟨g, 0, none⟩ := by injection hv.1
  have e2 : y = ⟨g', 0, none⟩ := by injection hv'.1
  subst e1; subst e2
  simp only at hh; subst hh
  rw [hg] at hg'
  injection hg' with hg'
  injection hg' with _ hg'
  exact he hg'
/-- One more is appended. -/
theorem OwnB.push {w1 w3 : World} {base : Nat} {ao ao' : Option Addr} {c c' : Nat} {ls : List (List Int)} {vs : List Value} {a1 : Option Addr} {c1 : Nat} {l1 : List Int}
    (hV : OwnV w1 base 22 ao c vs) (hl : vs.length = ls.length) (hp : ∀ (i : Nat) (l : List Int), ls[i]? = some l → ∃ (a : Option Addr) (c' : Nat), vs[i]? = some (Value.slice a l.length c') ∧ Own w1 base 5 .u8 a c' l)
    (h1 : Own w1 base 5 .u8 a1 c1 l1) (hV3 : OwnV w3 base 22 ao' c' (vs ++ [.slice a1 l1.length c1])) (hg : w1.grownBy w3 (ao.map (·.block))) : OwnB w3 base ao' c' (ls ++ [l1]) := by
  have keep : ∀ a c' l, Own w1 base 5 .u8 a c' l → Own w3 base 5 .u8 a c' l := by
    intro a c' l h
    refine h.grown hg ?_
    intro y hy
    cases ao with
    | none => simp
    | some x => simp; exact own_blocks (by decide) hV h x y rfl hy
  refine ⟨_, hV3, by simp [hl], fun i l hi => ?_⟩
  rcases Nat.lt_or_ge i ls.length with h | h
  · rw [List.getElem?_append_left h] at hi
    obtain ⟨a, c', h4, h5⟩ := hp i l hi
    exact ⟨a, c', by rw [List.getElem?_append_left (by omega)]; exact h4, keep _ _ _ h5⟩
  · rw [List.getElem?_append_right h] at hi
    have hi0 : i - ls.length = 0 := by
      rcases Nat.eq_zero_or_pos (i - ls.length) with h0 | h0
      · exact h0
      · rw [List.getElem?_eq_none (by simp; omega)] at hi; cases hi
    rw [hi0] at hi
    simp at hi; subst hi
    exact ⟨a1, c1, by rw [List.getElem?_append_right (by omega), hl, hi0]; rfl, keep _ _ _ h1⟩

def padL (acc : List Int) (T : Nat) : List Int := acc ++ List.replicate (T - acc.length) 0
theorem padL_len {acc : List Int} {T : Nat} (h : acc.length ≤ T) : (padL acc T).length = T := by simp [padL]; omega
theorem padL_splice {acc l : List Int} {T : Nat} (h : acc.length + l.length ≤ T) : splice ((padL acc T).map (Value.int .u8)) acc.length (l.map (Value.int .u8)) = (padL (acc ++ l) T).map (Value.int .u8) := by
  unfold splice padL
  rw [List.map_append, List.map_append]
  rw [List.take_append_of_le_length (by simp), List.take_of_length_le (by simp)]
  rw [List.drop_append, List.drop_of_length_le (by simp)]
  simp only [List.length_map, List.nil_append, List.map_append, List.map_replicate, List.drop_replicate, List.length_append, List.append_assoc]
  congr 3
  omega
theorem own_of_block {w : World} {base g : Nat} {e : TypeId} {l : List Int} (hg : w.heap[g]? = some (.cells (l.map (Value.int .u8)).toArray e (0, 0))) (hb : base ≤ g) (hl : l.length ≤ maxLen) : Own w base e .u8 (some ⟨g, 0, none⟩) l.length l :=
  ⟨by simp, .inr ⟨g, l.length, _, rfl, hb, hg, Nat.le_refl _, hl, by simp, by rw [Nat.mul_one]; exact List.take_of_length_le (by simp)⟩⟩
theorem block_of_own {w : World} {base g n : Nat} {e : TypeId} {xs : List Value} (h : w.ownsRow base e 1 (.slice (some ⟨g, 0, none⟩) n n) n xs) : w.heap[g]? = some (.cells xs.toArray e (0, 0)) := by
  rcases h.2 with ⟨hv, _⟩ | ⟨g', cap, cur, hv, _, hg, h1, h2, h3, h4⟩
  · simp only [Value.slice.injEq] at hv; cases hv.1
  · simp only [Value.slice.injEq, Option.some.injEq, Addr.mk.injEq, and_true] at hv
    obtain ⟨rfl, -, rfl⟩ := hv
    have hx := h.1
    rw [hg]
    have : cur = xs.toArray := by
      apply Array.ext'
      rw [Nat.mul_one] at h3 h4
      rw [← h4, List.take_of_length_le (by simp; omega)]
    rw [this]
end Go.Proofs.YtfpbhedophlnkaaGreatDoor
