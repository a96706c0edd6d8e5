/-
  Contract of impl.SchemaText. For every slice of tables.
-/
import Derived.Test.YtdkiaahcmoafdaaGreatDoorTxtB
import Derived.Test.YtdkiaahcmoafdaaGreatDoorITold
import Derived.Test.YtdkiaahcmoafdaaGreatDoorAppS
import Derived.Test.YtdkiaahcmoafdaaGreatDoorShelf5
import Derived.Deep.AppendLies
import Derived.Deep.RegionLaw
namespace Go.Proofs.YtdkiaahcmoafdaaGreatDoor
open Go.RowKit Go.Shelf
set_option linter.unusedSimpArgs false
set_option linter.unusedVariables false

theorem Tryz.extra156 : Builder.Extra Tryz.prog Tryz.lays156_ren where
  sizeBuilder := by kernel_rfl
  liesBuilder := by kernel_rfl
  t5 := Tryz.underlying5
  a5 := Tryz.isAgg5
  z5 := Tryz.sizeOf5
  v5 := Tryz.zeroValue5
  infoByte := by kernel_rfl
  cellsByte := by kernel_rfl
  sizeByte := by kernel_rfl
  neB5 := by decide

theorem itoa_any (x : Int) (w : World) (h1 : 1 ≤ x) (h2 : x ≤ 6) :
    Calls Tryz.prog 27 #[.int .i64 x] w fun e w' => e = .returned (.string (digS x)) ∧ w' = w := by
  have h := Any.strconv_Itoa_small Tryz.lays171 x.toNat (by omega) w
  have e1 : ((x.toNat : Nat) : Int) = x := by omega
  have e2 : Lib.decDigits x.toNat = [UInt8.ofNat (48 + x.toNat)] := by rw [Lib.decDigits, dif_pos (by omega)]
  rw [e1, e2] at h
  exact h

/-- A table's text, as the program makes it. -/
def tbB (t : Tb) : ByteArray := t.name ++ ⟨#[47]⟩ ++ digS t.width
theorem tbB_list (t : Tb) : (tbB t).data.toList = tbT t := by
  unfold tbB tbT digS
  simp [ByteArray.data_append]
def WrdRel (w : World) (l : List Tb) (wr : World) (s i : Value) : Prop :=
  ∃ (j : Nat) (ao : Option Addr) (c n : Nat), j ≤ l.length ∧ i = .int .i64 j ∧ s = .slice ao n c ∧ n = j ∧ OwnS wr w.heap.size ao c ((l.take j).map tbB) ∧ Below w.heap.size w wr
theorem wrd_next {w w1 : World} {l : List Tb} {j : Nat} {t : Tb} {ao : Option Addr} {c : Nat} (ht : l[j]? = some t) (ho : OwnS w1 w.heap.size ao c ((l.take j).map tbB ++ [tbB t])) (hb : Below w.heap.size w w1) :
    WrdRel w l w1 (.slice ao ((l.take j).map tbB ++ [tbB t]).length c) (.int .i64 ((j : Int) + 1)) := by
  have hj : j < l.length := (List.getElem?_eq_some_iff.1 ht).1
  have e : l[j] = t := by rw [List.getElem?_eq_getElem hj] at ht; injection ht
  refine ⟨j + 1, ao, c, _, hj, by simp, rfl, by simp; omega, ?_, hb⟩
  rw [List.take_succ_eq_append_getElem hj, e, List.map_append, List.map_cons, List.map_nil]
  exact ho
theorem cell_one_s (w : World) (y : ByteArray) (t : TypeId) : ∀ i, i < [y].length → (w.alloc (.cells #[.string y] t)).cell? ⟨w.heap.size, i, none⟩ = some (.string ([y].getD i ByteArray.empty)) := by
  intro i hi
  obtain rfl : i = 0 := by simp at hi; omega
  rw [World.cell?_alloc_new]; rfl

theorem ownS_cap {w : World} {base : Nat} {ao : Option Addr} {c : Nat} {l : List ByteArray} (h : OwnS w base ao c l) : l.length ≤ c := by
  rcases h.2 with ⟨hv, hn⟩ | ⟨g, cap, cur, hv, _, _, h1, _⟩
  · omega
  · simp only [Value.slice.injEq] at hv; omega
theorem join_any (base : Nat) (ao : Option Addr) (c n : Nat) (xs : List ByteArray) (hn : n = xs.length) (w : World) (h : OwnS w base ao c xs) (hlen : (jn (xs.map (·.data.toList))).length ≤ 140737488355328) (h8 : xs.length ≤ 8) :
    Calls Tryz.prog 29 #[.slice ao n c, .string ⟨#[32]⟩] w fun e w' => e = .returned (.string ⟨(jn (xs.map (·.data.toList))).toArray⟩) ∧ Below w.heap.size w w' := by
  subst hn
  rcases h.form with ⟨rfl, rfl, rfl⟩ | ⟨g, rfl, _, hg⟩
  · exact (Any.strings_Join_none Tryz.lays156 Tryz.extra156 none 0 ⟨#[32]⟩ w).mono fun e w' ⟨he, hw⟩ => ⟨he, hw ▸ Below.refl _ _⟩
  · have hj := Any.strings_Join Tryz.lays156 Tryz.extra156 g 0 c xs ⟨#[32]⟩ w (fun j x hx => by
      have hl := (List.getElem?_eq_some_iff.1 hx).1
      have := h.cell j hl
      rw [List.getD_eq_getElem?_getD, hx] at this
      rw [Nat.zero_add]; exact this) hg (by omega) (ownS_cap h) (by
        have e := jn_join (xs.map (·.data.toList))
        show (Lib.join _ [32]).length ≤ _
        rw [e]; exact hlen)
    have e := jn_join (xs.map (·.data.toList))
    have e' : Lib.join (xs.map (·.data.toList)) (ByteArray.mk #[32]).data.toList = jn (xs.map (·.data.toList)) := e
    rw [e'] at hj
    exact hj

theorem own_below_row {w w' : World} {base : Nat} {e : TypeId} {size : Nat} {v : Value} {n : Nat} {xs : List Value} (h : w.ownsRow base e size v n xs) (hb : Below w.heap.size w w') : w'.ownsRow base e size v n xs := by
  refine ⟨h.1, ?_⟩
  rcases h.2 with h2 | ⟨g, cap, cur, hv, hbg, hg, r⟩
  · exact .inl h2
  · refine .inr ⟨g, cap, cur, hv, hbg, ?_, r⟩
    have hlt : g < w.heap.size := by
      rcases Nat.lt_or_ge g w.heap.size with h1 | h1
      · exact h1
      · rw [Array.getElem?_eq_none h1] at hg; cases hg
    rw [hb.block g hlt]; exact hg
theorem news_one (W : World) (S : ByteArray) (t : TypeId) (H : Nat) (hH : W.heap.size = H) : ∀ j u, [Value.string S][j]? = some u → (W.alloc (.cells #[.string S] t)).cell? ((⟨H, 0, none⟩ : Addr).add j) = some u := by
  subst hH
  intro j u hj
  match j, hj with
  | 0, hj =>
    simp at hj; subst hj
    rw [show (⟨W.heap.size, 0, none⟩ : Addr).add 0 = ⟨W.heap.size, 0, none⟩ from rfl, World.cell?_alloc_new]; rfl
theorem wrd_next' {w wr W w1 : World} {l : List Tb} {j n : Nat} {t : Tb} {wo : Option Addr} {wc g cap : Nat} (ht : l[j]? = some t) (hn : n = ((l.take j).map tbB).length) (ho : OwnS wr w.heap.size wo wc ((l.take j).map tbB)) (hb : Below w.heap.size w W) (hWw : Below wr.heap.size wr W)
    (o4 : w1.ownsRow w.heap.size 9 1 (.slice (some ⟨g, 0, none⟩) (n + 1) cap) (n + 1) (((l.take j).map tbB).map Value.string ++ [.string (t.name ++ ⟨#[47]⟩ ++ digS t.width)])) (hg : W.grownBy w1 (Value.ownBlock (.slice wo n wc))) :
    WrdRel w l w1 (.slice (some ⟨g, 0, none⟩) (n + 1) cap) (.int .i64 ((j : Int) + 1)) := by
  subst hn
  have e : ((l.take j).map tbB ++ [tbB t]).length = ((l.take j).map tbB).length + 1 := by simp
  have h1 : OwnS w1 w.heap.size (some ⟨g, 0, none⟩) cap ((l.take j).map tbB ++ [tbB t]) := by
    unfold OwnS
    rw [List.map_append, e]
    exact o4
  have h2 : Below w.heap.size w w1 := hb.grown hg hb.size (by
    intro x hx
    rcases ho.form with ⟨rfl, _⟩ | ⟨q, rfl, hq, _⟩
    · simp [Value.ownBlock] at hx
    · simp [Value.ownBlock] at hx; omega)
  have := wrd_next ht h1 h2
  rw [e] at this
  exact this

set_option maxRecDepth 100000 in
set_option maxHeartbeats 1600000 in
theorem implText_yes (ao : Option Addr) (c : Nat) (l : List Tb) (w : World) (h : RdT w ao l) (hs : schemaB l = true) :
    Calls Tryz.prog 15 #[.slice ao l.length c] w fun e w' => e = .returned (.string ⟨(schT l).toArray⟩) ∧ Below w.heap.size w w' := by
  have hl8 := (schemaB_iff.1 hs).1
  have HT := Lib.hid (schemaB_iff.1 hs).2.1
  have H := Lib.hid h; have HB := Lib.hid hs; clear h hs
  go_enter Tryz.func15, Tryz.ntmps15
  go_wp2_with fail
  refine (implSchema_any ao c l _ H.out (by omega)).mono ?_
  rintro e w1 ⟨rfl, b1⟩
  rw [HB.out]
  have P0 := Lib.hid (show WrdRel w l w1 (.slice none 0 0) (.int .i64 0) from ⟨0, none, 0, 0, Nat.zero_le _, rfl, rfl, rfl, OwnS.none_, b1⟩)
  clear b1
  go_wp2_with fail
  go_loopw [3, 11] (fun s i wr => WrdRel w l wr s i) (fun _ i _ => l.length - (intOf i).toNat)
  case atStart => exact P0.out
  case round =>
    clear P0
    obtain ⟨j, wo, wc, n, hj, rfl, rfl, hnj, ho, hb⟩ := hrel
    have HNJ := Lib.hid hnj; have HO := Lib.hid ho; have HBL := Lib.hid hb
    clear hnj
    by_cases hlt : j < l.length
    · obtain ⟨b, off, t, rfl, ht, hat⟩ := (H.out.below hb).at_ hlt
      have htb := HT.out t (List.mem_of_getElem? ht)
      have hns := (tbT_len htb).2
      unfold tableB at htb
      rw [Bool.and_eq_true, decide_eq_true_eq] at htb
      obtain ⟨hw1, hw2⟩ := htb.2
      obtain ⟨c0, c1, nm⟩ := hat
      have hbl : b < wr.heap.size := World.block_lt_of_cell? wr ⟨b, off + j * 2, none⟩ c0
      have hlt' : (j : Int) < (l.length : Int) := by omega
      have TT := Lib.hid ht
      clear ho hb htb ht nm
      have hds := digS_size t.width
      have e1 : ¬ (9223372036854775807 < t.name.size + 1) := by omega
      have e2 : ¬ (9223372036854775807 < t.name.size + 1 + (digS t.width).size) := by omega
      have HD := Lib.hid hds; clear hds
      go_wp2_with fail
      have HLEN := Lib.hid (show n = ((l.take j).map tbB).length by rw [HNJ.out]; simp; omega)
      have hn8 : n ≤ 8 := by have := HNJ.out; omega
      have HOW := Lib.hid (show wr.ownsRow w.heap.size 9 1 (.slice wo n wc) n (((l.take j).map tbB).map Value.string) by have := HO.out; unfold OwnS at this; rw [← HLEN.out] at this; exact this)
      obtain ⟨i0, hi0, hz0, hz1, hz2⟩ := info_parts Tryz.infoStr
      have I0 := Lib.hid hi0; have Z0 := Lib.hid hz0; have Z1 := Lib.hid hz1; have Z2 := Lib.hid hz2
      clear hi0 hz0 hz1 hz2
      have hzw := HBL.out.size
      have WB := Lib.hid (show ∀ (o o' : Obj), Below wr.heap.size wr ((wr.alloc o).drew.alloc o') from fun o o' => (((Below.refl _ wr).alloc (Nat.le_refl _) o).drew).alloc (by simp) o')
      go_region_law (first | (refine step_append_lies _ rfl (.tmp 15) (.tmp 23) 28 rfl w.heap.size 9 i0 _ 1 16 Tryz.underlying28 I0.out Z0.out Z1.out Z2.out rfl (by omega) (.slice wo n wc) n (((l.take j).map tbB).map Value.string) (by simp [Act.eval, Act.put]) (own_below_row HOW.out (WB.out _ _)) ⟨wr.heap.size + 1, 0, none⟩ 1 1 [.string (t.name ++ ⟨#[47]⟩ ++ digS t.width)] (by simp [Act.eval, Act.put]) rfl (news_one _ _ _ _ (by simp)) (by intro u hu; simp at hu; subst hu; rfl) (by omega) (by unfold maxLen; omega) (by omega) (by simp; omega) _ rfl ?_; intro g cap w4 o4 g4 _ _; have R := Lib.hid (wrd_next' TT.out HLEN.out HO.out (below_step HBL.out (Nat.le_refl _) (WB.out _ _)) (WB.out _ _) o4 g4); clear o4 g4) | (go_simp; go_at_call 27; refine (itoa_any t.width _ hw1 hw2).mono ?_; rintro e w' ⟨rfl, rfl⟩))
      all_goals
        go_wp2_with fail
        go_roundw
        case rel => exact R.out
        case measure => simp [intOf]; omega
    · obtain rfl : j = l.length := by omega
      have hOw := HO.out
      rw [List.take_length] at hOw
      have e : (l.map tbB).map (·.data.toList) = l.map tbT := by rw [List.map_map]; exact List.map_congr_left (fun t _ => tbB_list t)
      have hlen := schT_len (l := l) HT.out
      have J := join_any w.heap.size wo wc n (l.map tbB) (by rw [HNJ.out, List.length_map]) wr hOw (by rw [e]; unfold schT at hlen; omega) (by rw [List.length_map]; exact hl8)
      rw [e] at J
      have JJ := Lib.hid J
      clear J e hlen hOw ho hb
      go_wp2_with fail
      refine JJ.out.mono ?_
      rintro e w2 ⟨rfl, b2⟩
      have B2 := Lib.hid (below_step HBL.out (Nat.le_refl _) b2); clear b2
      go_wp2_with fail
      go_ret
      exact ⟨rfl, B2.out⟩

set_option maxHeartbeats 1000000 in
theorem implText_any (ao : Option Addr) (c : Nat) (l : List Tb) (w : World) (h : RdT w ao l) (hl : l.length ≤ 1048576) :
    Calls Tryz.prog 15 #[.slice ao l.length c] w fun e w' => e = .returned (.string (txtO l)) ∧ Below w.heap.size w w' := by
  cases hs : schemaB l with
  | true => unfold txtO; rw [if_pos hs]; exact implText_yes ao c l w h hs
  | false =>
    have E := Lib.hid (show txtO l = ⟨#[]⟩ by unfold txtO; rw [if_neg (by rw [hs]; simp)])
    have H := Lib.hid h; have HB := Lib.hid hs; clear h hs
    go_enter Tryz.func15, Tryz.ntmps15
    go_wp2_with fail
    refine (implSchema_any ao c l _ H.out hl).mono ?_
    rintro e w1 ⟨rfl, b1⟩
    rw [HB.out]
    have B1 := Lib.hid b1; clear b1
    go_wp2_with fail
    go_ret
    rw [E.out]
    exact ⟨rfl, B1.out⟩
end Go.Proofs.YtdkiaahcmoafdaaGreatDoor
