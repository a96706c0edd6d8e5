/-
  Contracts of impl.valueText and impl.RowText. For every row.
-/
import Derived.Test.YtaaiedgmpgoonaaDoorSTxt
import Derived.Test.YtaaiedgmpgoonaaDoorAppS
import Derived.Test.YtaaiedgmpgoonaaDoorShelf5
import Derived.Test.YtaaiedgmpgoonaaDoorShelf7
namespace Go.Proofs.YtaaiedgmpgoonaaDoor
open Go.RowKit Go.Shelf
set_option linter.unusedSimpArgs false
set_option linter.unusedVariables false

theorem Tryd.extra156 : Builder.Extra Tryd.prog Tryd.lays156_ren where
  sizeBuilder := by kernel_rfl
  liesBuilder := by kernel_rfl
  t5 := Tryd.underlying5
  a5 := Tryd.isAgg5
  z5 := Tryd.sizeOf5
  v5 := Tryd.zeroValue5
  infoByte := by kernel_rfl
  cellsByte := by kernel_rfl
  sizeByte := by kernel_rfl
  neB5 := by decide
/-- What the walk asks of the library's table. -/
def GTab (w : World) : Prop := Lib.TabIs Tryd.prog w "internal/strconv.uint64pow10" .u64 Lib.pow10Tab
theorem gtab_below {w w' : World} (h : GTab w) (hb : Below w.heap.size w w') : GTab w' := by
  unfold GTab Lib.TabIs at h ⊢
  unfold World.var? at h ⊢
  cases hg : Tryd.prog.globalNamed "internal/strconv.uint64pow10" with
  | none => simp [hg] at h
  | some g =>
    simp only [hg, Option.bind_some] at h ⊢
    by_cases hlt : g < w.heap.size
    · rw [hb.block g hlt]
      exact h
    · have hn : w.heap[g]? = none := Array.getElem?_eq_none (by omega)
      simp [hn] at h
theorem grow_belowT (w : World) (k : Nat) (os : Array Obj) : Below w.heap.size w (Sort.grow (w.drewN k) os) :=
  ⟨rfl, rfl, rfl, by simp [Sort.grow, World.drewN], fun i hi => by show (w.heap ++ os)[i]? = _; rw [Array.getElem?_append_left hi]⟩
theorem itoaT_any (x : Int) (w : World) (h0 : -9223372036854775808 ≤ x) (h1 : x ≤ 9223372036854775807) (hg : GTab w) :
    Calls Tryd.prog 20 #[.int .i64 x] w fun e w' => e = .returned (.string (numT x)) ∧ Below w.heap.size w w' :=
  (Any.strconv_Itoa Tryd.laysT171 x h0 h1 w hg).mono fun e w' ⟨he, k, os, hw⟩ => ⟨he, hw ▸ grow_belowT _ _ _⟩
theorem valueText_any (x : Int) (w : World) (h0 : -9223372036854775808 ≤ x) (h1 : x ≤ 9223372036854775807) (hg : GTab w) :
    Calls Tryd.prog 14 #[.int .i64 x] w fun e w' => e = .returned (.string (vT x)) ∧ Below w.heap.size w w' := by
  have G := Lib.hid hg; clear hg
  by_cases hn : x = -2000000
  · subst hn
    go_enter Tryd.func14, Tryd.ntmps14
    go_wp2_with fail
    go_ret
    exact ⟨ret_str (by rfl), Below.refl _ _⟩
  · have hn' : (x == -2000000) = false := by simp [hn]
    have E := Lib.hid (show vT x = numT x by unfold vT; rw [if_neg hn]); clear hn
    go_enter Tryd.func14, Tryd.ntmps14
    go_wp2_with fail
    refine (itoaT_any x _ h0 h1 G.out).mono ?_
    rintro e w1 ⟨rfl, b1⟩
    go_wp2_with fail
    go_ret
    exact ⟨ret_str E.out.symm, b1⟩

theorem ownS_capT {w : World} {base : Nat} {ao : Option Addr} {c : Nat} {l : List ByteArray} (h : OwnS w base ao c l) : l.length ≤ c := by
  rcases h.2 with ⟨hv, hn⟩ | ⟨g, cap, cur, hv, _, _, h1, _⟩
  · omega
  · simp only [Value.slice.injEq] at hv; omega
theorem joinC_any (base : Nat) (ao : Option Addr) (c n : Nat) (xs : List ByteArray) (hn : n = xs.length) (w : World) (h : OwnS w base ao c xs) (hlen : (jc (xs.map (·.data.toList))).length ≤ 140737488355328) (h8 : xs.length ≤ 1048576) :
    Calls Tryd.prog 15 #[.slice ao n c, .string ⟨#[44]⟩] w fun e w' => e = .returned (.string ⟨(jc (xs.map (·.data.toList))).toArray⟩) ∧ Below w.heap.size w w' := by
  subst hn
  rcases h.form with ⟨rfl, rfl, rfl⟩ | ⟨g, rfl, _, hg⟩
  · exact (Any.strings_Join_none Tryd.lays156 Tryd.extra156 none 0 ⟨#[44]⟩ w).mono fun e w' ⟨he, hw⟩ => ⟨he, hw ▸ Below.refl _ _⟩
  · have hj := Any.strings_Join Tryd.lays156 Tryd.extra156 g 0 c xs ⟨#[44]⟩ w (fun j x hx => by
      have hl := (List.getElem?_eq_some_iff.1 hx).1
      have := h.cell j hl
      rw [List.getD_eq_getElem?_getD, hx] at this
      rw [Nat.zero_add]; exact this) hg (by omega) (ownS_capT h) (by
        have e := jc_join (xs.map (·.data.toList))
        show (Lib.join _ [44]).length ≤ _
        rw [e]; exact hlen)
    have e := jc_join (xs.map (·.data.toList))
    have e' : Lib.join (xs.map (·.data.toList)) (ByteArray.mk #[44]).data.toList = jc (xs.map (·.data.toList)) := e
    rw [e'] at hj
    exact hj
theorem cell_one_t (w : World) (y : ByteArray) (t : TypeId) : ∀ i, i < [y].length → (w.alloc (.cells #[.string y] t)).cell? ⟨w.heap.size, i, none⟩ = some (.string ([y].getD i ByteArray.empty)) := by
  intro i hi
  obtain rfl : i = 0 := by simp at hi; omega
  rw [World.cell?_alloc_new]; rfl

set_option maxRecDepth 100000 in
set_option maxHeartbeats 1600000 in
theorem implRowText_any (a : Option Addr) (c : Nat) (r : List Int) (w : World) (h : Rd w .i64 a r) (hl : r.length ≤ 1048576) (h64 : I64s r) (hg : GTab w) :
    Calls Tryd.prog 7 #[.slice a r.length c] w fun e w' => e = .returned (.string ⟨(rowT r).toArray⟩) ∧ Below w.heap.size w w' := by
  have H := Lib.hid h; have V := Lib.hid h64; have G := Lib.hid hg; clear h h64 hg
  by_cases hnil : r = []
  · subst hnil
    go_enter Tryd.func7, Tryd.ntmps7
    go_wp2_with fail
    go_ret
    exact ⟨rfl, Below.refl _ _⟩
  have E := Lib.hid (show rowT r = jc (r.map vL) by unfold rowT; rw [if_neg hnil])
  have hpos : 0 < r.length := List.length_pos_iff.2 hnil
  have hne : ((r.length : Int) == 0) = false := by simp; omega
  clear hnil
  go_enter Tryd.func7, Tryd.ntmps7
  go_wp2_with fail
  go_loopw [3, 11] (fun s i wr => ∃ (j : Nat) (ao : Option Addr) (n cc : Nat), j ≤ r.length ∧ i = .int .i64 j ∧ s = .slice ao n cc ∧ n = ((r.take j).map vT).length ∧ OwnS wr w.heap.size ao cc ((r.take j).map vT) ∧ Below w.heap.size w wr) (fun _ i _ => r.length - (intOf i).toNat)
  case atStart => exact ⟨0, none, 0, 0, Nat.zero_le _, rfl, rfl, rfl, OwnS.none_, Below.refl _ _⟩
  case round =>
    obtain ⟨j, ao, n, cc, hj, rfl, rfl, hn, ho, hb⟩ := hrel
    have HN := Lib.hid hn; have HO := Lib.hid ho; have HB := Lib.hid hb
    have GW := Lib.hid (gtab_below G.out hb)
    clear hn ho
    by_cases hlt : j < r.length
    · obtain ⟨b, off, x, rfl, hx, cx⟩ := (H.out.below hb).get hlt
      have hv := V.out x (List.mem_of_getElem? hx)
      have TK := Lib.hid (show (r.take (j + 1)).map vT = (r.take j).map vT ++ [vT x] by rw [List.take_add_one, hx]; simp)
      clear hx hb
      have i1 : (j : Int) < (r.length : Int) := by omega
      have hnj : ((r.take j).map vT).length ≤ 1048575 := by simp; omega
      go_wp2_with fail
      refine (valueText_any x _ hv.1 hv.2 GW.out).mono ?_
      rintro e w1 ⟨rfl, b1⟩
      have B1 := Lib.hid (below_step HB.out (Nat.le_refl _) b1)
      have O1 := Lib.hid (HO.out.below b1)
      clear b1
      generalize vT x = T at TK
      go_wp2_with (at_builtin; refine wpList_appendSs _ rfl (.tmp 15) (.tmp 18) 32 rfl w.heap.size Tryd.underlying32 Tryd.infoStr ao cc n ((r.take j).map vT) rfl HN.out (O1.out.alloc _) w1.heap.size 1 1 [T] rfl rfl (cell_one_t _ _ _) (by simp; omega) (by have := B1.out.size; simp; omega) ?_; intro ao2 c2 w2 o2 g2; have b2 := below_appS B1.out O1.out g2; have O2 := Lib.hid o2; have B2 := Lib.hid b2; clear o2 g2 b2)
      go_roundw
      case rel => exact ⟨j + 1, ao2, _, c2, by omega, by go_num, rfl, by rw [TK.out]; simp; omega, by rw [TK.out]; exact O2.out, B2.out⟩
      case measure => simp [intOf]; omega
    · obtain rfl : j = r.length := by omega
      clear hb
      have HN2 := Lib.hid (show n = (r.map vT).length by have := HN.out; rwa [List.take_length] at this)
      have HO2 := Lib.hid (show OwnS wr w.heap.size ao cc (r.map vT) by have := HO.out; rwa [List.take_length] at this)
      have em : (r.map vT).map (·.data.toList) = r.map vL := by rw [List.map_map]; rfl
      have JL := Lib.hid (show (jc ((r.map vT).map (·.data.toList))).length ≤ 140737488355328 by rw [em]; have := jc_len r V.out; omega)
      have EM := Lib.hid em
      clear em
      go_wp2_with fail
      refine (joinC_any w.heap.size ao cc n (r.map vT) HN2.out _ HO2.out JL.out (by simp; omega)).mono ?_
      rintro e w1 ⟨rfl, b1⟩
      have B1 := Lib.hid (below_step HB.out (Nat.le_refl _) b1); clear b1
      rw [EM.out, ← E.out]
      go_wp2_with fail
      go_ret
      exact ⟨rfl, B1.out⟩
end Go.Proofs.YtaaiedgmpgoonaaDoor
