/-
  strings.Join at slices of the call's own, with one byte between. No walk. Contracts of impl.valueText and impl.RowText. For every row. What the library's parting of a text at commas gives. Plain facts; no walk.
-/
import Derived.Test.YtfpbhedophlnkaaGreatDoorJR49x
import Derived.Test.YtfpbhedophlnkaaGreatDoorJR24x
import Derived.Test.YtfpbhedophlnkaaGreatDoorShelf5
import Derived.Test.YtfpbhedophlnkaaGreatDoorJR47x
import Derived.Test.YtfpbhedophlnkaaGreatDoorJR27x
import Derived.Lib.Split
import Derived.Lib.IndexMore
import Derived.Lib.IndexBytes
namespace Go.Proofs.YtfpbhedophlnkaaGreatDoor
open Go.RowKit Go.Shelf
set_option linter.unusedSimpArgs false
set_option linter.unusedVariables false

theorem Tryz.extra156 : Builder.Extra Tryz.prog Tryz.lays156_ren where
  sizeBuilder := by kernel_rfl
  liesBuilder := by kernel_rfl
  t5 := Tryz.underlying5
  a5 := Tryz.isAgg5
  z5 := Tryz.sizeOf5
  v5 := Tryz.zeroValue5
  infoByte := by kernel_rfl
  cellsByte := by kernel_rfl
  sizeByte := by kernel_rfl
  neB5 := by decide
theorem ownS_capT {w : World} {base : Nat} {ao : Option Addr} {c : Nat} {l : List ByteArray} (h : OwnS w base ao c l) : l.length ≤ c := by
  rcases h.2 with ⟨hv, hn⟩ | ⟨g, cap, cur, hv, _, _, h1, _⟩
  · omega
  · simp only [Value.slice.injEq] at hv; omega
theorem joinI_any (b : UInt8) (base : Nat) (ao : Option Addr) (c n : Nat) (xs : List ByteArray) (hn : n = xs.length) (w : World) (h : OwnS w base ao c xs) (hlen : (joinB b (xs.map (·.data.toList))).length ≤ 140737488355328) (h8 : xs.length ≤ 1048576) :
    Calls Tryz.prog 84 #[.slice ao n c, .string ⟨#[b]⟩] w fun e w' => e = .returned (.string ⟨(joinB b (xs.map (·.data.toList))).toArray⟩) ∧ Below w.heap.size w w' := by
  subst hn
  rcases h.form with ⟨rfl, rfl, rfl⟩ | ⟨g, rfl, _, hg⟩
  · exact (Any.strings_Join_none Tryz.lays156 Tryz.extra156 none 0 ⟨#[b]⟩ w).mono fun e w' ⟨he, hw⟩ => ⟨he, hw ▸ Below.refl _ _⟩
  · have hj := Any.strings_Join Tryz.lays156 Tryz.extra156 g 0 c xs ⟨#[b]⟩ w (fun j x hx => by
      have hl := (List.getElem?_eq_some_iff.1 hx).1
      have := h.cell j hl
      rw [List.getD_eq_getElem?_getD, hx] at this
      rw [Nat.zero_add]; exact this) hg (by omega) (ownS_capT h) (by
        have e := joinB_join b (xs.map (·.data.toList))
        show (Lib.join _ [b]).length ≤ _
        rw [e]; exact hlen)
    have e := joinB_join b (xs.map (·.data.toList))
    have e' : Lib.join (xs.map (·.data.toList)) (ByteArray.mk #[b]).data.toList = joinB b (xs.map (·.data.toList)) := e
    rw [e'] at hj
    exact hj
end Go.Proofs.YtfpbhedophlnkaaGreatDoor
namespace Go.Proofs.YtfpbhedophlnkaaGreatDoor
open Go.RowKit Go.Shelf
set_option linter.unusedSimpArgs false
set_option linter.unusedVariables false

theorem valueText_any (x : Int) (w : World) (h0 : -9223372036854775808 ≤ x) (h1 : x ≤ 9223372036854775807) (hg : GTab w) :
    Calls Tryz.prog 110 #[.int .i64 x] w fun e w' => e = .returned (.string (vT x)) ∧ Below w.heap.size w w' := by
  have G := Lib.hid hg; clear hg
  by_cases hn : x = -2000000
  · subst hn
    go_enter Tryz.func110, Tryz.ntmps110
    go_wp2_with fail
    go_ret
    exact ⟨ret_str (by rfl), Below.refl _ _⟩
  · have hn' : (x == -2000000) = false := by simp [hn]
    have E := Lib.hid (show vT x = numT x by unfold vT; rw [if_neg hn]); clear hn
    go_enter Tryz.func110, Tryz.ntmps110
    go_wp2_with fail
    refine (itoaT_any x _ h0 h1 G.out).mono ?_
    rintro e w1 ⟨rfl, b1⟩
    go_wp2_with fail
    go_ret
    exact ⟨ret_str E.out.symm, b1⟩

theorem joinC_any (base : Nat) (ao : Option Addr) (c n : Nat) (xs : List ByteArray) (hn : n = xs.length) (w : World) (h : OwnS w base ao c xs) (hlen : (jc (xs.map (·.data.toList))).length ≤ 140737488355328) (h8 : xs.length ≤ 1048576) :
    Calls Tryz.prog 84 #[.slice ao n c, .string ⟨#[44]⟩] w fun e w' => e = .returned (.string ⟨(jc (xs.map (·.data.toList))).toArray⟩) ∧ Below w.heap.size w w' := by
  subst hn
  rcases h.form with ⟨rfl, rfl, rfl⟩ | ⟨g, rfl, _, hg⟩
  · exact (Any.strings_Join_none Tryz.lays156 Tryz.extra156 none 0 ⟨#[44]⟩ w).mono fun e w' ⟨he, hw⟩ => ⟨he, hw ▸ Below.refl _ _⟩
  · have hj := Any.strings_Join Tryz.lays156 Tryz.extra156 g 0 c xs ⟨#[44]⟩ w (fun j x hx => by
      have hl := (List.getElem?_eq_some_iff.1 hx).1
      have := h.cell j hl
      rw [List.getD_eq_getElem?_getD, hx] at this
      rw [Nat.zero_add]; exact this) hg (by omega) (ownS_capT h) (by
        have e := jc_join (xs.map (·.data.toList))
        show (Lib.join _ [44]).length ≤ _
        rw [e]; exact hlen)
    have e := jc_join (xs.map (·.data.toList))
    have e' : Lib.join (xs.map (·.data.toList)) (ByteArray.mk #[44]).data.toList = jc (xs.map (·.data.toList)) := e
    rw [e'] at hj
    exact hj
theorem cell_one_t (w : World) (y : ByteArray) (t : TypeId) : ∀ i, i < [y].length → (w.alloc (.cells #[.string y] t)).cell? ⟨w.heap.size, i, none⟩ = some (.string ([y].getD i ByteArray.empty)) := by
  intro i hi
  obtain rfl : i = 0 := by simp at hi; omega
  rw [World.cell?_alloc_new]; rfl

set_option maxRecDepth 100000 in
set_option maxHeartbeats 1600000 in
theorem implRowText_any (a : Option Addr) (c : Nat) (r : List Int) (w : World) (h : Rd w .i64 a r) (hl : r.length ≤ 1048576) (h64 : I64s r) (hg : GTab w) :
    Calls Tryz.prog 30 #[.slice a r.length c] w fun e w' => e = .returned (.string ⟨(rowT r).toArray⟩) ∧ Below w.heap.size w w' := by
  have H := Lib.hid h; have V := Lib.hid h64; have G := Lib.hid hg; clear h h64 hg
  by_cases hnil : r = []
  · subst hnil
    go_enter Tryz.func30, Tryz.ntmps30
    go_wp2_with fail
    go_ret
    exact ⟨rfl, Below.refl _ _⟩
  have E := Lib.hid (show rowT r = jc (r.map vL) by unfold rowT; rw [if_neg hnil])
  have hpos : 0 < r.length := List.length_pos_iff.2 hnil
  have hne : ((r.length : Int) == 0) = false := by simp; omega
  clear hnil
  go_enter Tryz.func30, Tryz.ntmps30
  go_wp2_with fail
  go_loopw [3, 11] (fun s i wr => ∃ (j : Nat) (ao : Option Addr) (n cc : Nat), j ≤ r.length ∧ i = .int .i64 j ∧ s = .slice ao n cc ∧ n = ((r.take j).map vT).length ∧ OwnS wr w.heap.size ao cc ((r.take j).map vT) ∧ Below w.heap.size w wr) (fun _ i _ => r.length - (intOf i).toNat)
  case atStart => exact ⟨0, none, 0, 0, Nat.zero_le _, rfl, rfl, rfl, OwnS.none_, Below.refl _ _⟩
  case round =>
    obtain ⟨j, ao, n, cc, hj, rfl, rfl, hn, ho, hb⟩ := hrel
    have HN := Lib.hid hn; have HO := Lib.hid ho; have HB := Lib.hid hb
    have GW := Lib.hid (gtab_below G.out hb)
    clear hn ho
    by_cases hlt : j < r.length
    · obtain ⟨b, off, x, rfl, hx, cx⟩ := (H.out.below hb).get hlt
      have hv := V.out x (List.mem_of_getElem? hx)
      have TK := Lib.hid (show (r.take (j + 1)).map vT = (r.take j).map vT ++ [vT x] by rw [List.take_add_one, hx]; simp)
      clear hx hb
      have i1 : (j : Int) < (r.length : Int) := by omega
      have hnj : ((r.take j).map vT).length ≤ 1048575 := by simp; omega
      go_wp2_with fail
      refine (valueText_any x _ hv.1 hv.2 GW.out).mono ?_
      rintro e w1 ⟨rfl, b1⟩
      have B1 := Lib.hid (below_step HB.out (Nat.le_refl _) b1)
      have O1 := Lib.hid (HO.out.below b1)
      clear b1
      generalize vT x = T at TK
      go_wp2_with (at_builtin; refine wpList_appendSs _ rfl (.tmp 15) (.tmp 18) 70 rfl w.heap.size Tryz.underlying70 Tryz.infoStr ao cc n ((r.take j).map vT) rfl HN.out (O1.out.alloc _) w1.heap.size 1 1 [T] rfl rfl (cell_one_t _ _ _) (by simp; omega) (by have := B1.out.size; simp; omega) ?_; intro ao2 c2 w2 o2 g2; have b2 := below_appS B1.out O1.out g2; have O2 := Lib.hid o2; have B2 := Lib.hid b2; clear o2 g2 b2)
      go_roundw
      case rel => exact ⟨j + 1, ao2, _, c2, by omega, by go_num, rfl, by rw [TK.out]; simp; omega, by rw [TK.out]; exact O2.out, B2.out⟩
      case measure => simp [intOf]; omega
    · obtain rfl : j = r.length := by omega
      clear hb
      have HN2 := Lib.hid (show n = (r.map vT).length by have := HN.out; rwa [List.take_length] at this)
      have HO2 := Lib.hid (show OwnS wr w.heap.size ao cc (r.map vT) by have := HO.out; rwa [List.take_length] at this)
      have em : (r.map vT).map (·.data.toList) = r.map vL := by rw [List.map_map]; rfl
      have JL := Lib.hid (show (jc ((r.map vT).map (·.data.toList))).length ≤ 140737488355328 by rw [em]; have := jc_len r V.out; omega)
      have EM := Lib.hid em
      clear em
      go_wp2_with fail
      refine (joinC_any w.heap.size ao cc n (r.map vT) HN2.out _ HO2.out JL.out (by simp; omega)).mono ?_
      rintro e w1 ⟨rfl, b1⟩
      have B1 := Lib.hid (below_step HB.out (Nat.le_refl _) b1); clear b1
      rw [EM.out, ← E.out]
      go_wp2_with fail
      go_ret
      exact ⟨rfl, B1.out⟩
end Go.Proofs.YtfpbhedophlnkaaGreatDoor
namespace Go.Proofs.YtfpbhedophlnkaaGreatDoor
set_option linter.unusedSimpArgs false
set_option linter.unusedVariables false

theorem ibC_hit {c : UInt8} : ∀ (a d : List UInt8), (∀ x ∈ a, x ≠ c) → Lib.indexByte (a ++ c :: d) c = a.length
  | [], d, _ => by simp [Lib.indexByte]
  | x :: a, d, h => by
    have ih := ibC_hit a d (fun y hy => h y (by simp [hy]))
    rw [List.cons_append]
    unfold Lib.indexByte
    rw [if_neg (by simpa using h x (by simp)), ih, if_neg (by simp)]
    simp
theorem ibC_miss {c : UInt8} : ∀ (a : List UInt8), (∀ x ∈ a, x ≠ c) → Lib.indexByte a c = -1
  | [], _ => rfl
  | x :: a, h => by
    have ih := ibC_miss a (fun y hy => h y (by simp [hy]))
    unfold Lib.indexByte
    rw [if_neg (by simpa using h x (by simp)), ih]
    rfl
theorem mkC_list (x : List UInt8) : (mkB x).data.toList = x := by simp [mkB]
theorem mkC_size (x : List UInt8) : (mkB x).size = x.length := by rw [← size_list, mkC_list]
theorem partC_step (b : UInt8) (x y : List UInt8) (r : List (List UInt8)) (k : Nat) (h : ∀ c ∈ x, c ≠ b) : Lib.splitB ⟨#[b]⟩ 0 (k + 1) (mkB (joinB b (x :: y :: r))) = mkB x :: Lib.splitB ⟨#[b]⟩ 0 k (mkB (joinB b (y :: r))) := by
  have hi : Lib.indexB (mkB (joinB b (x :: y :: r))) ⟨#[b]⟩ = x.length := by
    show Lib.index (mkB _).data.toList [b] = _
    rw [mkC_list, Lib.index_one]
    exact ibC_hit x _ h
  rw [Lib.splitB_hit _ _ _ _ _ hi, ext_mk, ext_mk, mkC_list]
  have e1 : ((joinB b (x :: y :: r)).drop 0).take (x.length + 0 - 0) = x := by simp [joinB]
  have e2 : ((joinB b (x :: y :: r)).drop (x.length + (ByteArray.mk #[b]).size)).take ((mkB (joinB b (x :: y :: r))).size - (x.length + (ByteArray.mk #[b]).size)) = joinB b (y :: r) := by
    have h1 : (ByteArray.mk #[b]).size = 1 := rfl
    rw [h1, mkC_size]
    have h2 : (joinB b (x :: y :: r)).drop (x.length + 1) = joinB b (y :: r) := by
      simp only [joinB]
      rw [← List.drop_drop]
      simp
    rw [h2]
    apply List.take_of_length_le
    simp only [joinB, List.length_append, List.length_cons]
    omega
  rw [e1, e2]
theorem partC_words (b : UInt8) : ∀ (xs : List (List UInt8)) (k : Nat), xs ≠ [] → (∀ x ∈ xs, ∀ c ∈ x, c ≠ b) → xs.length ≤ k + 1 → Lib.splitB ⟨#[b]⟩ 0 k (mkB (joinB b xs)) = xs.map mkB
  | [], k, h, _, _ => absurd rfl h
  | [x], k, _, h, _ => by
    have : Lib.indexB (mkB x) ⟨#[b]⟩ = -1 := by
      show Lib.index (mkB x).data.toList [b] = -1
      rw [mkC_list, Lib.index_one, ibC_miss x (h x (by simp))]
    exact Lib.splitB_miss _ _ _ _ this
  | x :: y :: r, 0, _, _, hk => by simp at hk
  | x :: y :: r, k + 1, _, h, hk => by
    have ih := partC_words b (y :: r) k (by simp) (fun z hz => h z (List.mem_cons_of_mem _ hz)) (by simp at hk ⊢; omega)
    rw [partC_step b x y r k (h x (by simp)), ih]
    rfl
theorem partC_more (b : UInt8) : ∀ (xs : List (List UInt8)) (k : Nat), (∀ x ∈ xs, ∀ c ∈ x, c ≠ b) → k + 1 ≤ xs.length → (Lib.splitB ⟨#[b]⟩ 0 k (mkB (joinB b xs))).length = k + 1
  | [], k, _, hk => by simp at hk
  | [x], 0, _, _ => by simp [Lib.splitB]
  | [x], k + 1, _, hk => by simp at hk
  | x :: y :: r, 0, _, hk => by simp [Lib.splitB]
  | x :: y :: r, k + 1, h, hk => by
    have ih := partC_more b (y :: r) k (fun z hz => h z (List.mem_cons_of_mem _ hz)) (by simp at hk ⊢; omega)
    rw [partC_step b x y r k (h x (by simp)), List.length_cons, ih]
/-- The library's parts of a text, at most 65. -/
abbrev cparts (s : ByteArray) : List ByteArray := Lib.splitB ⟨#[44]⟩ 0 (min 65 (s.size + 1) - 1) s
theorem prt_mk (s : ByteArray) : s = mkB (joinB 44 (prt s)) := by
  apply ByteArray.ext
  apply Array.toList_inj.1
  rw [mkC_list]
  unfold prt
  rw [join_split]
theorem prt_len (s : ByteArray) : (prt s).length ≤ s.size + 1 := by
  have := split_len 44 s.data.toList
  rw [size_list] at this
  exact this
theorem cparts_few {s : ByteArray} (h : (prt s).length ≤ 64) : cparts s = (prt s).map mkB := by
  have hl := prt_len s
  have key := partC_words 44 (prt s) (min 65 (s.size + 1) - 1) (splitB_ne _ _) (fun x hx => split_parts _ x hx) (by omega)
  rw [← prt_mk s] at key
  exact key
theorem cparts_more {s : ByteArray} (h : 64 < (prt s).length) : (cparts s).length = 65 := by
  have hl := prt_len s
  have key := partC_more 44 (prt s) (min 65 (s.size + 1) - 1) (fun x hx => split_parts _ x hx) (by omega)
  rw [← prt_mk s] at key
  show (Lib.splitB ⟨#[44]⟩ 0 (min 65 (s.size + 1) - 1) s).length = 65
  rw [key]; omega
theorem cparts_le {s : ByteArray} (h : (prt s).length ≤ 64) : (cparts s).length ≤ 64 := by
  rw [cparts_few h, List.length_map]; exact h
end Go.Proofs.YtfpbhedophlnkaaGreatDoor
