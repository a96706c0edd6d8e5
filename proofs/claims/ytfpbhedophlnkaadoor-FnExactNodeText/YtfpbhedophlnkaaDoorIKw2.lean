/-
  Contract of impl.kindWords at further kinds. For every node that is one.
-/
import Derived.Test.YtfpbhedophlnkaaDoorIKw
namespace Go.Proofs.YtfpbhedophlnkaaDoor
open Go.RowKit
set_option linter.unusedSimpArgs false
set_option linter.unusedVariables false

set_option maxRecDepth 100000 in
set_option maxHeartbeats 1600000 in
theorem kindWords2 (name : ByteArray) (col op num : Int) (slot : Bool) (cols : List Int) (a : Option Addr) (c : Nat) (w : World) (hb : nodeB ⟨2, name, col, op, num, slot, cols⟩ = true) (h : Rd w .i64 a cols) (hg : GTab w) :
    Calls Tryd.prog 40 #[kindV ⟨2, name, col, op, num, slot, cols⟩ a c] w (MadeS w (ndB ⟨2, name, col, op, num, slot, cols⟩)) := by
  obtain ⟨_, hnm, hcol, hop, hnum, hcl, hcs⟩ := nums_of_nodeB hb
  simp only at hnm hcol hop hnum hcl hcs
  have G := Lib.hid hg; clear hg hb
  simp only [kindV, ndB, Int.reduceEq, if_false, if_true]
  have f0 := Tryd.as_keepNode_scanNode
  have f1 := Tryd.as_keepNode_filterNode
  have f2 := Tryd.as_keepNode_keepNode
  have H := Lib.hid h; clear h
  have NA := Lib.hid (itoaT_any (cols.length : Int) (w.alloc (.cells #[.slice a cols.length c] 66)) (by omega) (by omega) (gtab_below G.out ((Below.refl _ w).alloc (Nat.le_refl _) (.cells #[.slice a cols.length c] 66))))
  have NB := Lib.hid (fun (x : Int) (hx : x ∈ cols) W (hb : Below w.heap.size w W) => itoaT_any x W (by have := hcs x hx; omega) (by have := hcs x hx; omega) (gtab_below G.out hb))
  generalize numT (cols.length : Int) = X at NA ⊢
  clear hcs
  go_enter Tryd.func40, Tryd.ntmps40
  go_wp2_with fail
  refine NA.out.mono ?_
  rintro e w1 ⟨rfl, b1⟩
  have B1 := Lib.hid (((Below.refl _ w).alloc (Nat.le_refl _) _).trans (b1.mono (by simp)))
  have C1 := Lib.hid b1
  have O1 := Lib.hid (ownS_lit (W := w1) (xs := [⟨#[107, 101, 101, 112]⟩, X]) rfl B1.out.size (by simp))
  have c1 : w1.cell? ⟨w.heap.size, 0, none⟩ = some (.slice a cols.length c) := (b1.cell (p := ⟨w.heap.size, 0, none⟩) (by simp)).trans ((cell_of_row _ _ _ _ _ _ (heap_alloc_new w _)).trans rfl)
  have z1 : w.heap.size < w1.heap.size := by have := b1.size; simp at this; omega
  clear b1
  go_wp2_with fail
  go_loopw [7, 55] (fun s i wr => ∃ (j n cc : Nat) (ao : Option Addr), j ≤ cols.length ∧ i = .int .i64 j ∧ s = .slice ao n cc ∧ n = ([⟨#[107, 101, 101, 112]⟩, X] ++ (cols.take j).map numT).length ∧ OwnS wr w.heap.size ao cc ([⟨#[107, 101, 101, 112]⟩, X] ++ (cols.take j).map numT) ∧ Below w.heap.size w wr) (fun _ i _ => cols.length - (intOf i).toNat)
  case atStart => exact ⟨0, 2, 2, _, Nat.zero_le _, rfl, rfl, rfl, by simpa using O1.out, B1.out.alloc B1.out.size _⟩
  case round =>
    obtain ⟨j, n, cc, ao, hj, rfl, rfl, hn, ho, hbw⟩ := hrel
    have HN := Lib.hid hn; have HO := Lib.hid ho; have HBW := Lib.hid hbw
    clear hn ho
    by_cases hlt : j < cols.length
    · have i1 : (j : Int) < (cols.length : Int) := by omega
      obtain ⟨b, off, x, rfl, hx, cx⟩ := (H.out.below hbw).get hlt
      have NX := Lib.hid (NB.out x (List.mem_of_getElem? hx))
      have TK := Lib.hid (show [⟨#[107, 101, 101, 112]⟩, X] ++ (cols.take (j + 1)).map numT = [⟨#[107, 101, 101, 112]⟩, X] ++ (cols.take j).map numT ++ [numT x] by rw [List.take_add_one, hx]; simp)
      clear hx hbw
      generalize numT x = Y at NX TK
      obtain ⟨acc, hacc⟩ : ∃ acc, acc = [⟨#[107, 101, 101, 112]⟩, X] ++ (cols.take j).map numT := ⟨_, rfl⟩
      have hal : acc.length ≤ 100 := by rw [hacc]; simp; omega
      rw [← hacc] at HN HO TK
      clear hacc
      go_wp2_with fail
      refine (NX.out _ HBW.out).mono ?_
      rintro e w5 ⟨rfl, b5⟩
      have B5 := Lib.hid (below_step HBW.out (Nat.le_refl _) b5)
      have O5 := Lib.hid (HO.out.below b5)
      clear b5
      go_wp2_with (at_builtin; refine wpList_appendSs _ rfl (.tmp 59) (.tmp 62) 40 rfl w.heap.size Tryd.underlying40 Tryd.infoStr ao cc n acc rfl HN.out (O5.out.alloc _) w5.heap.size 1 1 [Y] rfl rfl (cell_one_w _ _ _) (by simp; omega) (by have := B5.out.size; simp; omega) ?_; intro ao2 c2 w7 o7 g7; have b7 := below_appS B5.out O5.out g7; have O7 := Lib.hid o7; have B7 := Lib.hid b7; clear o7 g7 b7)
      go_roundw
      case rel => exact ⟨j + 1, _, c2, ao2, by omega, by go_num, rfl, by rw [TK.out]; simp, by rw [TK.out]; exact O7.out, B7.out⟩
      case measure => simp [intOf]; omega
    · obtain rfl : j = cols.length := by omega
      clear hbw
      have HN2 := Lib.hid (show n = ([⟨#[107, 101, 101, 112]⟩, X] ++ cols.map numT).length by have := HN.out; rwa [List.take_length] at this)
      have HO2 := Lib.hid (show OwnS wr w.heap.size ao cc ([⟨#[107, 101, 101, 112]⟩, X] ++ cols.map numT) by have := HO.out; rwa [List.take_length] at this)
      clear HN HO
      go_wp2_with fail
      go_ret
      exact ⟨ao, cc, by rw [HN2.out]; rfl, HO2.out, HBW.out⟩
end Go.Proofs.YtfpbhedophlnkaaDoor
