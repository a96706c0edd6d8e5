/-
  Contract of spec.l01Parts: a text parted at each byte of one kind. For every text that is not too long, and every byte.
-/
import Derived.Test.YtfbgflmolkgopaaDoorSplit
import Derived.Test.YtfbgflmolkgopaaDoorAppS
import Derived.WalkKit
namespace Go.Proofs.YtfbgflmolkgopaaDoor
open Go.RowKit
set_option linter.unusedSimpArgs false
set_option linter.unusedVariables false

def mkB (x : List UInt8) : ByteArray := ⟨x.toArray⟩
def partsS (b : UInt8) (s : ByteArray) : List ByteArray := (splitB b s.data.toList).map mkB
def PRel (w : World) (s : ByteArray) (b : UInt8) (wr : World) (o a i : Value) : Prop :=
  ∃ (k m n : Nat) (ao : Option Addr) (c : Nat) (out : List ByteArray), o = .slice ao n c ∧ a = .int .i64 m ∧ i = .int .i64 k ∧ n = out.length ∧ OwnS wr w.heap.size ao c out ∧ Below w.heap.size w wr ∧ out.length ≤ k ∧ k ≤ s.size + 1 ∧
    ((k ≤ s.size ∧ m ≤ k ∧ partsS b s = out ++ (splitB b (s.data.toList.drop m)).map mkB ∧ ∀ z ∈ (s.data.toList.drop m).take (k - m), z ≠ b) ∨ (k = s.size + 1 ∧ partsS b s = out))
theorem ext_mk (s : ByteArray) (m k : Nat) : s.extract m k = mkB ((s.data.toList.drop m).take (k - m)) := by
  apply ByteArray.ext
  unfold mkB
  rw [ByteArray.data_extract]
  apply Array.toList_inj.1
  simp [Array.toList_extract, List.extract_eq_take_drop]
theorem cell_one_p (w : World) (y : ByteArray) (t : TypeId) : ∀ i, i < [y].length → (w.alloc (.cells #[.string y] t)).cell? ⟨w.heap.size, i, none⟩ = some (.string ([y].getD i ByteArray.empty)) := by
  intro i hi
  obtain rfl : i = 0 := by simp at hi; omega
  rw [World.cell?_alloc_new]; rfl

theorem p_hit {w w1 : World} {s : ByteArray} {b : UInt8} {k m : Nat} {ao : Option Addr} {c : Nat} {out : List ByteArray} (hlt : k < s.size) (hmk : m ≤ k) (hok : out.length ≤ k) (hp : partsS b s = out ++ (splitB b (s.data.toList.drop m)).map mkB) (hno : ∀ z ∈ (s.data.toList.drop m).take (k - m), z ≠ b) (hx : s.data.toList[k]? = some b)
    (ho : OwnS w1 w.heap.size ao c (out ++ [s.extract m k])) (hb : Below w.heap.size w w1) : PRel w s b w1 (.slice ao (out ++ [s.extract m k]).length c) (.int .i64 ((k : Int) + 1)) (.int .i64 ((k : Int) + 1)) := by
  refine ⟨k + 1, k + 1, _, ao, c, _, rfl, by simp, by simp, rfl, ho, hb, by simp; omega, by omega, .inl ⟨hlt, Nat.le_refl _, ?_, by simp⟩⟩
  have hd : s.data.toList.drop m = (s.data.toList.drop m).take (k - m) ++ b :: s.data.toList.drop (k + 1) := by
    have h1 := (List.take_append_drop (k - m) (s.data.toList.drop m)).symm
    rw [List.drop_drop, show m + (k - m) = k by omega] at h1
    have hl := (List.getElem?_eq_some_iff.1 hx).1
    have h2 : s.data.toList.drop k = b :: s.data.toList.drop (k + 1) := by
      rw [List.drop_eq_getElem_cons hl]
      rw [List.getElem?_eq_getElem hl] at hx
      injection hx with hx
      rw [hx]
    rw [h2] at h1
    exact h1
  rw [hp]
  conv => lhs; rw [hd]
  rw [split_hit _ hno, ext_mk]
  simp
theorem p_on {w w1 : World} {s : ByteArray} {b z0 : UInt8} {k m n : Nat} {ao : Option Addr} {c : Nat} {out : List ByteArray} (hlt : k < s.size) (hmk : m ≤ k) (hok : out.length ≤ k) (hp : partsS b s = out ++ (splitB b (s.data.toList.drop m)).map mkB) (hno : ∀ z ∈ (s.data.toList.drop m).take (k - m), z ≠ b) (hx : s.data.toList[k]? = some z0) (hz : z0 ≠ b) (hn : n = out.length)
    (ho : OwnS w1 w.heap.size ao c out) (hb : Below w.heap.size w w1) : PRel w s b w1 (.slice ao n c) (.int .i64 m) (.int .i64 ((k : Int) + 1)) := by
  refine ⟨k + 1, m, _, ao, c, _, rfl, rfl, by simp, hn, ho, hb, by omega, by omega, .inl ⟨hlt, by omega, hp, ?_⟩⟩
  intro z hzm
  rw [show k + 1 - m = (k - m) + 1 by omega, List.take_add_one, List.getElem?_drop, show m + (k - m) = k by omega, hx] at hzm
  rcases List.mem_append.1 hzm with h | h
  · exact hno z h
  · simp at h; rw [h]; exact hz
theorem p_end {w w1 : World} {s : ByteArray} {b : UInt8} {m : Nat} {ao : Option Addr} {c : Nat} {out : List ByteArray} (hmk : m ≤ s.size) (hok : out.length ≤ s.size) (hp : partsS b s = out ++ (splitB b (s.data.toList.drop m)).map mkB) (hno : ∀ z ∈ (s.data.toList.drop m).take (s.size - m), z ≠ b)
    (ho : OwnS w1 w.heap.size ao c (out ++ [s.extract m s.size])) (hb : Below w.heap.size w w1) : PRel w s b w1 (.slice ao (out ++ [s.extract m s.size]).length c) (.int .i64 ((s.size : Int) + 1)) (.int .i64 ((s.size : Int) + 1)) := by
  have hl : s.data.toList.length = s.size := by rw [Array.length_toList]; rfl
  have he : (s.data.toList.drop m).take (s.size - m) = s.data.toList.drop m := List.take_of_length_le (by simp [hl])
  rw [he] at hno
  refine ⟨s.size + 1, s.size + 1, _, ao, c, _, rfl, by simp, by simp, rfl, ho, hb, by simp; omega, by omega, .inr ⟨rfl, ?_⟩⟩
  rw [hp, split_no hno, ext_mk, he]
  rfl

set_option maxRecDepth 100000 in
set_option maxHeartbeats 1600000 in
theorem parts_any (s : ByteArray) (b : UInt8) (w : World) (hs : s.size ≤ 100000) :
    Calls Tryd.prog 9 #[.string s, .int .u8 (b.toNat : Int)] w (MadeS w (partsS b s)) := by
  have LS := Lib.hid (show s.data.toList.length = s.size by rw [Array.length_toList]; rfl)
  have P0 := Lib.hid (show PRel w s b (w.alloc (.cells #[] 9)) (.slice (some ⟨w.heap.size, 0, none⟩) 0 0) (.int .i64 0) (.int .i64 0) from
    ⟨0, 0, 0, _, _, [], rfl, rfl, rfl, rfl, World.ownsRow_lit w #[] 0 (Nat.le_refl _) (Nat.zero_le _) rfl, (Below.refl _ _).alloc (Nat.le_refl _) _, Nat.le_refl _, by omega, .inl ⟨by omega, Nat.le_refl _, by simp [partsS], by simp⟩⟩)
  go_enter Tryd.func9, Tryd.ntmps9
  go_wp2_with fail
  go_loopw [5, 6, 7] (fun o a i wr => PRel w s b wr o a i) (fun _ _ i _ => s.size + 1 - (intOf i).toNat)
  case atStart => exact P0.out
  case round =>
    clear P0
    obtain ⟨k, m, n, ao, c, out, rfl, rfl, rfl, hn, ho, hb, hok, hk1, hc⟩ := hrel
    have HN := Lib.hid hn; have HO := Lib.hid ho; have HB := Lib.hid hb
    have hzb := hb.size
    clear hn ho hb
    rcases hc with ⟨hk, hmk, hp, hno⟩ | ⟨hk, hp⟩
    · have HP := Lib.hid hp; have HNO := Lib.hid hno; clear hp hno
      by_cases hlt : k < s.size
      · have hlt' : (k : Int) < (s.size : Int) := by omega
        have hne : ((k : Int) == (s.size : Int)) = false := by simp; omega
        have X := Lib.hid (show s.data.toList[k]? = some s[k] by rw [Array.getElem?_toList, Array.getElem?_eq_getElem (show k < s.data.size from hlt)]; rfl)
        by_cases hby : s[k] = b
        · have hq : ((s[k].toNat : Int) == (b.toNat : Int)) = true := by simp [hby]
          have HBY := Lib.hid hby; clear hby
          go_wp2_with (at_builtin; go_must (refine wpList_appendSs _ rfl (.tmp 26) (.tmp 31) 28 rfl w.heap.size Tryd.underlying28 Tryd.infoStr ao c n out rfl HN.out (HO.out.alloc _) _ 1 1 [s.extract m k] rfl rfl (cell_one_p _ _ _) (by simp; omega) (by simp; omega) ?_; intro ao' c' w4 o4 g4; have O4 := Lib.hid o4; have B4 := Lib.hid (below_appS HB.out HO.out g4); clear o4 g4))
          go_roundw
          case rel => have hR := p_hit hlt hmk hok HP.out HNO.out (by rw [X.out, HBY.out]) O4.out B4.out; rw [List.length_append] at hR; exact hR
          case measure => simp [intOf]; omega
        · have hq : ((s[k].toNat : Int) == (b.toNat : Int)) = false := by simp; intro h; exact hby (UInt8.toNat_inj.1 (by omega))
          have HBY := Lib.hid hby; clear hby
          go_wp2_with fail
          go_roundw
          case rel => exact p_on hlt hmk hok HP.out HNO.out X.out HBY.out HN.out HO.out HB.out
          case measure => simp [intOf]; omega
      · obtain rfl : k = s.size := by omega
        go_wp2_with (at_builtin; go_must (refine wpList_appendSs _ rfl (.tmp 26) (.tmp 31) 28 rfl w.heap.size Tryd.underlying28 Tryd.infoStr ao c n out rfl HN.out (HO.out.alloc _) _ 1 1 [s.extract m s.size] rfl rfl (cell_one_p _ _ _) (by simp; omega) (by simp; omega) ?_; intro ao' c' w4 o4 g4; have O4 := Lib.hid o4; have B4 := Lib.hid (below_appS HB.out HO.out g4); clear o4 g4))
        go_roundw
        case rel => have hR := p_end hmk hok HP.out HNO.out O4.out B4.out; rw [List.length_append] at hR; exact hR
        case measure => first | (simp [intOf]; done) | (simp [intOf]; omega)
    · have HP := Lib.hid hp
      subst hk
      clear hp
      go_wp2_with fail
      go_ret
      rw [HP.out]
      exact ⟨ao, c, by rw [← HN.out]; rfl, HO.out, HB.out⟩
end Go.Proofs.YtfbgflmolkgopaaDoor
