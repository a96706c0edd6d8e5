/-
  Contract of impl.behindEachOther: the bytes of all parts, one behind the other, in memory of its own. For all slices of slices of bytes. Contracts of impl.flagOf, putEach, putFields and PutNode: the node's bytes in memory of the call's own; nothing where it is none. For every node.
-/
import Derived.Test.YtfpbhedophlnkaaGreatDoorJ50x
import Derived.Test.YtfpbhedophlnkaaGreatDoorJ3x
import Derived.Test.YtfpbhedophlnkaaGreatDoorJ25x
import Derived.Test.YtfpbhedophlnkaaGreatDoorJ7x
import Derived.Test.YtfpbhedophlnkaaGreatDoorJ6x
import Derived.Deep.RegionHeld3
namespace Go.Proofs.YtfpbhedophlnkaaGreatDoor
open Go.RowKit
set_option linter.unusedSimpArgs false
set_option linter.unusedVariables false

theorem take_flat_succ {ls : List (List Int)} {j : Nat} {l : List Int} (h : ls[j]? = some l) : (ls.take (j + 1)).flatten = (ls.take j).flatten ++ l := by
  simp [List.take_add_one, h, List.flatten_append]
theorem take_flat_le (ls : List (List Int)) (j : Nat) : (ls.take j).flatten.length ≤ ls.flatten.length := by
  conv => rhs; rw [← List.take_append_drop j ls, List.flatten_append, List.length_append]
  omega
theorem take_flat_all {ls : List (List Int)} {j : Nat} (h : ls.length ≤ j) : (ls.take j).flatten = ls.flatten := by rw [List.take_of_length_le h]

/-- Behind the j-th round of the second loop. -/
def BhRel (w wr : World) (ls : List (List Int)) (T : Nat) (at_ i : Value) : Prop :=
  ∃ (j : Nat) (acc : List Int), i = .int .i64 j ∧ at_ = .int .i64 acc.length ∧ j ≤ ls.length ∧ acc = (ls.take j).flatten ∧ wr.heap[w.heap.size]? = some (.cells ((padL acc T).map (Value.int .u8)).toArray 5 (0, 0)) ∧ Below w.heap.size w wr

theorem u8_size : (Tryz.prog.info? 5).map (·.size) = some 1 := by kernel_rfl
theorem made_ints8 (n : Nat) : (madeCells (Value.int .u8 0).cells (n * 1)).toList = (padL [] n).map (Value.int .u8) := by
  rw [Nat.mul_one, show (Value.int .u8 0).cells = #[.int .u8 0] from rfl, toList_madeCells_one]; simp [padL]

set_option maxRecDepth 100000 in
set_option maxHeartbeats 1600000 in
theorem bhd_any (ao : Option Addr) (c n : Nat) (ls : List (List Int)) (w : World) (h : RdB w ao ls) (hn : n = ls.length) (hl : ls.length ≤ 1000) (ht : ls.flatten.length ≤ 10000) :
    Calls Tryz.prog 91 #[.slice ao n c] w (Made w 5 .u8 ls.flatten) := by
  subst hn
  have H := Lib.hid h; clear h
  obtain ⟨T, hT⟩ : ∃ T, T = ls.flatten.length := ⟨_, rfl⟩
  have HT := Lib.hid hT
  have hT' : T ≤ 10000 := by omega
  clear hT ht
  go_enter Tryz.func91, Tryz.ntmps91
  go_wp2_with fail
  go_loopw [3, 12] (fun s i wr => ∃ (j k : Nat), i = .int .i64 j ∧ s = .int .i64 k ∧ j ≤ ls.length ∧ k = (ls.take j).flatten.length ∧ w = wr) (fun _ i _ => ls.length - (intOf i).toNat)
  case atStart => exact ⟨0, 0, rfl, rfl, Nat.zero_le _, by simp, rfl⟩
  case round =>
    obtain ⟨j, k, rfl, rfl, hj, hk, rfl⟩ := hrel
    by_cases hlt : j < ls.length
    · obtain ⟨b, off, l, a, c', rfl, hl', hcz, hrd⟩ := H.out.at_ hlt
      have hk1 : k + l.length = (ls.take (j + 1)).flatten.length := by rw [take_flat_succ hl', List.length_append, hk]
      have hk2 := take_flat_le ls (j + 1)
      have HK := Lib.hid hk1
      have hkT : k + l.length ≤ 10000 := by have := HT.out; omega
      clear hl' hrd hk hk1 hk2
      go_wp2_with fail
      go_roundw
      case rel => exact ⟨j + 1, k + l.length, by go_num, by go_num, by omega, HK.out, by trivial⟩
      case measure => simp [intOf]; omega
    · have e : k = T := by rw [hk, take_flat_all (by omega), HT.out]
      subst e
      clear hk
      obtain ⟨i0, hi, hz0, hz1, hz2⟩ := info_parts Tryz.infoU8
      go_wp2_with (at_make; refine wpList_make_full _ rfl (.tmp 21) (.tmp 21) 22 rfl w.heap.size 5 i0 (.int .u8 0) 1 Tryz.underlying22 hi hz0 hz1 .i64 .i64 _ _ k rfl rfl rfl rfl (by rw [hz2]; omega) (by unfold maxLen; omega) (Nat.le_refl _) ?_; intro w1 hown hgrow)
      rw [made_ints8] at hown
      have hg0 := block_of_own hown
      have hbel : Below w.heap.size w w1 := below_of_grown hgrow (Nat.le_refl _) (by intro g hg; cases hg)
      clear hown hgrow hi hz0 hz1 hz2
      go_loopw [7, 25] (fun at_ i wr => BhRel w wr ls k at_ i) (fun _ i _ => ls.length - (intOf i).toNat)
      case atStart => exact ⟨0, [], rfl, rfl, Nat.zero_le _, by simp, hg0, hbel⟩
      case round =>
        clear hg0 hbel
        obtain ⟨j, acc, rfl, rfl, hj, hacc, hg, hb⟩ := hrel
        have hal : acc.length ≤ k := by rw [hacc, HT.out]; exact take_flat_le _ _
        by_cases hlt : j < ls.length
        · obtain ⟨b, off, l, a, c', rfl, hl', hcz, hrd⟩ := (H.out.below hb).at_ hlt
          have e1 : acc ++ l = (ls.take (j + 1)).flatten := by rw [take_flat_succ hl', hacc]
          have hk2 : acc.length + l.length ≤ k := by
            have := take_flat_le ls (j + 1)
            rw [← e1, List.length_append] at this
            have := HT.out; omega
          have HE := Lib.hid e1; have HG := Lib.hid hg; have HB := Lib.hid hb; have HR := Lib.hid hrd
          clear hl' e1 hg hb hrd hacc
          have hn : (l.map (Value.int .u8)).length = Nat.min l.length (k - acc.length) := by rw [List.length_map]; exact (Nat.min_eq_left (by omega)).symm
          have hfit : acc.length + (l.map (Value.int .u8)).length ≤ ((padL acc k).map (Value.int .u8)).length := by simp [padL_len hal]; omega
          have h1 : ∀ v ∈ l.map (Value.int .u8), v.oneCell' = true := by intro v hv; simp at hv; obtain ⟨z, _, rfl⟩ := hv; rfl
          have hspl := padL_splice (acc := acc) (l := l) (T := k) hk2
          have HN := Lib.hid hn; have HFIT := Lib.hid hfit; have H1 := Lib.hid h1; have HSPL := Lib.hid hspl; have HU := Lib.hid u8_size
          clear hn hfit h1 hspl
          by_cases hend : k = acc.length
          · have hl0 : l = [] := List.eq_nil_of_length_eq_zero (by omega)
            subst hl0
            subst hend
            have HP : Hid (0 < ([] : List Value).length → (some ⟨w.heap.size, 0, none⟩ : Option Addr) = some ⟨w.heap.size, acc.length, none⟩ ∧ ∃ ad, a = some ad ∧ ∀ j v, ([] : List Value)[j]? = some v → wr.cell? (ad.add j) = some v) := fun h => absurd h (Nat.lt_irrefl 0)
            go_wp2_with (refine wpList_copy_splice rfl (.tmp 32) (.tmp 33) 22 22 rfl 5 Tryz.underlying22 HU.out _ _ _ _ _ _ rfl rfl w.heap.size acc.length ((padL acc acc.length).map (Value.int .u8)) 5 HG.out [] (by rfl) HP.out HFIT.out (by intro v hv; cases hv) w.heap.size w HB.out (Nat.le_refl _) ?_; intro w3 hg3 hb3)
            have HSP := HSPL.out
            rw [List.map_nil] at HSP
            rw [HSP] at hg3
            go_roundw
            case rel => exact ⟨j + 1, acc ++ [], by go_num, by simp, by omega, HE.out, hg3.out, hb3⟩
            case measure => simp [intOf]; omega
          · have hpos : 0 < (l.map (Value.int .u8)).length → (some ⟨w.heap.size, acc.length, none⟩ : Option Addr) = some ⟨w.heap.size, acc.length, none⟩ ∧ ∃ ad, a = some ad ∧ ∀ j v, (l.map (Value.int .u8))[j]? = some v → wr.cell? (ad.add j) = some v := by
              intro hp
              refine ⟨rfl, ?_⟩
              rcases HR.out with rfl | ⟨b1, o1, rfl, hc⟩
              · simp at hp
              · refine ⟨_, rfl, fun j v hv => ?_⟩
                have hjl : j < l.length := by have := (List.getElem?_eq_some_iff.1 hv).1; simpa using this
                have := hc j hjl
                rw [List.getElem?_map, List.getElem?_eq_getElem hjl] at hv
                rw [List.getD_eq_getElem?_getD, List.getElem?_eq_getElem hjl] at this
                rw [Option.getD_some] at this
                cases hv
                show wr.cell? (if j = 0 then ⟨b1, o1, none⟩ else ⟨b1, o1 + j, none⟩) = _
                by_cases hj0 : j = 0
                · subst hj0; rw [if_pos rfl]; exact this
                · rw [if_neg hj0]; exact this
            have HPOS := Lib.hid hpos
            clear hpos
            go_wp2_with (refine wpList_copy_splice rfl (.tmp 32) (.tmp 33) 22 22 rfl 5 Tryz.underlying22 HU.out _ _ _ _ _ _ rfl rfl w.heap.size acc.length ((padL acc k).map (Value.int .u8)) 5 HG.out (l.map (Value.int .u8)) HN.out HPOS.out HFIT.out H1.out w.heap.size w HB.out (Nat.le_refl _) ?_; intro w3 hg3 hb3)
            rw [HSPL.out] at hg3
            go_roundw
            case rel => exact ⟨j + 1, acc ++ l, by go_num, by simp, by omega, HE.out, hg3.out, hb3⟩
            case measure => simp [intOf]; omega
        · have e : acc = ls.flatten := by rw [hacc, take_flat_all (by omega)]
          have hkl : k = acc.length := by rw [e]; exact HT.out
          subst hkl
          have OW : Hid (Own wr w.heap.size 5 .u8 (some ⟨w.heap.size, 0, none⟩) acc.length acc) := own_of_block (by rw [show padL acc acc.length = acc by simp [padL]] at hg; exact hg) (Nat.le_refl _) (by unfold maxLen; omega)
          have HE := Lib.hid e; have HB := Lib.hid hb
          clear e hacc hg hb
          go_wp2_with fail
          go_ret
          rw [← HE.out]
          exact ⟨_, _, rfl, OW.out, HB.out⟩
end Go.Proofs.YtfpbhedophlnkaaGreatDoor
namespace Go.Proofs.YtfpbhedophlnkaaGreatDoor
open Go.RowKit
set_option linter.unusedSimpArgs false
set_option linter.unusedVariables false

theorem row_rdI (w : World) (t : TypeId) (l : List Int) : Rd (w.alloc (.cells (l.map (Value.int .i64)).toArray t)) .i64 (some ⟨w.heap.size, 0, none⟩) l := by
  refine .inr ⟨w.heap.size, 0, rfl, fun i hi => ?_⟩
  rw [Nat.zero_add, cell_of_row _ _ _ _ _ _ (heap_alloc_new w _)]
  simp [hi, List.getD_eq_getElem?_getD]
theorem Tryz.infoBs : (Tryz.prog.info? 22).map (fun i => (i.zero, i.size, i.bytes)) = some (some (.slice none 0 0), 1, 24) := by kernel_rfl
theorem map_flat (f : Int → List Int) (l : List Int) : (l.map f).flatten = l.flatMap f := by simp [List.flatMap]
theorem made_up {w w1 w2 : World} {e : TypeId} {k : IntKind} {l : List Int} {en : Ending} (hb : Below w.heap.size w w1) (h : Made w1 e k l en w2) : Made w e k l en w2 := by
  obtain ⟨ao, c, rfl, ho, hb2⟩ := h
  exact ⟨ao, c, rfl, ho.base_le hb.size, below_step hb (Nat.le_refl _) hb2⟩

def PeRel (w wr : World) (l : List Int) (v i : Value) : Prop :=
  ∃ (ao : Option Addr) (c j : Nat), v = .slice ao j c ∧ i = .int .i64 j ∧ j ≤ l.length ∧ OwnB wr w.heap.size ao c ((l.take j).map putN) ∧ Below w.heap.size w wr

theorem flagOf_any (b : Bool) (w : World) : Calls Tryz.prog 243 #[.bool b] w fun e w' => e = .returned (.int .i64 (flagI b)) ∧ w' = w := by
  cases b
  all_goals
    go_enter Tryz.func243, Tryz.ntmps243
    go_wp2
    go_ret
    exact ⟨rfl, rfl⟩

set_option maxRecDepth 100000 in
set_option maxHeartbeats 1600000 in
theorem putEach_any (b d n : Nat) (l : List Int) (w : World) (h : Rd w .i64 (some ⟨b, 0, none⟩) l) (hn : n = l.length) (hl : l.length ≤ 10) (hpos : 0 < l.length) :
    Calls Tryz.prog 242 #[.slice (some ⟨b, 0, none⟩) n d] w (Made w 5 .u8 (l.flatMap putN)) := by
  subst hn
  have H := Lib.hid h; clear h
  go_enter Tryz.func242, Tryz.ntmps242
  go_wp2_with fail
  go_loopw [3, 8] (fun v i wr => PeRel w wr l v i) (fun _ i _ => l.length - (intOf i).toNat)
  case atStart => exact ⟨none, 0, 0, rfl, rfl, Nat.zero_le _, by simpa using OwnB.none_, Below.refl _ _⟩
  case round =>
    obtain ⟨ao, c, j, rfl, rfl, hj, ho, hb⟩ := hrel
    have HO := Lib.hid ho; have HB := Lib.hid hb; clear ho hb
    by_cases hlt : j < l.length
    · obtain ⟨b', off', heq, hc⟩ : ∃ b' off', (some ⟨b, 0, none⟩ : Option Addr) = some ⟨b', off', none⟩ ∧ ∀ i, i < l.length → wr.cell? ⟨b', off' + i, none⟩ = some (.int .i64 (l.getD i 0)) := by
        rcases H.out.below HB.out with rfl | h'
        · simp at hlt
        · exact h'
      simp only [Option.some.injEq, Addr.mk.injEq, and_true] at heq
      obtain ⟨rfl, rfl⟩ := heq
      obtain ⟨z, _, _, hcz, ht⟩ := Rd.at_ hc hlt
      rw [Nat.zero_add] at hcz
      have HT := Lib.hid ht; clear ht hc
      obtain ⟨q, hq⟩ : ∃ q, q = putN z := ⟨_, rfl⟩
      have PZ : Hid (∀ w : World, Calls Tryz.prog 88 #[.int .i64 z] w (Made w 5 .u8 q)) := by rw [hq]; exact fun w => implPutNum_any _ w
      have HQ := Lib.hid hq; clear hq
      go_wp2_with fail
      refine (PZ.out _).mono ?_
      rintro e w2 ⟨a2, c2, rfl, o2, b2⟩
      obtain ⟨vs, hV, hvl, hvp⟩ := HO.out.below b2
      have hjv : j = vs.length := by rw [hvl]; simp; omega
      have O2 := Lib.hid (o2.base_le HB.out.size); have B2 := Lib.hid (below_step HB.out (Nat.le_refl _) b2)
      have HV := Lib.hid hV; have HVP := Lib.hid hvp; have HVL := Lib.hid hvl; have HJV := Lib.hid hjv
      have hv10 : vs.length ≤ 10 := by omega
      clear o2 b2 hV hvp hvl hjv
      go_wp2_with (at_builtin; go_must (refine wpList_appendV _ rfl (.tmp 12) (.tmp 15) 108 rfl w.heap.size 22 (.slice none 0 0) 24 Tryz.underlying108 Tryz.infoBs rfl ao c j vs rfl HJV.out (HV.out.alloc _) w2.heap.size 1 (.slice a2 q.length c2) rfl (cell_one _ _ _) rfl (by unfold maxLen; omega) (by omega) (by have := B2.out.size; simp; omega) ?_; intro ao' c6 w6 o6 g6 l6))
      have NEW := OwnB.push (HV.out.alloc (.cells #[.slice a2 q.length c2] 22)) HVL.out (fun i l' hi => by obtain ⟨x, y, h4, h5⟩ := HVP.out i l' hi; exact ⟨x, y, h4, h5.alloc _⟩) (O2.out.alloc _) o6 g6
      have hB' : Below w.heap.size w w6 := below_grow (B2.out.alloc B2.out.size _) (Nat.le_refl _) g6 (fun x hx => (HV.out.lt x hx).1)
      have e1 : (l.take j).map putN ++ [q] = (l.take (j + 1)).map putN := by rw [HT.out, HQ.out]; simp
      rw [e1] at NEW
      have NEW' := Lib.hid NEW; have HB' := Lib.hid hB'
      clear NEW hB' e1 o6 g6 l6
      go_roundw
      case rel => exact ⟨ao', c6, j + 1, by rw [HJV.out], by go_num, by omega, NEW'.out, HB'.out⟩
      case measure => simp [intOf]; omega
    · have e : (l.take j).map putN = l.map putN := by rw [List.take_of_length_le (by omega)]
      have HO' : Hid (OwnB wr w.heap.size ao c (l.map putN)) := by have := HO.out; rw [e] at this; exact this
      clear e HO
      have hfl := flat_len l
      have BH := Lib.hid (bhd_any ao c j (l.map putN) wr HO'.out.rd (by simp; omega) (by simp; omega) (by rw [map_flat]; omega))
      rw [map_flat] at BH
      obtain ⟨f, hf⟩ : ∃ f, f = l.flatMap putN := ⟨_, rfl⟩
      rw [← hf] at BH
      have HF := Lib.hid hf
      clear hf hfl
      go_wp2_with fail
      refine BH.out.mono ?_
      intro e w3 hm
      have HM := Lib.hid (made_up HB.out hm)
      clear hm
      obtain ⟨a3, c3, rfl, o3, b3⟩ := HM.out
      go_wp2_with fail
      go_ret
      rw [← HF.out]
      exact HM.out

theorem putEach_last (l : List Int) (W : World) (bn : Nat) (hbn : bn = W.heap.size) (hl : l.length ≤ 10) (hpos : 0 < l.length) :
    Calls Tryz.prog 242 #[.slice (some ⟨bn, 0, none⟩) l.length l.length] (W.alloc (.cells (l.map (Value.int .i64)).toArray 3)) (Made (W.alloc (.cells (l.map (Value.int .i64)).toArray 3)) 5 .u8 (l.flatMap putN)) := by
  subst hbn
  exact putEach_any W.heap.size l.length _ l _ (row_rdI W 3 l) rfl hl hpos
end Go.Proofs.YtfpbhedophlnkaaGreatDoor
