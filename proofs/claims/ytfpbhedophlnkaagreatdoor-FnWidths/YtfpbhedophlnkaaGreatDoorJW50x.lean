/-
  Contract of impl.behindEachOther: the bytes of all parts, one behind the other, in memory of its own. For all slices of slices of bytes. Contracts of impl.flagOf, putEach, putFields and PutNode: the node's bytes in memory of the call's own; nothing where it is none. For every node. A slice of one slice of bytes, made in place. No program, no walk. Contract of impl.EncodeSchema. For every slice of tables.
-/
import Derived.Test.YtfpbhedophlnkaaGreatDoorJW49x
import Derived.Test.YtfpbhedophlnkaaGreatDoorJW25x
import Derived.Test.YtfpbhedophlnkaaGreatDoorJW15x
import Derived.Test.YtfpbhedophlnkaaGreatDoorJW28x
import Derived.Test.YtfpbhedophlnkaaGreatDoorJW27x
import Derived.Deep.RegionHeld3
import Derived.Test.YtfpbhedophlnkaaGreatDoorJW33x
import Derived.Test.YtfpbhedophlnkaaGreatDoorJW8x
import Derived.Deep.AppendLies
namespace Go.Proofs.YtfpbhedophlnkaaGreatDoor
open Go.RowKit
set_option linter.unusedSimpArgs false
set_option linter.unusedVariables false

theorem take_flat_succ {ls : List (List Int)} {j : Nat} {l : List Int} (h : ls[j]? = some l) : (ls.take (j + 1)).flatten = (ls.take j).flatten ++ l := by
  simp [List.take_add_one, h, List.flatten_append]
theorem take_flat_le (ls : List (List Int)) (j : Nat) : (ls.take j).flatten.length ≤ ls.flatten.length := by
  conv => rhs; rw [← List.take_append_drop j ls, List.flatten_append, List.length_append]
  omega
theorem take_flat_all {ls : List (List Int)} {j : Nat} (h : ls.length ≤ j) : (ls.take j).flatten = ls.flatten := by rw [List.take_of_length_le h]

/-- Behind the j-th round of the second loop. -/
def BhRel (w wr : World) (ls : List (List Int)) (T : Nat) (at_ i : Value) : Prop :=
  ∃ (j : Nat) (acc : List Int), i = .int .i64 j ∧ at_ = .int .i64 acc.length ∧ j ≤ ls.length ∧ acc = (ls.take j).flatten ∧ wr.heap[w.heap.size]? = some (.cells ((padL acc T).map (Value.int .u8)).toArray 5 (0, 0)) ∧ Below w.heap.size w wr

theorem u8_size : (Tryz.prog.info? 5).map (·.size) = some 1 := by kernel_rfl
theorem made_ints8 (n : Nat) : (madeCells (Value.int .u8 0).cells (n * 1)).toList = (padL [] n).map (Value.int .u8) := by
  rw [Nat.mul_one, show (Value.int .u8 0).cells = #[.int .u8 0] from rfl, toList_madeCells_one]; simp [padL]

set_option maxRecDepth 100000 in
set_option maxHeartbeats 1600000 in
theorem bhd_any (ao : Option Addr) (c n : Nat) (ls : List (List Int)) (w : World) (h : RdB w ao ls) (hn : n = ls.length) (hl : ls.length ≤ 1000) (ht : ls.flatten.length ≤ 10000) :
    Calls Tryz.prog 91 #[.slice ao n c] w (Made w 5 .u8 ls.flatten) := by
  subst hn
  have H := Lib.hid h; clear h
  obtain ⟨T, hT⟩ : ∃ T, T = ls.flatten.length := ⟨_, rfl⟩
  have HT := Lib.hid hT
  have hT' : T ≤ 10000 := by omega
  clear hT ht
  go_enter Tryz.func91, Tryz.ntmps91
  go_wp2_with fail
  go_loopw [3, 12] (fun s i wr => ∃ (j k : Nat), i = .int .i64 j ∧ s = .int .i64 k ∧ j ≤ ls.length ∧ k = (ls.take j).flatten.length ∧ w = wr) (fun _ i _ => ls.length - (intOf i).toNat)
  case atStart => exact ⟨0, 0, rfl, rfl, Nat.zero_le _, by simp, rfl⟩
  case round =>
    obtain ⟨j, k, rfl, rfl, hj, hk, rfl⟩ := hrel
    by_cases hlt : j < ls.length
    · obtain ⟨b, off, l, a, c', rfl, hl', hcz, hrd⟩ := H.out.at_ hlt
      have hk1 : k + l.length = (ls.take (j + 1)).flatten.length := by rw [take_flat_succ hl', List.length_append, hk]
      have hk2 := take_flat_le ls (j + 1)
      have HK := Lib.hid hk1
      have hkT : k + l.length ≤ 10000 := by have := HT.out; omega
      clear hl' hrd hk hk1 hk2
      go_wp2_with fail
      go_roundw
      case rel => exact ⟨j + 1, k + l.length, by go_num, by go_num, by omega, HK.out, by trivial⟩
      case measure => simp [intOf]; omega
    · have e : k = T := by rw [hk, take_flat_all (by omega), HT.out]
      subst e
      clear hk
      obtain ⟨i0, hi, hz0, hz1, hz2⟩ := info_parts Tryz.infoU8
      go_wp2_with (at_make; refine wpList_make_full _ rfl (.tmp 21) (.tmp 21) 22 rfl w.heap.size 5 i0 (.int .u8 0) 1 Tryz.underlying22 hi hz0 hz1 .i64 .i64 _ _ k rfl rfl rfl rfl (by rw [hz2]; omega) (by unfold maxLen; omega) (Nat.le_refl _) ?_; intro w1 hown hgrow)
      rw [made_ints8] at hown
      have hg0 := block_of_own hown
      have hbel : Below w.heap.size w w1 := below_of_grown hgrow (Nat.le_refl _) (by intro g hg; cases hg)
      clear hown hgrow hi hz0 hz1 hz2
      go_loopw [7, 25] (fun at_ i wr => BhRel w wr ls k at_ i) (fun _ i _ => ls.length - (intOf i).toNat)
      case atStart => exact ⟨0, [], rfl, rfl, Nat.zero_le _, by simp, hg0, hbel⟩
      case round =>
        clear hg0 hbel
        obtain ⟨j, acc, rfl, rfl, hj, hacc, hg, hb⟩ := hrel
        have hal : acc.length ≤ k := by rw [hacc, HT.out]; exact take_flat_le _ _
        by_cases hlt : j < ls.length
        · obtain ⟨b, off, l, a, c', rfl, hl', hcz, hrd⟩ := (H.out.below hb).at_ hlt
          have e1 : acc ++ l = (ls.take (j + 1)).flatten := by rw [take_flat_succ hl', hacc]
          have hk2 : acc.length + l.length ≤ k := by
            have := take_flat_le ls (j + 1)
            rw [← e1, List.length_append] at this
            have := HT.out; omega
          have HE := Lib.hid e1; have HG := Lib.hid hg; have HB := Lib.hid hb; have HR := Lib.hid hrd
          clear hl' e1 hg hb hrd hacc
          have hn : (l.map (Value.int .u8)).length = Nat.min l.length (k - acc.length) := by rw [List.length_map]; exact (Nat.min_eq_left (by omega)).symm
          have hfit : acc.length + (l.map (Value.int .u8)).length ≤ ((padL acc k).map (Value.int .u8)).length := by simp [padL_len hal]; omega
          have h1 : ∀ v ∈ l.map (Value.int .u8), v.oneCell' = true := by intro v hv; simp at hv; obtain ⟨z, _, rfl⟩ := hv; rfl
          have hspl := padL_splice (acc := acc) (l := l) (T := k) hk2
          have HN := Lib.hid hn; have HFIT := Lib.hid hfit; have H1 := Lib.hid h1; have HSPL := Lib.hid hspl; have HU := Lib.hid u8_size
          clear hn hfit h1 hspl
          by_cases hend : k = acc.length
          · have hl0 : l = [] := List.eq_nil_of_length_eq_zero (by omega)
            subst hl0
            subst hend
            have HP : Hid (0 < ([] : List Value).length → (some ⟨w.heap.size, 0, none⟩ : Option Addr) = some ⟨w.heap.size, acc.length, none⟩ ∧ ∃ ad, a = some ad ∧ ∀ j v, ([] : List Value)[j]? = some v → wr.cell? (ad.add j) = some v) := fun h => absurd h (Nat.lt_irrefl 0)
            go_wp2_with (refine wpList_copy_splice rfl (.tmp 32) (.tmp 33) 22 22 rfl 5 Tryz.underlying22 HU.out _ _ _ _ _ _ rfl rfl w.heap.size acc.length ((padL acc acc.length).map (Value.int .u8)) 5 HG.out [] (by rfl) HP.out HFIT.out (by intro v hv; cases hv) w.heap.size w HB.out (Nat.le_refl _) ?_; intro w3 hg3 hb3)
            have HSP := HSPL.out
            rw [List.map_nil] at HSP
            rw [HSP] at hg3
            go_roundw
            case rel => exact ⟨j + 1, acc ++ [], by go_num, by simp, by omega, HE.out, hg3.out, hb3⟩
            case measure => simp [intOf]; omega
          · have hpos : 0 < (l.map (Value.int .u8)).length → (some ⟨w.heap.size, acc.length, none⟩ : Option Addr) = some ⟨w.heap.size, acc.length, none⟩ ∧ ∃ ad, a = some ad ∧ ∀ j v, (l.map (Value.int .u8))[j]? = some v → wr.cell? (ad.add j) = some v := by
              intro hp
              refine ⟨rfl, ?_⟩
              rcases HR.out with rfl | ⟨b1, o1, rfl, hc⟩
              · simp at hp
              · refine ⟨_, rfl, fun j v hv => ?_⟩
                have hjl : j < l.length := by have := (List.getElem?_eq_some_iff.1 hv).1; simpa using this
                have := hc j hjl
                rw [List.getElem?_map, List.getElem?_eq_getElem hjl] at hv
                rw [List.getD_eq_getElem?_getD, List.getElem?_eq_getElem hjl] at this
                rw [Option.getD_some] at this
                cases hv
                show wr.cell? (if j = 0 then ⟨b1, o1, none⟩ else ⟨b1, o1 + j, none⟩) = _
                by_cases hj0 : j = 0
                · subst hj0; rw [if_pos rfl]; exact this
                · rw [if_neg hj0]; exact this
            have HPOS := Lib.hid hpos
            clear hpos
            go_wp2_with (refine wpList_copy_splice rfl (.tmp 32) (.tmp 33) 22 22 rfl 5 Tryz.underlying22 HU.out _ _ _ _ _ _ rfl rfl w.heap.size acc.length ((padL acc k).map (Value.int .u8)) 5 HG.out (l.map (Value.int .u8)) HN.out HPOS.out HFIT.out H1.out w.heap.size w HB.out (Nat.le_refl _) ?_; intro w3 hg3 hb3)
            rw [HSPL.out] at hg3
            go_roundw
            case rel => exact ⟨j + 1, acc ++ l, by go_num, by simp, by omega, HE.out, hg3.out, hb3⟩
            case measure => simp [intOf]; omega
        · have e : acc = ls.flatten := by rw [hacc, take_flat_all (by omega)]
          have hkl : k = acc.length := by rw [e]; exact HT.out
          subst hkl
          have OW : Hid (Own wr w.heap.size 5 .u8 (some ⟨w.heap.size, 0, none⟩) acc.length acc) := own_of_block (by rw [show padL acc acc.length = acc by simp [padL]] at hg; exact hg) (Nat.le_refl _) (by unfold maxLen; omega)
          have HE := Lib.hid e; have HB := Lib.hid hb
          clear e hacc hg hb
          go_wp2_with fail
          go_ret
          rw [← HE.out]
          exact ⟨_, _, rfl, OW.out, HB.out⟩
end Go.Proofs.YtfpbhedophlnkaaGreatDoor
namespace Go.Proofs.YtfpbhedophlnkaaGreatDoor
open Go.RowKit
set_option linter.unusedSimpArgs false
set_option linter.unusedVariables false

theorem row_rdI (w : World) (t : TypeId) (l : List Int) : Rd (w.alloc (.cells (l.map (Value.int .i64)).toArray t)) .i64 (some ⟨w.heap.size, 0, none⟩) l := by
  refine .inr ⟨w.heap.size, 0, rfl, fun i hi => ?_⟩
  rw [Nat.zero_add, cell_of_row _ _ _ _ _ _ (heap_alloc_new w _)]
  simp [hi, List.getD_eq_getElem?_getD]
theorem Tryz.infoBs : (Tryz.prog.info? 22).map (fun i => (i.zero, i.size, i.bytes)) = some (some (.slice none 0 0), 1, 24) := by kernel_rfl
theorem map_flat (f : Int → List Int) (l : List Int) : (l.map f).flatten = l.flatMap f := by simp [List.flatMap]
theorem made_up {w w1 w2 : World} {e : TypeId} {k : IntKind} {l : List Int} {en : Ending} (hb : Below w.heap.size w w1) (h : Made w1 e k l en w2) : Made w e k l en w2 := by
  obtain ⟨ao, c, rfl, ho, hb2⟩ := h
  exact ⟨ao, c, rfl, ho.base_le hb.size, below_step hb (Nat.le_refl _) hb2⟩

def PeRel (w wr : World) (l : List Int) (v i : Value) : Prop :=
  ∃ (ao : Option Addr) (c j : Nat), v = .slice ao j c ∧ i = .int .i64 j ∧ j ≤ l.length ∧ OwnB wr w.heap.size ao c ((l.take j).map putN) ∧ Below w.heap.size w wr

theorem flagOf_any (b : Bool) (w : World) : Calls Tryz.prog 243 #[.bool b] w fun e w' => e = .returned (.int .i64 (flagI b)) ∧ w' = w := by
  cases b
  all_goals
    go_enter Tryz.func243, Tryz.ntmps243
    go_wp2
    go_ret
    exact ⟨rfl, rfl⟩

set_option maxRecDepth 100000 in
set_option maxHeartbeats 1600000 in
theorem putEach_any (b d n : Nat) (l : List Int) (w : World) (h : Rd w .i64 (some ⟨b, 0, none⟩) l) (hn : n = l.length) (hl : l.length ≤ 10) (hpos : 0 < l.length) :
    Calls Tryz.prog 242 #[.slice (some ⟨b, 0, none⟩) n d] w (Made w 5 .u8 (l.flatMap putN)) := by
  subst hn
  have H := Lib.hid h; clear h
  go_enter Tryz.func242, Tryz.ntmps242
  go_wp2_with fail
  go_loopw [3, 8] (fun v i wr => PeRel w wr l v i) (fun _ i _ => l.length - (intOf i).toNat)
  case atStart => exact ⟨none, 0, 0, rfl, rfl, Nat.zero_le _, by simpa using OwnB.none_, Below.refl _ _⟩
  case round =>
    obtain ⟨ao, c, j, rfl, rfl, hj, ho, hb⟩ := hrel
    have HO := Lib.hid ho; have HB := Lib.hid hb; clear ho hb
    by_cases hlt : j < l.length
    · obtain ⟨b', off', heq, hc⟩ : ∃ b' off', (some ⟨b, 0, none⟩ : Option Addr) = some ⟨b', off', none⟩ ∧ ∀ i, i < l.length → wr.cell? ⟨b', off' + i, none⟩ = some (.int .i64 (l.getD i 0)) := by
        rcases H.out.below HB.out with rfl | h'
        · simp at hlt
        · exact h'
      simp only [Option.some.injEq, Addr.mk.injEq, and_true] at heq
      obtain ⟨rfl, rfl⟩ := heq
      obtain ⟨z, _, _, hcz, ht⟩ := Rd.at_ hc hlt
      rw [Nat.zero_add] at hcz
      have HT := Lib.hid ht; clear ht hc
      obtain ⟨q, hq⟩ : ∃ q, q = putN z := ⟨_, rfl⟩
      have PZ : Hid (∀ w : World, Calls Tryz.prog 88 #[.int .i64 z] w (Made w 5 .u8 q)) := by rw [hq]; exact fun w => implPutNum_any _ w
      have HQ := Lib.hid hq; clear hq
      go_wp2_with fail
      refine (PZ.out _).mono ?_
      rintro e w2 ⟨a2, c2, rfl, o2, b2⟩
      obtain ⟨vs, hV, hvl, hvp⟩ := HO.out.below b2
      have hjv : j = vs.length := by rw [hvl]; simp; omega
      have O2 := Lib.hid (o2.base_le HB.out.size); have B2 := Lib.hid (below_step HB.out (Nat.le_refl _) b2)
      have HV := Lib.hid hV; have HVP := Lib.hid hvp; have HVL := Lib.hid hvl; have HJV := Lib.hid hjv
      have hv10 : vs.length ≤ 10 := by omega
      clear o2 b2 hV hvp hvl hjv
      go_wp2_with (at_builtin; go_must (refine wpList_appendV _ rfl (.tmp 12) (.tmp 15) 108 rfl w.heap.size 22 (.slice none 0 0) 24 Tryz.underlying108 Tryz.infoBs rfl ao c j vs rfl HJV.out (HV.out.alloc _) w2.heap.size 1 (.slice a2 q.length c2) rfl (cell_one _ _ _) rfl (by unfold maxLen; omega) (by omega) (by have := B2.out.size; simp; omega) ?_; intro ao' c6 w6 o6 g6 l6))
      have NEW := OwnB.push (HV.out.alloc (.cells #[.slice a2 q.length c2] 22)) HVL.out (fun i l' hi => by obtain ⟨x, y, h4, h5⟩ := HVP.out i l' hi; exact ⟨x, y, h4, h5.alloc _⟩) (O2.out.alloc _) o6 g6
      have hB' : Below w.heap.size w w6 := below_grow (B2.out.alloc B2.out.size _) (Nat.le_refl _) g6 (fun x hx => (HV.out.lt x hx).1)
      have e1 : (l.take j).map putN ++ [q] = (l.take (j + 1)).map putN := by rw [HT.out, HQ.out]; simp
      rw [e1] at NEW
      have NEW' := Lib.hid NEW; have HB' := Lib.hid hB'
      clear NEW hB' e1 o6 g6 l6
      go_roundw
      case rel => exact ⟨ao', c6, j + 1, by rw [HJV.out], by go_num, by omega, NEW'.out, HB'.out⟩
      case measure => simp [intOf]; omega
    · have e : (l.take j).map putN = l.map putN := by rw [List.take_of_length_le (by omega)]
      have HO' : Hid (OwnB wr w.heap.size ao c (l.map putN)) := by have := HO.out; rw [e] at this; exact this
      clear e HO
      have hfl := flat_len l
      have BH := Lib.hid (bhd_any ao c j (l.map putN) wr HO'.out.rd (by simp; omega) (by simp; omega) (by rw [map_flat]; omega))
      rw [map_flat] at BH
      obtain ⟨f, hf⟩ : ∃ f, f = l.flatMap putN := ⟨_, rfl⟩
      rw [← hf] at BH
      have HF := Lib.hid hf
      clear hf hfl
      go_wp2_with fail
      refine BH.out.mono ?_
      intro e w3 hm
      have HM := Lib.hid (made_up HB.out hm)
      clear hm
      obtain ⟨a3, c3, rfl, o3, b3⟩ := HM.out
      go_wp2_with fail
      go_ret
      rw [← HF.out]
      exact HM.out

theorem putEach_last (l : List Int) (W : World) (bn : Nat) (hbn : bn = W.heap.size) (hl : l.length ≤ 10) (hpos : 0 < l.length) :
    Calls Tryz.prog 242 #[.slice (some ⟨bn, 0, none⟩) l.length l.length] (W.alloc (.cells (l.map (Value.int .i64)).toArray 3)) (Made (W.alloc (.cells (l.map (Value.int .i64)).toArray 3)) 5 .u8 (l.flatMap putN)) := by
  subst hbn
  exact putEach_any W.heap.size l.length _ l _ (row_rdI W 3 l) rfl hl hpos
end Go.Proofs.YtfpbhedophlnkaaGreatDoor
namespace Go.Proofs.YtfpbhedophlnkaaGreatDoor
open Go.RowKit
set_option linter.unusedSimpArgs false
set_option linter.unusedVariables false

theorem ownB_one {w : World} {base : Nat} {a : Option Addr} {c : Nat} {l : List Int} (h : Own w base 5 .u8 a c l) (hb : base ≤ w.heap.size) : OwnB (w.alloc (.cells #[.slice a l.length c] 22)) base (some ⟨w.heap.size, 0, none⟩) 1 [l] := by
  refine ⟨[.slice a l.length c], ⟨rfl, .inr ⟨w.heap.size, 1, _, rfl, hb, heap_alloc_new w _, Nat.le_refl _, by unfold maxLen; omega, rfl, rfl⟩⟩, rfl, fun i m hi => ?_⟩
  match i, hi with
  | 0, hi => cases hi; exact ⟨a, c, rfl, h.alloc _⟩

end Go.Proofs.YtfpbhedophlnkaaGreatDoor
namespace Go.Proofs.YtfpbhedophlnkaaGreatDoor
open Go.RowKit
set_option linter.unusedSimpArgs false
set_option linter.unusedVariables false

/-- A schema's parts: the number of tables, and the bytes of the first j. -/
def parQ (p : List Tb) (j : Nat) : List (List Int) := putN p.length :: (p.take j).flatMap fun t => [putW t.name, putN t.width]
theorem parQ_succ {p : List Tb} {j : Nat} {t : Tb} (h : p[j]? = some t) : parQ p (j + 1) = parQ p j ++ [putW t.name, putN t.width] := by
  simp [parQ, List.take_add_one, h, List.flatMap_append]
theorem parQ_flat (p : List Tb) (j : Nat) : (parQ p j).flatten = preQ p j := by
  simp only [parQ, preQ, List.flatten_cons]
  congr 1
  generalize p.take j = m
  induction m with
  | nil => rfl
  | cons t m ih => simp [putTb, ih, List.flatMap_cons]
theorem parQ_len : ∀ (p : List Tb) (j : Nat), j ≤ p.length → (parQ p j).length = 2 * j + 1 := by
  intro p j h
  have : ∀ m : List Tb, (m.flatMap fun t => [putW t.name, putN t.width]).length = 2 * m.length := by
    intro m
    induction m with
    | nil => rfl
    | cons t m ih => simp only [List.flatMap_cons, List.length_append, List.length_cons, List.length_nil, ih]; omega
  simp only [parQ, List.length_cons, this, List.length_take]; omega
def EyRel (w wr : World) (p : List Tb) (v i : Value) : Prop :=
  ∃ (ao : Option Addr) (c m j : Nat), v = .slice ao m c ∧ m = 2 * j + 1 ∧ i = .int .i64 j ∧ j ≤ p.length ∧ OwnB wr w.heap.size ao c (parQ p j) ∧ Below w.heap.size w wr
/-- Several more are appended. -/
theorem OwnB.pushs {w1 w3 : World} {base : Nat} {ao ao' : Option Addr} {c c' : Nat} {ls ms : List (List Int)} {vs us : List Value}
    (hV : OwnV w1 base 22 ao c vs) (hl : vs.length = ls.length) (hp : ∀ (i : Nat) (l : List Int), ls[i]? = some l → ∃ (a : Option Addr) (c' : Nat), vs[i]? = some (Value.slice a l.length c') ∧ Own w1 base 5 .u8 a c' l)
    (hu : us.length = ms.length) (hq : ∀ (i : Nat) (l : List Int), ms[i]? = some l → ∃ (a : Option Addr) (c' : Nat), us[i]? = some (Value.slice a l.length c') ∧ Own w1 base 5 .u8 a c' l)
    (hV3 : OwnV w3 base 22 ao' c' (vs ++ us)) (hg : w1.grownBy w3 (ao.map (·.block))) : OwnB w3 base ao' c' (ls ++ ms) := by
  have keep : ∀ a c' l, Own w1 base 5 .u8 a c' l → Own w3 base 5 .u8 a c' l := by
    intro a c' l h
    refine h.grown hg ?_
    intro y hy
    cases ao with
    | none => simp
    | some x => simp; exact own_blocks (by decide) hV h x y rfl hy
  refine ⟨_, hV3, by simp [hl, hu], fun i l hi => ?_⟩
  rcases Nat.lt_or_ge i ls.length with h | h
  · rw [List.getElem?_append_left h] at hi
    obtain ⟨a, c', h4, h5⟩ := hp i l hi
    exact ⟨a, c', by rw [List.getElem?_append_left (by omega)]; exact h4, keep _ _ _ h5⟩
  · rw [List.getElem?_append_right h] at hi
    obtain ⟨a, c', h4, h5⟩ := hq _ l hi
    exact ⟨a, c', by rw [List.getElem?_append_right (by omega), hl]; exact h4, keep _ _ _ h5⟩
theorem news_two (w : World) (t : TypeId) (x y : Value) (o : Obj) (ho : o = .cells #[x, y] t) : ∀ j u, [x, y][j]? = some u → (w.alloc o).cell? ((⟨w.heap.size, 0, none⟩ : Addr).add j) = some u := by
  subst ho
  intro j u hj
  match j, hj with
  | 0, hj => cases hj; show (w.alloc (.cells #[x, y] t)).cell? ⟨w.heap.size, 0, none⟩ = _; rw [World.cell?_alloc_new]; rfl
  | 1, hj => cases hj; show (w.alloc (.cells #[x, y] t)).cell? ⟨w.heap.size, 1, none⟩ = _; rw [World.cell?_alloc_new]; rfl

theorem grown_rowQ {w w' : World} {ao : Option Addr} {n c : Nat} (h : w.grownBy w' (Value.slice ao n c).ownBlock) : w.grownBy w' (ao.map (·.block)) := by
  cases ao <;> exact h
theorem own6 {w6 : World} {base : Nat} {e : TypeId} {ao : Option Addr} {c m : Nat} {vs : List Value} {o : Obj} (hm : m = vs.length) (h : OwnV w6 base e ao c vs) : (w6.alloc o).ownsRow base e 1 (.slice ao m c) m vs := by
  subst hm; exact h.alloc o

set_option maxRecDepth 100000 in
set_option maxHeartbeats 1600000 in
theorem implEncodeSchema_any (ao : Option Addr) (c : Nat) (p : List Tb) (w : World) (h : RdT w ao p) (hp : p.length ≤ 1048576) :
    Calls Tryz.prog 22 #[.slice ao p.length c] w (Made2 w 5 .u8 (encQ p) (schemaB p)) := by
  have H := Lib.hid h; clear h
  have PO := Lib.hid (fun w h => implSchema_any ao c p w h hp)
  cases hg : schemaB p with
  | false =>
    rw [encQ_no hg]
    rw [hg] at PO
    clear hg
    go_enter Tryz.func22, Tryz.ntmps22
    go_wp2_with fail
    refine (PO.out _ H.out).mono ?_
    rintro e w1 ⟨rfl, b1⟩
    go_wp2_with fail
    go_ret2
    exact ⟨none, 0, rfl, Own.none_, b1⟩
  | true =>
    rw [hg] at PO
    have hl8 := schemaB_l8 hg
    have E := Lib.hid (encQ_yes hg)
    clear hg
    obtain ⟨i0, hi0, hz0, hz1, hz2⟩ := info_parts Tryz.infoBs
    have I0 := Lib.hid hi0; have Z0 := Lib.hid hz0; have Z1 := Lib.hid hz1; have Z2 := Lib.hid hz2
    clear hi0 hz0 hz1 hz2
    obtain ⟨q0, hq0⟩ : ∃ q, q = putN (p.length : Int) := ⟨_, rfl⟩
    have P0 : Hid (∀ w : World, Calls Tryz.prog 88 #[.int .i64 p.length] w (Made w 5 .u8 q0)) := by rw [hq0]; exact fun w => implPutNum_any _ w
    have HQ0 : Hid (parQ p 0 = [q0]) := by show _ = _; rw [hq0]; simp [parQ]
    clear hq0
    go_enter Tryz.func22, Tryz.ntmps22
    go_wp2_with fail
    refine (PO.out _ H.out).mono ?_
    rintro e w1 ⟨rfl, b1⟩
    have B1 := Lib.hid b1; clear b1
    go_wp2_with fail
    refine (P0.out _).mono ?_
    rintro e w2 ⟨a2, c2, rfl, o2, b2⟩
    have B2 := Lib.hid ((below_step B1.out (Nat.le_refl _) b2).alloc (below_step B1.out (Nat.le_refl _) b2).size (.cells #[.slice a2 q0.length c2] 22))
    have O2 := Lib.hid (ownB_one (o2.base_le B1.out.size) (below_step B1.out (Nat.le_refl _) b2).size)
    clear o2 b2
    go_wp2_with fail
    go_loopw [4, 16] (fun v i wr => EyRel w wr p v i) (fun _ i _ => p.length - (intOf i).toNat)
    case atStart => exact ⟨_, _, _, 0, rfl, rfl, rfl, Nat.zero_le _, by rw [HQ0.out]; exact O2.out, B2.out⟩
    case round =>
      obtain ⟨a3, c3, m3, j, rfl, hm3, rfl, hj, ho, hb⟩ := hrel
      have HO := Lib.hid ho; have HB := Lib.hid hb; have HM3 := Lib.hid hm3; clear ho hb hm3
      by_cases hlt : j < p.length
      · obtain ⟨b, off, t, rfl, hn, hat⟩ := (H.out.below HB.out).at_ hlt
        have HN := Lib.hid hn; clear hn
        obtain ⟨c0, c1, nm⟩ := hat
        obtain ⟨q, hq⟩ : ∃ q, q = putW t.name := ⟨_, rfl⟩
        obtain ⟨u, hu⟩ : ∃ u, u = putN t.width := ⟨_, rfl⟩
        have HQ : Hid (parQ p (j + 1) = parQ p j ++ [q, u]) := by show _ = _; rw [hq, hu, parQ_succ HN.out]
        have PW : Hid (∀ w : World, Calls Tryz.prog 89 #[.string t.name] w (Made w 5 .u8 q)) := by rw [hq]; exact fun w => implPutWord_any _ w nm
        have PN : Hid (∀ w : World, Calls Tryz.prog 88 #[.int .i64 t.width] w (Made w 5 .u8 u)) := by rw [hu]; exact fun w => implPutNum_any _ w
        obtain ⟨vs, hV, hvl, hvp⟩ := HO.out
        have hjv : m3 = vs.length := by rw [hvl, parQ_len p j hj]; exact HM3.out
        have HV := Lib.hid hV; have HVP := Lib.hid hvp; have HVL := Lib.hid hvl; have HJV := Lib.hid hjv
        have hv17 : vs.length ≤ 17 := by have := HM3.out; omega
        have hm17 : m3 ≤ 17 := by omega
        clear hq hu hV hvp hvl hjv
        obtain ⟨W1, hW1⟩ : ∃ W1, W1 = wr.alloc (.cells #[.string t.name, .int .i64 t.width] 99) := ⟨_, rfl⟩
        have A1 : Hid (Below wr.heap.size wr W1) := by rw [hW1]; exact (Below.refl _ wr).alloc (Nat.le_refl _) _
        have z1 : W1.heap.size = wr.heap.size + 1 := by rw [hW1]; simp
        have u0 : W1.cell? ⟨wr.heap.size, 0, none⟩ = some (.string t.name) := by rw [hW1]; exact (cell_of_row _ _ _ _ _ _ (heap_alloc_new wr _)).trans rfl
        have u1 : W1.cell? ⟨wr.heap.size, 1, none⟩ = some (.int .i64 t.width) := by rw [hW1]; exact (cell_of_row _ _ _ _ _ _ (heap_alloc_new wr _)).trans rfl
        have KP : Hid (∀ w', Below W1.heap.size W1 w' → w'.cell? ⟨wr.heap.size, 0, none⟩ = some (.string t.name) ∧ w'.cell? ⟨wr.heap.size, 1, none⟩ = some (.int .i64 t.width)) := fun w' hw => ⟨(hw.cell (p := ⟨wr.heap.size, 0, none⟩) (by show wr.heap.size < _; omega)).trans u0, (hw.cell (p := ⟨wr.heap.size, 1, none⟩) (by show wr.heap.size < _; omega)).trans u1⟩
        have KQ : Hid (∀ x w7, Below W1.heap.size W1 x → x.grownBy w7 (a3.map (·.block)) → w7.cell? ⟨wr.heap.size, 0, none⟩ = some (.string t.name) ∧ w7.cell? ⟨wr.heap.size, 1, none⟩ = some (.int .i64 t.width)) := fun x w7 hx hg => by
          have hb := hg.block wr.heap.size (by have := hx.size; omega) (by
            cases a3 with
            | none => simp
            | some y => simp; have := (HV.out.lt y rfl).2; omega)
          obtain ⟨p0, p1⟩ := KP.out x hx
          exact ⟨(World.cell?_of_block (a := ⟨wr.heap.size, 0, none⟩) hb).trans p0, (World.cell?_of_block (a := ⟨wr.heap.size, 1, none⟩) hb).trans p1⟩
        have D0 := Lib.hid (Below.refl W1.heap.size W1).drew
        go_wp2_with fail
        rw [← hW1]
        clear hW1
        have hzb := HB.out.size
        have hza := A1.out.size
        go_region_held3 (fun w' => w'.cell? ⟨wr.heap.size, 0, none⟩ = some (.string t.name) ∧ w'.cell? ⟨wr.heap.size, 1, none⟩ = some (.int .i64 t.width))
          (first | exact KQ.out _ _ E7 g7' | exact KP.out _ D6 | exact KP.out _ (D6.alloc D6.size _) | exact KP.out _ D5 | go_keep)
          (first
            | (go_at_call 89; refine (PW.out _).mono ?_; rintro e w5 ⟨a5, c5, rfl, o5, b5⟩; have D5 := below_step D0.out (Nat.le_refl _) b5)
            | (go_at_call 88; refine (PN.out _).mono ?_; rintro e w6 ⟨a6, c6, rfl, o6, b6⟩; have D6 := below_step D5 (Nat.le_refl _) b6; have hz6 := D6.size; have F6 := A1.out.trans (D6.mono hza))
            | (refine step_append_lies _ (by rfl) (.tmp 20) (.tmp 27) 108 (by rfl) w.heap.size 22 i0 _ 1 24 Tryz.underlying108 I0.out Z0.out Z1.out Z2.out rfl (by omega) (.slice a3 m3 c3) m3 vs (by simp [Act.eval, Act.put]) (own6 HJV.out (HV.out.below F6)) ⟨w6.heap.size, 0, none⟩ 2 2 [.slice a5 q.length c5, .slice a6 u.length c6] (by simp [Act.eval, Act.put]) rfl (news_two _ _ _ _ _ rfl) (by intro u hu; simp at hu; rcases hu with rfl | rfl <;> rfl) (by omega) (by unfold maxLen; omega) (by omega) (by simp; omega) _ rfl ?_; intro g cap w7 o7 g7 _ _; have g7' := grown_rowQ g7; have E7 := D6.alloc D6.size (.cells #[.slice a5 q.length c5, .slice a6 u.length c6] 22)))
        all_goals
          have hlen : (vs ++ [Value.slice a5 q.length c5, Value.slice a6 u.length c6]).length = m3 + 2 := by simp [HJV.out]
          have NEW := OwnB.pushs (ms := [q, u]) (us := [.slice a5 q.length c5, .slice a6 u.length c6]) ((HV.out.below F6).alloc (.cells #[.slice a5 q.length c5, .slice a6 u.length c6] 22)) HVL.out (fun i l' hi => by obtain ⟨x, y, h4, h5⟩ := HVP.out i l' hi; exact ⟨x, y, h4, (h5.below F6).alloc _⟩) rfl (fun i l' hi => by
            match i, hi with
            | 0, hi => cases hi; exact ⟨a5, c5, rfl, ((o5.base_le (by show w.heap.size ≤ W1.heap.size; omega)).below b6).alloc _⟩
            | 1, hi => cases hi; exact ⟨a6, c6, rfl, (o6.base_le (by have := D5.size; omega)).alloc _⟩) (by unfold OwnV; rw [hlen]; exact o7) g7'
          have hB' : Below w.heap.size w w7 := below_grow (((HB.out.trans (F6.mono hzb))).alloc (by omega) _) (Nat.le_refl _) g7' (fun x hx => (HV.out.lt x hx).1)
          rw [← HQ.out] at NEW
          have NEW' := Lib.hid NEW; have HB' := Lib.hid hB'
          clear NEW hB' o7 g7 g7' hlen D6 D5 F6 o6 b6 o5 b5
          go_wp2_with fail
          go_roundw
          case rel => exact ⟨_, cap, _, j + 1, rfl, by have := HM3.out; omega, by go_num, by omega, NEW'.out, HB'.out⟩
          case measure => simp [intOf]; omega
      · obtain rfl : j = p.length := by omega
        have hpl := preQ_len p.length hl8
        have hpby := preQ_by p p.length
        have BH := Lib.hid (bhd_any a3 c3 m3 (parQ p p.length) wr HO.out.rd (by rw [parQ_len p _ (Nat.le_refl _)]; exact HM3.out) (by rw [parQ_len p _ (Nat.le_refl _)]; omega) (by rw [parQ_flat]; omega))
        rw [parQ_flat] at BH
        obtain ⟨acc, hacc⟩ : ∃ acc, acc = preQ p p.length := ⟨_, rfl⟩
        rw [← hacc] at BH hpl hpby
        have e : encQ p = frameL acc := by rw [E.out, hacc]
        have HBY := Lib.hid hpby
        have HE := Lib.hid e
        clear hacc hpby e
        go_wp2_with fail
        refine BH.out.mono ?_
        rintro e w4 ⟨a4, c4, rfl, o4, b4⟩
        have FR := Lib.hid (implFrame_any a4 c4 acc w4 o4.rd o4.nilcap HBY.out (by unfold maxLen; omega))
        rw [show decide (acc.length ≤ 4000) = true by simp; omega, ← HE.out] at FR
        have B4 := Lib.hid (below_step HB.out (Nat.le_refl _) b4)
        clear o4 b4
        go_wp2_with fail
        refine FR.out.mono ?_
        rintro e w5 ⟨a5, c5, rfl, o5, b5⟩
        have O5 := Lib.hid (o5.base_le B4.out.size); have B5 := Lib.hid (below_step B4.out (Nat.le_refl _) b5)
        clear o5 b5
        go_wp2_with fail
        go_ret2
        exact ⟨a5, c5, rfl, O5.out, B5.out⟩
end Go.Proofs.YtfpbhedophlnkaaGreatDoor
