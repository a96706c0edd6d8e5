/-
  Contracts of spec.SameRows, spec.CountSame and spec.ColumnOf. For every slice of rows. Contracts of spec.SameBag and impl.SameBag. For every two slices of rows. What FnRows says of sorted rows: in their order, each as often as before; a column as long as the rows are many. Plain facts; no program, no walk. Contract of markText: it answers one text for one number. For every number that is not too great. Words for slices of strings in memory: what a slice reads as, what the call itself owns, and how both are carried from world to world. No walk.
-/
import Derived.Test.YtfpbhedophlnkaaGreatDoorJR17x
import Derived.Test.YtfpbhedophlnkaaGreatDoorJR22x
import Derived.Test.YtfpbhedophlnkaaGreatDoorJR3x
import Derived.Deep.RegionWith
import Derived.Test.YtfpbhedophlnkaaGreatDoorJR19x
import Derived.Test.YtfpbhedophlnkaaGreatDoorJR20x
import Derived.Test.YtfpbhedophlnkaaGreatDoorJR5x
import Derived.Laws.Strings
import Derived.Laws.IdiomStrings
namespace Go.Proofs.YtfpbhedophlnkaaGreatDoor
open Go.RowKit
set_option linter.unusedSimpArgs false
set_option linter.unusedVariables false

end Go.Proofs.YtfpbhedophlnkaaGreatDoor
namespace Go.Proofs.YtfpbhedophlnkaaGreatDoor
open Go.RowKit
set_option linter.unusedSimpArgs false
set_option linter.unusedVariables false

theorem totR_sortL (l : List (List Int)) : totR (sortL lessL l) = totR l := by
  have hi : ∀ (x : List Int) (l : List (List Int)), totR (insL lessL x l) = x.length + totR l := by
    intro x l
    induction l with
    | nil => simp [insL, totR]
    | cons y l ih =>
      unfold insL
      split
      · simp [totR]
      · have e : ∀ (a : List Int) (m : List (List Int)), totR (a :: m) = a.length + totR m := fun a m => by simp [totR]
        rw [e, e, ih]; omega
  have key : ∀ (l acc : List (List Int)), totR (l.foldl (fun out x => insL lessL x out) acc) = totR acc + totR l := by
    intro l
    induction l with
    | nil => intro acc; simp [totR]
    | cons x l ih =>
      intro acc
      have e : totR (x :: l) = x.length + totR l := by simp [totR]
      rw [List.foldl_cons, ih, hi, e]; omega
  have := key l []
  simpa [sortL, totR] using this
theorem sortO_tot (l : List (List Int)) : totR (sortO l) ≤ totR l := by
  unfold sortO
  split
  · simp [totR]
  · rw [totR_sortL]; exact Nat.le_refl _
theorem sortO_len (l : List (List Int)) : (sortO l).length ≤ l.length := by
  unfold sortO
  split
  · simp
  · rw [sortL_len]; exact Nat.le_refl _
/-- Whether two have the same rows, each as often. -/
def bagB (l m : List (List Int)) : Bool := decide (l.length ≤ 200) && (decide (m.length ≤ 200) && eqR (sortO l) (sortO m))
theorem bagB_l {l m : List (List Int)} (h : 200 < l.length) : bagB l m = false := by unfold bagB; rw [decide_eq_false (by omega)]; rfl
theorem bagB_m {l m : List (List Int)} (h : 200 < m.length) : bagB l m = false := by unfold bagB; rw [decide_eq_false (p := m.length ≤ 200) (by omega)]; simp
theorem bagB_y {l m : List (List Int)} (h : l.length ≤ 200) (k : m.length ≤ 200) : bagB l m = eqR (sortO l) (sortO m) := by unfold bagB; rw [decide_eq_true h, decide_eq_true k]; rfl

set_option maxRecDepth 100000 in
theorem implSameBag_any (a b : Option Addr) (c d : Nat) (l m : List (List Int)) (w : World) (h : RdR w a l) (k : RdR w b m) (hl : l.length ≤ 1048576) (hm : m.length ≤ 1048576) (hr : ∀ r ∈ l, r.length ≤ 1048576) (hs : ∀ r ∈ m, r.length ≤ 1048576) :
    Calls Tryz.prog 35 #[.slice a l.length c, .slice b m.length d] w fun e w' => e = .returned (.bool (bagB l m)) ∧ Below w.heap.size w w' := by
  have H := Lib.hid h; have K := Lib.hid k; have HR := Lib.hid hr; have HS := Lib.hid hs
  clear h k hr hs
  have l9 : l.length ≤ 9223372036854775807 := by omega
  have m9 : m.length ≤ 9223372036854775807 := by omega
  by_cases h1 : 200 < l.length
  · have E := Lib.hid (bagB_l (m := m) h1)
    have z1 : (200 : Int) < (l.length : Int) := by omega
    go_enter Tryz.func35, Tryz.ntmps35
    go_wp2_with fail
    go_ret
    exact ⟨ret_bool E.out.symm, Below.refl _ _⟩
  · have z1 : (l.length : Int) ≤ 200 := by omega
    by_cases h2 : 200 < m.length
    · have E := Lib.hid (bagB_m (l := l) h2)
      have z2 : (200 : Int) < (m.length : Int) := by omega
      go_enter Tryz.func35, Tryz.ntmps35
      go_wp2_with fail
      go_ret
      exact ⟨ret_bool E.out.symm, Below.refl _ _⟩
    · have z2 : (m.length : Int) ≤ 200 := by omega
      have E := Lib.hid (bagB_y (l := l) (m := m) (by omega) (by omega))
      have L1 := Lib.hid (show (sortO l).length ≤ maxLen by have := sortO_len l; unfold maxLen; omega)
      have L2 := Lib.hid (show (sortO m).length ≤ maxLen by have := sortO_len m; unfold maxLen; omega)
      go_enter Tryz.func35, Tryz.ntmps35
      go_wp2_with fail
      refine (implSortRows_any a c l _ H.out hl HR.out).mono ?_
      rintro e w1 ⟨a1, c1, rfl, o1, _, _, b1⟩
      have B1 := Lib.hid b1
      have O1 := Lib.hid o1
      have K1 := Lib.hid (K.out.below b1)
      clear o1 b1
      go_wp2_with fail
      refine (implSortRows_any b d m _ K1.out hm HS.out).mono ?_
      rintro e w2 ⟨a2, c2, rfl, o2, _, _, b2⟩
      have B2 := Lib.hid (below_step B1.out (Nat.le_refl _) b2)
      have O1' := Lib.hid (O1.out.below b2).rd
      have O2 := Lib.hid o2.rd
      clear o2 b2
      go_wp2_with fail
      refine (implSameRows_any a1 a2 c1 c2 (sortO l) (sortO m) _ O1'.out O2.out L1.out L2.out).mono ?_
      rintro e w3 ⟨rfl, b3⟩
      have B3 := Lib.hid (below_step B2.out (Nat.le_refl _) b3)
      clear b3
      go_wp2_with fail
      go_ret
      exact ⟨ret_bool E.out.symm, B3.out⟩

end Go.Proofs.YtfpbhedophlnkaaGreatDoor
namespace Go.Proofs.YtfpbhedophlnkaaGreatDoor
open Go.RowKit
set_option linter.unusedSimpArgs false
set_option linter.unusedVariables false

theorem lessL_eq : ∀ a b : List Int, lessL a b = false → lessL b a = false → a = b
  | [], [], _, _ => rfl
  | [], _ :: _, h, _ => by simp [lessL] at h
  | _ :: _, [], _, h => by simp [lessL] at h
  | x :: a, y :: b, h, k => by
    unfold lessL at h k
    by_cases e : x = y
    · subst e
      rw [if_pos rfl] at h k
      rw [lessL_eq a b h k]
    · rw [if_neg e, decide_eq_false_iff_not] at h
      rw [if_neg (fun e' => e e'.symm), decide_eq_false_iff_not] at k
      omega
theorem eqv_lessL (r : List Int) : eqv lessL r = fun x => eqL x r := by
  funext x
  unfold eqv eqL
  by_cases e : x = r
  · subst e
    have := wkL.irr x
    simp [this]
  · rw [decide_eq_false e]
    cases h1 : lessL r x with
    | true => rfl
    | false =>
      cases h2 : lessL x r with
      | true => rfl
      | false => exact absurd (lessL_eq x r h2 h1) e
theorem countL_sort (l : List (List Int)) (r : List Int) : countL (sortL lessL l) r = countL l r := by
  have := (sortL_asc wkL l).2 r
  rw [eqv_lessL] at this
  unfold countL
  rw [this]
theorem sortO_few {l : List (List Int)} (h : l.length ≤ 200) : sortO l = sortL lessL l := by unfold sortO; rw [if_neg (by omega)]
theorem sortO_many {l : List (List Int)} (h : 200 < l.length) : sortO l = [] := by unfold sortO; rw [if_pos h]
theorem sort_sort (l : List (List Int)) : sortL lessL (sortL lessL l) = sortL lessL l := (sortL_uniq wkL (sortL_asc wkL l).1 (SE.refl _)).symm
theorem bag_sort {l : List (List Int)} (h : l.length ≤ 200) : bagB l (sortO l) = true := by
  have hl : (sortO l).length ≤ 200 := by have := sortO_len l; omega
  rw [bagB_y h hl, sortO_few hl, sortO_few h, sort_sort, eqR_refl]
theorem sort_step {l : List (List Int)} {i : Nat} {x y : List Int} (hx : (sortL lessL l)[i]? = some x) (hy : (sortL lessL l)[i + 1]? = some y) : lessL y x = false := by
  have h := (sortL_asc wkL l).1
  unfold Asc at h
  rw [List.pairwise_iff_getElem] at h
  obtain ⟨h1, rfl⟩ := List.getElem?_eq_some_iff.1 hx
  obtain ⟨h2, rfl⟩ := List.getElem?_eq_some_iff.1 hy
  exact h i (i + 1) h1 h2 (by omega)
theorem colL_all {l : List (List Int)} (h : ∀ r ∈ l, 1 ≤ r.length) : (colL l 0).length = l.length := by
  induction l with
  | nil => rfl
  | cons r l ih =>
    have h1 := h r (by simp)
    have ih := ih (fun x hx => h x (by simp [hx]))
    unfold colL at ih ⊢
    cases r with
    | nil => simp at h1
    | cons z r => simp [ih]
theorem colO_all {l : List (List Int)} (h : ∀ r ∈ l, 1 ≤ r.length) : (colO l 0).length = l.length := by
  unfold colO; rw [if_neg (by omega)]; exact colL_all h
end Go.Proofs.YtfpbhedophlnkaaGreatDoor
namespace Go.Proofs.YtfpbhedophlnkaaGreatDoor
open Go.RowKit
set_option linter.unusedSimpArgs false
set_option linter.unusedVariables false

/-- The decimal digits of a number, at most f of them. -/
def digF : Nat → Nat → List UInt8
  | 0, _ => []
  | f + 1, n => if n = 0 then [] else digF f (n / 10) ++ [UInt8.ofNat (48 + n % 10)]
/-- The mark of a number. -/
def mtext (k : Int) : ByteArray := if k ≤ 0 then ⟨#[109, 48]⟩ else ⟨(109 :: digF 20 k.toNat).toArray⟩
theorem digF_step {f n : Nat} (h : 0 < n) : digF (f + 1) n = digF f (n / 10) ++ [UInt8.ofNat (48 + n % 10)] := by
  simp only [digF]; rw [if_neg (by omega)]
theorem digF_zero (f : Nat) : digF f 0 = [] := by cases f <;> simp [digF]
theorem digF_len : ∀ f n, (digF f n).length ≤ f
  | 0, _ => Nat.le_refl _
  | f + 1, n => by
    simp only [digF]; split
    · simp
    · have := digF_len f (n / 10); simp; omega
theorem mtext_size (k : Int) : (mtext k).size ≤ 21 := by
  unfold mtext; split
  · decide
  · have := digF_len 20 k.toNat
    simp [ByteArray.size]; omega

theorem app_bytes (a b : List UInt8) : ((⟨a.toArray⟩ : ByteArray) ++ (⟨b.toArray⟩ : ByteArray)) = ⟨(a ++ b).toArray⟩ := by
  apply ByteArray.ext
  simp

set_option maxRecDepth 100000 in
set_option maxHeartbeats 1600000 in
theorem markText_any (k : Int) (w : World) (hk : k ≤ 1000000000000) :
    Calls Tryz.prog 142 #[.int .i64 k] w fun e w' => e = .returned (.string (mtext k)) ∧ Below w.heap.size w w' := by
  by_cases h0 : k ≤ 0
  · have E := Lib.hid (show mtext k = ⟨#[109, 48]⟩ by unfold mtext; rw [if_pos h0])
    go_enter Tryz.func142, Tryz.ntmps142
    go_wp2_with fail
    go_ret
    exact ⟨by rw [E.out]; rfl, Below.refl _ _⟩
  · have h1 : 0 < k := by omega
    have E := Lib.hid (show mtext k = ⟨(109 :: digF 20 k.toNat).toArray⟩ by unfold mtext; rw [if_neg h0])
    have D0 := Lib.hid (show ∃ (f : Nat) (q : Nat) (L : List UInt8), digF 20 k.toNat = digF f q ++ L ∧ q < 10 ^ f ∧ (k = q ∧ L = []) from ⟨20, k.toNat, [], by simp, by omega, by omega, rfl⟩)
    clear h0
    go_enter Tryz.func142, Tryz.ntmps142
    go_wp2_with fail
    go_loopw [0, 3] (fun q s wr => ∃ (f n : Nat) (L : List UInt8), digF 20 k.toNat = digF f n ++ L ∧ n < 10 ^ f ∧ n ≤ 1000000000000 ∧ q = .int .i64 n ∧ s = .string ⟨L.toArray⟩ ∧ L.length + f = 20 ∧ Below w.heap.size w wr) (fun q _ _ => (intOf q).toNat)
    case atStart => exact ⟨20, k.toNat, [], by simp, by omega, by omega, by rw [Int.toNat_of_nonneg (by omega)], rfl, rfl, Below.refl _ _⟩
    case round =>
      obtain ⟨f, n, L, hd, hlt, hn, rfl, rfl, hlen, hb⟩ := hrel
      have HD := Lib.hid hd; have HL := Lib.hid hlt; have HB := Lib.hid hb; have HE := Lib.hid hlen
      clear hd hlt hb hlen
      by_cases hz : 0 < n
      · obtain ⟨f, rfl⟩ : ∃ f', f = f' + 1 := by
          cases f with
          | zero => have := HL.out; omega
          | succ f => exact ⟨f, rfl⟩
        have hconv : (convert 22 9 (.slice (some ⟨wr.heap.size, 0, none⟩) 1 1)).run Tryz.prog (wr.alloc (.cells #[.int .u8 (48 + (n : Int) % 10)] 5)) = .ok (.string ⟨#[UInt8.ofNat (48 + n % 10)]⟩) (wr.alloc (.cells #[.int .u8 (48 + (n : Int) % 10)] 5)) :=
          run_convert_bytes_back (P := Tryz.prog) _ 22 9 5 ⟨wr.heap.size, 0, none⟩ 1 [UInt8.ofNat (48 + n % 10)] Tryz.underlying22 Tryz.underlying5 Tryz.underlying9 (by
            intro j hj
            obtain rfl : j = 0 := by simpa using hj
            simp [Addr.add]
            omega)
        have hL : L.length ≤ 20 := by have := HE.out; omega
        have S := Lib.hid (digF_step (f := f) hz)
        have HBA := Lib.hid (HB.out.alloc HB.out.size (.cells #[.int .u8 (48 + (n : Int) % 10)] 5))
        go_wp2_with fail
        go_roundw
        case rel => exact ⟨f, n / 10, UInt8.ofNat (48 + n % 10) :: L, by rw [HD.out, S.out]; simp, by have := HL.out; rw [Nat.pow_succ] at this; omega, by omega, by go_num, by rw [app_bytes]; simp, by have := HE.out; simp; omega, HBA.out⟩
        case measure => simp [intOf]; omega
      · obtain rfl : n = 0 := by omega
        have hL : L.length ≤ 20 := by have := HE.out; omega
        go_wp2_with fail
        go_ret
        refine ⟨?_, HB.out⟩
        rw [E.out, HD.out, digF_zero]
        exact congrArg (fun x => Ending.returned (.string x)) (app_bytes [109] L)
end Go.Proofs.YtfpbhedophlnkaaGreatDoor
namespace Go.Proofs.YtfpbhedophlnkaaGreatDoor
open Go.RowKit
set_option linter.unusedSimpArgs false
set_option linter.unusedVariables false

/-- The slice that begins at 'ao' reads as the strings l. -/
def RdS (w : World) (ao : Option Addr) (l : List ByteArray) : Prop :=
  l = [] ∨ ∃ b off, ao = some ⟨b, off, none⟩ ∧ ∀ i, i < l.length → w.cell? ⟨b, off + i, none⟩ = some (.string (l.getD i ByteArray.empty))

/-- A row of the call's own: a slice value of it, with the strings l. -/
def OwnS (w : World) (base : Nat) (ao : Option Addr) (c : Nat) (l : List ByteArray) : Prop :=
  w.ownsRow base 9 1 (.slice ao l.length c) l.length (l.map Value.string)

/-- The call returned a slice of its own with the strings l, and nothing that was there has turned. -/
def MadeS (w : World) (l : List ByteArray) (en : Ending) (w' : World) : Prop :=
  ∃ ao c, en = .returned (.slice ao l.length c) ∧ OwnS w' w.heap.size ao c l ∧ Below w.heap.size w w'

section
variable {w w' : World} {base : Nat} {ao : Option Addr} {c : Nat} {l : List ByteArray}

theorem RdS.keep (h : RdS w ao l) (hk : ∀ a p : Addr, ao = some a → p.block = a.block → p.block < w.heap.size → w'.cell? p = w.cell? p) : RdS w' ao l := by
  rcases h with rfl | ⟨b, off, rfl, hc⟩
  · exact .inl rfl
  · refine .inr ⟨b, off, rfl, fun i hi => ?_⟩
    have h1 := hc i hi
    rw [hk ⟨b, off, none⟩ ⟨b, off + i, none⟩ rfl rfl (World.block_lt_of_cell? w ⟨b, off + i, none⟩ h1)]
    exact h1
theorem RdS.below (h : RdS w ao l) (hb : Below w.heap.size w w') : RdS w' ao l := h.keep fun _ _ _ _ hp => hb.cell hp
theorem RdS.at_ {b off : Nat} {i : Nat} (hc : ∀ i, i < l.length → w.cell? ⟨b, off + i, none⟩ = some (.string (l.getD i ByteArray.empty))) (hi : i < l.length) :
    ∃ z, z ∈ l ∧ l[i]? = some z ∧ w.cell? ⟨b, off + i, none⟩ = some (.string z) ∧ l.take (i + 1) = l.take i ++ [z] := by
  refine ⟨l[i], List.getElem_mem hi, List.getElem?_eq_getElem hi, ?_, List.take_succ_eq_append_getElem hi⟩
  have := hc i hi
  rwa [List.getD_eq_getElem?_getD, List.getElem?_eq_getElem hi] at this

theorem OwnS.form (h : OwnS w base ao c l) : (ao = none ∧ c = 0 ∧ l = []) ∨ ∃ g, ao = some ⟨g, 0, none⟩ ∧ base ≤ g ∧ g < w.heap.size := by
  rcases h.2 with ⟨hv, hn⟩ | ⟨g, cap, cur, hv, hb, hg, _⟩
  · simp only [Value.slice.injEq] at hv
    exact .inl ⟨hv.1, hv.2.2, List.eq_nil_of_length_eq_zero hn⟩
  · simp only [Value.slice.injEq] at hv
    refine .inr ⟨g, hv.1, hb, ?_⟩
    rcases Nat.lt_or_ge g w.heap.size with hlt | hge
    · exact hlt
    · rw [Array.getElem?_eq_none hge] at hg; cases hg
theorem OwnS.lt (h : OwnS w base ao c l) : ∀ a, ao = some a → base ≤ a.block ∧ a.block < w.heap.size := by
  rcases h.form with ⟨rfl, _⟩ | ⟨g, rfl, h1, h2⟩
  · intro a ha; cases ha
  · intro a ha; cases ha; exact ⟨h1, h2⟩
theorem OwnS.len_le (h : OwnS w base ao c l) : l.length ≤ maxLen := by
  rcases h.2 with ⟨_, hn⟩ | ⟨g, cap, cur, _, _, _, h1, h2, _⟩
  · rw [hn]; exact Nat.zero_le _
  · exact Nat.le_trans h1 h2
theorem OwnS.cell {g : Nat} (h : OwnS w base (some ⟨g, 0, none⟩) c l) (i : Nat) (hi : i < l.length) : w.cell? ⟨g, i, none⟩ = some (.string (l.getD i ByteArray.empty)) := by
  have := World.ownsRow.cellAt h i (by omega)
  rw [this, List.getElem?_map, List.getD_eq_getElem?_getD, List.getElem?_eq_getElem hi]; rfl
theorem OwnS.rd (h : OwnS w base ao c l) : RdS w ao l := by
  rcases h.form with ⟨_, _, rfl⟩ | ⟨g, rfl, _⟩
  · exact .inl rfl
  · exact .inr ⟨g, 0, rfl, fun i hi => by rw [Nat.zero_add]; exact h.cell i hi⟩
theorem OwnS.keep (h : OwnS w base ao c l) (hk : ∀ a : Addr, ao = some a → a.block < w.heap.size → w'.heap[a.block]? = w.heap[a.block]?) : OwnS w' base ao c l := by
  refine ⟨h.1, ?_⟩
  have hl := h.lt
  rcases h.2 with h2 | ⟨g, cap, cur, hv, hb, hg, r⟩
  · exact .inl h2
  · refine .inr ⟨g, cap, cur, hv, hb, ?_, r⟩
    simp only [Value.slice.injEq] at hv
    rw [hk _ hv.1 (hl _ hv.1).2]; exact hg
theorem OwnS.below (h : OwnS w base ao c l) (hb : Below w.heap.size w w') : OwnS w' base ao c l := h.keep fun _ _ hlt => hb.block _ hlt
theorem OwnS.grown {row : Option Nat} (h : OwnS w base ao c l) (hg : w.grownBy w' row) (hne : ∀ a, ao = some a → some a.block ≠ row) : OwnS w' base ao c l :=
  h.keep fun a ha hlt => hg.block _ hlt (hne a ha)
theorem OwnS.base_le {base' : Nat} (h : OwnS w base ao c l) (hb : base' ≤ base) : OwnS w base' ao c l := by
  refine ⟨h.1, ?_⟩
  rcases h.2 with h2 | ⟨g, cap, cur, hv, hg, r⟩
  · exact .inl h2
  · exact .inr ⟨g, cap, cur, hv, Nat.le_trans hb hg, r⟩
theorem OwnS.none_ : OwnS w base none 0 [] := World.ownsRow_nil _ _ _ _
theorem OwnS.apart {ao' : Option Addr} (h : OwnS w base ao c l) (hg : w.grownBy w' (ao'.map (·.block))) (hne : ∀ a b, ao = some a → ao' = some b → a.block ≠ b.block) : OwnS w' base ao c l :=
  h.grown hg (by
    intro a ha
    cases ao' with
    | none => simp
    | some b => simp; exact hne a b ha rfl)
end

/-- Whether two rows of strings are the same. -/
def eqSs (a b : List ByteArray) : Bool := decide (a.map ByteArray.toList = b.map ByteArray.toList)
theorem eqSs_no {l m : List ByteArray} {j : Nat} {x y : ByteArray} (h : ¬ x.toList = y.toList) (hx : l[j]? = some x) (hy : m[j]? = some y) : eqSs l m = false := by
  unfold eqSs; simp only [decide_eq_false_iff_not]
  intro he
  have h1 : (l.map ByteArray.toList)[j]? = some x.toList := by rw [List.getElem?_map, hx]; rfl
  have h2 : (m.map ByteArray.toList)[j]? = some y.toList := by rw [List.getElem?_map, hy]; rfl
  rw [he, h2] at h1
  exact h (by injection h1 with h1; exact h1.symm)
theorem eqSs_yes {l m : List ByteArray} {j : Nat} (h : l.length = m.length) (hj : l.length ≤ j) (ht : (l.take j).map ByteArray.toList = (m.take j).map ByteArray.toList) : eqSs l m = true := by
  unfold eqSs; rw [List.take_of_length_le hj, List.take_of_length_le (by omega)] at ht; simpa using ht
theorem eqSs_refl (l : List ByteArray) : eqSs l l = true := by unfold eqSs; simp

/-- What marking lays into n cells from the number m on. -/
def marksS (m : Int) (n : Nat) : List ByteArray := (List.range n).map fun (i : Nat) => mtext (m + (i : Int))
theorem marksS_len (m : Int) (n : Nat) : (marksS m n).length = n := by simp [marksS]
theorem marksS_succ (m : Int) (n : Nat) : marksS m (n + 1) = marksS m n ++ [mtext (m + (n : Int))] := by simp [marksS, List.range_succ]
theorem marksS_get (m : Int) (n i : Nat) (h : i < n) : (marksS m n)[i]? = some (mtext (m + (i : Int))) := by simp [marksS, h]
theorem marksS_step (m : Int) (l : List ByteArray) (j : Nat) (h : j < l.length) : (marksS m j ++ l.drop j).set j (mtext (m + (j : Int))) = marksS m (j + 1) ++ l.drop (j + 1) := by
  rw [List.set_append_right _ _ (by rw [marksS_len]; exact Nat.le_refl _), marksS_len, Nat.sub_self, marksS_succ, List.append_assoc, List.drop_eq_getElem_cons h]
  rfl
theorem map_set_str (l : List ByteArray) (i : Nat) (z : ByteArray) : (l.map Value.string).set i (.string z) = (l.set i z).map Value.string := by
  rw [List.map_set]
end Go.Proofs.YtfpbhedophlnkaaGreatDoor
