/-
  Plain facts on merging two sorted neighbours by turning the middle, and on sorted blocks. No program, no walk. Contracts of slices.swapRangeCmpFunc and slices.rotateCmpFunc at rows: two ranges are exchanged, two neighbours are turned. Contract of slices.rotateCmpFunc at rows: two neighbours are turned.
-/
import Derived.Test.YtanfllednlpbaaaGreatM18x
import Derived.Test.YtanfllednlpbaaaGreatRows
import Derived.Shelf.SlSortCmp.Kit1
import Derived.Sort.WalkB2
import Derived.Sort.WalkB12
import Derived.Deep.LoopGhost
namespace Go.Proofs.YtanfllednlpbaaaGreat
open Go.Sort
set_option linter.unusedSimpArgs false
set_option linter.unusedVariables false
section
variable {α : Type} {lt : α → α → Bool}
theorem Asc.at_ {l : List α} (h : Asc lt l) {i j : Nat} {x y : α} (hi : l[i]? = some x) (hj : l[j]? = some y) (hw : Wk lt) (hij : i ≤ j) : lt y x = false := by
  rcases Nat.lt_or_eq_of_le hij with h1 | h1
  · obtain ⟨h2, e2⟩ := List.getElem?_eq_some_iff.1 hj
    obtain ⟨h3, e3⟩ := List.getElem?_eq_some_iff.1 hi
    have := (List.pairwise_iff_getElem.1 h) i j h3 h2 h1
    rw [e2, e3] at this; exact this
  · subst h1; rw [hi] at hj; cases hj; exact hw.irr x
theorem mem_take_at {l : List α} {k : Nat} {x : α} (h : x ∈ l.take k) : ∃ i, i < k ∧ l[i]? = some x := by
  obtain ⟨i, hi⟩ := List.mem_iff_getElem?.1 h
  rw [List.getElem?_take] at hi
  split at hi
  · exact ⟨i, by assumption, hi⟩
  · cases hi
theorem mem_drop_at {l : List α} {k : Nat} {x : α} (h : x ∈ l.drop k) : ∃ i, k ≤ i ∧ l[i]? = some x := by
  obtain ⟨i, hi⟩ := List.mem_iff_getElem?.1 h
  rw [List.getElem?_drop] at hi
  exact ⟨k + i, by omega, hi⟩
theorem lt_take (hw : Wk lt) {V : List α} (hV : Asc lt V) {k : Nat} {v u : α} (hk : V[k]? = some v) (h : lt v u = true) : ∀ y ∈ V.take (k + 1), lt y u = true := by
  intro y hy
  obtain ⟨i, hi, e⟩ := mem_take_at hy
  have h1 := hV.at_ e hk hw (by omega)
  cases hx : lt y u with
  | true => rfl
  | false => have := hw.trans u y v hx h1; rw [h] at this; cases this
theorem lt_drop (hw : Wk lt) {U : List α} (hU : Asc lt U) {k : Nat} {v u : α} (hk : U[k]? = some u) (h : lt v u = true) : ∀ x ∈ U.drop k, lt v x = true := by
  intro x hx
  obtain ⟨i, hi, e⟩ := mem_drop_at hx
  have h1 := hU.at_ hk e hw hi
  cases hx : lt v x with
  | true => rfl
  | false => have := hw.trans u x v h1 hx; rw [h] at this; cases this
theorem ge_take (hw : Wk lt) {U : List α} (hU : Asc lt U) {k : Nat} {v u : α} (hk : U[k]? = some u) (h : lt v u = false) : ∀ x ∈ U.take (k + 1), lt v x = false := by
  intro x hx
  obtain ⟨i, hi, e⟩ := mem_take_at hx
  exact hw.trans x u v (hU.at_ e hk hw (by omega)) h
theorem ge_drop (hw : Wk lt) {V : List α} (hV : Asc lt V) {k : Nat} {v u : α} (hk : V[k]? = some v) (h : lt v u = false) : ∀ y ∈ V.drop k, lt y u = false := by
  intro y hy
  obtain ⟨i, hi, e⟩ := mem_drop_at hy
  exact hw.trans u v y h (hV.at_ hk e hw hi)
theorem st_one_left (hw : Wk lt) (u : α) {V1 V2 : List α} (hV : Asc lt (V1 ++ V2)) (h1 : ∀ y ∈ V1, lt y u = true) (h2 : ∀ y ∈ V2, lt y u = false) : St lt (V1 ++ u :: V2) ([u] ++ (V1 ++ V2)) := by
  refine ⟨?_, ?_, ?_⟩
  · refine Asc.app hV.left (List.pairwise_cons.2 ⟨fun y hy => h2 y hy, hV.right⟩) fun x hx y hy => ?_
    rcases List.mem_cons.1 hy with rfl | hy
    · exact hw.asym _ _ (h1 x hx)
    · exact hV.cross hx hy
  · have := (SE.swap (lt := lt) hw (X := [u]) (Y := V1) fun x hx y hy => by simp at hx; subst hx; exact h1 y hy).symm.app (SE.refl (lt := lt) V2)
    simpa using this
  · exact List.perm_middle
theorem st_one_right (hw : Wk lt) (v : α) {U1 U2 : List α} (hU : Asc lt (U1 ++ U2)) (h1 : ∀ x ∈ U1, lt v x = false) (h2 : ∀ x ∈ U2, lt v x = true) : St lt (U1 ++ v :: U2) (U1 ++ U2 ++ [v]) := by
  refine ⟨?_, ?_, ?_⟩
  · refine Asc.app hU.left (List.pairwise_cons.2 ⟨fun y hy => hw.asym _ _ (h2 y hy), hU.right⟩) fun x hx y hy => ?_
    rcases List.mem_cons.1 hy with rfl | hy
    · exact h1 x hx
    · exact hU.cross hx hy
  · have := (SE.ins (lt := lt) hw (U := U1) (V := U2) (x := v) h2).symm
    simpa using this
  · rw [List.append_assoc]
    refine List.Perm.append_left U1 ?_
    exact (List.perm_append_comm (l₁ := [v]) (l₂ := U2))
theorem St.refl {L : List α} (h : Asc lt L) : St lt L L := ⟨h, SE.refl L, List.Perm.refl L⟩
theorem st_merge (hw : Wk lt) {X1 X2 Y1 Y2 Z1 Z2 : List α} (hX : Asc lt (X1 ++ X2)) (hY : Asc lt (Y1 ++ Y2)) (h1 : ∀ x ∈ X2, ∀ y ∈ Y1, lt y x = true) (h2 : ∀ x ∈ X1, ∀ y ∈ Y2, lt y x = false)
    (a1 : St lt Z1 (X1 ++ Y1)) (a2 : St lt Z2 (X2 ++ Y2)) : St lt (Z1 ++ Z2) (X1 ++ X2 ++ (Y1 ++ Y2)) := by
  have := merge_parts hw hX hY h1 h2 a1.1 a2.1 a1.2.1 a2.2.1
  refine ⟨this.1, this.2, (a1.2.2.append a2.2.2).trans ?_⟩
  rw [List.append_assoc, List.append_assoc]
  refine List.Perm.append_left X1 ?_
  rw [← List.append_assoc, ← List.append_assoc]
  exact List.Perm.append_right Y2 List.perm_append_comm
end
section
variable {α : Type} [Inhabited α] {lt : α → α → Bool}
theorem at_left (P U V R : List α) {i : Nat} (h0 : P.length ≤ i) (h1 : i < P.length + U.length) : U[i - P.length]? = some (P ++ U ++ V ++ R).toArray[i]! := by
  have : (P ++ U ++ V ++ R)[i]? = U[i - P.length]? := by
    rw [List.append_assoc, List.append_assoc, List.getElem?_append_right h0, List.getElem?_append_left (by omega)]
  rw [← this]
  have hl : i < (P ++ U ++ V ++ R).length := by simp; omega
  rw [List.getElem?_eq_getElem hl, Option.some.injEq]
  generalize P ++ U ++ V ++ R = L at hl ⊢
  have : L.toArray[i]! = L[i] := by rw [getElem!_pos L.toArray i (by simpa using hl)]; simp
  exact this.symm
theorem at_right (P U V R : List α) {i : Nat} (h0 : P.length + U.length ≤ i) (h1 : i < P.length + U.length + V.length) : V[i - (P.length + U.length)]? = some (P ++ U ++ V ++ R).toArray[i]! := by
  have := at_left (P ++ U) V R [] (i := i) (by simp; omega) (by simp; omega)
  simpa using this
def loOf (a m b : Nat) : Nat := if (a + b) / 2 < m then (a + b) / 2 + m - b else a
def hiOf (a m b : Nat) : Nat := if (a + b) / 2 < m then (a + b) / 2 else m
def CutAt (lt : α → α → Bool) (d : Array α) (a m b s r : Nat) : Prop :=
  loOf a m b ≤ s ∧ s ≤ r ∧ r ≤ hiOf a m b ∧ (s = loOf a m b ∨ lt d[(a + b) / 2 + m - 1 - (s - 1)]! d[s - 1]! = false) ∧ (r = hiOf a m b ∨ lt d[(a + b) / 2 + m - 1 - r]! d[r]! = true)
theorem cut_parts (hw : Wk lt) (P U V R : List α) {a m b s : Nat} (ha : a = P.length) (hm : m = P.length + U.length) (hb : b = P.length + U.length + V.length) (hU : Asc lt U) (hV : Asc lt V) (h : CutAt lt (P ++ U ++ V ++ R).toArray a m b s s) (hu1 : 0 < U.length) (hv1 : 0 < V.length) :
    a ≤ s ∧ s ≤ m ∧ m ≤ (a + b) / 2 + m - s ∧ (a + b) / 2 + m - s ≤ b ∧ s ≤ (a + b) / 2 ∧ (∀ x ∈ U.drop (s - a), ∀ y ∈ V.take ((a + b) / 2 + m - s - m), lt y x = true) ∧ (∀ x ∈ U.take (s - a), ∀ y ∈ V.drop ((a + b) / 2 + m - s - m), lt y x = false) := by
  obtain ⟨h1, _, h2, h3, h4⟩ := h
  generalize hmid : (a + b) / 2 = mid at *
  have q1 : a + b = 2 * mid ∨ a + b = 2 * mid + 1 := by omega
  have bnd : a ≤ s ∧ s ≤ m ∧ s ≤ mid ∧ mid + m - s ≤ b := by
    unfold loOf at h1
    unfold hiOf at h2
    rw [hmid] at h1 h2
    split at h1 <;> split at h2 <;> omega
  refine ⟨bnd.1, bnd.2.1, by omega, bnd.2.2.2, bnd.2.2.1, ?_, ?_⟩
  · rcases h4 with h4 | h4
    · unfold hiOf at h4; rw [hmid] at h4
      split at h4
      · intro x _ y hy
        rw [show mid + m - s - m = 0 by omega] at hy; simp at hy
      · intro x hx
        rw [show s - a = U.length by omega] at hx; simp at hx
    · by_cases hs : s = hiOf a m b
      · unfold hiOf at hs; rw [hmid] at hs
        split at hs
        · intro x _ y hy
          rw [show mid + m - s - m = 0 by omega] at hy; simp at hy
        · intro x hx
          rw [show s - a = U.length by omega] at hx; simp at hx
      · have hs' : s < m ∧ s < mid := by
          unfold hiOf at h2 hs; rw [hmid] at h2 hs
          split at h2 <;> split at hs <;> omega
        have e1 := at_left P U V R (i := s) (by omega) (by omega)
        have e2 := at_right P U V R (i := mid + m - 1 - s) (by omega) (by omega)
        rw [← ha] at e1
        rw [← hm] at e2
        intro x hx y hy
        have g1 := lt_drop hw hU e1 h4 x hx
        have g2 := lt_take hw hV e2 g1
        refine g2 y ?_
        rw [show mid + m - 1 - s - m + 1 = mid + m - s - m by omega]; exact hy
  · rcases h3 with h3 | h3
    · unfold loOf at h3; rw [hmid] at h3
      split at h3
      · intro x _ y hy
        rw [show mid + m - s - m = V.length by omega] at hy; simp at hy
      · intro x hx
        rw [show s - a = 0 by omega] at hx; simp at hx
    · by_cases hs : s = loOf a m b
      · unfold loOf at hs; rw [hmid] at hs
        split at hs
        · intro x _ y hy
          rw [show mid + m - s - m = V.length by omega] at hy; simp at hy
        · intro x hx
          rw [show s - a = 0 by omega] at hx; simp at hx
      · have hs' : a < s ∧ mid + m - s < b := by
          unfold loOf at h1 hs; rw [hmid] at h1 hs
          split at h1 <;> split at hs <;> omega
        have e1 := at_left P U V R (i := s - 1) (by omega) (by omega)
        have e2 := at_right P U V R (i := mid + m - 1 - (s - 1)) (by omega) (by omega)
        rw [← ha] at e1
        rw [← hm] at e2
        intro x hx y hy
        have g1 := ge_drop hw hV e2 h3 y (by rw [show mid + m - 1 - (s - 1) - m = mid + m - s - m by omega]; exact hy)
        have g2 := ge_take hw hU e1 g1
        refine g2 x ?_
        rw [show s - 1 - a + 1 = s - a by omega]; exact hx
end
end Go.Proofs.YtanfllednlpbaaaGreat
namespace Go.Proofs.YtanfllednlpbaaaGreat
open Go.Shelf Go.RowKit Go.Lib Go.Sort
set_option linter.unusedSimpArgs false
set_option linter.unusedVariables false
section
variable {α : Type} [Inhabited α]
set_option maxHeartbeats 4000000 in
set_option maxRecDepth 1000000 in
theorem swapRange_s (enc : α → Value) (g : Nat) (cb : Array Value) (blk off cap n : Nat) (d0 : Array α) (w0 w : World) (L U Q V T : List α)
    (R : Row1 enc w0 blk off d0) (hs : d0.size = (L ++ U ++ Q ++ V ++ T).length) (S : SW enc w0 blk off (L ++ U ++ Q ++ V ++ T).toArray w) (hu : U.length = n) (hv : V.length = n) (a b : Nat) (ha : a = L.length) (hb : b = L.length + n + Q.length) (hsz : d0.size ≤ 1048576) :
    Calls Tryz.prog 191 #[.slice (some ⟨blk, off, none⟩) d0.size cap, .int .i64 a, .int .i64 b, .int .i64 n, .func (.func g) #[] cb] w fun e w' => e = .returned (.tuple #[]) ∧ SW enc w0 blk off (L ++ V ++ Q ++ U ++ T).toArray w' := by
  have hcl0 := R.hO.cells
  simp only [Value.cells] at hcl0
  have hst := R.hO.store Tryz.prog
  have mixed : Tryz.prog.follows .mixedOrders = true := by kernel_rfl
  have hn : a + n ≤ b ∧ b + n ≤ d0.size := by rw [hs]; simp; omega
  have EA : Hid (a = L.length) := ha
  have EB : Hid (b = L.length + n + Q.length) := hb
  have HU : Hid (U.length = n) := hu
  have HV : Hid (V.length = n) := hv
  have HS : Hid (d0.size = (L ++ U ++ Q ++ V ++ T).length) := hs
  have S0 : Aside (SW enc w0 blk off (swR L U Q V T 0).toArray w) := by rw [swR_zero]; exact S
  have hds : ∀ i, (swR L U Q V T i).toArray.size = d0.size := fun i => by rw [List.size_toArray, swR_len _ _ _ _ _ _ (by omega), hs]
  clear S ha hb hu hv hs
  obtain ⟨hn1, hn2⟩ := hn
  go_enter Tryz.func191, Tryz.ntmps191
  go_wp2
  go_loopg [10] n (fun kx s wr => ∃ (i : Nat), s = .int .i64 i ∧ i ≤ n ∧ n - i ≤ kx ∧ Aside (SW enc w0 blk off (swR L U Q V T i).toArray wr))
  case atStart => exact ⟨0, rfl, Nat.zero_le _, by omega, S0⟩
  case round =>
    clear S0
    obtain ⟨i, rfl, hin, hkx, S1⟩ := hrel
    by_cases hlt : i < n
    · have hltz : (i : Int) < (n : Int) := by omega
      have hd := hds i
      have ST : Aside _ := swR_step L U Q V T (n := n) (i := i) (a := a) (b := b) HU.out HV.out EA.out EB.out hlt
      generalize hdk : (swR L U Q V T i).toArray = dk at S1 ST hd
      clear hdk
      go_wp2_with fail
      obtain ⟨iN, hiN⟩ : ∃ q, q = a + i := ⟨_, rfl⟩
      obtain ⟨jN, hjN⟩ : ∃ q, q = b + i := ⟨_, rfl⟩
      have ea : ((a : Int) + (i : Int)).toNat = iN := by omega
      have pa : (0 : Int) ≤ (a : Int) + (i : Int) := by omega
      have ba : (a : Int) + (i : Int) < (d0.size : Int) := by omega
      have ra : IntKind.i64.wrap ((a : Int) + (i : Int)) = (a : Int) + (i : Int) := by rw [IntKind.wrap_i64]; omega
      have ec : ((b : Int) + (i : Int)).toNat = jN := by omega
      have pc : (0 : Int) ≤ (b : Int) + (i : Int) := by omega
      have bc : (b : Int) + (i : Int) < (d0.size : Int) := by omega
      have rc : IntKind.i64.wrap ((b : Int) + (i : Int)) = (b : Int) + (i : Int) := by rw [IntKind.wrap_i64]; omega
      obtain ⟨x, hx⟩ : ∃ x, x = dk[a + i]! := ⟨_, rfl⟩
      obtain ⟨y, hy⟩ : ∃ x, x = dk[b + i]! := ⟨_, rfl⟩
      have S2 : Aside (SW enc w0 blk off (swp dk (a + i) (b + i)) ((wr.setCell ⟨blk, off + iN, none⟩ (enc y)).setCell ⟨blk, off + jN, none⟩ (enc x)).drew) := by rw [hiN, hjN, hx, hy]; exact S1.out.swapped R (a + i) (b + i) (by omega) (by omega)
      have ca := S1.out.c1 R (by omega) (a + i) (by omega)
      have cc := S1.out.c1 R (by omega) (b + i) (by omega)
      have fa := S1.out.f1 R (by omega) (a + i) (by omega)
      have fb := S1.out.f1 R (by omega) (b + i) (by omega)
      obtain ⟨u, cd⟩ := S1.out.c2 R (by omega) (a + i) (b + i) (by omega) (by omega) (enc y)
      rw [← hjN, ← hiN] at cd
      rw [← hx, ← hiN] at ca
      rw [← hy, ← hjN] at cc
      rw [← hiN] at fa
      rw [← hjN] at fb
      rw [ST.out] at S2
      clear S1 hx hy hiN hjN ST hd
      go_wp2_with fail
      go_big_region_o
      clear ca cc cd fa fb
      generalize ((wr.setCell ⟨blk, off + iN, none⟩ (enc y)).setCell ⟨blk, off + jN, none⟩ (enc x)).drew = w2 at S2 ⊢
      clear ea ec
      go_wp2
      go_roundg (n - (i + 1))
      case measure => omega
      case rel => exact ⟨i + 1, by go_num, by omega, Nat.le_refl _, S2⟩
    · have e : i = n := by omega
      subst e
      go_wp2
      go_end0
      refine ⟨rfl, ?_⟩
      rw [← swR_all L U Q V T HU.out HV.out]
      exact S1.out
end
section
variable {α : Type} [Inhabited α]
theorem swapRange_z (enc : α → Value) (g : Nat) (cb : Array Value) (blk off cap : Nat) (d0 : Array α) (w0 w : World) (L U Q V T d e : List α)
    (R : Row1 enc w0 blk off d0) (hd : d = L ++ U ++ Q ++ V ++ T) (he : e = L ++ V ++ Q ++ U ++ T) (hs : d0.size = d.length) (S : SW enc w0 blk off d.toArray w) (za zb zn : Int) (hu : zn = (U.length : Int)) (hv : zn = (V.length : Int)) (ha : za = (L.length : Int)) (hb : zb = (L.length : Int) + zn + (Q.length : Int)) (hsz : d0.size ≤ 1048576) :
    Calls Tryz.prog 191 #[.slice (some ⟨blk, off, none⟩) d0.size cap, .int .i64 za, .int .i64 zb, .int .i64 zn, .func (.func g) #[] cb] w fun r w' => r = .returned (.tuple #[]) ∧ SW enc w0 blk off e.toArray w' := by
  subst hd he
  have hz : zb = ((L.length + U.length + Q.length : Nat) : Int) := by omega
  subst ha hu
  rw [hz]
  exact swapRange_s enc g cb blk off cap U.length d0 w0 w L U Q V T R hs S rfl (by omega) L.length _ rfl rfl hsz
end
section
variable {α : Type}
theorem rot_more {L U V T d : List α} {i j : Nat} (h : RotAt L U V T i j d) (hij : j < i) : ∃ A B C D : List α, d = A ++ B ++ C ++ D ++ (d.drop (A.length + B.length + C.length + D.length)) ∧ B.length = j ∧ D.length = j ∧ A.length + i = L.length + U.length ∧ A.length + B.length + C.length = L.length + U.length ∧
    RotAt L U V T (i - j) j (A ++ D ++ C ++ B ++ d.drop (A.length + B.length + C.length + D.length)) := by
  obtain ⟨D1, U', V', D2, rfl, e1, e2, e3, e4⟩ := h
  have t1 : U'.take j ++ U'.drop j = U' := List.take_append_drop j U'
  have hdrop : (L ++ D1 ++ U' ++ V' ++ D2 ++ T).drop ((L ++ D1).length + (U'.take j).length + (U'.drop j).length + V'.length) = D2 ++ T := by
    have : (L ++ D1).length + (U'.take j).length + (U'.drop j).length + V'.length = (L ++ D1 ++ U' ++ V').length := by simp; omega
    rw [this, List.append_assoc (L ++ D1 ++ U' ++ V'), List.drop_left]
  refine ⟨L ++ D1, U'.take j, U'.drop j, V', ?_, by simp; omega, e3, by simp; omega, by simp; omega, ?_⟩
  · rw [hdrop, List.append_assoc (L ++ D1) (U'.take j), t1]; simp
  · rw [hdrop]
    refine ⟨D1 ++ V', U'.drop j, U'.take j, D2, by simp, by simp; omega, by simp; omega, by simp; omega, ?_⟩
    rw [List.append_assoc (D1 ++ V'), t1]; exact e4
theorem rot_less {L U V T d : List α} {i j : Nat} (h : RotAt L U V T i j d) (hij : i < j) : ∃ A B C D : List α, d = A ++ B ++ C ++ D ++ (d.drop (A.length + B.length + C.length + D.length)) ∧ B.length = i ∧ D.length = i ∧ A.length + i = L.length + U.length ∧ C.length + i = j ∧
    RotAt L U V T i (j - i) (A ++ D ++ C ++ B ++ d.drop (A.length + B.length + C.length + D.length)) := by
  obtain ⟨D1, U', V', D2, rfl, e1, e2, e3, e4⟩ := h
  have t1 : V'.take (j - i) ++ V'.drop (j - i) = V' := List.take_append_drop _ V'
  have hdrop : (L ++ D1 ++ U' ++ V' ++ D2 ++ T).drop ((L ++ D1).length + U'.length + (V'.take (j - i)).length + (V'.drop (j - i)).length) = D2 ++ T := by
    have : (L ++ D1).length + U'.length + (V'.take (j - i)).length + (V'.drop (j - i)).length = (L ++ D1 ++ U' ++ V').length := by simp; omega
    rw [this, List.append_assoc (L ++ D1 ++ U' ++ V'), List.drop_left]
  refine ⟨L ++ D1, U', V'.take (j - i), V'.drop (j - i), ?_, e2, by simp; omega, by simp; omega, by simp; omega, ?_⟩
  · rw [hdrop, List.append_assoc (L ++ D1 ++ U') (V'.take (j - i)), t1]; simp
  · rw [hdrop]
    refine ⟨D1, V'.drop (j - i), V'.take (j - i), U' ++ D2, by simp, by omega, by simp; omega, by simp; omega, ?_⟩
    rw [← e4, List.append_assoc D1, t1]; simp
theorem rot_end {L U V T d : List α} {i : Nat} (h : RotAt L U V T i i d) : ∃ A B D F : List α, d = A ++ B ++ [] ++ D ++ F ∧ B.length = i ∧ D.length = i ∧ A.length + i = L.length + U.length ∧ L ++ V ++ U ++ T = A ++ D ++ [] ++ B ++ F := by
  obtain ⟨D1, U', V', D2, rfl, e1, e2, e3, e4⟩ := h
  refine ⟨L ++ D1, U', V', D2 ++ T, by simp, e2, e3, by simp; omega, ?_⟩
  have : L ++ V ++ U ++ T = L ++ (V ++ U) ++ T := by simp
  rw [this, ← e4]; simp
theorem rot_len {L U V T d : List α} {i j : Nat} (h : RotAt L U V T i j d) : d.length = (L ++ U ++ V ++ T).length := by
  obtain ⟨D1, U', V', D2, rfl, e1, e2, e3, e4⟩ := h
  have := congrArg List.length e4
  simp at this ⊢; omega
end
section
variable {α : Type} [Inhabited α]
set_option maxHeartbeats 4000000 in
set_option maxRecDepth 1000000 in
theorem rotate_s (enc : α → Value) (g : Nat) (cb : Array Value) (blk off cap : Nat) (d0 : Array α) (w0 w : World) (L U V T : List α)
    (R : Row1 enc w0 blk off d0) (hs : d0.size = (L ++ U ++ V ++ T).length) (S : SW enc w0 blk off (L ++ U ++ V ++ T).toArray w) (hu : 0 < U.length) (hv : 0 < V.length) (a m b : Nat) (ha : a = L.length) (hm : m = L.length + U.length) (hb : b = L.length + U.length + V.length) (hsz : d0.size ≤ 1048576) :
    Calls Tryz.prog 189 #[.slice (some ⟨blk, off, none⟩) d0.size cap, .int .i64 a, .int .i64 m, .int .i64 b, .func (.func g) #[] cb] w fun e w' => e = .returned (.tuple #[]) ∧ SW enc w0 blk off (L ++ V ++ U ++ T).toArray w' := by
  have hlen : b ≤ d0.size := by rw [hs]; simp; omega
  have z1 : (m : Int) - (a : Int) = (U.length : Int) := by omega
  have z2 : (b : Int) - (m : Int) = (V.length : Int) := by omega
  have Z1 : Hid _ := z1
  have Z2 : Hid _ := z2
  have EM : Hid (m = L.length + U.length) := hm
  have S0 : Aside (RotAt L U V T U.length V.length (L ++ U ++ V ++ T) ∧ SW enc w0 blk off (L ++ U ++ V ++ T).toArray w) := ⟨RotAt.start _ _ _ _, S⟩
  have HS : Hid (d0.size = (L ++ U ++ V ++ T).length) := hs
  have hbm : m + V.length = b := by omega
  have ham : a + U.length = m := by omega
  clear S hs ha hm hb z1 z2
  go_enter Tryz.func189, Tryz.ntmps189
  go_wp2
  go_loopg [10, 11] (U.length + V.length) (fun kx s t wr => ∃ (i j : Nat) (d : List α), s = .int .i64 i ∧ t = .int .i64 j ∧ 0 < i ∧ 0 < j ∧ i ≤ m ∧ j ≤ d0.size ∧ m + j ≤ d0.size ∧ i + j ≤ kx ∧ Aside (RotAt L U V T i j d ∧ SW enc w0 blk off d.toArray wr))
  case atStart => exact ⟨_, _, _, by rw [Z1.out], by rw [Z2.out], hu, hv, by omega, by omega, by omega, Nat.le_refl _, S0⟩
  case round =>
    clear S0
    obtain ⟨i, j, d, rfl, rfl, hi0, hj0, him, hjn, hmj, hkx, S1⟩ := hrel
    have hdl : Hid (d0.size = d.length) := by rw [rot_len S1.out.1]; exact HS.out
    by_cases hij : i = j
    · subst hij
      have hne : ((i : Int) != (i : Int)) = false := by simp
      obtain ⟨A, B, D, F, e1, e2, e3, e4, e5⟩ := rot_end S1.out.1
      have SS : Hid _ := S1.out.2
      have E1 : Hid _ := e1; have E2 : Hid _ := e2; have E3 : Hid _ := e3; have E4 : Hid _ := e4; have E5 : Hid _ := e5
      clear e1 e2 e3 e4 e5 S1
      go_wp2_with fail
      refine (swapRange_z enc g cb blk off cap d0 w0 _ A B [] D F d _ R E1.out E5.out hdl.out SS.out _ _ _ (by rw [E2.out]) (by rw [E3.out]) (by have := E4.out; have := EM.out; omega) (by have := E4.out; have := EM.out; simp; omega) hsz).mono ?_
      rintro e w1 ⟨rfl, s1⟩
      have SS1 : Hid _ := s1
      clear s1 SS
      go_wp2_with fail
      go_end0
      exact ⟨rfl, SS1.out⟩
    · have hne : ((i : Int) != (j : Int)) = true := by simp; omega
      by_cases hgt : j < i
      · have hgtz : (j : Int) < (i : Int) := by omega
        obtain ⟨A, B, C, D, e1, e2, e3, e4, e5, e6⟩ := rot_more S1.out.1 hgt
        have SS : Hid _ := S1.out.2
        have E1 : Hid _ := e1; have E2 : Hid _ := e2; have E3 : Hid _ := e3; have E4 : Hid _ := e4; have E5 : Hid _ := e5; have E6 : Hid _ := e6
        clear e1 e2 e3 e4 e5 e6 S1
        go_wp2_with fail
        refine (swapRange_z enc g cb blk off cap d0 w0 _ A B C D _ d _ R E1.out rfl hdl.out SS.out _ _ _ (by rw [E2.out]) (by rw [E3.out]) (by have := E4.out; have := EM.out; omega) (by have := E5.out; have := EM.out; have := E2.out; omega) hsz).mono ?_
        rintro e w1 ⟨rfl, s1⟩
        have SS1 : Aside _ := And.intro E6.out s1
        clear s1 SS E1 E6
        go_wp2_with fail
        go_roundg (i - j + j)
        case measure => omega
        case rel => exact ⟨i - j, j, _, by rw [Int.ofNat_sub (by omega)], rfl, by omega, by omega, by omega, by omega, by omega, Nat.le_refl _, SS1⟩
      · have hgtz : (i : Int) < (j : Int) := by omega
        have hgtz' : (i : Int) ≤ (j : Int) := by omega
        obtain ⟨A, B, C, D, e1, e2, e3, e4, e5, e6⟩ := rot_less S1.out.1 (by omega)
        have SS : Hid _ := S1.out.2
        have E1 : Hid _ := e1; have E2 : Hid _ := e2; have E3 : Hid _ := e3; have E4 : Hid _ := e4; have E5 : Hid _ := e5; have E6 : Hid _ := e6
        clear e1 e2 e3 e4 e5 e6 S1
        go_wp2_with fail
        refine (swapRange_z enc g cb blk off cap d0 w0 _ A B C D _ d _ R E1.out rfl hdl.out SS.out _ _ _ (by rw [E2.out]) (by rw [E3.out]) (by have := E4.out; have := EM.out; omega) (by have := E5.out; have := E4.out; have := EM.out; have := E2.out; omega) hsz).mono ?_
        rintro e w1 ⟨rfl, s1⟩
        have SS1 : Aside _ := And.intro E6.out s1
        clear s1 SS E1 E6
        go_wp2_with fail
        go_roundg (i + (j - i))
        case measure => omega
        case rel => exact ⟨i, j - i, _, rfl, by rw [Int.ofNat_sub (by omega)], by omega, by omega, by omega, by omega, by omega, Nat.le_refl _, SS1⟩
end
end Go.Proofs.YtanfllednlpbaaaGreat
