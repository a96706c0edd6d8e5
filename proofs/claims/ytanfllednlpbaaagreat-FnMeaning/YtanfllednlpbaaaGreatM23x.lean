/-
  Contract of impl.sorted at rows, whole: whatever comes one by one, sorted, those of which none is less in their order. One number of a slice that reads. No program, no walk. Contract of spec.RowLess. For every two rows. Contracts of cmp.Compare at int, slices.Compare at rows and impl.RowLess. For every two rows. Contract of impl.SortRows. For every slice of rows. Contract of spec.l01Copy. For every slice of int. Contracts of spec.l04Copy and spec.SortRows. For every slice of rows.
-/
import Derived.Test.YtanfllednlpbaaaGreatM22x
import Derived.Test.YtanfllednlpbaaaGreatM1x
import Derived.Deep.RegionWith
import Derived.Test.YtanfllednlpbaaaGreatM18x
import Derived.Test.YtanfllednlpbaaaGreatKids0
import Derived.BigQuiet
namespace Go.Proofs.YtanfllednlpbaaaGreat
open Go.RowKit Go.Shelf Go.Lib Go.Sort
set_option linter.unusedSimpArgs false
set_option linter.unusedVariables false
theorem insL_map {α β : Type} (f : α → β) (lt : β → β → Bool) (x : α) : ∀ l : List α, (insL (fun x y => lt (f x) (f y)) x l).map f = insL lt (f x) (l.map f)
  | [] => rfl
  | y :: l => by
    unfold insL
    simp only [List.map_cons]
    split
    · simp
    · simp [insL_map f lt x l]
theorem sortL_map {α β : Type} (f : α → β) (lt : β → β → Bool) (l : List α) : (sortL (fun x y => lt (f x) (f y)) l).map f = sortL lt (l.map f) := by
  unfold sortL
  have key : ∀ (l acc : List α), (l.foldl (fun out x => insL (fun x y => lt (f x) (f y)) x out) acc).map f = (l.map f).foldl (fun out x => insL lt x out) (acc.map f) := by
    intro l
    induction l with
    | nil => intro acc; rfl
    | cons x l ih => intro acc; rw [List.foldl_cons, ih, insL_map]; rfl
  exact key l []
theorem below_sortWorld {α : Type} [Inhabited α] {enc : α → Value} {B : Nat} {w w0 W : World} {g : Nat} {d : Array α} (h : Below B w w0) (hg : B ≤ g) (hB : B ≤ w0.heap.size) (S : SW enc w0 g 0 d W) : Below B w W := by
  obtain ⟨m, os, rfl⟩ := S
  unfold sortWorld
  have h1 : Below B w (putRow enc (Sort.ahead w0 m) g 0 d) := below_putRow h hg
  refine ⟨h1.os, h1.tape, h1.output, ?_, fun k hk => ?_⟩
  · rw [size_grow]; exact Nat.le_trans h1.size (Nat.le_add_right _ _)
  · rw [← h1.block k hk]
    show ((putRow enc (Sort.ahead w0 m) g 0 d).heap ++ os)[k]? = _
    rw [Array.getElem?_append_left (by rw [size_putRow]; exact Nat.lt_of_lt_of_le hk hB)]
theorem owns_sortWorld {α : Type} [Inhabited α] {enc : α → Value} {w0 W : World} {base : Nat} {e : TypeId} {g n cap : Nat} {zs ys : List α} (h : w0.ownsRow base e 1 (.slice (some ⟨g, 0, none⟩) n cap) n (zs.map enc)) (hy : ys.length = n) (S : SW enc w0 g 0 ys.toArray W) :
    W.ownsRow base e 1 (.slice (some ⟨g, 0, none⟩) n cap) n (ys.map enc) := by
  obtain ⟨m, os, rfl⟩ := S
  have h1 := ownsRow_putRow (q := m) (k := n) h hy (Nat.le_refl _)
  rw [List.take_of_length_le (by omega)] at h1
  unfold sortWorld
  refine owns_keep h1 ?_
  show ((putRow enc (Sort.ahead w0 m) g 0 ys.toArray).heap ++ os)[g]? = _
  rw [Array.getElem?_append_left (owns_block h1).2]
set_option maxRecDepth 100000 in
theorem insertion_nil (ao : Option Addr) (cc : Nat) (f : Value) (w : World) : Calls Tryz.prog 179 #[.slice ao 0 cc, .int .i64 0, .int .i64 0, f] w fun e w' => e = .returned (.tuple #[]) ∧ w = w' := by
  go_enter Tryz.func179, Tryz.ntmps179
  go_wp2_with fail
  go_loopw [8] (fun i wr => i = .int .i64 1 ∧ w = wr) (fun _ _ => 0)
  case atStart => exact ⟨rfl, rfl⟩
  case round =>
    obtain ⟨rfl, rfl⟩ := hrel
    go_wp2
    go_end0
    exact ⟨rfl, rfl⟩
set_option maxRecDepth 100000 in
theorem stable_nil (ao : Option Addr) (cc : Nat) (f : Value) (w : World) : Calls Tryz.prog 156 #[.slice ao 0 cc, .int .i64 0, f] w fun e w' => e = .returned (.tuple #[]) ∧ w = w' := by
  go_enter Tryz.func156, Tryz.ntmps156
  go_wp2_with fail
  go_loopw [7, 8] (fun s t wr => s = .int .i64 0 ∧ t = .int .i64 20 ∧ w = wr) (fun _ _ _ => 0)
  case atStart => exact ⟨rfl, rfl, rfl⟩
  case round =>
    obtain ⟨rfl, rfl, rfl⟩ := hrel
    go_wp2_with fail
    refine (insertion_nil ao cc f _).mono ?_
    rintro e w1 ⟨rfl, rfl⟩
    go_wp2_with fail
    go_loopw [6, 7, 8, 9] (fun s _ _ _ wr => s = .int .i64 20 ∧ w = wr) (fun _ _ _ _ _ => 0)
    case atStart => exact ⟨rfl, rfl⟩
    case round =>
      obtain ⟨rfl, rfl⟩ := hrel
      go_wp2
      go_end0
      exact ⟨rfl, rfl⟩
def SortPost {wb : World} (lt : Els wb → Els wb → Bool) (base B : Nat) (v : Value) (zs : List (Els wb)) (w : World) (e : Ending) (W' : World) : Prop :=
  e = .returned (.tuple #[]) ∧ W'.ownsRow base 34 1 v zs.length ((sortL lt zs).map encE) ∧ Below B w W'
set_option maxHeartbeats 1000000 in
theorem sortStableR_any {wb : World} (lt : Els wb → Els wb → Bool) (hw : Wk lt) (f Bl B : Nat) (lb : Array Value) (w0 : World) (ef : ∀ args w, (callFunc f args).run Tryz.prog w = .ok (.enter f args) w) (base : Nat) (hB : B ≤ base) (hBl : Bl < B) (hBw : B ≤ w0.heap.size) (v : Value) (zs : List (Els wb)) (hlen : zs.length ≤ 1048576)
    (hown : w0.ownsRow base 34 1 v zs.length (zs.map encE)) (hcell : w0.cell? ⟨Bl, 0, none⟩ = some (.func (.func f) #[] lb))
    (hless : ∀ W, Below B w0 W → ∀ x ∈ zs, ∀ y ∈ zs, Calls Tryz.prog f (#[encE x, encE y] ++ lb) W fun e w' => e = .returned (.bool (lt x y)) ∧ ∃ q, w' = W.drewN q) :
    Calls Tryz.prog 133 #[v, .func (.func 105) #[] #[.pointer (some ⟨Bl, 0, none⟩)]] w0 (SortPost lt base B v zs w0) := by
  by_cases hz : zs = []
  · subst hz
    obtain ⟨ao, cc, rfl⟩ : ∃ ao cc, v = .slice ao 0 cc := by
      rcases hown.2 with ⟨rfl, _⟩ | ⟨g, cap, cur, rfl, _⟩
      · exact ⟨_, _, rfl⟩
      · exact ⟨_, _, rfl⟩
    have HO : Hid (w0.ownsRow base 34 1 (.slice ao 0 cc) 0 []) := hown
    clear hown hcell hless
    go_enter Tryz.func133, Tryz.ntmps133
    go_wp2_with fail
    refine (stable_nil ao cc _ _).mono ?_
    rintro e w1 ⟨rfl, rfl⟩
    go_wp2_with fail
    go_end0
    exact ⟨rfl, HO.out, Below.refl _ _⟩
  · have hv : v ≠ .slice none 0 0 := fun e => by
      subst e
      rcases hown.2 with ⟨_, h⟩ | ⟨g, cap, cur, h, _⟩
      · exact hz (List.eq_nil_of_length_eq_zero h)
      · cases h
    haveI : Inhabited { x : Els wb // x ∈ zs } := ⟨⟨zs.head hz, List.head_mem hz⟩⟩
    obtain ⟨enc, henc⟩ : ∃ enc : { x : Els wb // x ∈ zs } → Value, enc = fun x => encE x.1 := ⟨_, rfl⟩
    have hLm : zs.attach.map enc = zs.map encE := by rw [henc]; exact List.attach_map_val (f := encE)
    have one : OneCell enc := by rw [henc]; exact fun _ => rfl
    obtain ⟨L, hL⟩ : ∃ L, zs.attach = L := ⟨_, rfl⟩
    rw [hL] at hLm
    have hLl : L.length = zs.length := by rw [← hL]; simp
    have hLv : L.map (fun x => x.1) = zs := by rw [← hL]; simp
    rw [← hLm, ← hLl] at hown
    rw [← hLl] at hlen
    obtain ⟨g, cap, rfl, hb, hg, hn, hm, hl, hH⟩ := holds_of_ownsRow hown hv
    have hbg : B ≤ g := Nat.le_trans hB hb
    have hR : Row1 enc w0 g 0 L.toArray := ⟨one, hH, hg⟩
    have hC : CmpLays1 Tryz.prog 105 #[.pointer (some ⟨Bl, 0, none⟩)] enc (cfOf fun x y : { x : Els wb // x ∈ zs } => lt x.1 y.1) g 0 L.toArray.size w0 := by
      intro m os dk hs x y
      have hS : SW enc w0 g 0 dk (sortWorld enc w0 g 0 m dk os) := ⟨m, os, rfl⟩
      have hbl : Below B w0 (sortWorld enc w0 g 0 m dk os) := below_sortWorld (Below.refl _ _) hbg hBw hS
      have q1 := hless _ hbl x.1 x.2 y.1 y.2
      have q2 := fun q => hless ((sortWorld enc w0 g 0 m dk os).drewN q) (hbl.trans ⟨rfl, rfl, rfl, Nat.le_refl _, fun _ _ => rfl⟩) y.1 y.2 x.1 x.2
      rw [henc]
      rw [henc] at q1 q2
      refine (sortedCmpV_any (encE x.1) (encE y.1) (lt x.1 y.1) (lt y.1 x.1) f Bl lb _ ef ((by rw [henc] at hbl; exact hbl : Below B w0 _).cell (p := ⟨Bl, 0, none⟩) hBl |>.trans hcell) q1 q2).mono ?_
      rintro e w' ⟨he, q, rfl⟩
      exact ⟨he, q, #[], by rw [grow_empty]⟩
    have hwk : Wk (fun x y : { x : Els wb // x ∈ zs } => lt x.1 y.1) := wkOf hw fun x : { x : Els wb // x ∈ zs } => x.1
    have ST := stable_s enc (cfOf fun x y : { x : Els wb // x ∈ zs } => lt x.1 y.1) 105 #[.pointer (some ⟨Bl, 0, none⟩)] g 0 cap L.toArray w0 w0 L (enters_of Tryz.func105 (by kernel_rfl) rfl) hC (by rw [ltOf_cfOf]; exact hwk) hR (by simpa using hlen) (by simp) (SW.start hH)
    rw [List.size_toArray] at ST
    have S0 : Aside _ := ST
    have HO : Hid _ := hown
    have EM : Hid ((sortL (fun x y : { x : Els wb // x ∈ zs } => lt x.1 y.1) L).map enc = (sortL lt zs).map encE) := by
      show _ = _
      have h := sortL_map (fun x : { x : Els wb // x ∈ zs } => x.1) lt L
      rw [hLv] at h
      rw [henc, ← h, List.map_map]
      rfl
    have LL : Hid _ := hLl
    clear ST hC hR hown hcell hless hH hv hz hLm hLv hL hLl henc one
    have hlz : L.length ≤ 9223372036854775807 := by omega
    go_enter Tryz.func133, Tryz.ntmps133
    go_wp2_with fail
    refine Calls.mono S0.out ?_
    rintro e w1 ⟨rfl, Z, hZ, hS⟩
    have E : Z = sortL (fun x y : { x : Els wb // x ∈ zs } => lt x.1 y.1) L := by rw [ltOf_cfOf] at hZ; exact sortL_uniq hwk hZ.1 hZ.2.1
    have F1 := Lib.hid (owns_sortWorld HO.out hZ.len hS)
    have F2 := Lib.hid (below_sortWorld (Below.refl B w0) hbg hBw hS)
    rw [E] at F1
    clear hZ hS E
    go_wp2_with fail
    go_end0
    refine ⟨rfl, ?_, F2.out⟩
    have h := F1.out
    rw [EM.out, LL.out] at h
    rw [LL.out]
    exact h
theorem collectR_any (g n₀ : Nat) (lb : Array Value) (eg : ∀ args w, (callFunc g args).run Tryz.prog w = .ok (.enter g args) w) {wb : World} (zs : List (Els wb)) (Sp : List (Els wb) → Prop) (hlen : zs.length ≤ 1048576) (w : World) (hn₀ : n₀ ≤ w.heap.size)
    (hseq : ∀ W, Below w.heap.size w W → SeqStopsK Fence.wide 2 Tryz.prog g lb (fun x : Els wb => #[encE x]) (Below n₀) (fun ys => ys = zs) Sp zs.length W) :
    Calls Tryz.prog 132 #[.func (.func g) #[] lb] w fun e W' => ∃ v, e = .returned v ∧ W'.ownsRow w.heap.size 34 1 v zs.length (zs.map encE) ∧ (v = .slice none 0 0 ↔ zs = []) ∧ Below w.heap.size w W' := by
  have A : Aside _ := callsIn_wide.1 (appendSeqR_in Fence.wide 3 trivial rfl (by omega) g n₀ lb trivial eg zs Sp hlen w hn₀ hseq)
  clear hseq
  go_enter Tryz.func132, Tryz.ntmps132
  go_wp2_with fail
  refine Calls.mono A.out ?_
  rintro e w1 ⟨v, rfl, h1, h2, h3⟩
  have H : Hid _ := And.intro h1 (And.intro h2 h3)
  clear h1 h2 h3
  go_wp2_with fail
  go_ret
  exact ⟨v, rfl, H.out⟩
def SortedPost {wb : World} (lt : Els wb → Els wb → Bool) (zs : List (Els wb)) (w : World) (e : Ending) (W' : World) : Prop :=
  ∃ v, e = .returned v ∧ W'.ownsRow w.heap.size 34 1 v zs.length ((sortL lt zs).map encE) ∧ (v = .slice none 0 0 ↔ zs = []) ∧ Below w.heap.size w W'
set_option maxHeartbeats 1000000 in
theorem sortedR_any {wb : World} (lt : Els wb → Els wb → Bool) (hw : Wk lt) (f : Nat) (lb : Array Value) (ef : ∀ args w, (callFunc f args).run Tryz.prog w = .ok (.enter f args) w)
    (g n₀ : Nat) (lg : Array Value) (eg : ∀ args w, (callFunc g args).run Tryz.prog w = .ok (.enter g args) w) (zs : List (Els wb)) (Sp : List (Els wb) → Prop) (hlen : zs.length ≤ 1048576) (w : World) (hn₀ : n₀ ≤ w.heap.size)
    (hseq : ∀ W, Below w.heap.size w W → SeqStopsK Fence.wide 2 Tryz.prog g lg (fun x : Els wb => #[encE x]) (Below n₀) (fun ys => ys = zs) Sp zs.length W)
    (hless : ∀ W, Below w.heap.size w W → ∀ x ∈ zs, ∀ y ∈ zs, Calls Tryz.prog f (#[encE x, encE y] ++ lb) W fun e w' => e = .returned (.bool (lt x y)) ∧ ∃ q, w' = W.drewN q) :
    Calls Tryz.prog 56 #[.func (.func g) #[] lg, .func (.func f) #[] lb] w (SortedPost lt zs w) := by
  have SQ : Aside _ := hseq
  have LS : Aside _ := hless
  clear hseq hless
  obtain ⟨w1, hw1⟩ : ∃ w1, w1 = w.alloc (.cells #[.func (.func f) #[] lb] 36) := ⟨_, rfl⟩
  have b1 : Below w.heap.size w w1 := by rw [hw1]; exact (Below.refl _ w).alloc (Nat.le_refl _) _
  have c1 : w1.cell? ⟨w.heap.size, 0, none⟩ = some (.func (.func f) #[] lb) := by rw [hw1]; simp
  have s1 : w1.heap.size = w.heap.size + 1 := by rw [hw1]; simp
  have HW1 : Hid _ := hw1
  have s2 : w.heap.size < w1.heap.size := by omega
  clear hw1 s1
  have SRT : Aside (Calls Tryz.prog 104 #[.func (.func g) #[] lg, .func (.func 105) #[] #[.pointer (some ⟨w.heap.size, 0, none⟩)]] w1 (SortedPost lt zs w)) := by
    show Calls _ _ _ _ _
    have C : Aside _ := collectR_any g n₀ lg eg zs Sp hlen w1 (by omega) (fun W hW => SQ.out W (b1.trans (hW.mono (by omega))))
    go_enter Tryz.func104, Tryz.ntmps104
    go_wp2_with fail
    refine Calls.mono C.out ?_
    rintro e w2 ⟨v, rfl, h1, h2, h3⟩
    have S : Aside _ := sortStableR_any lt hw f w.heap.size w1.heap.size lb w2 ef w1.heap.size (Nat.le_refl _) (by omega) h3.size v zs hlen h1 ((h3.cell (p := ⟨w.heap.size, 0, none⟩) (by show w.heap.size < _; omega)).trans c1) (fun W hW => LS.out W (b1.trans ((h3.trans hW).mono (by omega))))
    have H2 : Hid _ := h2
    have H3 : Hid _ := h3
    clear h1 h2 h3 C
    go_wp2_with fail
    refine Calls.mono S.out ?_
    rintro e w3 ⟨rfl, k1, k2⟩
    have K : Hid _ := And.intro k1 k2
    clear k1 k2 S
    go_wp2_with fail
    go_ret
    refine ⟨v, rfl, ?_, H2.out, b1.trans ((H3.out.trans K.out.2).mono (by omega))⟩
    exact (by
      have h := K.out.1
      refine ⟨h.1, ?_⟩
      rcases h.2 with h' | ⟨q, cap, cur, e, hb, r⟩
      · exact .inl h'
      · exact .inr ⟨q, cap, cur, e, by omega, r⟩)
  rw [HW1.out] at SRT
  clear b1 c1 s2 HW1 SQ LS
  go_enter Tryz.func56, Tryz.ntmps56
  go_wp2_with fail
  refine Calls.mono SRT.out ?_
  rintro e w2 ⟨v, rfl, h⟩
  have H : Hid _ := h
  clear h SRT
  go_wp2_with fail
  go_ret
  exact ⟨v, rfl, H.out⟩
end Go.Proofs.YtanfllednlpbaaaGreat
namespace Go.Proofs.YtanfllednlpbaaaGreat
open Go.RowKit
set_option linter.unusedSimpArgs false
set_option linter.unusedVariables false
theorem Rd.get {w : World} {k : IntKind} {ao : Option Addr} {l : List Int} {i : Nat} (h : Rd w k ao l) (hi : i < l.length) :
    ∃ b off z, ao = some ⟨b, off, none⟩ ∧ l[i]? = some z ∧ w.cell? ⟨b, off + i, none⟩ = some (.int k z) := by
  rcases h with rfl | ⟨b, off, rfl, hc⟩
  · simp at hi
  · obtain ⟨z, _, h1, h2, _⟩ := Rd.at_ hc hi
    exact ⟨b, off, z, rfl, h1, h2⟩
theorem Rd.drewN {w : World} {k : IntKind} {ao : Option Addr} {l : List Int} (h : Rd w k ao l) (q : Nat) : Rd (w.drewN q) k ao l := h.below (below_drewN (Below.refl _ _) q)
def cmpI (x y : Int) : Int := if x < y then -1 else if y < x then 1 else 0
theorem isNaNI_any (x : Int) (w : World) : Calls Tryz.prog 157 #[.int .i64 x] w fun e w' => e = .returned (.bool false) ∧ w = w' := by
  have hx : (x != x) = false := by simp
  go_enter Tryz.func157, Tryz.ntmps157
  go_wp2_with fail
  go_ret
  exact ⟨rfl, rfl⟩
theorem compareI_any (x y : Int) (w : World) : Calls Tryz.prog 134 #[.int .i64 x, .int .i64 y] w fun e w' => e = .returned (.int .i64 (cmpI x y)) ∧ w = w' := by
  go_enter Tryz.func134, Tryz.ntmps134
  go_wp2_with fail
  refine (isNaNI_any x _).mono ?_
  rintro e w1 ⟨rfl, rfl⟩
  go_wp2_with fail
  refine (isNaNI_any y _).mono ?_
  rintro e w1 ⟨rfl, rfl⟩
  by_cases h1 : x < y
  · have E := Lib.hid (show cmpI x y = -1 by simp [cmpI, h1])
    go_wp2_with fail
    go_ret
    exact ⟨ret_int E.out.symm, rfl⟩
  · by_cases h2 : y < x
    · have E := Lib.hid (show cmpI x y = 1 by simp [cmpI, h1, h2])
      have h3 : y ≤ x := by omega
      go_wp2_with fail
      go_ret
      exact ⟨ret_int E.out.symm, rfl⟩
    · have E := Lib.hid (show cmpI x y = 0 by simp [cmpI, h1, h2])
      have h3 : y ≤ x := by omega
      have h4 : x ≤ y := by omega
      go_wp2_with fail
      go_ret
      exact ⟨ret_int E.out.symm, rfl⟩
def cmpL (l m : List Int) : Int := if lessL l m then -1 else if l = m then 0 else 1
theorem lessL_irr : ∀ l : List Int, lessL l l = false
  | [] => rfl
  | x :: l => by simp [lessL, lessL_irr l]
theorem cmpL_at {l m : List Int} {j : Nat} {x y : Int} (ht : l.take j = m.take j) (hx : l[j]? = some x) (hy : m[j]? = some y) (h : x ≠ y) : cmpL l m = cmpI x y := by
  unfold cmpL cmpI
  have hne : l ≠ m := by rintro rfl; rw [hx] at hy; cases hy; exact h rfl
  rw [lessL_at l m j x y ht hx hy h]
  by_cases hlt : x < y
  · simp [hlt]
  · have : y < x := by omega
    simp [hlt, this, hne]
theorem cmpL_more {l m : List Int} {j : Nat} (ht : l.take j = m.take j) (hl : j < l.length) (hm : m.length ≤ j) : cmpL l m = 1 := by
  unfold cmpL
  have hne : l ≠ m := by rintro rfl; omega
  rw [lessL_end l m j ht (.inr hm)]
  have : ¬ l.length < m.length := by omega
  simp [this, hne]
theorem cmpL_less {l m : List Int} {j : Nat} (ht : l.take j = m.take j) (hl : l.length ≤ j) (h : l.length < m.length) : cmpL l m = -1 := by
  unfold cmpL
  rw [lessL_end l m j ht (.inl hl)]
  simp [h]
theorem cmpL_same {l m : List Int} {j : Nat} (ht : l.take j = m.take j) (hl : l.length ≤ j) (hm : m.length ≤ j) : cmpL l m = 0 := by
  have : l = m := by rw [List.take_of_length_le hl, List.take_of_length_le hm] at ht; exact ht
  subst this
  simp [cmpL, lessL_irr]
theorem cmpL_neg (l m : List Int) : decide (cmpL l m < 0) = lessL l m := by
  unfold cmpL
  cases h : lessL l m
  · simp; split <;> simp
  · simp
set_option maxRecDepth 100000 in
set_option maxHeartbeats 1600000 in
theorem compareL_any (a b : Option Addr) (c d : Nat) (l m : List Int) (w : World) (h : Rd w .i64 a l) (k : Rd w .i64 b m) (hn : l.length ≤ maxLen) (hm : m.length ≤ maxLen) :
    Calls Tryz.prog 107 #[.slice a l.length c, .slice b m.length d] w fun e w' => e = .returned (.int .i64 (cmpL l m)) ∧ w = w' := by
  unfold maxLen at hn hm
  have H := Lib.hid h; clear h
  have K := Lib.hid k; clear k
  go_enter Tryz.func107, Tryz.ntmps107
  go_wp2_with fail
  go_loop [11] (fun i => ∃ j : Nat, j ≤ l.length ∧ j ≤ m.length ∧ i = .int .i64 j ∧ l.take j = m.take j) (fun i => l.length - (intOf i).toNat)
  case atStart => exact ⟨0, Nat.zero_le _, Nat.zero_le _, rfl, rfl⟩
  case round =>
    obtain ⟨j, hj, hj2, rfl, ht⟩ := hrel
    have HT := Lib.hid ht; clear ht
    by_cases hlt : j < l.length
    · obtain ⟨b1, o1, x, rfl, hx, cx⟩ := H.out.get hlt
      by_cases hlt2 : j < m.length
      · obtain ⟨b2, o2, y, rfl, hy, cy⟩ := K.out.get hlt2
        have X := Lib.hid hx; have Y := Lib.hid hy
        clear hx hy
        have i1 : (j : Int) < (l.length : Int) := by omega
        have i2 : (j : Int) < (m.length : Int) := by omega
        by_cases hxy : x = y
        · subst hxy
          go_wp2_with fail
          refine (compareI_any x x _).mono ?_
          rintro e w1 ⟨rfl, rfl⟩
          rw [show cmpI x x = 0 by simp [cmpI]]
          go_wp2_with fail
          go_round
          case rel => exact ⟨j + 1, by omega, by omega, by go_num, take_eq_step HT.out X.out Y.out⟩
          case measure => simp [intOf]; omega
        · have F := Lib.hid (cmpL_at HT.out X.out Y.out hxy)
          have hc : (cmpI x y != 0) = true := by unfold cmpI; split <;> (try split) <;> simp <;> omega
          go_wp2_with fail
          refine (compareI_any x y _).mono ?_
          rintro e w1 ⟨rfl, rfl⟩
          generalize cmpI x y = z at F hc
          go_wp2_with fail
          go_ret
          exact ⟨ret_int F.out.symm, rfl⟩
      · have X := Lib.hid hx
        clear hx
        have i1 : (j : Int) < (l.length : Int) := by omega
        have i2 : (m.length : Int) ≤ (j : Int) := by omega
        have F := Lib.hid (cmpL_more HT.out hlt (by omega))
        go_wp2_with fail
        go_ret
        exact ⟨ret_int F.out.symm, rfl⟩
    · have i1 : ¬ (j : Int) < (l.length : Int) := by omega
      by_cases hlen : l.length < m.length
      · have F := Lib.hid (cmpL_less HT.out (by omega) hlen)
        have i2 : (l.length : Int) < (m.length : Int) := by omega
        go_wp2_with fail
        go_ret
        exact ⟨ret_int F.out.symm, rfl⟩
      · have F := Lib.hid (cmpL_same HT.out (by omega) (by omega))
        have i2 : ¬ (l.length : Int) < (m.length : Int) := by omega
        go_wp2_with fail
        go_ret
        exact ⟨ret_int F.out.symm, rfl⟩
theorem implRowLess_q (a b : Option Addr) (c d : Nat) (l m : List Int) (w : World) (h : Rd w .i64 a l) (k : Rd w .i64 b m) (hn : l.length ≤ maxLen) (hm : m.length ≤ maxLen) :
    Calls Tryz.prog 58 #[.slice a l.length c, .slice b m.length d] w fun e w' => e = .returned (.bool (lessL l m)) ∧ w = w' := by
  have H := Lib.hid h; clear h
  have K := Lib.hid k; clear k
  have E := Lib.hid (cmpL_neg l m)
  go_enter Tryz.func58, Tryz.ntmps58
  go_wp2_with fail
  refine (compareL_any a b c d l m _ H.out K.out hn hm).mono ?_
  rintro e w1 ⟨rfl, rfl⟩
  go_wp2_with fail
  go_ret
  exact ⟨ret_bool E.out, rfl⟩
def sortO (l : List (List Int)) : List (List Int) := if 200 < l.length then [] else sortL lessL l
theorem sortL_mem {l : List (List Int)} {r : List Int} (h : r ∈ sortL lessL l) : r ∈ l := (sortL_asc wkL l).2.mem wkL h
theorem MadeR.base {w w' w2 : World} {l : List (List Int)} {e : Ending} (h : MadeR w2 l e w') (hb : Below w.heap.size w w2) : MadeR w l e w' := by
  obtain ⟨ao, c, h1, h2, h3, h4, h5⟩ := h
  exact ⟨ao, c, h1, h2.base_le hb.size, h3, h4, below_step hb (Nat.le_refl _) h5⟩
set_option maxRecDepth 100000 in
set_option maxHeartbeats 1600000 in
theorem implSortRows_any (a : Option Addr) (c : Nat) (l : List (List Int)) (w : World) (h : RdR w a l) (hl : l.length ≤ 1048576) (hr : ∀ r ∈ l, r.length ≤ 1048576) :
    Calls Tryz.prog 16 #[.slice a l.length c] w (MadeR w (sortO l)) := by
  by_cases hlt : 200 < l.length
  · have E : Hid (sortO l = []) := by show _ = _; unfold sortO; rw [if_pos hlt]
    have h2 : (200 : Int) < (l.length : Int) := by omega
    go_enter Tryz.func16, Tryz.ntmps16
    go_wp2_with fail
    go_ret
    rw [E.out]
    exact ⟨none, 0, rfl, .inl rfl, Nat.zero_le _, Nat.zero_le _, Below.refl _ _⟩
  · have E : Hid (sortO l = sortL lessL l) := by show _ = _; unfold sortO; rw [if_neg hlt]
    have h2 : (l.length : Int) ≤ 200 := by omega
    obtain ⟨zs, hz, hL⟩ := h.els c
    have hzl : zs.length = l.length := by rw [← hz, rowsE_len]
    obtain ⟨w1, hw1⟩ : ∃ w1, w1 = w.alloc (.cells #[.slice a l.length c] 29) := ⟨_, rfl⟩
    have b1 : Below w.heap.size w w1 := by rw [hw1]; exact (Below.refl _ w).alloc (Nat.le_refl _) _
    have c1 : w1.cell? ⟨w.heap.size, 0, none⟩ = some (.slice a l.length c) := by rw [hw1]; simp
    have s1 : w1.heap.size = w.heap.size + 1 := by rw [hw1]; simp
    have VAL : Aside _ := callsIn_wide.1 (valuesR_in Fence.wide 1 trivial rfl a l.length c w)
    rw [← hw1] at VAL
    have SRT : Aside _ := sortedR_any (wb := w) (fun x y => lessL x.1.r y.1.r) (wkOf wkL fun x : Els w => x.1.r) 58 #[] (enters_of Tryz.func58 (by kernel_rfl) rfl) 106 w.heap.size #[.pointer (some ⟨w.heap.size, 0, none⟩)] (enters_of Tryz.func106 (by kernel_rfl) rfl) zs (fun pre => pre <+: zs) (by omega) w1 (by omega)
      (fun W hW => valuesR_stops Fence.wide 2 trivial rfl (by omega) w.heap.size w.heap.size (.slice a l.length c) zs (by omega) W (by have := hW.size; omega) (by have := hW.size; omega) ((hW.cell (p := ⟨w.heap.size, 0, none⟩) (by show w.heap.size < _; omega)).trans c1) (hL.below (b1.trans (hW.mono (by omega)))))
      (fun W hW x _ y _ => (implRowLess_q x.1.a y.1.a x.1.c y.1.c x.1.r y.1.r W (x.2.1.below (b1.trans (hW.mono (by omega)))) (y.2.1.below (b1.trans (hW.mono (by omega)))) (Nat.le_trans x.2.2.1 x.2.2.2) (Nat.le_trans y.2.2.1 y.2.2.2)).mono fun e w' ⟨h1, h2⟩ => ⟨h1, 0, h2.symm⟩)
    have HR : Hid _ := hr
    have HZ : Hid _ := hz
    have B1 : Hid _ := b1
    have HZL : Hid _ := hzl
    have hlz : l.length ≤ 9223372036854775807 := by omega
    clear h hL hz hr c1 s1 hw1 b1 hzl hlt
    go_enter Tryz.func16, Tryz.ntmps16
    go_wp2_with fail
    refine Calls.mono VAL.out ?_
    rintro e w1' ⟨rfl, rfl⟩
    go_wp2_with fail
    refine Calls.mono SRT.out ?_
    rintro e w2 ⟨v, rfl, h3, _, h4⟩
    have B2 : Hid (Below w.heap.size w w2) := below_step B1.out (Nat.le_refl _) h4
    have EQ : Hid (rowsE (sortL (fun x y : Els w => lessL x.1.r y.1.r) zs) = sortL lessL l) := by
      show _ = _
      rw [← HZ.out]
      exact sortL_map (fun x : Els w => x.1.r) lessL zs
    obtain ⟨ao, n, cc, rfl⟩ : ∃ ao n cc, v = .slice ao n cc := by
      rcases h3.2 with ⟨rfl, _⟩ | ⟨g, cap, cur, rfl, _⟩
      · exact ⟨_, _, _, rfl⟩
      · exact ⟨_, _, _, rfl⟩
    have hn : n = zs.length := by
      rcases h3.2 with ⟨e, h⟩ | ⟨g, cap, cur, e, _⟩
      · simp only [Value.slice.injEq] at e; omega
      · simp only [Value.slice.injEq] at e; exact e.2.1
    have RD : Hid (RdR w2 ao (sortL lessL l)) := by
      rw [← EQ.out]
      rw [← hn] at h3
      exact owns_rdR (v := .slice ao n cc) h3 B2.out
    have hn2 : n = (sortL lessL l).length := by rw [hn, sortL_len, HZL.out]
    subst hn2
    have CP : Aside _ := copyRows_any ao cc (sortL lessL l) w2 RD.out (by rw [sortL_len]; exact hl) (fun r hm => Nat.le_trans (HR.out r (sortL_mem hm)) (by omega))
    clear h3 h4 SRT VAL hn
    go_wp2_with fail
    refine Calls.mono CP.out ?_
    intro e w3 h5
    have M : Hid _ := h5.base B2.out
    obtain ⟨ao3, c3, rfl, _⟩ := h5
    clear CP
    go_wp2_with fail
    go_ret
    rw [E.out]
    exact M.out
set_option maxHeartbeats 1600000 in
theorem l01CopyL_any (a : Option Addr) (c : Nat) (l : List Int) (w : World) (h : Rd w .i64 a l) (hl : l.length ≤ 1048576) :
    Calls Tryz.prog 85 #[.slice a l.length c] w (Made w 3 .i64 l) := by
  have H := Lib.hid h; clear h
  have O0 := Lib.hid (own_empty (w := w) (base := w.heap.size) (e := 3) (k := .i64) (Nat.le_refl _))
  have B0 := Lib.hid ((Below.refl w.heap.size w).alloc (Nat.le_refl _) (.cells #[] 3))
  go_enter Tryz.func85, Tryz.ntmps85
  go_wp2_with fail
  go_loopw [3, 4] (fun s i wr => ∃ (j : Nat) (ao : Option Addr) (cc : Nat), j ≤ l.length ∧ i = .int .i64 j ∧ s = .slice ao j cc ∧ Own wr w.heap.size 3 .i64 ao cc (l.take j) ∧ Below w.heap.size w wr) (fun _ i _ => l.length - (intOf i).toNat)
  case atStart => exact ⟨0, _, _, Nat.zero_le _, rfl, rfl, O0.out, B0.out⟩
  case round =>
    clear O0 B0
    obtain ⟨j, ao, cc, hj, rfl, rfl, ho, hb⟩ := hrel
    have HO := Lib.hid ho; have HB := Lib.hid hb
    by_cases hlt : j < l.length
    · obtain ⟨b, off, rfl, hc⟩ : ∃ b off, a = some ⟨b, off, none⟩ ∧ ∀ i, i < l.length → wr.cell? ⟨b, off + i, none⟩ = some (.int .i64 (l.getD i 0)) := by
        rcases H.out.below hb with rfl | h'
        · simp at hlt
        · exact h'
      obtain ⟨z, _, _, hcz, ht⟩ := Rd.at_ hc hlt
      have HT := Lib.hid ht
      have hlen : (l.take j).length = j := by simp; omega
      have HL := Lib.hid hlen
      clear ho hb hc ht hlen
      go_wp2_with (at_builtin; refine wpList_appendI _ rfl (.tmp 12) (.tmp 17) 34 rfl w.heap.size 3 Tryz.underlying34 Tryz.infoInt ao cc j (l.take j) rfl HL.out.symm (HO.out.alloc _) wr.heap.size 1 z rfl (cell_one _ _ _) (by have := HL.out; omega) (by have := HB.out.size; simp; omega) ?_; intro ao2 c2 w2 o2 g2; have b2 := below_app HB.out HO.out g2; have O2 := Lib.hid o2; have B2 := Lib.hid b2; clear o2 g2 b2)
      go_roundw
      case rel => exact ⟨j + 1, ao2, c2, by omega, by go_num, by first | rfl | rw [HL.out], by rw [HT.out]; exact O2.out, B2.out⟩
      case measure => simp [intOf]; omega
    · obtain rfl : j = l.length := by omega
      clear ho hb
      go_wp2_with fail
      go_ret
      refine ⟨ao, cc, rfl, ?_, HB.out⟩
      have := HO.out
      rwa [List.take_length] at this
theorem below_appV {B : Nat} {w wr w1 : World} {e : TypeId} {ao : Option Addr} {c : Nat} {xs : List Value} {o : Obj} (hb : Below B w wr) (hB : B ≤ wr.heap.size) (ho : OwnV wr B e ao c xs) (hg : (wr.alloc o).grownBy w1 (ao.map (·.block))) : Below B w w1 := by
  refine (hb.alloc hB o).grown hg (by simp; omega) ?_
  intro g hg'
  rcases ao with _ | a
  · cases hg'
  · simp at hg'; subst hg'; exact (ho.lt a rfl).1
theorem OwnV.cap_le {w : World} {base : Nat} {e : TypeId} {ao : Option Addr} {c : Nat} {xs : List Value} (h : OwnV w base e ao c xs) : c ≤ maxLen := by
  rcases h.2 with ⟨hv, _⟩ | ⟨g, cap, cur, hv, _, _, _, h2, _⟩
  · simp only [Value.slice.injEq] at hv; rw [hv.2.2]; exact Nat.zero_le _
  · simp only [Value.slice.injEq] at hv; rw [hv.2.2]; exact h2
set_option maxRecDepth 100000 in
set_option maxHeartbeats 1600000 in
theorem l04Copy_any (ao : Option Addr) (c : Nat) (l : List (List Int)) (w : World) (h : RdR w ao l) (hl : l.length ≤ 1048576) (hr : ∀ r ∈ l, r.length ≤ 1048576) :
    Calls Tryz.prog 46 #[.slice ao l.length c] w (MadeR w l) := by
  have H := Lib.hid (h)
  have HR := Lib.hid (hr)
  have P0 : Hid (∃ xs A C, PartR (w.alloc (.cells #[] 34)) w.heap.size w.heap.size 0 0 l 0 xs A C) := ⟨_, _, _, PartR.start w l⟩
  have B0 := Lib.hid ((Below.refl w.heap.size w).alloc (Nat.le_refl _) (.cells #[] 34))
  clear h hr
  go_enter Tryz.func46, Tryz.ntmps46
  go_wp2_with fail
  go_loopw [3, 4] (fun s i wr => ∃ (j g cc : Nat), j ≤ l.length ∧ i = .int .i64 j ∧ s = .slice (some ⟨g, 0, none⟩) j cc ∧ cc ≤ maxLen ∧ (∃ xs A C, PartR wr w.heap.size g cc j l j xs A C) ∧ Below w.heap.size w wr) (fun _ i _ => l.length - (intOf i).toNat)
  case atStart => exact ⟨0, _, _, Nat.zero_le _, rfl, rfl, Nat.zero_le _, P0.out, B0.out⟩
  case round =>
    clear P0 B0
    obtain ⟨j, g, cc, hj, rfl, rfl, hcc, ⟨xs, A, C, hp⟩, hb⟩ := hrel
    have HP := Lib.hid (hp)
    have HB := Lib.hid (hb)
    have HCC := Lib.hid (hcc)
    by_cases hlt : j < l.length
    · obtain ⟨b, off, r, a, c', rfl, hn, ⟨c0, rd, cx, mx⟩⟩ := (H.out.below hb).at_ hlt
      have HN := Lib.hid (hn)
      have RD := Lib.hid (rd)
      have RL := Lib.hid (HR.out r (List.mem_of_getElem? hn))
      have XL : Hid (xs.length = j) := by have := hp.own.1; show _ = _; omega
      clear hn hp hb rd cx mx hcc
      have T := Lib.hid (fun w => l01CopyL_any a c' r w)
      go_wp2_with fail
      refine (T.out _ RD.out RL.out).mono ?_
      rintro e w2 ⟨a2, c2, rfl, o2, b2⟩
      have O2 := Lib.hid (o2)
      have B2 := Lib.hid (b2)
      have OV : Hid (OwnV w2 w.heap.size 34 (some ⟨g, 0, none⟩) cc xs) := by
        have := (HP.out.below b2).own
        show World.ownsRow _ _ _ _ _ _ _
        rw [XL.out]
        exact this
      clear o2 b2 c0
      go_wp2_with (at_builtin; refine wpList_appendV _ rfl (.tmp 12) (.tmp 18) 29 rfl w.heap.size 34 (.slice none 0 0) 24 Tryz.underlying29 infoRw rfl (some ⟨g, 0, none⟩) cc j xs rfl XL.out.symm (OV.out.alloc _) w2.heap.size 1 (.slice a2 r.length c2) rfl (cell_one _ _ _) rfl (by have := XL.out; unfold maxLen; omega) (by have := XL.out; omega) (by have := HB.out.size; have := B2.out.size; simp; omega) ?_; intro ao3 c3 w3 o3 g3 k3; obtain ⟨g', rfl, hp'⟩ := HP.out.push HN.out (B2.out.trans ((Below.refl _ w2).alloc B2.out.size _)) (O2.out.alloc _) HB.out.size o3 g3 k3; have P3 := Lib.hid hp'; have M3 := Lib.hid o3.cap_le; have B3 := Lib.hid (below_appV (o := .cells #[.slice a2 r.length c2] 34) (below_step HB.out (Nat.le_refl _) B2.out) (Nat.le_trans HB.out.size B2.out.size) OV.out g3); clear o3 g3 k3 hp')
      rw [XL.out]
      go_roundw
      case rel => exact ⟨j + 1, g', c3, by omega, by go_num, rfl, M3.out, ⟨_, _, _, P3.out⟩, B3.out⟩
      case measure => simp [intOf]; omega
    · obtain rfl : j = l.length := by omega
      have CG : Hid (l.length ≤ cc) := by
        rcases hp.own.2 with ⟨e, _⟩ | ⟨q, cap, cur, e, _, _, h1, _⟩
        · cases e
        · simp only [Value.slice.injEq] at e; rw [e.2.2]; exact h1
      clear hp hb hcc
      go_wp2_with fail
      go_ret
      exact ⟨_, _, rfl, .inr ⟨_, _, _, _, rfl, HP.out⟩, CG.out, HCC.out, HB.out⟩
end Go.Proofs.YtanfllednlpbaaaGreat
