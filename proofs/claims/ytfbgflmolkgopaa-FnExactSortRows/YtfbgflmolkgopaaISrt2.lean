/-
  Contract of impl.sorted at rows, whole: whatever comes one by one, sorted, those of which none is less in their order.
-/
import Derived.Test.YtfbgflmolkgopaaISrt
namespace Go.Proofs.Ytfbgflmolkgopaa
open Go.RowKit Go.Shelf Go.Lib Go.Sort
set_option linter.unusedSimpArgs false
set_option linter.unusedVariables false

/-- A world of the sort's: below the row's block nothing has turned. -/
theorem below_sortWorld {α : Type} [Inhabited α] {enc : α → Value} {B : Nat} {w w0 W : World} {g : Nat} {d : Array α} (h : Below B w w0) (hg : B ≤ g) (hB : B ≤ w0.heap.size) (S : SW enc w0 g 0 d W) : Below B w W := by
  obtain ⟨m, os, rfl⟩ := S
  unfold sortWorld
  have h1 : Below B w (putRow enc (Sort.ahead w0 m) g 0 d) := below_putRow h hg
  refine ⟨h1.os, h1.tape, h1.output, ?_, fun k hk => ?_⟩
  · rw [size_grow]; exact Nat.le_trans h1.size (Nat.le_add_right _ _)
  · rw [← h1.block k hk]
    show ((putRow enc (Sort.ahead w0 m) g 0 d).heap ++ os)[k]? = _
    rw [Array.getElem?_append_left (by rw [size_putRow]; exact Nat.lt_of_lt_of_le hk hB)]
theorem owns_sortWorld {α : Type} [Inhabited α] {enc : α → Value} {w0 W : World} {base : Nat} {e : TypeId} {g n cap : Nat} {zs ys : List α} (h : w0.ownsRow base e 1 (.slice (some ⟨g, 0, none⟩) n cap) n (zs.map enc)) (hy : ys.length = n) (S : SW enc w0 g 0 ys.toArray W) :
    W.ownsRow base e 1 (.slice (some ⟨g, 0, none⟩) n cap) n (ys.map enc) := by
  obtain ⟨m, os, rfl⟩ := S
  have h1 := ownsRow_putRow (q := m) (k := n) h hy (Nat.le_refl _)
  rw [List.take_of_length_le (by omega)] at h1
  unfold sortWorld
  refine owns_keep h1 ?_
  show ((putRow enc (Sort.ahead w0 m) g 0 ys.toArray).heap ++ os)[g]? = _
  rw [Array.getElem?_append_left (owns_block h1).2]

set_option maxRecDepth 100000 in
theorem insertion_nil (f : Value) (w : World) : Calls Try.prog 114 #[.slice none 0 0, .int .i64 0, .int .i64 0, f] w fun e w' => e = .returned (.tuple #[]) ∧ w = w' := by
  go_enter Try.func114, Try.ntmps114
  go_wp2_with fail
  go_loopw [8] (fun i wr => i = .int .i64 1 ∧ w = wr) (fun _ _ => 0)
  case atStart => exact ⟨rfl, rfl⟩
  case round =>
    obtain ⟨rfl, rfl⟩ := hrel
    go_wp2
    go_end0
    exact ⟨rfl, rfl⟩
set_option maxRecDepth 100000 in
theorem stable_nil (f : Value) (w : World) : Calls Try.prog 110 #[.slice none 0 0, .int .i64 0, f] w fun e w' => e = .returned (.tuple #[]) ∧ w = w' := by
  go_enter Try.func110, Try.ntmps110
  go_wp2_with fail
  go_loopw [7, 8] (fun s t wr => s = .int .i64 0 ∧ t = .int .i64 20 ∧ w = wr) (fun _ _ _ => 0)
  case atStart => exact ⟨rfl, rfl, rfl⟩
  case round =>
    obtain ⟨rfl, rfl, rfl⟩ := hrel
    go_wp2_with fail
    refine (insertion_nil f _).mono ?_
    rintro e w1 ⟨rfl, rfl⟩
    go_wp2_with fail
    go_loopw [6, 7, 8, 9] (fun s _ _ _ wr => s = .int .i64 20 ∧ w = wr) (fun _ _ _ _ _ => 0)
    case atStart => exact ⟨rfl, rfl⟩
    case round =>
      obtain ⟨rfl, rfl⟩ := hrel
      go_wp2
      go_end0
      exact ⟨rfl, rfl⟩

/-- What a sort in place ends in. -/
def SortPost {wb : World} (lt : Els wb → Els wb → Bool) (base B : Nat) (v : Value) (zs : List (Els wb)) (w : World) (e : Ending) (W' : World) : Prop :=
  e = .returned (.tuple #[]) ∧ W'.ownsRow base 32 1 v zs.length ((sortL lt zs).map encE) ∧ Below B w W'

theorem oneE {wb : World} : OneCell (encE (w := wb)) := fun _ => rfl

set_option maxHeartbeats 1000000 in
theorem sortStableR_any {wb : World} (lt : Els wb → Els wb → Bool) (hw : Wk lt) (f Bl B : Nat) (lb : Array Value) (w0 : World) (ef : ∀ args w, (callFunc f args).run Try.prog w = .ok (.enter f args) w) (base : Nat) (hB : B ≤ base) (hBl : Bl < B) (hBw : B ≤ w0.heap.size) (v : Value) (zs : List (Els wb)) (hlen : zs.length ≤ 1048576)
    (hown : w0.ownsRow base 32 1 v zs.length (zs.map encE)) (hcell : w0.cell? ⟨Bl, 0, none⟩ = some (.func (.func f) #[] lb))
    (hless : ∀ W, Below B w0 W → ∀ x y : Els wb, Calls Try.prog f (#[encE x, encE y] ++ lb) W fun e w' => e = .returned (.bool (lt x y)) ∧ w' = W) :
    Calls Try.prog 100 #[v, .func (.func 77) #[] #[.pointer (some ⟨Bl, 0, none⟩)]] w0 (SortPost lt base B v zs w0) := by
  by_cases hv : v = .slice none 0 0
  · subst hv
    have h0 : zs = [] := by
      rcases hown.2 with ⟨_, h⟩ | ⟨g, cap, cur, h, _⟩
      · exact List.eq_nil_of_length_eq_zero h
      · cases h
    subst h0
    have HO : Hid (w0.ownsRow base 32 1 (.slice none 0 0) 0 []) := hown
    clear hown hcell hless
    go_enter Try.func100, Try.ntmps100
    go_wp2_with fail
    refine (stable_nil _ _).mono ?_
    rintro e w1 ⟨rfl, rfl⟩
    go_wp2_with fail
    go_end0
    exact ⟨rfl, HO.out, Below.refl _ _⟩
  · obtain ⟨g, cap, rfl, hb, hg, hn, hm, hl, hH⟩ := holds_of_ownsRow hown hv
    have hbg : B ≤ g := Nat.le_trans hB hb
    have hR : Row1 (encE (w := wb)) w0 g 0 zs.toArray := ⟨oneE, hH, hg⟩
    have hC : CmpLays1 Try.prog 77 #[.pointer (some ⟨Bl, 0, none⟩)] (encE (w := wb)) (cfOf lt) g 0 zs.toArray.size w0 := by
      intro m os dk hs x y
      have hS : SW (encE (w := wb)) w0 g 0 dk (sortWorld encE w0 g 0 m dk os) := ⟨m, os, rfl⟩
      have hbl : Below B w0 (sortWorld encE w0 g 0 m dk os) := below_sortWorld (Below.refl _ _) hbg hBw hS
      refine (sortedCmp_any lt f Bl lb _ ef ((hbl.cell (p := ⟨Bl, 0, none⟩) hBl).trans hcell) (hless _ hbl) x y).mono ?_
      rintro e w' ⟨he, rfl⟩
      exact ⟨he, 0, #[], by rw [grow_empty]; rfl⟩
    have ST := stable_s encE (cfOf lt) 77 #[.pointer (some ⟨Bl, 0, none⟩)] g 0 cap zs.toArray w0 w0 zs (enters_of Try.func77 (by kernel_rfl) rfl) hC (by rw [ltOf_cfOf]; exact hw) hR (by simpa using hlen) (by simp) (SW.start hH)
    rw [List.size_toArray] at ST
    have S0 : Aside _ := ST
    have HO : Hid _ := hown
    clear ST hC hR hown hcell hless hH hv
    have hlz : zs.length ≤ 9223372036854775807 := by omega
    go_enter Try.func100, Try.ntmps100
    go_wp2_with fail
    refine Calls.mono S0.out ?_
    rintro e w1 ⟨rfl, Z, hZ, hS⟩
    have E : Z = sortL lt zs := by rw [ltOf_cfOf] at hZ; exact sortL_uniq hw hZ.1 hZ.2.1
    have F1 : Hid _ := owns_sortWorld HO.out hZ.len hS
    have F2 : Hid _ := below_sortWorld (Below.refl B w0) hbg hBw hS
    rw [E] at F1
    clear hZ hS E
    go_wp2_with fail
    go_end0
    exact ⟨rfl, F1.out, F2.out⟩

theorem collectR_any (g n₀ : Nat) (lb : Array Value) (eg : ∀ args w, (callFunc g args).run Try.prog w = .ok (.enter g args) w) {wb : World} (zs : List (Els wb)) (Sp : List (Els wb) → Prop) (hlen : zs.length ≤ 1048576) (w : World) (hn₀ : n₀ ≤ w.heap.size)
    (hseq : ∀ W, Below w.heap.size w W → SeqStopsK Fence.wide 2 Try.prog g lb (fun x : Els wb => #[encE x]) (Below n₀) (fun ys => ys = zs) Sp zs.length W) :
    Calls Try.prog 99 #[.func (.func g) #[] lb] w fun e W' => ∃ v, e = .returned v ∧ W'.ownsRow w.heap.size 32 1 v zs.length (zs.map encE) ∧ (v = .slice none 0 0 ↔ zs = []) ∧ Below w.heap.size w W' := by
  have A : Aside _ := callsIn_wide.1 (appendSeqR_in Fence.wide 3 trivial rfl (by omega) g n₀ lb trivial eg zs Sp hlen w hn₀ hseq)
  clear hseq
  go_enter Try.func99, Try.ntmps99
  go_wp2_with fail
  refine Calls.mono A.out ?_
  rintro e w1 ⟨v, rfl, h1, h2, h3⟩
  have H : Hid _ := And.intro h1 (And.intro h2 h3)
  clear h1 h2 h3
  go_wp2_with fail
  go_ret
  exact ⟨v, rfl, H.out⟩

/-- What impl.sorted ends in. -/
def SortedPost {wb : World} (lt : Els wb → Els wb → Bool) (zs : List (Els wb)) (w : World) (e : Ending) (W' : World) : Prop :=
  ∃ v, e = .returned v ∧ W'.ownsRow w.heap.size 32 1 v zs.length ((sortL lt zs).map encE) ∧ (v = .slice none 0 0 ↔ zs = []) ∧ Below w.heap.size w W'

set_option maxHeartbeats 1000000 in
theorem sortedR_any {wb : World} (lt : Els wb → Els wb → Bool) (hw : Wk lt) (f : Nat) (lb : Array Value) (ef : ∀ args w, (callFunc f args).run Try.prog w = .ok (.enter f args) w)
    (g n₀ : Nat) (lg : Array Value) (eg : ∀ args w, (callFunc g args).run Try.prog w = .ok (.enter g args) w) (zs : List (Els wb)) (Sp : List (Els wb) → Prop) (hlen : zs.length ≤ 1048576) (w : World) (hn₀ : n₀ ≤ w.heap.size)
    (hseq : ∀ W, Below w.heap.size w W → SeqStopsK Fence.wide 2 Try.prog g lg (fun x : Els wb => #[encE x]) (Below n₀) (fun ys => ys = zs) Sp zs.length W)
    (hless : ∀ W, Below w.heap.size w W → ∀ x y : Els wb, Calls Try.prog f (#[encE x, encE y] ++ lb) W fun e w' => e = .returned (.bool (lt x y)) ∧ w' = W) :
    Calls Try.prog 51 #[.func (.func g) #[] lg, .func (.func f) #[] lb] w (SortedPost lt zs w) := by
  have SQ : Aside _ := hseq
  have LS : Aside _ := hless
  clear hseq hless
  obtain ⟨w1, hw1⟩ : ∃ w1, w1 = w.alloc (.cells #[.func (.func f) #[] lb] 71) := ⟨_, rfl⟩
  have b1 : Below w.heap.size w w1 := by rw [hw1]; exact (Below.refl _ w).alloc (Nat.le_refl _) _
  have c1 : w1.cell? ⟨w.heap.size, 0, none⟩ = some (.func (.func f) #[] lb) := by rw [hw1]; simp
  have s1 : w1.heap.size = w.heap.size + 1 := by rw [hw1]; simp
  have HW1 : Hid _ := hw1
  have s2 : w.heap.size < w1.heap.size := by omega
  clear hw1 s1
  have SRT : Aside (Calls Try.prog 76 #[.func (.func g) #[] lg, .func (.func 77) #[] #[.pointer (some ⟨w.heap.size, 0, none⟩)]] w1 (SortedPost lt zs w)) := by
    show Calls _ _ _ _ _
    have C : Aside _ := collectR_any g n₀ lg eg zs Sp hlen w1 (by omega) (fun W hW => SQ.out W (b1.trans (hW.mono (by omega))))
    go_enter Try.func76, Try.ntmps76
    go_wp2_with fail
    refine Calls.mono C.out ?_
    rintro e w2 ⟨v, rfl, h1, h2, h3⟩
    have S : Aside _ := sortStableR_any lt hw f w.heap.size w1.heap.size lb w2 ef w1.heap.size (Nat.le_refl _) (by omega) h3.size v zs hlen h1 ((h3.cell (p := ⟨w.heap.size, 0, none⟩) (by show w.heap.size < _; omega)).trans c1) (fun W hW => LS.out W (b1.trans ((h3.trans hW).mono (by omega))))
    have H2 : Hid _ := h2
    have H3 : Hid _ := h3
    clear h1 h2 h3 C
    go_wp2_with fail
    refine Calls.mono S.out ?_
    rintro e w3 ⟨rfl, k1, k2⟩
    have K : Hid _ := And.intro k1 k2
    clear k1 k2 S
    go_wp2_with fail
    go_ret
    refine ⟨v, rfl, ?_, H2.out, b1.trans ((H3.out.trans K.out.2).mono (by omega))⟩
    exact (by
      have h := K.out.1
      refine ⟨h.1, ?_⟩
      rcases h.2 with h' | ⟨q, cap, cur, e, hb, r⟩
      · exact .inl h'
      · exact .inr ⟨q, cap, cur, e, by omega, r⟩)
  rw [HW1.out] at SRT
  clear b1 c1 s2 HW1 SQ LS
  go_enter Try.func51, Try.ntmps51
  go_wp2_with fail
  refine Calls.mono SRT.out ?_
  rintro e w2 ⟨v, rfl, h⟩
  have H : Hid _ := h
  clear h SRT
  go_wp2_with fail
  go_ret
  exact ⟨v, rfl, H.out⟩
end Go.Proofs.Ytfbgflmolkgopaa
