/-
  Contracts of spec.SameRows, spec.CountSame and spec.ColumnOf. For every slice of rows. Contracts of spec.SameBag and impl.SameBag. For every two slices of rows. What FnRows says of sorted rows: in their order, each as often as before; a column as long as the rows are many. Plain facts; no program, no walk. What a plan gives over a store: each node's rows, from the rows of its children. Plain facts; no walk. How many rows each node of a plan has, by place; the same told by the tree that writes them, children first. Plain facts; no walk.
-/
import Derived.Test.YtanfllednlpbaaaGreatM22x
import Derived.Test.YtanfllednlpbaaaGreatM24x
import Derived.Test.YtanfllednlpbaaaGreatM6x
import Derived.Deep.RegionWith
import Derived.Test.YtanfllednlpbaaaGreatM18x
import Derived.Test.YtanfllednlpbaaaGreatM11x
namespace Go.Proofs.YtanfllednlpbaaaGreat
open Go.RowKit
set_option linter.unusedSimpArgs false
set_option linter.unusedVariables false
set_option maxRecDepth 100000 in
set_option maxHeartbeats 1600000 in
theorem specCountSame_any (a b : Option Addr) (c d : Nat) (l : List (List Int)) (r : List Int) (w : World) (h : RdR w a l) (k : Rd w .i64 b r) (hn : l.length ≤ 1048576) (hm : r.length ≤ maxLen) :
    Calls Tryz.prog 117 #[.slice a l.length c, .slice b r.length d] w fun e w' => e = .returned (.int .i64 (countL l r)) ∧ Below w.heap.size w w' := by
  have H := Lib.hid h; clear h
  have K := Lib.hid k; clear k
  go_enter Tryz.func117, Tryz.ntmps117
  go_wp2_with fail
  go_loopw [5, 6] (fun q i wr => ∃ j : Nat, j ≤ l.length ∧ i = .int .i64 j ∧ q = .int .i64 (countL (l.take j) r) ∧ Below w.heap.size w wr) (fun _ i _ => l.length - (intOf i).toNat)
  case atStart => exact ⟨0, Nat.zero_le _, rfl, rfl, Below.refl _ _⟩
  case round =>
    obtain ⟨j, hj, rfl, rfl, hb⟩ := hrel
    have q0 := countL_take_le l j r
    by_cases hlt : j < l.length
    · obtain ⟨b1, o1, x, a1, c1, rfl, hx, ⟨e0, rx, cx, mx⟩⟩ := (H.out.below hb).at_ hlt
      have X := Lib.hid hx; have HB := Lib.hid hb; have RX := Lib.hid rx
      have RK := Lib.hid (K.out.below hb)
      have CT := Lib.hid (countL_take (r := r) hx)
      have lx := Nat.le_trans cx mx
      clear hx hb rx cx mx
      cases hxy : eqL x r with
      | true =>
        have Q := Lib.hid hxy; clear hxy
        go_wp2_with fail
        refine (sameInts_any a1 b c1 d x r _ RX.out RK.out lx hm).mono ?_
        rintro e w1 ⟨rfl, b1⟩
        rw [Q.out]
        have T1 := Lib.hid (below_step HB.out (Nat.le_refl _) b1)
        clear b1
        go_wp2_with fail
        go_roundw
        case rel => exact ⟨j + 1, by omega, by go_num, by rw [CT.out, Q.out]; simp, T1.out⟩
        case measure => simp [intOf]; omega
      | false =>
        have Q := Lib.hid hxy; clear hxy
        go_wp2_with fail
        refine (sameInts_any a1 b c1 d x r _ RX.out RK.out lx hm).mono ?_
        rintro e w1 ⟨rfl, b1⟩
        rw [Q.out]
        have T1 := Lib.hid (below_step HB.out (Nat.le_refl _) b1)
        clear b1
        go_wp2_with fail
        go_roundw
        case rel => exact ⟨j + 1, by omega, by go_num, by rw [CT.out, Q.out]; simp, T1.out⟩
        case measure => simp [intOf]; omega
    · obtain rfl : j = l.length := by omega
      have HB := Lib.hid hb; clear hb
      go_wp2_with fail
      go_ret
      exact ⟨ret_int (by rw [List.take_length]), HB.out⟩
theorem sortO_len (l : List (List Int)) : (sortO l).length ≤ l.length := by
  unfold sortO
  split
  · simp
  · rw [sortL_len]; exact Nat.le_refl _
def bagB (l m : List (List Int)) : Bool := decide (l.length ≤ 200) && (decide (m.length ≤ 200) && eqR (sortO l) (sortO m))
theorem bagB_l {l m : List (List Int)} (h : 200 < l.length) : bagB l m = false := by unfold bagB; rw [decide_eq_false (by omega)]; rfl
theorem bagB_m {l m : List (List Int)} (h : 200 < m.length) : bagB l m = false := by unfold bagB; rw [decide_eq_false (p := m.length ≤ 200) (by omega)]; simp
theorem bagB_y {l m : List (List Int)} (h : l.length ≤ 200) (k : m.length ≤ 200) : bagB l m = eqR (sortO l) (sortO m) := by unfold bagB; rw [decide_eq_true h, decide_eq_true k]; rfl
set_option maxRecDepth 100000 in
theorem implSameBag_any (a b : Option Addr) (c d : Nat) (l m : List (List Int)) (w : World) (h : RdR w a l) (k : RdR w b m) (hl : l.length ≤ 1048576) (hm : m.length ≤ 1048576) (hr : ∀ r ∈ l, r.length ≤ 1048576) (hs : ∀ r ∈ m, r.length ≤ 1048576) :
    Calls Tryz.prog 17 #[.slice a l.length c, .slice b m.length d] w fun e w' => e = .returned (.bool (bagB l m)) ∧ Below w.heap.size w w' := by
  have H := Lib.hid h; have K := Lib.hid k; have HR := Lib.hid hr; have HS := Lib.hid hs
  clear h k hr hs
  have l9 : l.length ≤ 9223372036854775807 := by omega
  have m9 : m.length ≤ 9223372036854775807 := by omega
  by_cases h1 : 200 < l.length
  · have E := Lib.hid (bagB_l (m := m) h1)
    have z1 : (200 : Int) < (l.length : Int) := by omega
    go_enter Tryz.func17, Tryz.ntmps17
    go_wp2_with fail
    go_ret
    exact ⟨ret_bool E.out.symm, Below.refl _ _⟩
  · have z1 : (l.length : Int) ≤ 200 := by omega
    by_cases h2 : 200 < m.length
    · have E := Lib.hid (bagB_m (l := l) h2)
      have z2 : (200 : Int) < (m.length : Int) := by omega
      go_enter Tryz.func17, Tryz.ntmps17
      go_wp2_with fail
      go_ret
      exact ⟨ret_bool E.out.symm, Below.refl _ _⟩
    · have z2 : (m.length : Int) ≤ 200 := by omega
      have E := Lib.hid (bagB_y (l := l) (m := m) (by omega) (by omega))
      have L1 := Lib.hid (show (sortO l).length ≤ maxLen by have := sortO_len l; unfold maxLen; omega)
      have L2 := Lib.hid (show (sortO m).length ≤ maxLen by have := sortO_len m; unfold maxLen; omega)
      go_enter Tryz.func17, Tryz.ntmps17
      go_wp2_with fail
      refine (implSortRows_any a c l _ H.out hl HR.out).mono ?_
      rintro e w1 ⟨a1, c1, rfl, o1, _, _, b1⟩
      have B1 := Lib.hid b1
      have O1 := Lib.hid o1
      have K1 := Lib.hid (K.out.below b1)
      clear o1 b1
      go_wp2_with fail
      refine (implSortRows_any b d m _ K1.out hm HS.out).mono ?_
      rintro e w2 ⟨a2, c2, rfl, o2, _, _, b2⟩
      have B2 := Lib.hid (below_step B1.out (Nat.le_refl _) b2)
      have O1' := Lib.hid (O1.out.below b2).rd
      have O2 := Lib.hid o2.rd
      clear o2 b2
      go_wp2_with fail
      refine (implSameRows_any a1 a2 c1 c2 (sortO l) (sortO m) _ O1'.out O2.out L1.out L2.out).mono ?_
      rintro e w3 ⟨rfl, b3⟩
      have B3 := Lib.hid (below_step B2.out (Nat.le_refl _) b3)
      clear b3
      go_wp2_with fail
      go_ret
      exact ⟨ret_bool E.out.symm, B3.out⟩
theorem sortO_few {l : List (List Int)} (h : l.length ≤ 200) : sortO l = sortL lessL l := by unfold sortO; rw [if_neg (by omega)]
theorem sortO_many {l : List (List Int)} (h : 200 < l.length) : sortO l = [] := by unfold sortO; rw [if_pos h]
theorem sort_sort (l : List (List Int)) : sortL lessL (sortL lessL l) = sortL lessL l := (sortL_uniq wkL (sortL_asc wkL l).1 (SE.refl _)).symm
end Go.Proofs.YtanfllednlpbaaaGreat
namespace Go.Proofs.YtanfllednlpbaaaGreat
set_option linter.unusedSimpArgs false
set_option linter.unusedVariables false
abbrev RowsL := List (List Int)
def cellV (r : List Int) (c : Int) : Int := (r[c.toNat]?).getD 0
def holdV (n : Nd) (v : Int) : Bool :=
  if v = -2000000 then decide (n.op = 3)
  else if n.op = 0 then decide (v = n.num)
  else if n.op = 1 then decide (v < n.num)
  else if n.op = 2 then decide (n.num < v)
  else false
def filtL (n : Nd) (l : RowsL) : RowsL := l.filter fun r => holdV n (cellV r n.col)
def keepL (n : Nd) (l : RowsL) : RowsL := l.map fun r => n.cols.map (cellV r)
def meetB (n : Nd) (a b : List Int) : Bool := !decide (cellV a n.col = -2000000) && decide (cellV a n.col = cellV b n.num)
def joinRow (n : Nd) (a : List Int) (m : RowsL) : RowsL := (m.filter (meetB n a)).map (a ++ ·)
def joinL (n : Nd) (l m : RowsL) : RowsL := l.flatMap fun a => joinRow n a m
def lessC (c : Int) (a b : List Int) : Bool := decide (cellV a c < cellV b c)
def onceL (l : RowsL) : RowsL := l.foldl (fun out r => if countL out r = 0 then out ++ [r] else out) []
def on1 (n : Nd) (l : RowsL) : RowsL :=
  if n.kind = 1 then filtL n l
  else if n.kind = 2 then keepL n l
  else if n.kind = 5 then sortL (lessC n.col) l
  else if n.kind = 6 then l.take n.num.toNat
  else onceL l
def on2 (n : Nd) (l m : RowsL) : RowsL := if n.kind = 3 then joinL n l m else l ++ m
def few (l : RowsL) : Option RowsL := if l.length ≤ 200 then some l else none
abbrev Sto := Key → RowsL
def evT (g : Sto) : Tr → Option RowsL
  | .t0 n _ _ => few (g n.name.data.toList)
  | .t1 n _ _ c => match evT g c with
    | none => none
    | some l => few (on1 n l)
  | .t2 n _ _ c d => match evT g c with
    | none => none
    | some l => match evT g d with
      | none => none
      | some m => few (on2 n l m)
theorem few_some {l m : RowsL} (h : few l = some m) : m = l ∧ l.length ≤ 200 := by
  unfold few at h
  split at h
  · injection h with h; exact ⟨h.symm, by assumption⟩
  · cases h
theorem few_of {l : RowsL} (h : l.length ≤ 200) : few l = some l := by unfold few; rw [if_pos h]
theorem few_no {l : RowsL} (h : 200 < l.length) : few l = none := by unfold few; rw [if_neg (by omega)]
def AllW (v : Int) (l : RowsL) : Prop := ∀ r ∈ l, (r.length : Int) = v
theorem filt_w {n : Nd} {v : Int} {l : RowsL} (h : AllW v l) : AllW v (filtL n l) := fun r hr => h r (List.mem_filter.1 hr).1
theorem keep_w {n : Nd} {l : RowsL} : AllW n.cols.length (keepL n l) := by
  intro r hr
  unfold keepL at hr
  obtain ⟨x, _, rfl⟩ := List.mem_map.1 hr
  simp
theorem join_w {n : Nd} {v u : Int} {l m : RowsL} (h : AllW v l) (k : AllW u m) : AllW (v + u) (joinL n l m) := by
  intro r hr
  unfold joinL joinRow at hr
  obtain ⟨a, ha, hr⟩ := List.mem_flatMap.1 hr
  obtain ⟨b, hb, rfl⟩ := List.mem_map.1 hr
  have h1 := h a ha
  have h2 := k b (List.mem_filter.1 hb).1
  simp only [List.length_append]
  omega
theorem app_w {v : Int} {l m : RowsL} (h : AllW v l) (k : AllW v m) : AllW v (l ++ m) := by
  intro r hr
  rcases List.mem_append.1 hr with hr | hr
  · exact h r hr
  · exact k r hr
theorem insL_mem {α : Type} {lt : α → α → Bool} {x y : α} {l : List α} (h : y ∈ insL lt x l) : y = x ∨ y ∈ l := by
  obtain ⟨U, V, rfl, e, _⟩ := insL_parts (lt := lt) x l
  rw [e] at h
  simp only [List.mem_append, List.mem_singleton] at h ⊢
  rcases h with (h | h) | h
  · exact .inr (.inl h)
  · exact .inl h
  · exact .inr (.inr h)
theorem sort_mem {α : Type} {lt : α → α → Bool} {y : α} (l acc : List α) (h : y ∈ l.foldl (fun out x => insL lt x out) acc) : y ∈ acc ∨ y ∈ l := by
  induction l generalizing acc with
  | nil => exact .inl h
  | cons x l ih =>
    rw [List.foldl_cons] at h
    rcases ih _ h with h | h
    · rcases insL_mem h with rfl | h
      · exact .inr (by simp)
      · exact .inl h
    · exact .inr (by simp [h])
theorem sort_w {c v : Int} {l : RowsL} (h : AllW v l) : AllW v (sortL (lessC c) l) := by
  intro r hr
  unfold sortL at hr
  rcases sort_mem l [] hr with hr | hr
  · cases hr
  · exact h r hr
theorem once_mem {y : List Int} (l acc : RowsL) (h : y ∈ l.foldl (fun out r => if countL out r = 0 then out ++ [r] else out) acc) : y ∈ acc ∨ y ∈ l := by
  induction l generalizing acc with
  | nil => exact .inl h
  | cons x l ih =>
    rw [List.foldl_cons] at h
    rcases ih _ h with h | h
    · split at h
      · rcases List.mem_append.1 h with h | h
        · exact .inl h
        · rw [List.mem_singleton] at h; exact .inr (by simp [h])
      · exact .inl h
    · exact .inr (by simp [h])
theorem once_w {v : Int} {l : RowsL} (h : AllW v l) : AllW v (onceL l) := by
  intro r hr
  rcases once_mem l [] hr with hr | hr
  · cases hr
  · exact h r hr
theorem on1_1 {n : Nd} (e : n.kind = 1) (l : RowsL) : on1 n l = filtL n l := by unfold on1; rw [if_pos e]
theorem on1_2 {n : Nd} (e : n.kind = 2) (l : RowsL) : on1 n l = keepL n l := by unfold on1; rw [if_neg (by omega), if_pos e]
theorem on1_5 {n : Nd} (e : n.kind = 5) (l : RowsL) : on1 n l = sortL (lessC n.col) l := by unfold on1; rw [if_neg (by omega), if_neg (by omega), if_pos e]
theorem on1_6 {n : Nd} (e : n.kind = 6) (l : RowsL) : on1 n l = l.take n.num.toNat := by unfold on1; rw [if_neg (by omega), if_neg (by omega), if_neg (by omega), if_pos e]
theorem on1_7 {n : Nd} (e : n.kind = 7) (l : RowsL) : on1 n l = onceL l := by unfold on1; rw [if_neg (by omega), if_neg (by omega), if_neg (by omega), if_neg (by omega)]
theorem arity_1 {k : Int} (h : arity k = 1) : k = 1 ∨ k = 2 ∨ k = 5 ∨ k = 6 ∨ k = 7 := by
  unfold arity at h
  split at h
  · cases h
  · split at h
    · cases h
    · split at h
      · assumption
      · cases h
theorem arity_2 {k : Int} (h : arity k = 2) : k = 3 ∨ k = 4 := by
  unfold arity at h
  split at h
  · cases h
  · split at h
    · assumption
    · split at h <;> cases h
theorem over1_c {n : Nd} {v : Int} (e : n.kind = 1 ∨ n.kind = 5) (h : over1 n v ≠ -1) : over1 n v = v ∧ n.col < v := by
  unfold over1 at h ⊢
  rw [if_pos e] at h ⊢
  split at h
  · exact absurd rfl h
  · rename_i h2; rw [if_neg h2]; exact ⟨rfl, by omega⟩
theorem over1_k {n : Nd} {v : Int} (e : n.kind = 2) (h : over1 n v ≠ -1) : over1 n v = n.cols.length ∧ ∀ x ∈ n.cols, x < v := by
  unfold over1 at h ⊢
  rw [if_neg (by omega), if_pos e] at h ⊢
  split at h
  · rename_i h2
    rw [if_pos h2]
    refine ⟨rfl, fun x hx => ?_⟩
    have := List.all_eq_true.1 h2 x hx
    simpa using this
  · exact absurd rfl h
theorem over1_o {n : Nd} {v : Int} (e : n.kind = 6 ∨ n.kind = 7) : over1 n v = v := by
  unfold over1; rw [if_neg (by omega), if_neg (by omega)]
theorem over2_j {n : Nd} {v u : Int} (e : n.kind = 3) (h : over2 n v u ≠ -1) : over2 n v u = v + u ∧ n.col < v ∧ n.num < u ∧ v + u ≤ 64 := by
  unfold over2 at h ⊢
  rw [if_pos e] at h ⊢
  split at h
  · exact absurd rfl h
  · rename_i h2; rw [if_neg h2]; exact ⟨rfl, by omega, by omega, by omega⟩
theorem over2_b {n : Nd} {v u : Int} (e : n.kind ≠ 3) (h : over2 n v u ≠ -1) : over2 n v u = v ∧ v = u := by
  unfold over2 at h ⊢
  rw [if_neg e] at h ⊢
  split at h
  · rename_i h2; rw [if_pos h2]; exact ⟨rfl, h2⟩
  · exact absurd rfl h
theorem on1_w {n : Nd} {v : Int} {l : RowsL} (h : AllW v l) (ho : over1 n v ≠ -1) (hk : arity n.kind = 1) : AllW (over1 n v) (on1 n l) := by
  rcases arity_1 hk with e | e | e | e | e
  · rw [on1_1 e, (over1_c (.inl e) ho).1]; exact filt_w h
  · rw [on1_2 e, (over1_k e ho).1]; exact keep_w
  · rw [on1_5 e, (over1_c (.inr e) ho).1]; exact sort_w h
  · rw [on1_6 e, over1_o (.inl e)]; exact fun r hr => h r (List.mem_of_mem_take hr)
  · rw [on1_7 e, over1_o (.inr e)]; exact once_w h
theorem on2_w {n : Nd} {v u : Int} {l m : RowsL} (h : AllW v l) (k : AllW u m) (ho : over2 n v u ≠ -1) : AllW (over2 n v u) (on2 n l m) := by
  unfold on2
  by_cases e : n.kind = 3
  · rw [if_pos e, (over2_j e ho).1]; exact join_w h k
  · obtain ⟨e1, e2⟩ := over2_b e ho
    rw [if_neg e, e1]; subst e2; exact app_w h k
def WideSto (f : Fn) (g : Sto) : Prop := ∀ k v, f k = some v → AllW v (g k)
theorem evT_w {f : Fn} {g : Sto} (hg : WideSto f g) : ∀ T : Tr, T.nodes → widT f T ≠ -1 → ∀ l, evT g T = some l → AllW (widT f T) l ∧ l.length ≤ 200 := by
  intro T
  induction T with
  | t0 n pl en =>
    intro _ hw l hl
    unfold evT at hl
    obtain ⟨rfl, h2⟩ := few_some hl
    refine ⟨?_, h2⟩
    unfold widT at hw ⊢
    cases hv : f n.name.data.toList with
    | none => rw [hv] at hw; exact absurd rfl hw
    | some v => exact hg _ _ hv
  | t1 n pl en c ih =>
    intro hn hw l hl
    unfold evT at hl
    unfold widT at hw ⊢
    split at hw
    · exact absurd rfl hw
    · rename_i hc
      rw [if_neg hc]
      split at hl
      · cases hl
      · rename_i m hm
        obtain ⟨rfl, h2⟩ := few_some hl
        exact ⟨on1_w (ih hn.2 hc m hm).1 hw hn.1.2, h2⟩
  | t2 n pl en c d ihc ihd =>
    intro hn hw l hl
    unfold evT at hl
    unfold widT at hw ⊢
    split at hw
    · exact absurd rfl hw
    · rename_i hc
      rw [if_neg hc]
      split at hw
      · exact absurd rfl hw
      · rename_i hd
        rw [if_neg hd]
        split at hl
        · cases hl
        · rename_i m hm
          split at hl
          · cases hl
          · rename_i m' hm'
            obtain ⟨rfl, h2⟩ := few_some hl
            exact ⟨on2_w (ihc hn.2.1 hc m hm).1 (ihd hn.2.2 hd m' hm').1 hw, h2⟩
theorem evT_1 {g : Sto} {n : Nd} {pl en : Nat} {c : Tr} {l : RowsL} (h : evT g (.t1 n pl en c) = some l) : ∃ m, evT g c = some m ∧ l = on1 n m ∧ l.length ≤ 200 := by
  unfold evT at h
  split at h
  · cases h
  · rename_i m hm
    obtain ⟨rfl, h2⟩ := few_some h
    exact ⟨m, hm, rfl, h2⟩
theorem evT_2 {g : Sto} {n : Nd} {pl en : Nat} {c d : Tr} {l : RowsL} (h : evT g (.t2 n pl en c d) = some l) : ∃ m k, evT g c = some m ∧ evT g d = some k ∧ l = on2 n m k ∧ l.length ≤ 200 := by
  unfold evT at h
  split at h
  · cases h
  · rename_i m hm
    split at h
    · cases h
    · rename_i k hk
      obtain ⟨rfl, h2⟩ := few_some h
      exact ⟨m, k, hm, hk, rfl, h2⟩
theorem wkC (c : Int) : Wk (lessC c) where
  asym := by
    intro a b h
    unfold lessC at h ⊢
    rw [decide_eq_true_eq] at h
    rw [decide_eq_false_iff_not]; omega
  trans := by
    intro a b d h k
    unfold lessC at h k ⊢
    rw [decide_eq_false_iff_not] at h k ⊢
    omega
def sizN (g : Sto) (T : Tr) : Int := (((evT g T).getD []).length : Int)
def sizAt (g : Sto) (p : List Nd) (k : Nat) : Int := match growT p p.length k with
  | some S => sizN g S
  | none => 0
def sizesO (g : Sto) (p : List Nd) : List Int := (List.range p.length).map (sizAt g p)
theorem sizesO_len (g : Sto) (p : List Nd) : (sizesO g p).length = p.length := by simp [sizesO]
theorem sizesO_at {g : Sto} {p : List Nd} {k : Nat} (h : k < p.length) : (sizesO g p)[k]? = some (sizAt g p k) := by
  unfold sizesO
  rw [List.getElem?_map, List.getElem?_range h]; rfl
def putZ (g : Sto) : Tr → List Int → List Int
  | .t0 n pl en, a => a.set pl (sizN g (.t0 n pl en))
  | .t1 n pl en c, a => (putZ g c a).set pl (sizN g (.t1 n pl en c))
  | .t2 n pl en c d, a => (putZ g d (putZ g c a)).set pl (sizN g (.t2 n pl en c d))
theorem putZ_len (g : Sto) : ∀ (T : Tr) (a : List Int), (putZ g T a).length = a.length := by
  intro T
  induction T with
  | t0 n pl en => intro a; simp [putZ]
  | t1 n pl en c ih => intro a; simp [putZ, ih]
  | t2 n pl en c d ihc ihd => intro a; simp [putZ, ihc, ihd]
theorem sizAt_of {g : Sto} {p : List Nd} {k : Nat} {S : Tr} (h : growT p p.length k = some S) : sizAt g p k = sizN g S := by
  unfold sizAt; rw [h]
theorem putZ_at (g : Sto) (p : List Nd) : ∀ (T : Tr) (k : Nat), growT p p.length k = some T → ∀ (a : List Int), a.length = p.length → ∀ j, (putZ g T a)[j]? = if k ≤ j ∧ j < T.en then some (sizAt g p j) else a[j]? := by
  intro T
  induction T with
  | t0 n pl en =>
    intro k h a ha j
    have hs := growT_sound p _ _ _ h
    have hz := sizAt_of (g := g) h
    obtain ⟨n', hn, hb, hc⟩ := grow_inv h
    rcases hc with ⟨e, _⟩ | ⟨c, e, _⟩ | ⟨c, d, e, _⟩
    · injection e with e1 e2 e3
      subst e1 e2 e3
      unfold putZ
      rw [List.getElem?_set, Tr.en0]
      by_cases hj : pl = j
      · subst hj
        rw [if_pos rfl, if_pos (by rw [ha]; have := hs.2.2.1; rw [Tr.en0] at this; omega), if_pos ⟨by omega, by omega⟩, hz]
      · rw [if_neg hj, if_neg (by omega)]
    · cases e
    · cases e
  | t1 n pl en c ih =>
    intro k h a ha j
    have hs := growT_sound p _ _ _ h
    have hz := sizAt_of (g := g) h
    obtain ⟨n', hn, hb, hc⟩ := grow_inv h
    rcases hc with ⟨e, _⟩ | ⟨c', e, _, h1⟩ | ⟨c', d, e, _⟩
    · cases e
    · injection e with e1 e2 e3 e4
      subst e1 e2 e4 e3
      have hc := growT_sound p _ _ _ h1
      unfold putZ
      rw [List.getElem?_set, Tr.en1, putZ_len, ih _ h1 a ha]
      by_cases hj : pl = j
      · subst hj
        rw [if_pos rfl, if_pos (by rw [ha]; omega), if_pos ⟨by omega, by omega⟩, hz]
      · rw [if_neg hj]
        by_cases hi : pl + 1 ≤ j ∧ j < c.en
        · rw [if_pos hi, if_pos ⟨by omega, by omega⟩]
        · rw [if_neg hi, if_neg (by omega)]
    · cases e
  | t2 n pl en c d ihc ihd =>
    intro k h a ha j
    have hs := growT_sound p _ _ _ h
    have hz := sizAt_of (g := g) h
    obtain ⟨n', hn, hb, hc⟩ := grow_inv h
    rcases hc with ⟨e, _⟩ | ⟨c', e, _, h1⟩ | ⟨c', d', e, _, h1, h2⟩
    · cases e
    · cases e
    · injection e with e1 e2 e3 e4 e5
      subst e1 e2 e4 e5 e3
      have hc := growT_sound p _ _ _ h1
      have hd := growT_sound p _ _ _ h2
      unfold putZ
      rw [List.getElem?_set, Tr.en2, putZ_len, putZ_len, ihd _ h2 _ (by rw [putZ_len, ha]), ihc _ h1 a ha]
      by_cases hj : pl = j
      · subst hj
        rw [if_pos rfl, if_pos (by rw [ha]; omega), if_pos ⟨by omega, by omega⟩, hz]
      · rw [if_neg hj]
        by_cases hi : c.en ≤ j ∧ j < d.en
        · rw [if_pos hi, if_pos ⟨by omega, by omega⟩]
        · rw [if_neg hi]
          by_cases hi' : pl + 1 ≤ j ∧ j < c.en
          · rw [if_pos hi', if_pos ⟨by omega, by omega⟩]
          · rw [if_neg hi', if_neg (by omega)]
theorem putZ_all {g : Sto} {p : List Nd} {T : Tr} (h : treeN p = some T) (a : List Int) (ha : a.length = p.length) : putZ g T a = sizesO g p := by
  have ht := treeN_some h
  apply List.ext_getElem?
  intro j
  rw [putZ_at g p T 0 ht.2.1 a ha, ht.2.2.1]
  by_cases hj : j < p.length
  · rw [if_pos ⟨by omega, hj⟩, sizesO_at hj]
  · rw [if_neg (by omega), List.getElem?_eq_none (by omega), List.getElem?_eq_none (by rw [sizesO_len]; omega)]
theorem evT_sub {g : Sto} {p : List Nd} : ∀ (T : Tr) (k : Nat), growT p p.length k = some T → ∀ l, evT g T = some l → ∀ j, k ≤ j → j < T.en → ∃ S m, growT p p.length j = some S ∧ evT g S = some m := by
  intro T
  induction T with
  | t0 n pl en =>
    intro k h l hl j h1 h2
    have hs := growT_sound p _ _ _ h
    obtain ⟨n', hn, hb, hc⟩ := grow_inv h
    rcases hc with ⟨e, _⟩ | ⟨c, e, _⟩ | ⟨c, d, e, _⟩
    · injection e with e1 e2 e3
      subst e1 e2 e3
      rw [Tr.en0] at h2
      obtain rfl : j = pl := by omega
      exact ⟨_, _, h, hl⟩
    · cases e
    · cases e
  | t1 n pl en c ih =>
    intro k h l hl j h1 h2
    have hs := growT_sound p _ _ _ h
    obtain ⟨n', hn, hb, hc⟩ := grow_inv h
    rcases hc with ⟨e, _⟩ | ⟨c', e, _, g1⟩ | ⟨c', d, e, _⟩
    · cases e
    · injection e with e1 e2 e3 e4
      subst e1 e2 e4 e3
      rw [Tr.en1] at h2
      by_cases hj : j = pl
      · subst hj; exact ⟨_, _, h, hl⟩
      · obtain ⟨m, hm, _⟩ := evT_1 hl
        exact ih _ g1 m hm j (by omega) h2
    · cases e
  | t2 n pl en c d ihc ihd =>
    intro k h l hl j h1 h2
    have hs := growT_sound p _ _ _ h
    obtain ⟨n', hn, hb, hc⟩ := grow_inv h
    rcases hc with ⟨e, _⟩ | ⟨c', e, _, g1⟩ | ⟨c', d', e, _, g1, g2⟩
    · cases e
    · cases e
    · injection e with e1 e2 e3 e4 e5
      subst e1 e2 e4 e5 e3
      rw [Tr.en2] at h2
      obtain ⟨m, k', hm, hk, _⟩ := evT_2 hl
      by_cases hj : j = pl
      · subst hj; exact ⟨_, _, h, hl⟩
      · by_cases hi : j < c.en
        · exact ihc _ g1 m hm j (by omega) hi
        · exact ihd _ g2 k' hk j (by omega) h2
theorem sizN_of {g : Sto} {T : Tr} {l : RowsL} (h : evT g T = some l) : sizN g T = l.length := by unfold sizN; rw [h]; rfl
/-! How a node's rows are as many as its children's. -/
theorem filt_len (n : Nd) (l : RowsL) : (filtL n l).length ≤ l.length := List.length_filter_le _ _
theorem keep_len (n : Nd) (l : RowsL) : (keepL n l).length = l.length := by simp [keepL]
theorem once_len (l : RowsL) : (onceL l).length ≤ l.length := by
  have key : ∀ (l acc : RowsL), (l.foldl (fun out r => if countL out r = 0 then out ++ [r] else out) acc).length ≤ acc.length + l.length := by
    intro l
    induction l with
    | nil => intro acc; simp
    | cons x l ih =>
      intro acc
      rw [List.foldl_cons]
      have := ih (if countL acc x = 0 then acc ++ [x] else acc)
      split at this
      · rename_i e; rw [if_pos e]; simp at this ⊢; omega
      · rename_i e; rw [if_neg e]; simp at this ⊢; omega
  simpa [onceL] using key l []
theorem on1_less {n : Nd} {l : RowsL} (h : n.kind = 1 ∨ n.kind = 6 ∨ n.kind = 7) : (on1 n l).length ≤ l.length := by
  rcases h with e | e | e
  · rw [on1_1 e]; exact filt_len n l
  · rw [on1_6 e, List.length_take]; omega
  · rw [on1_7 e]; exact once_len l
theorem on1_same {n : Nd} {l : RowsL} (h : n.kind = 2 ∨ n.kind = 5) : (on1 n l).length = l.length := by
  rcases h with e | e
  · rw [on1_2 e]; exact keep_len n l
  · rw [on1_5 e, sortL_len]
theorem on2_sum {n : Nd} {l m : RowsL} (h : n.kind = 4) : (on2 n l m).length = l.length + m.length := by
  unfold on2; rw [if_neg (by omega), List.length_append]
/-! Round by round. -/
theorem join_snoc {n : Nd} {l m : RowsL} {i : Nat} {r : List Int} (h : l[i]? = some r) : joinL n (l.take (i + 1)) m = joinL n (l.take i) m ++ joinRow n r m := by
  unfold joinL; rw [List.take_add_one, h]; simp
theorem joinRow_snoc_y {n : Nd} {a : List Int} {m : RowsL} {k : Nat} {r : List Int} (h : m[k]? = some r) (hb : meetB n a r = true) : joinRow n a (m.take (k + 1)) = joinRow n a (m.take k) ++ [a ++ r] := by
  unfold joinRow; rw [List.take_add_one, h]; simp [List.filter_append, hb]
theorem joinRow_snoc_n {n : Nd} {a : List Int} {m : RowsL} {k : Nat} {r : List Int} (h : m[k]? = some r) (hb : meetB n a r = false) : joinRow n a (m.take (k + 1)) = joinRow n a (m.take k) := by
  unfold joinRow; rw [List.take_add_one, h]; simp [List.filter_append, hb]
end Go.Proofs.YtanfllednlpbaaaGreat
