/-
  Words for slices of integers in memory: what a slice reads as, what the call itself owns, and how both are carried from world to world. No program, no walk. What a walk is told of a slice of integers that came in, and that it reads as a list. No program, no walk. Plain facts on lists of bytes and on numbers, used by the proofs of this seat. No program, no walk. A text parted at each byte of one kind. Plain facts; no walk. A text parted into words by its bytes 32 and 10. Plain facts; no program, no walk. Texts with one byte between them: plain facts. No program, no walk.
-/
import Derived.Below
import Derived.OwnWalk
import Derived.Laws.OwnMore
import Derived.Deep.Draws
import Derived.Lib.Hide
import Derived.WalkKit
import Derived.ProofKit
import Derived.Lib.Join
namespace Go.Proofs.YtfpbhedophlnkaaGreatDoor
open Go.RowKit
set_option linter.unusedSimpArgs false
set_option linter.unusedVariables false

theorem ret_bool {a b : Bool} (h : a = b) : Ending.returned (.bool a) = .returned (.bool b) := by rw [h]
theorem ret_slice {ao : Option Addr} {n m c : Nat} (h : n = m) : Ending.returned (.slice ao n c) = .returned (.slice ao m c) := by rw [h]
theorem ret_int {k : IntKind} {a b : Int} (h : a = b) : Ending.returned (.int k a) = .returned (.int k b) := by rw [h]

/-- The slice that begins at 'ao' reads as the numbers l. -/
def Rd (w : World) (k : IntKind) (ao : Option Addr) (l : List Int) : Prop :=
  l = [] ∨ ∃ b off, ao = some ⟨b, off, none⟩ ∧ ∀ i, i < l.length → w.cell? ⟨b, off + i, none⟩ = some (.int k (l.getD i 0))

/-- A row of the call's own: a slice value of it, with the numbers l. -/
def Own (w : World) (base : Nat) (e : TypeId) (k : IntKind) (ao : Option Addr) (c : Nat) (l : List Int) : Prop :=
  w.ownsRow base e 1 (.slice ao l.length c) l.length (l.map (Value.int k))

/-- Bytes. -/
def By (l : List Int) : Prop := ∀ z ∈ l, 0 ≤ z ∧ z < 256

/-- The call returned a slice of its own with the numbers l, and nothing that was there has turned. -/
def Made (w : World) (e : TypeId) (k : IntKind) (l : List Int) (en : Ending) (w' : World) : Prop :=
  ∃ ao c, en = .returned (.slice ao l.length c) ∧ Own w' w.heap.size e k ao c l ∧ Below w.heap.size w w'

/-- As 'Made', beside a bool. -/
def Made2 (w : World) (e : TypeId) (k : IntKind) (l : List Int) (ok : Bool) (en : Ending) (w' : World) : Prop :=
  ∃ ao c, en = .returned (.tuple #[.slice ao l.length c, .bool ok]) ∧ Own w' w.heap.size e k ao c l ∧ Below w.heap.size w w'
theorem ret_two {ao : Option Addr} {n m c : Nat} {b : Bool} (h : n = m) : Ending.returned (.tuple #[.slice ao n c, .bool b]) = .returned (.tuple #[.slice ao m c, .bool b]) := by rw [h]

section
variable {w w' : World} {base : Nat} {e : TypeId} {k : IntKind} {ao : Option Addr} {c : Nat} {l : List Int}

theorem Rd.nil : Rd w k ao [] := .inl rfl
theorem Rd.keep (h : Rd w k ao l) (hk : ∀ a p : Addr, ao = some a → p.block = a.block → p.block < w.heap.size → w'.cell? p = w.cell? p) : Rd w' k ao l := by
  rcases h with rfl | ⟨b, off, rfl, hc⟩
  · exact .inl rfl
  · refine .inr ⟨b, off, rfl, fun i hi => ?_⟩
    have h1 := hc i hi
    rw [hk ⟨b, off, none⟩ ⟨b, off + i, none⟩ rfl rfl (World.block_lt_of_cell? w ⟨b, off + i, none⟩ h1)]
    exact h1
theorem Rd.below (h : Rd w k ao l) (hb : Below w.heap.size w w') : Rd w' k ao l := h.keep fun _ _ _ _ hp => hb.cell hp
theorem Rd.grown {row : Option Nat} (h : Rd w k ao l) (hg : w.grownBy w' row) (hne : ∀ a, ao = some a → some a.block ≠ row) : Rd w' k ao l :=
  h.keep fun a p ha hp hlt => World.cell?_of_block (hg.block p.block hlt (by rw [hp]; exact hne a ha))
/-- What a round needs of the element at its place. -/
theorem Rd.at_ {b off : Nat} {i : Nat} (hc : ∀ i, i < l.length → w.cell? ⟨b, off + i, none⟩ = some (.int k (l.getD i 0))) (hi : i < l.length) :
    ∃ z, z ∈ l ∧ l[i]? = some z ∧ w.cell? ⟨b, off + i, none⟩ = some (.int k z) ∧ l.take (i + 1) = l.take i ++ [z] := by
  refine ⟨l[i], List.getElem_mem hi, List.getElem?_eq_getElem hi, ?_, List.take_succ_eq_append_getElem hi⟩
  have := hc i hi
  rwa [List.getD_eq_getElem?_getD, List.getElem?_eq_getElem hi] at this

theorem Own.form (h : Own w base e k ao c l) : (ao = none ∧ c = 0 ∧ l = []) ∨ ∃ g, ao = some ⟨g, 0, none⟩ ∧ base ≤ g ∧ g < w.heap.size := by
  rcases h.2 with ⟨hv, hn⟩ | ⟨g, cap, cur, hv, hb, hg, _⟩
  · simp only [Value.slice.injEq] at hv
    exact .inl ⟨hv.1, hv.2.2, List.eq_nil_of_length_eq_zero hn⟩
  · simp only [Value.slice.injEq] at hv
    refine .inr ⟨g, hv.1, hb, ?_⟩
    rcases Nat.lt_or_ge g w.heap.size with hlt | hge
    · exact hlt
    · rw [Array.getElem?_eq_none hge] at hg; cases hg
theorem Own.nilcap (h : Own w base e k ao c l) : ao = none → c = 0 := by
  rcases h.form with ⟨_, hc, _⟩ | ⟨g, rfl, _⟩
  · exact fun _ => hc
  · intro hh; cases hh
theorem Own.cap_ge (h : Own w base e k ao c l) : l.length ≤ c := by
  rcases h.2 with ⟨hv, hn⟩ | ⟨g, cap, cur, hv, _, _, h1, _⟩
  · omega
  · simp only [Value.slice.injEq] at hv; omega
theorem Own.cap_le (h : Own w base e k ao c l) : c ≤ maxLen := by
  rcases h.2 with ⟨hv, _⟩ | ⟨g, cap, cur, hv, _, _, _, h2, _⟩
  · simp only [Value.slice.injEq] at hv; rw [hv.2.2]; exact Nat.zero_le _
  · simp only [Value.slice.injEq] at hv; rw [hv.2.2]; exact h2
theorem Own.lt (h : Own w base e k ao c l) : ∀ a, ao = some a → base ≤ a.block ∧ a.block < w.heap.size := by
  rcases h.form with ⟨rfl, _⟩ | ⟨g, rfl, h1, h2⟩
  · intro a ha; cases ha
  · intro a ha; cases ha; exact ⟨h1, h2⟩
theorem Own.len_le (h : Own w base e k ao c l) : l.length ≤ maxLen := by
  rcases h.2 with ⟨_, hn⟩ | ⟨g, cap, cur, _, _, _, h1, h2, _⟩
  · rw [hn]; exact Nat.zero_le _
  · exact Nat.le_trans h1 h2
theorem Own.cell {g : Nat} (h : Own w base e k (some ⟨g, 0, none⟩) c l) (i : Nat) (hi : i < l.length) : w.cell? ⟨g, i, none⟩ = some (.int k (l.getD i 0)) := by
  have := World.ownsRow.cellAt h i (by omega)
  rw [this, List.getElem?_map, List.getD_eq_getElem?_getD, List.getElem?_eq_getElem hi]; rfl
theorem Own.rd (h : Own w base e k ao c l) : Rd w k ao l := by
  rcases h.form with ⟨_, _, rfl⟩ | ⟨g, rfl, _⟩
  · exact .inl rfl
  · exact .inr ⟨g, 0, rfl, fun i hi => by rw [Nat.zero_add]; exact h.cell i hi⟩
theorem Own.keep (h : Own w base e k ao c l) (hk : ∀ a : Addr, ao = some a → a.block < w.heap.size → w'.heap[a.block]? = w.heap[a.block]?) : Own w' base e k ao c l := by
  refine ⟨h.1, ?_⟩
  have hl := h.lt
  rcases h.2 with h2 | ⟨g, cap, cur, hv, hb, hg, r⟩
  · exact .inl h2
  · refine .inr ⟨g, cap, cur, hv, hb, ?_, r⟩
    simp only [Value.slice.injEq] at hv
    rw [hk _ hv.1 (hl _ hv.1).2]; exact hg
theorem Own.below (h : Own w base e k ao c l) (hb : Below w.heap.size w w') : Own w' base e k ao c l := h.keep fun _ _ hlt => hb.block _ hlt
theorem Own.grown {row : Option Nat} (h : Own w base e k ao c l) (hg : w.grownBy w' row) (hne : ∀ a, ao = some a → some a.block ≠ row) : Own w' base e k ao c l :=
  h.keep fun a ha hlt => hg.block _ hlt (hne a ha)
theorem Own.base_le {base' : Nat} (h : Own w base e k ao c l) (hb : base' ≤ base) : Own w base' e k ao c l := by
  refine ⟨h.1, ?_⟩
  rcases h.2 with h2 | ⟨g, cap, cur, hv, hg, r⟩
  · exact .inl h2
  · exact .inr ⟨g, cap, cur, hv, Nat.le_trans hb hg, r⟩
theorem Own.alloc (h : Own w base e k ao c l) (o : Obj) : Own (w.alloc o) base e k ao c l := h.below ((Below.refl _ _).alloc (Nat.le_refl _) o)
theorem Own.none_ : Own w base e k none 0 [] := World.ownsRow_nil _ _ _ _
theorem By.nil : By [] := by intro z hz; cases hz
theorem By.app {a b : List Int} (ha : By a) (hb : By b) : By (a ++ b) := by
  intro z hz; rcases List.mem_append.1 hz with h | h
  · exact ha z h
  · exact hb z h
theorem By.one {z : Int} (h0 : 0 ≤ z) (h1 : z < 256) : By [z] := by intro y hy; simp at hy; subst hy; exact ⟨h0, h1⟩
theorem below_step {B : Nat} {a b d : World} (h : Below B a b) (hB : B ≤ a.heap.size) (k : Below b.heap.size b d) : Below B a d := h.trans (k.mono (Nat.le_trans hB h.size))
theorem below_grow {B : Nat} {a b d : World} {ao : Option Addr} (h : Below B a b) (hB : B ≤ a.heap.size) (k : b.grownBy d (ao.map (·.block))) (hr : ∀ x, ao = some x → B ≤ x.block) : Below B a d :=
  h.grown k (Nat.le_trans hB h.size) (by
    intro g hg
    cases ao with
    | none => cases hg
    | some x => simp at hg; subst hg; exact hr x rfl)
/-- Two rows whose blocks differ: what is done to the second leaves the first. -/
theorem Own.apart {ao' : Option Addr} (h : Own w base e k ao c l) (hg : w.grownBy w' (ao'.map (·.block))) (hne : ∀ a b, ao = some a → ao' = some b → a.block ≠ b.block) : Own w' base e k ao c l :=
  h.grown hg (by
    intro a ha
    cases ao' with
    | none => simp
    | some b => simp; exact hne a b ha rfl)
theorem below_of_grown {B : Nat} {row : Option Nat} (hg : w.grownBy w' row) (hB : B ≤ w.heap.size) (hr : ∀ g, row = some g → B ≤ g) : Below B w w' :=
  (Below.refl B w).grown hg hB hr
end
theorem cell_one (w : World) (v : Value) (t : TypeId) : (w.alloc (Obj.cells #[v] t)).cell? ⟨w.heap.size, 0, none⟩ = some v := by
  rw [World.cell?_alloc_new]; rfl
end Go.Proofs.YtfpbhedophlnkaaGreatDoor
namespace Go.Proofs.YtfpbhedophlnkaaGreatDoor
open Go.RowKit
set_option linter.unusedSimpArgs false
set_option linter.unusedVariables false

/-- A slice of integers that came in: nil; or a row of 'cap' cells, the numbers 'zs', of which the first 'len' are its elements. -/
def IsRow (k : IntKind) (w : World) (a : Option Addr) (len cap : Nat) (zs : List Int) : Prop :=
  (a = none ∧ len = 0 ∧ cap = 0 ∧ zs = []) ∨
  ∃ x, a = some x ∧ len ≤ cap ∧ cap ≤ maxLen ∧ zs.length = cap ∧ (∀ i, i < zs.length → w.cell? (x.add i) = some (.int k (zs.getD i 0))) ∧ ∀ n ∈ zs, (Lit.int k n).wf = true

theorem IsRow.rd {k : IntKind} {w : World} {a : Option Addr} {len cap : Nat} {zs : List Int} (h : IsRow k w a len cap zs) :
    ∃ l : List Int, len = l.length ∧ l.length ≤ maxLen ∧ Rd w k a l ∧ ∀ n ∈ l, (Lit.int k n).wf = true := by
  rcases h with ⟨rfl, rfl, rfl, rfl⟩ | ⟨x, rfl, hl, hm, hz, hc, hw⟩
  · exact ⟨[], rfl, Nat.zero_le _, .inl rfl, by intro n hn; cases hn⟩
  · refine ⟨zs.take len, by simp; omega, by simp; omega, ?_, fun n hn => hw n (List.mem_of_mem_take hn)⟩
    by_cases h0 : len = 0
    · left; subst h0; rfl
    · right
      obtain ⟨b, off, spot⟩ := x
      have h1 := hc 0 (by omega)
      have hspot : spot = none := by simpa [Addr.add] using World.cell?_spot h1
      subst hspot
      refine ⟨b, off, rfl, fun i hi => ?_⟩
      have hi' : i < len := by simp at hi; omega
      have h2 := hc i (by omega)
      rw [List.getD_eq_getElem?_getD, List.getElem?_take, if_pos hi', ← List.getD_eq_getElem?_getD, ← h2]
      unfold Addr.add
      split
      · rename_i h; subst h; rfl
      · rfl
theorem by_of_wf {l : List Int} (h : ∀ n ∈ l, (Lit.int .u8 n).wf = true) : By l := by
  intro z hz
  have := h z hz
  simp [Lit.wf, IntKind.min, IntKind.max, IntKind.signed, IntKind.bits] at this
  exact ⟨by omega, by omega⟩
end Go.Proofs.YtfpbhedophlnkaaGreatDoor
namespace Go.Proofs.YtfpbhedophlnkaaGreatDoor
set_option linter.unusedSimpArgs false
set_option linter.unusedVariables false

/-- A letter a .. z or a digit. -/
def charB (c : Nat) : Bool := (decide (97 ≤ c) && decide (c ≤ 122)) || (decide (48 ≤ c) && decide (c ≤ 57))
def allB (l : List UInt8) : Bool := l.all fun c => charB c.toNat
/-- What chapter 1 calls a word. -/
def wordB (l : List UInt8) : Bool := decide (1 ≤ l.length) && decide (l.length ≤ 12) && decide (97 ≤ (l.headD 0).toNat) && allB l

theorem allB_take_succ (s : ByteArray) (k : Nat) (h : k < s.size) : allB (s.data.toList.take (k + 1)) = (allB (s.data.toList.take k) && charB s[k].toNat) := by
  have e : s.data.toList.take (k + 1) = s.data.toList.take k ++ [s[k]] := by rw [List.take_succ_eq_append_getElem (by simpa using h)]; rfl
  rw [e]; unfold allB; simp
theorem allB_false_of (s : ByteArray) (k : Nat) (h : k < s.size) (hc : charB s[k].toNat = false) : allB s.data.toList = false := by
  unfold allB
  rw [List.all_eq_false]
  exact ⟨s[k], by simp [ByteArray.getElem_eq_getElem_data], by simp [hc]⟩
theorem head_eq (s : ByteArray) (h : 0 < s.size) : s.data.toList.headD 0 = s[0] := by
  rcases s with ⟨⟨l⟩⟩
  cases l with
  | nil => simp [ByteArray.size] at h
  | cons a l => rfl
theorem charT {n : Nat} (h : (97 ≤ n ∧ n ≤ 122) ∨ (48 ≤ n ∧ n ≤ 57)) : charB n = true := by unfold charB; simp; omega
theorem charF {n : Nat} (h : ¬ ((97 ≤ n ∧ n ≤ 122) ∨ (48 ≤ n ∧ n ≤ 57))) : charB n = false := by
  cases hc : charB n with
  | false => rfl
  | true => exact absurd (by unfold charB at hc; simpa using hc) h
theorem char_of {n : Nat} (h : charB n = true) : (97 ≤ n ∧ n ≤ 122) ∨ (48 ≤ n ∧ n ≤ 57) := by unfold charB at h; simpa using h
theorem wordB_no {s : ByteArray} {k : Nat} (h : k < s.size) (hc : charB s[k].toNat = false) : wordB s.data.toList = false := by
  unfold wordB; rw [allB_false_of s k h hc]; simp
theorem wordB_head {s : ByteArray} (h : 0 < s.size) (hc : s[0].toNat < 97) : wordB s.data.toList = false := by
  unfold wordB; rw [head_eq s h]; simp; omega
theorem wordB_len {s : ByteArray} (h : ¬ (1 ≤ s.size ∧ s.size ≤ 12)) : wordB s.data.toList = false := by
  unfold wordB; simp; omega
theorem wordB_yes {s : ByteArray} (h1 : 1 ≤ s.size) (h2 : s.size ≤ 12) (h3 : 97 ≤ s[0].toNat) (k : Nat) (hk : s.size ≤ k) (ha : allB (s.data.toList.take k) = true) : wordB s.data.toList = true := by
  rw [List.take_of_length_le (by simpa using hk)] at ha
  unfold wordB; rw [head_eq s (by omega), ha]; simp; omega
end Go.Proofs.YtfpbhedophlnkaaGreatDoor
namespace Go.Proofs.YtfpbhedophlnkaaGreatDoor
set_option linter.unusedSimpArgs false
set_option linter.unusedVariables false

/-- A text parted at each byte of one kind. -/
def splitB (b : UInt8) : List UInt8 → List (List UInt8)
  | [] => [[]]
  | c :: r => if c = b then [] :: splitB b r else
    match splitB b r with
    | [] => [[c]]
    | x :: xs => (c :: x) :: xs
theorem splitB_ne (b : UInt8) : ∀ l, splitB b l ≠ []
  | [] => by simp [splitB]
  | c :: r => by
    unfold splitB
    split
    · simp
    · split <;> simp
theorem split_no {b : UInt8} : ∀ {x : List UInt8}, (∀ c ∈ x, c ≠ b) → splitB b x = [x]
  | [], _ => rfl
  | c :: r, h => by
    unfold splitB
    rw [if_neg (h c (by simp)), split_no (fun d hd => h d (by simp [hd]))]
theorem split_hit {b : UInt8} : ∀ {x : List UInt8} (r : List UInt8), (∀ c ∈ x, c ≠ b) → splitB b (x ++ b :: r) = x :: splitB b r
  | [], r, _ => by simp [splitB]
  | c :: x, r, h => by
    have ih := split_hit (x := x) r (fun d hd => h d (by simp [hd]))
    rw [List.cons_append]
    conv => lhs; unfold splitB
    rw [if_neg (h c (by simp)), ih]
theorem split_len (b : UInt8) : ∀ l, (splitB b l).length ≤ l.length + 1
  | [] => by simp [splitB]
  | c :: r => by
    have ih := split_len b r
    unfold splitB
    split
    · simp; omega
    · split
      · simp
      · rename_i h; rw [h] at ih; simp at ih ⊢; omega
/-- The parts with that byte between them are the text. -/
def joinB (b : UInt8) : List (List UInt8) → List UInt8
  | [] => []
  | [x] => x
  | x :: y :: r => x ++ b :: joinB b (y :: r)
theorem joinB_cons (b c : UInt8) : ∀ (x : List UInt8) (r : List (List UInt8)), joinB b ((c :: x) :: r) = c :: joinB b (x :: r)
  | x, [] => rfl
  | x, y :: r => by simp [joinB]
theorem join_split (b : UInt8) : ∀ l, joinB b (splitB b l) = l
  | [] => rfl
  | c :: r => by
    have ih := join_split b r
    have hne := splitB_ne b r
    unfold splitB
    split
    · rename_i h
      cases hs : splitB b r with
      | nil => exact absurd hs hne
      | cons x xs => rw [hs] at ih; simp only [joinB, List.nil_append]; rw [ih, h]
    · cases hs : splitB b r with
      | nil => exact absurd hs hne
      | cons x xs => simp only; rw [joinB_cons, ← hs, ih]
theorem split_parts {b : UInt8} : ∀ (l x : List UInt8), x ∈ splitB b l → ∀ c ∈ x, c ≠ b
  | [], x, h => by simp [splitB] at h; subst h; simp
  | c :: r, x, h => by
    have ih := split_parts (b := b) r
    unfold splitB at h
    split at h
    · rcases List.mem_cons.1 h with rfl | h
      · simp
      · exact ih x h
    · rename_i hc
      cases hs : splitB b r with
      | nil => rw [hs] at h; simp at h; subst h; intro d hd; simp at hd; subst hd; exact hc
      | cons y ys =>
        rw [hs] at h
        rcases List.mem_cons.1 h with rfl | h
        · intro d hd
          rcases List.mem_cons.1 hd with rfl | hd
          · exact hc
          · exact ih y (by rw [hs]; simp) d hd
        · exact ih x (by rw [hs]; simp [h])
theorem split_part_len (b : UInt8) : ∀ (l x : List UInt8), x ∈ splitB b l → x.length ≤ l.length
  | [], x, h => by simp [splitB] at h; subst h; simp
  | c :: r, x, h => by
    have ih := split_part_len b r
    unfold splitB at h
    split at h
    · rcases List.mem_cons.1 h with rfl | h
      · simp
      · have := ih x h; simp; omega
    · cases hs : splitB b r with
      | nil => rw [hs] at h; simp at h; subst h; simp
      | cons y ys =>
        rw [hs] at h
        rcases List.mem_cons.1 h with rfl | h
        · have := ih y (by rw [hs]; simp); simp; omega
        · have := ih x (by rw [hs]; simp [h]); simp; omega
/-- Parts that do not bear the byte come back. -/
theorem split_join {b : UInt8} : ∀ (l : List (List UInt8)), l ≠ [] → (∀ x ∈ l, ∀ c ∈ x, c ≠ b) → splitB b (joinB b l) = l
  | [], h, _ => absurd rfl h
  | [x], _, h => split_no (h x (by simp))
  | x :: y :: r, _, h => by
    rw [joinB, split_hit _ (h x (by simp)), split_join (y :: r) (by simp) (fun z hz => h z (by simp at hz ⊢; exact Or.inr hz))]
end Go.Proofs.YtfpbhedophlnkaaGreatDoor
namespace Go.Proofs.YtfpbhedophlnkaaGreatDoor
set_option linter.unusedSimpArgs false
set_option linter.unusedVariables false

def blankB (c : UInt8) : Bool := c == 32 || c == 10
/-- The words that are whole, and the one that is begun. -/
def wstep (st : List (List UInt8) × List UInt8) (c : UInt8) : List (List UInt8) × List UInt8 :=
  if blankB c = true then (if st.2 = [] then st.1 else st.1 ++ [st.2], []) else (st.1, st.2 ++ [c])
def wfin (st : List (List UInt8) × List UInt8) : List (List UInt8) := if st.2 = [] then st.1 else st.1 ++ [st.2]
def wrun (l : List UInt8) : List (List UInt8) × List UInt8 := l.foldl wstep ([], [])
def wordsL (l : List UInt8) : List (List UInt8) := wfin (wrun l)
theorem wrun_snoc (l : List UInt8) (c : UInt8) : wrun (l ++ [c]) = wstep (wrun l) c := by simp [wrun]
theorem wrun_app (l m : List UInt8) : wrun (l ++ m) = m.foldl wstep (wrun l) := by simp [wrun]
theorem wrun_take {l : List UInt8} {j : Nat} {c : UInt8} (h : l[j]? = some c) : wrun (l.take (j + 1)) = wstep (wrun (l.take j)) c := by
  rw [List.take_add_one, h, Option.toList_some, wrun_snoc]
theorem wstep_blank {st : List (List UInt8) × List UInt8} {c : UInt8} (h : blankB c = true) : wstep st c = (wfin st, []) := by
  unfold wstep wfin; rw [if_pos h]
theorem wstep_other {st : List (List UInt8) × List UInt8} {c : UInt8} (h : blankB c = false) : wstep st c = (st.1, st.2 ++ [c]) := by
  unfold wstep; rw [if_neg (by rw [h]; simp)]
theorem wfold_other : ∀ (m : List UInt8) (st : List (List UInt8) × List UInt8), (∀ c ∈ m, blankB c = false) → m.foldl wstep st = (st.1, st.2 ++ m)
  | [], st, _ => by simp
  | c :: m, st, h => by
    rw [List.foldl_cons, wstep_other (h c (by simp)), wfold_other m _ (fun d hd => h d (by simp [hd]))]
    simp
/-- Bytes that are no blanks behind what was read. -/
theorem wrun_others {l : List UInt8} {j k : Nat} (hk : j ≤ k) (h : ∀ i, j ≤ i → i < k → ∀ c, l[i]? = some c → blankB c = false) :
    wrun (l.take k) = ((wrun (l.take j)).1, (wrun (l.take j)).2 ++ (l.drop j).take (k - j)) := by
  have e : l.take k = l.take j ++ (l.drop j).take (k - j) := by
    have h1 := List.take_append_drop j (l.take k)
    rw [List.take_take, List.drop_take, Nat.min_eq_left hk] at h1
    exact h1.symm
  rw [e, wrun_app]
  refine wfold_other _ _ (fun c hc => ?_)
  obtain ⟨i, hi⟩ := List.mem_iff_getElem?.1 hc
  rw [List.getElem?_take] at hi
  split at hi
  · rw [List.getElem?_drop] at hi
    exact h (j + i) (by omega) (by omega) c hi
  · cases hi
theorem wrun_len (l : List UInt8) : (wrun l).1.length ≤ l.length ∧ (wrun l).2.length ≤ l.length ∧ (∀ x ∈ (wrun l).1, x.length ≤ l.length ∧ x ≠ []) ∧ ((wrun l).2 ≠ [] → (wrun l).1.length < l.length) := by
  obtain ⟨r, rfl⟩ : ∃ r : List UInt8, l = r.reverse := ⟨l.reverse, by simp⟩
  induction r with
  | nil => simp [wrun]
  | cons c r ih =>
    rw [List.reverse_cons, wrun_snoc]
    obtain ⟨h1, h2, h3, h4⟩ := ih
    simp only [List.length_append, List.length_cons, List.length_nil]
    cases hb : blankB c with
    | true =>
      rw [wstep_blank hb]
      unfold wfin
      by_cases hn : (wrun r.reverse).2 = []
      · rw [if_pos hn]
        refine ⟨by simp only; omega, by simp, fun x hx => ?_, by simp⟩
        have := h3 x hx
        exact ⟨by omega, this.2⟩
      · rw [if_neg hn]
        have := h4 hn
        refine ⟨by simp only [List.length_append, List.length_cons, List.length_nil]; omega, by simp, fun x hx => ?_, by simp⟩
        rcases List.mem_append.1 hx with hx | hx
        · have := h3 x hx
          exact ⟨by omega, this.2⟩
        · simp at hx; subst hx
          exact ⟨by omega, hn⟩
    | false =>
      rw [wstep_other hb]
      refine ⟨by simp only; omega, by simp only [List.length_append, List.length_cons, List.length_nil]; omega, fun x hx => ?_, fun _ => by simp only; omega⟩
      have := h3 x hx
      exact ⟨by omega, this.2⟩
theorem wordsL_len (l : List UInt8) : (wordsL l).length ≤ l.length ∧ ∀ x ∈ wordsL l, x.length ≤ l.length ∧ x ≠ [] := by
  obtain ⟨h1, h2, h3, h4⟩ := wrun_len l
  unfold wordsL wfin
  by_cases hn : (wrun l).2 = []
  · rw [if_pos hn]; exact ⟨h1, h3⟩
  · rw [if_neg hn]
    refine ⟨by simp; have := h4 hn; omega, fun x hx => ?_⟩
    rcases List.mem_append.1 hx with hx | hx
    · exact h3 x hx
    · simp at hx; subst hx; exact ⟨h2, hn⟩
/-- Words with single blanks between are read as they were. -/
theorem wordsL_join : ∀ (ws : List (List UInt8)), (∀ x ∈ ws, x ≠ [] ∧ ∀ c ∈ x, blankB c = false) → wordsL (joinB 32 ws) = ws := by
  have key : ∀ (ws : List (List UInt8)) (acc : List (List UInt8)), (∀ x ∈ ws, x ≠ [] ∧ ∀ c ∈ x, blankB c = false) → wfin ((joinB 32 ws).foldl wstep (acc, [])) = acc ++ ws := by
    intro ws
    induction ws with
    | nil => intro acc _; simp [joinB, wfin]
    | cons x r ih =>
      intro acc h
      obtain ⟨hx, hc⟩ := h x (by simp)
      cases r with
      | nil => simp only [joinB]; rw [wfold_other _ _ hc]; simp [wfin, hx]
      | cons y r =>
        simp only [joinB, List.foldl_append, List.foldl_cons]
        rw [wfold_other _ _ hc, wstep_blank (by decide)]
        simp only [wfin, List.nil_append, if_neg hx]
        rw [show ∀ st : List (List UInt8) × List UInt8, (if st.2 = [] then st.1 else st.1 ++ [st.2]) = wfin st from fun _ => rfl, ih _ (fun z hz => h z (by simp [List.mem_cons.1 hz]))]
        simp
  intro ws h
  have := key ws [] h
  simpa [wordsL, wrun] using this
def mkBs (x : List UInt8) : ByteArray := ⟨x.toArray⟩
theorem mkBs_list (x : List UInt8) : (mkBs x).data.toList = x := by simp [mkBs]
theorem mkBs_size (x : List UInt8) : (mkBs x).size = x.length := by show x.toArray.size = _; simp
/-- WordsOf's answer. -/
def wordsO (s : ByteArray) : List ByteArray := if 2000 < s.size then [] else (wordsL s.data.toList).map mkBs
end Go.Proofs.YtfpbhedophlnkaaGreatDoor
namespace Go.Proofs.YtfpbhedophlnkaaGreatDoor
set_option linter.unusedSimpArgs false
set_option linter.unusedVariables false

theorem joinB_join (b : UInt8) : ∀ l : List (List UInt8), Lib.join l [b] = joinB b l
  | [] => rfl
  | [x] => by simp [Lib.join, joinB, List.intercalate]
  | x :: y :: r => by
    have := joinB_join b (y :: r)
    simp only [Lib.join, List.intercalate, joinB] at this ⊢
    rw [← this]
    simp [List.intersperse]
theorem joinB_snoc (b : UInt8) : ∀ (l : List (List UInt8)) (x : List UInt8), joinB b (l ++ [x]) = if l = [] then x else joinB b l ++ b :: x
  | [], x => by simp [joinB]
  | [y], x => by simp [joinB]
  | y :: z :: r, x => by
    have := joinB_snoc b (z :: r) x
    simp only [List.cons_append, joinB] at this ⊢
    rw [this]
    simp
theorem joinB_len (b : UInt8) (k : Nat) : ∀ (l : List (List UInt8)), (∀ x ∈ l, x.length ≤ k) → (joinB b l).length ≤ (k + 1) * l.length
  | [], _ => by simp [joinB]
  | [x], h => by have := h x (by simp); simp [joinB]; omega
  | x :: y :: r, h => by
    have h1 := h x (by simp)
    have h2 := joinB_len b k (y :: r) (fun z hz => h z (List.mem_cons_of_mem _ hz))
    have e : (k + 1) * (x :: y :: r).length = (k + 1) * (y :: r).length + (k + 1) := by simp [Nat.mul_add]
    rw [e]
    simp only [joinB, List.length_append, List.length_cons] at h2 ⊢
    omega
theorem joinB_take (b : UInt8) {α : Type} (f : α → List UInt8) {l : List α} {j : Nat} {x : α} (h : l[j]? = some x) : joinB b ((l.take (j + 1)).map f) = if j = 0 then f x else joinB b ((l.take j).map f) ++ b :: f x := by
  have hj : j < l.length := (List.getElem?_eq_some_iff.1 h).1
  have e : l[j] = x := by rw [List.getElem?_eq_getElem hj] at h; injection h
  rw [List.take_succ_eq_append_getElem hj, e, List.map_append, List.map_cons, List.map_nil, joinB_snoc]
  have hl : (l.take j).length = j := by simp; omega
  by_cases h0 : j = 0
  · subst h0; simp
  · rw [if_neg (by intro hh; have hz := congrArg List.length hh; rw [List.length_map, hl] at hz; exact h0 hz), if_neg h0]
theorem bx {X : ByteArray} {l : List UInt8} (h : X.data.toList = l) : X = ⟨l.toArray⟩ := by
  apply ByteArray.ext
  rw [← h]
end Go.Proofs.YtfpbhedophlnkaaGreatDoor
