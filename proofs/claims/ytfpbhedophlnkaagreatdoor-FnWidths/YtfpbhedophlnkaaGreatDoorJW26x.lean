/-
  Plain facts on reading a number out of bytes, and the contract of spec.TakeNum. For every slice of bytes and every place. What is put is taken again, one way alone: plain facts on the bytes of numbers. No walk. Contracts of spec.PutNum, spec.l01Bytes, spec.l01Join. The program's wire behind a pointer: a block with one slice value, and the row that it owns; the contracts of isNum, foldNum and addNum.
-/
import Derived.Test.YtfpbhedophlnkaaGreatDoorJW25x
import Derived.OneCell
namespace Go.Proofs.YtfpbhedophlnkaaGreatDoor
open Go.RowKit
set_option linter.unusedSimpArgs false
set_option linter.unusedVariables false

def unf (u : Int) : Int := if u % 2 = 0 then u / 2 else -((u + 1) / 2)
/-- The number whose first k groups are u, read on from place a + k with at most f groups more; and the place behind it. -/
def goN (l : List Int) (a : Nat) : Nat → Nat → Int → Int × Int
  | 0, _, _ => (0, -1)
  | f + 1, k, u =>
    match l[a + k]? with
    | none => (0, -1)
    | some v => if 128 ≤ v then goN l a f (k + 1) (u + v % 128 * 128 ^ k) else if (v = 0 ∧ 0 < k) ∨ 2000000 < u + v % 128 * 128 ^ k then (0, -1) else (unf (u + v % 128 * 128 ^ k), ((a + k + 1 : Nat) : Int))
def takeN (l : List Int) (at_ : Int) : Int × Int := if at_ < 0 then (0, -1) else goN l at_.toNat 3 0 0

theorem goN_out {l : List Int} {a f k : Nat} {u : Int} (h : l.length ≤ a + k) : goN l a f k u = (0, -1) := by
  cases f with
  | zero => rfl
  | succ f => rw [goN, List.getElem?_eq_none h]
theorem goN_more {l : List Int} {a f k : Nat} {u v : Int} (h : l[a + k]? = some v) (hv : 128 ≤ v) : goN l a (f + 1) k u = goN l a f (k + 1) (u + v % 128 * 128 ^ k) := by
  rw [goN, h]; simp only; rw [if_pos hv]
theorem goN_bad {l : List Int} {a f k : Nat} {u v : Int} (h : l[a + k]? = some v) (hv : v < 128) (hb : (v = 0 ∧ 0 < k) ∨ 2000000 < u + v % 128 * 128 ^ k) : goN l a (f + 1) k u = (0, -1) := by
  rw [goN, h]; simp only; rw [if_neg (by omega), if_pos hb]
theorem goN_ok {l : List Int} {a f k : Nat} {u v : Int} (h : l[a + k]? = some v) (hv : v < 128) (hb : ¬ ((v = 0 ∧ 0 < k) ∨ 2000000 < u + v % 128 * 128 ^ k)) : goN l a (f + 1) k u = (unf (u + v % 128 * 128 ^ k), ((a + k + 1 : Nat) : Int)) := by
  rw [goN, h]; simp only; rw [if_neg (by omega), if_neg hb]
theorem goN_last {l : List Int} (hl : By l) (a : Nat) {u : Int} (hu : 0 ≤ u) : goN l a 1 3 u = (0, -1) := by
  rcases Nat.lt_or_ge (a + 3) l.length with h | h
  · have hv := List.getElem?_eq_getElem h
    have hb := hl _ (List.getElem_mem h)
    by_cases h1 : 128 ≤ l[a + 3]
    · rw [goN_more hv h1]; rfl
    · refine goN_bad hv (by omega) ?_
      have e : (128 : Int) ^ 3 = 2097152 := by decide
      rw [e]
      by_cases h0 : l[a + 3] = 0
      · left; exact ⟨h0, by omega⟩
      · right; omega
  · exact goN_out h
theorem goN_ext {l : List Int} (hl : By l) (a : Nat) : ∀ (f k : Nat) (u : Int), k + f = 3 → 0 ≤ u → goN l a (f + 1) k u = goN l a f k u
  | 0, k, u, hk, hu => by
    obtain rfl : k = 3 := by omega
    rw [goN_last hl a hu]; rfl
  | f + 1, k, u, hk, hu => by
    rcases Nat.lt_or_ge (a + k) l.length with h | h
    · have hv := List.getElem?_eq_getElem h
      have hb := hl _ (List.getElem_mem h)
      by_cases h1 : 128 ≤ l[a + k]
      · rw [goN_more hv h1, goN_more hv h1]
        refine goN_ext hl a f (k + 1) _ (by omega) ?_
        have : (0 : Int) ≤ l[a + k] % 128 * 128 ^ k := Int.mul_nonneg (by omega) (Int.pow_nonneg (by decide))
        omega
      · by_cases h2 : (l[a + k] = 0 ∧ 0 < k) ∨ 2000000 < u + l[a + k] % 128 * 128 ^ k
        · rw [goN_bad hv (by omega) h2, goN_bad hv (by omega) h2]
        · rw [goN_ok hv (by omega) h2, goN_ok hv (by omega) h2]
    · rw [goN_out h, goN_out h]
theorem unf_bd {u : Int} (h0 : 0 ≤ u) (h1 : u ≤ 2000000) : -1000000 ≤ unf u ∧ unf u ≤ 1000000 := by unfold unf; split <;> omega
theorem unf_out {u : Int} (h1 : 2000000 < u) : ¬ (-1000000 ≤ unf u ∧ unf u ≤ 1000000) := by unfold unf; split <;> omega
theorem goN_bd {l : List Int} (hl : By l) (a : Nat) : ∀ (f k : Nat) (u : Int), 0 ≤ u →
    -1000000 ≤ (goN l a f k u).1 ∧ (goN l a f k u).1 ≤ 1000000 ∧ ((goN l a f k u).2 = -1 ∨ ((a + k : Nat) : Int) < (goN l a f k u).2 ∧ (goN l a f k u).2 ≤ l.length) ∧ ((goN l a f k u).2 = -1 → (goN l a f k u).1 = 0)
  | 0, k, u, hu => by simp [goN]
  | f + 1, k, u, hu => by
    rcases Nat.lt_or_ge (a + k) l.length with h | h
    · have hv := List.getElem?_eq_getElem h
      have hb := hl _ (List.getElem_mem h)
      have hp : (0 : Int) ≤ l[a + k] % 128 * 128 ^ k := Int.mul_nonneg (by omega) (Int.pow_nonneg (by decide))
      by_cases h1 : 128 ≤ l[a + k]
      · rw [goN_more hv h1]
        have := goN_bd hl a f (k + 1) (u + l[a + k] % 128 * 128 ^ k) (by omega)
        refine ⟨this.1, this.2.1, ?_, this.2.2.2⟩
        rcases this.2.2.1 with h2 | h2
        · exact .inl h2
        · exact .inr ⟨by omega, h2.2⟩
      · by_cases h2 : (l[a + k] = 0 ∧ 0 < k) ∨ 2000000 < u + l[a + k] % 128 * 128 ^ k
        · rw [goN_bad hv (by omega) h2]; simp
        · rw [goN_ok hv (by omega) h2]
          have := unf_bd (u := u + l[a + k] % 128 * 128 ^ k) (by omega) (by omega)
          refine ⟨this.1, this.2, .inr ⟨by simp only; omega, by simp only; omega⟩, by simp only; omega⟩
    · rw [goN_out h]; simp
theorem takeN_bd {l : List Int} (hl : By l) (at_ : Int) :
    -1000000 ≤ (takeN l at_).1 ∧ (takeN l at_).1 ≤ 1000000 ∧ ((takeN l at_).2 = -1 ∨ 0 ≤ at_ ∧ at_ < (takeN l at_).2 ∧ (takeN l at_).2 ≤ l.length) ∧ ((takeN l at_).2 = -1 → (takeN l at_).1 = 0) := by
  unfold takeN
  split
  · simp
  · have := goN_bd hl at_.toNat 3 0 0 (by omega)
    refine ⟨this.1, this.2.1, ?_, this.2.2.2⟩
    rcases this.2.2.1 with h2 | h2
    · exact .inl h2
    · exact .inr ⟨by omega, by omega, h2.2⟩
end Go.Proofs.YtfpbhedophlnkaaGreatDoor
namespace Go.Proofs.YtfpbhedophlnkaaGreatDoor
open Go.RowKit
set_option linter.unusedSimpArgs false
set_option linter.unusedVariables false

theorem fold_unf {u : Nat} (h : u ≤ 2000000) : fold (unf (u : Int)) = u := by
  unfold fold unf
  split <;> split <;> omega
theorem unf_fold {x : Int} (h : -1000000 ≤ x ∧ x ≤ 1000000) : unf (fold x : Int) = x := by
  unfold fold unf
  split <;> split <;> omega
theorem drop_get {l r : List Int} {n : Nat} {v : Int} (h : l.drop n = v :: r) : l[n]? = some v ∧ l.drop (n + 1) = r := by
  constructor
  · have := congrArg (fun t => t[0]?) h
    simpa using this
  · rw [← List.drop_drop, h]; rfl

/-- The groups of u, read on. -/
theorem goN_enc {l rest : List Int} {a : Nat} : ∀ (f k u : Nat) (acc : Int), l.drop (a + k) = enc u ++ rest → (enc u).length ≤ f → (0 < k → u ≠ 0) → acc + u * 128 ^ k ≤ 2000000 → 0 ≤ acc →
    goN l a f k acc = (unf (acc + u * 128 ^ k), ((a + k + (enc u).length : Nat) : Int))
  | 0, k, u, acc, hd, hf, hk, hs, h0 => by
    have : 1 ≤ (enc u).length := by
      by_cases h : u < 128
      · rw [enc_lt h]; simp
      · rw [enc_ge (by omega)]; simp
    omega
  | f + 1, k, u, acc, hd, hf, hk, hs, h0 => by
    by_cases h : u < 128
    · rw [enc_lt h] at hd hf ⊢
      obtain ⟨h1, _⟩ := drop_get hd
      have em : ((u : Int)) % 128 = u := by omega
      rw [goN_ok h1 (by omega) (by rw [em]; omega), em]
      simp
    · rw [enc_ge (by omega)] at hd hf ⊢
      obtain ⟨h1, h2⟩ := drop_get hd
      rw [goN_more h1 (by omega)]
      have em : (128 + (u : Int) % 128) % 128 = (u : Int) % 128 := by omega
      have es : acc + (128 + (u : Int) % 128) % 128 * 128 ^ k + ((u / 128 : Nat) : Int) * 128 ^ (k + 1) = acc + u * 128 ^ k := by
        rw [em, Int.pow_succ]
        have e1 : (u : Int) = (u : Int) % 128 + ((u / 128 : Nat) : Int) * 128 := by omega
        generalize (128 : Int) ^ k = P
        have e2 : (u : Int) * P = (u : Int) % 128 * P + ((u / 128 : Nat) : Int) * (P * 128) := by
          rw [Int.mul_comm P 128, ← Int.mul_assoc, ← Int.add_mul, ← e1]
        rw [e2]; omega
      have hp : (0 : Int) ≤ (128 + (u : Int) % 128) % 128 * 128 ^ k := Int.mul_nonneg (by omega) (Int.pow_nonneg (by decide))
      have ih := goN_enc (l := l) (a := a) (rest := rest) f (k + 1) (u / 128) (acc + (128 + (u : Int) % 128) % 128 * 128 ^ k) (show l.drop (a + (k + 1)) = enc (u / 128) ++ rest from h2) (by simpa using hf) (by intro _; omega) (by rw [es]; exact hs) (by omega)
      rw [ih, es]
      simp
      omega
theorem takeN_put {l rest : List Int} {p : Nat} {x : Int} (hx : isN x = true) (hd : l.drop p = putN x ++ rest) : takeN l (p : Int) = (x, ((p + (putN x).length : Nat) : Int)) := by
  have hb := isN_of hx
  have hp : putN x = enc (fold x) := by unfold putN; rw [hx]; rfl
  rw [hp] at hd ⊢
  unfold takeN
  rw [if_neg (by omega), Int.toNat_natCast]
  have hf := fold_le hb
  rw [goN_enc (rest := rest) 3 0 (fold x) 0 hd (enc_len _ (by omega)).2 (by omega) (by simp; omega) (by omega)]
  simp [unf_fold hb]

/-- What is read was put so. -/
theorem goN_was {l : List Int} (hl : By l) {a : Nat} : ∀ (f k : Nat) (acc x q : Int), 0 ≤ acc → goN l a f k acc = (x, q) → q ≠ -1 →
    ∃ u n : Nat, q = n ∧ l.drop (a + k) = enc u ++ l.drop n ∧ x = unf (acc + u * 128 ^ k) ∧ acc + u * 128 ^ k ≤ 2000000 ∧ (0 < k → u ≠ 0) ∧ n = a + k + (enc u).length
  | 0, k, acc, x, q, h0, h, hq => by
    rw [goN] at h
    simp at h
    omega
  | f + 1, k, acc, x, q, h0, h, hq => by
    rcases Nat.lt_or_ge (a + k) l.length with hlt | hge
    · have hv := List.getElem?_eq_getElem hlt
      have hb := hl _ (List.getElem_mem hlt)
      have hcons : l.drop (a + k) = l[a + k] :: l.drop (a + k + 1) := List.drop_eq_getElem_cons hlt
      generalize l[a + k] = v at hv hb hcons
      have hp : (0 : Int) ≤ v % 128 * 128 ^ k := Int.mul_nonneg (by omega) (Int.pow_nonneg (by decide))
      by_cases h1 : 128 ≤ v
      · rw [goN_more hv h1] at h
        obtain ⟨u, n, e1, e2, e3, e4, e5, e6⟩ := goN_was hl f (k + 1) _ x q (by omega) h hq
        have hu0 : u ≠ 0 := e5 (by omega)
        have es : acc + v % 128 * 128 ^ k + (u : Int) * 128 ^ (k + 1) = acc + (((v % 128).toNat + 128 * u : Nat) : Int) * 128 ^ k := by
          rw [Int.pow_succ]
          have : (((v % 128).toNat + 128 * u : Nat) : Int) = v % 128 + 128 * u := by omega
          rw [this, Int.add_mul]
          generalize (128 : Int) ^ k = P
          rw [Int.mul_comm P 128, ← Int.mul_assoc, Int.mul_comm (u : Int) 128]
          omega
        have ee : enc ((v % 128).toNat + 128 * u) = v :: enc u := by
          rw [enc_ge (by omega)]
          have d1 : ((v % 128).toNat + 128 * u) / 128 = u := by omega
          have d2 : 128 + (((v % 128).toNat + 128 * u : Nat) : Int) % 128 = v := by omega
          rw [d1, d2]
        refine ⟨(v % 128).toNat + 128 * u, n, e1, ?_, by rw [e3, es], by rw [← es]; exact e4, by omega, by rw [ee]; simp; omega⟩
        rw [hcons, ee, show a + k + 1 = a + (k + 1) from by omega, e2]; rfl
      · by_cases h2 : (v = 0 ∧ 0 < k) ∨ 2000000 < acc + v % 128 * 128 ^ k
        · rw [goN_bad hv (by omega) h2] at h
          simp at h
          omega
        · rw [goN_ok hv (by omega) h2] at h
          simp only [Prod.mk.injEq] at h
          obtain ⟨rfl, rfl⟩ := h
          have ev : ((v.toNat : Nat) : Int) = v := by omega
          have em : v % 128 = v := by omega
          refine ⟨v.toNat, a + k + 1, rfl, ?_, by rw [em, ev], by rw [ev]; rw [em] at h2; omega, by intro hk hz; apply h2; left; exact ⟨by omega, hk⟩, by rw [enc_lt (by omega)]; simp⟩
          rw [hcons, enc_lt (by omega), ev]; rfl
    · rw [goN_out hge] at h
      simp at h
      omega
theorem takeN_was {l : List Int} (hl : By l) {p : Nat} {x q : Int} (h : takeN l (p : Int) = (x, q)) (hq : q ≠ -1) : ∃ n : Nat, q = n ∧ l.drop p = putN x ++ l.drop n ∧ isN x = true ∧ n = p + (putN x).length := by
  unfold takeN at h
  rw [if_neg (by omega), Int.toNat_natCast] at h
  obtain ⟨u, n, e1, e2, e3, e4, _, e6⟩ := goN_was hl 3 0 0 x q (by omega) h hq
  simp at e3 e4
  have hu : u ≤ 2000000 := by omega
  have hx : isN x = true := by rw [e3]; exact isN_mk (unf_bd (by omega) (by omega))
  have hp : putN x = enc u := by unfold putN; rw [hx, e3, fold_unf hu]; rfl
  exact ⟨n, e1, by rw [hp]; simpa using e2, hx, by rw [hp]; omega⟩

/-- Cut short, it is not there. -/
theorem goN_cut {l : List Int} {a : Nat} : ∀ (f k : Nat) (acc : Int), (∀ z ∈ l.drop (a + k), 128 ≤ z) → goN l a f k acc = (0, -1)
  | 0, k, acc, h => rfl
  | f + 1, k, acc, h => by
    rcases Nat.lt_or_ge (a + k) l.length with hlt | hge
    · have hv := List.getElem?_eq_getElem hlt
      have hcons : l.drop (a + k) = l[a + k] :: l.drop (a + k + 1) := List.drop_eq_getElem_cons hlt
      rw [goN_more hv (h _ (by rw [hcons]; exact List.mem_cons_self ..))]
      exact goN_cut f (k + 1) _ (fun z hz => h z (by rw [hcons]; exact List.mem_cons_of_mem _ hz))
    · exact goN_out hge
theorem enc_dropLast (u : Nat) : ∀ z ∈ (enc u).dropLast, 128 ≤ z := by
  induction u using Nat.strongRecOn with
  | _ u ih =>
    by_cases h : u < 128
    · rw [enc_lt h]; simp
    · rw [enc_ge (by omega)]
      have hne : enc (u / 128) ≠ [] := by
        intro e
        by_cases h2 : u / 128 < 128
        · rw [enc_lt h2] at e; cases e
        · rw [enc_ge (by omega)] at e; cases e
      rw [List.dropLast_cons_of_ne_nil hne]
      intro z hz
      rcases List.mem_cons.1 hz with rfl | hz
      · omega
      · exact ih (u / 128) (by omega) z hz
theorem takeN_cut {l : List Int} {p : Nat} {x : Int} (hd : l.drop p = (putN x).dropLast) : takeN l (p : Int) = (0, -1) := by
  unfold takeN
  rw [if_neg (by omega), Int.toNat_natCast]
  refine goN_cut 3 0 0 (fun z hz => ?_)
  rw [Nat.add_zero, hd] at hz
  unfold putN at hz
  split at hz
  · exact enc_dropLast _ z hz
  · simp at hz
end Go.Proofs.YtfpbhedophlnkaaGreatDoor
namespace Go.Proofs.YtfpbhedophlnkaaGreatDoor
open Go.RowKit
set_option linter.unusedSimpArgs false
set_option linter.unusedVariables false

/-- Behind 'append(out, x)': x lay in a block of its own. -/
theorem below_app1 {w wr w1 : World} {e : TypeId} {k : IntKind} {ao : Option Addr} {c : Nat} {l : List Int} {o : Obj} (hb : Below w.heap.size w wr) (ho : Own wr w.heap.size e k ao c l) (hg : (wr.alloc o).grownBy w1 (ao.map (·.block))) : Below w.heap.size w w1 := by
  refine (hb.alloc hb.size o).grown hg (by have := hb.size; simp; omega) ?_
  intro g hg'
  rcases ao with _ | a
  · cases hg'
  · simp at hg'; subst hg'; exact (ho.lt a rfl).1

def PutRel (w wr : World) (e : TypeId) (u0 : Nat) (v q : Value) : Prop :=
  ∃ (ao : Option Addr) (c : Nat) (acc : List Int) (u : Nat), v = .slice ao acc.length c ∧ q = .int .i64 u ∧ u ≤ 2000000 ∧ Own wr w.heap.size e .u8 ao c acc ∧ acc ++ enc u = enc u0 ∧ Below w.heap.size w wr
theorem putRel_step {w wr w1 : World} {e : TypeId} {u0 u : Nat} {ao ao' : Option Addr} {c c' : Nat} {acc : List Int} {o : Obj} {z : Int} (hz : z = 128 + (u : Int) % 128) (h128 : 128 ≤ u) (hu : u ≤ 2000000)
    (he : acc ++ enc u = enc u0) (ho : Own wr w.heap.size e .u8 ao c acc) (hb : Below w.heap.size w wr) (ho' : Own w1 w.heap.size e .u8 ao' c' (acc ++ [z])) (hg : (wr.alloc o).grownBy w1 (ao.map (·.block))) :
    PutRel w w1 e u0 (.slice ao' (acc.length + 1) c') (.int .i64 ((u : Int) / 128)) := by
  subst hz
  refine ⟨ao', c', acc ++ [128 + (u : Int) % 128], u / 128, by simp, by simp, by omega, ho', ?_, below_app1 hb ho hg⟩
  rw [List.append_assoc, ← he, enc_ge h128]; rfl
theorem acc_len {acc : List Int} {u u0 : Nat} (h : acc ++ enc u = enc u0) (h0 : u0 ≤ 2000000) : acc.length ≤ 3 := by
  have := congrArg List.length h
  have := (enc_len u0 (by omega)).2
  simp at *; omega

theorem base_le {w wr : World} {o : Obj} (hb : Below w.heap.size w wr) : w.heap.size ≤ (wr.alloc o).heap.size := by have := hb.size; simp; omega

set_option maxRecDepth 100000 in
set_option maxHeartbeats 800000 in
theorem specPutNum_any (x : Int) (w : World) : Calls Tryz.prog 113 #[.int .i64 x] w (Made w 5 .u8 (putN x)) := by
  by_cases hx : -1000000 ≤ x ∧ x ≤ 1000000
  · have hfold := fold_le hx
    rw [show putN x = enc (fold x) by unfold putN; rw [isN_mk hx]; rfl]
    obtain ⟨u0, hu0⟩ : ∃ u0 : Nat, u0 = fold x := ⟨_, rfl⟩
    rw [← hu0] at hfold ⊢
    have hst : Own (w.alloc (Obj.cells #[] 5)) w.heap.size 5 .u8 (some ⟨w.heap.size, 0, none⟩) 0 [] := World.ownsRow_lit w #[] 0 (Nat.le_refl _) (Nat.zero_le _) rfl
    have HST := Lib.hid hst; clear hst
    have HF := Lib.hid hfold
    have hf' : (u0 : Int) ≤ 2000000 := by omega
    rcases Int.lt_or_le x 0 with h0 | h0
    · have hu : -2 * x - 1 = (u0 : Int) := by rw [hu0]; unfold fold; rw [if_neg (by omega)]; omega
      have hd : decide (x < 0) = true := by simp; omega
      clear hu0 hfold
      go_enter Tryz.func113, Tryz.ntmps113
      go_wp2_with (go_at_call 188; refine (l01Number_t _ _ hx).mono ?_; rintro e w' ⟨rfl, rfl⟩)
      clear hu hx
      go_loopw [3, 4] (fun v q wr => PutRel w wr 5 u0 v q) (fun _ q _ => (intOf q).toNat)
      case atStart => exact ⟨_, _, [], u0, rfl, rfl, HF.out, HST.out, rfl, (Below.refl _ _).alloc (Nat.le_refl _) _⟩
      case round =>
        obtain ⟨ao, c, acc, u, rfl, rfl, hu, ho, he, hb⟩ := hrel
        have hal := acc_len he HF.out
        have HE := Lib.hid he; have HO := Lib.hid ho; have HB := Lib.hid hb
        have hu' : (u : Int) ≤ 2000000 := by omega
        have HU := Lib.hid hu; clear hu he ho hb
        by_cases h128 : 128 ≤ u
        · have h128' : (128 : Int) ≤ u := by omega
          go_wp2_with (at_builtin; refine wpList_append1 _ rfl (.tmp 18) (.tmp 23) 22 rfl w.heap.size 5 .u8 1 Tryz.underlying22 Tryz.infoU8 ao c acc.length acc rfl rfl (HO.out.alloc _) wr.heap.size 1 (128 + (u : Int) % 128) rfl (cell_one _ _ _) (by unfold maxLen; omega) (by omega) (base_le HB.out) ?_; intro ao' c' w1 ho' hg')
          go_roundw
          case rel => exact putRel_step rfl h128 HU.out HE.out HO.out HB.out ho' hg'
          case measure => simp [intOf]; omega
        · have h128' : (u : Int) < 128 := by omega
          clear h128 hu' hf'
          go_wp2_with (at_builtin; refine wpList_append1 _ rfl (.tmp 27) (.tmp 30) 22 rfl w.heap.size 5 .u8 1 Tryz.underlying22 Tryz.infoU8 ao c acc.length acc rfl rfl (HO.out.alloc _) wr.heap.size 1 (u : Int) rfl (cell_one _ _ _) (by unfold maxLen; omega) (by omega) (base_le HB.out) ?_; intro ao' c' w1 ho' hg')
          go_ret
          refine ⟨ao', c', ?_, ?_, below_app1 HB.out HO.out hg'⟩
          · rw [← HE.out, enc_lt (by omega)]; simp
          · rw [← HE.out, enc_lt (by omega)]; exact ho'
    · have hu : 2 * x = (u0 : Int) := by rw [hu0]; unfold fold; rw [if_pos h0]; omega
      have hd : decide (x < 0) = false := by simp; omega
      clear hu0 hfold
      go_enter Tryz.func113, Tryz.ntmps113
      go_wp2_with (go_at_call 188; refine (l01Number_t _ _ hx).mono ?_; rintro e w' ⟨rfl, rfl⟩)
      clear hu hx
      go_loopw [3, 4] (fun v q wr => PutRel w wr 5 u0 v q) (fun _ q _ => (intOf q).toNat)
      case atStart => exact ⟨_, _, [], u0, rfl, rfl, HF.out, HST.out, rfl, (Below.refl _ _).alloc (Nat.le_refl _) _⟩
      case round =>
        obtain ⟨ao, c, acc, u, rfl, rfl, hu, ho, he, hb⟩ := hrel
        have hal := acc_len he HF.out
        have HE := Lib.hid he; have HO := Lib.hid ho; have HB := Lib.hid hb
        have hu' : (u : Int) ≤ 2000000 := by omega
        have HU := Lib.hid hu; clear hu he ho hb
        by_cases h128 : 128 ≤ u
        · have h128' : (128 : Int) ≤ u := by omega
          go_wp2_with (at_builtin; refine wpList_append1 _ rfl (.tmp 18) (.tmp 23) 22 rfl w.heap.size 5 .u8 1 Tryz.underlying22 Tryz.infoU8 ao c acc.length acc rfl rfl (HO.out.alloc _) wr.heap.size 1 (128 + (u : Int) % 128) rfl (cell_one _ _ _) (by unfold maxLen; omega) (by omega) (base_le HB.out) ?_; intro ao' c' w1 ho' hg')
          go_roundw
          case rel => exact putRel_step rfl h128 HU.out HE.out HO.out HB.out ho' hg'
          case measure => simp [intOf]; omega
        · have h128' : (u : Int) < 128 := by omega
          clear h128 hu' hf'
          go_wp2_with (at_builtin; refine wpList_append1 _ rfl (.tmp 27) (.tmp 30) 22 rfl w.heap.size 5 .u8 1 Tryz.underlying22 Tryz.infoU8 ao c acc.length acc rfl rfl (HO.out.alloc _) wr.heap.size 1 (u : Int) rfl (cell_one _ _ _) (by unfold maxLen; omega) (by omega) (base_le HB.out) ?_; intro ao' c' w1 ho' hg')
          go_ret
          refine ⟨ao', c', ?_, ?_, below_app1 HB.out HO.out hg'⟩
          · rw [← HE.out, enc_lt (by omega)]; simp
          · rw [← HE.out, enc_lt (by omega)]; exact ho'
  · rw [show putN x = [] by unfold putN; rw [isN_not hx]; rfl]
    have HX := Lib.hid hx; clear hx
    go_enter Tryz.func113, Tryz.ntmps113
    go_wp2_with (go_at_call 188; refine (l01Number_f _ _ HX.out).mono ?_; rintro e w' ⟨rfl, rfl⟩)
    go_ret
    exact ⟨none, 0, rfl, Own.none_, (Below.refl _ _).alloc (Nat.le_refl _) _⟩
end Go.Proofs.YtfpbhedophlnkaaGreatDoor
namespace Go.Proofs.YtfpbhedophlnkaaGreatDoor
open Go.RowKit
set_option linter.unusedSimpArgs false
set_option linter.unusedVariables false

/-- Block h holds a wire with the bytes l; block and row lie from B on. -/
def Wr (w : World) (B h : Nat) (T E : TypeId) (l : List Int) : Prop :=
  ∃ ao c, w.heap[h]? = some (.cells #[.slice ao l.length c] T (0, 0)) ∧ B ≤ h ∧ Own w B E .u8 ao c l

section
variable {w wr w1 w' : World} {B h : Nat} {T E : TypeId} {l : List Int} {ao ao' : Option Addr} {c c' : Nat} {o : Obj} {z : Int}
theorem own_ne (hT : E ≠ T) {v : Value} (hb : wr.heap[h]? = some (.cells #[v] T (0, 0))) (ho : Own wr B E .u8 ao c l) : ∀ a, ao = some a → a.block ≠ h := by
  intro a ha e
  rcases ho.2 with ⟨hv, _⟩ | ⟨g, cap, cur, hv, _, hg, _⟩
  · simp only [Value.slice.injEq] at hv; rw [ha] at hv; cases hv.1
  · simp only [Value.slice.injEq] at hv
    rw [ha] at hv
    have e2 : a = ⟨g, 0, none⟩ := by injection hv.1
    subst e2
    simp only at e; subst e
    rw [hg] at hb
    injection hb with hb
    injection hb with _ hb
    exact hT hb
theorem grown_block {v : Value} {row : Option Nat} (hb : wr.heap[h]? = some (.cells #[v] T (0, 0))) (hg : (wr.alloc o).grownBy w1 row) (hne : some h ≠ row) : w1.heap[h]? = some (.cells #[v] T (0, 0)) := by
  have hlt := lt_of_block hb
  rw [hg.block h (by simp; omega) hne, Below.heap_alloc _ _ _ hlt]; exact hb
theorem row_ne (hne : ∀ a, ao = some a → a.block ≠ h) : some h ≠ ao.map (·.block) := by
  cases ao with
  | none => simp
  | some a => simp; exact fun e => hne a rfl e.symm
theorem below_row (hb : Below B w wr) (hB : B ≤ wr.heap.size) (hg : (wr.alloc o).grownBy w1 (ao.map (·.block))) (ho : Own wr B E .u8 ao c l) : Below B w w1 := by
  refine (hb.alloc hB o).grown hg (by simp; omega) ?_
  intro g hg'
  cases ao with
  | none => cases hg'
  | some a => simp at hg'; subst hg'; exact (ho.lt a rfl).1
/-- The new slice value stored back behind the pointer. -/
theorem Wr.put {v : Value} {l' : List Int} {n : Nat} (hT : E ≠ T) (hb : w1.heap[h]? = some (.cells #[v] T (0, 0))) (hB : B ≤ h) (ho : Own w1 B E .u8 ao' c' l') (hn : n = l'.length) :
    Wr (w1.setCell ⟨h, 0, none⟩ (.slice ao' n c')) B h T E l' := by
  subst hn
  refine ⟨ao', c', one_setCell hb, hB, ?_⟩
  have hne := own_ne hT hb ho
  exact ho.keep fun a ha _ => Below.heap_setCell _ _ _ _ (hne a ha)
end

theorem isNum_t (x : Int) (w : World) (h : -1000000 ≤ x ∧ x ≤ 1000000) : Calls Tryz.prog 171 #[.int .i64 x] w fun e w' => e = .returned (.bool true) ∧ w = w' := by
  go_enter Tryz.func171, Tryz.ntmps171
  go_wp2
  go_ret
  exact ⟨rfl, rfl⟩
theorem isNum_f (x : Int) (w : World) (h : ¬ (-1000000 ≤ x ∧ x ≤ 1000000)) : Calls Tryz.prog 171 #[.int .i64 x] w fun e w' => e = .returned (.bool false) ∧ w = w' := by
  by_cases h1 : -1000000 ≤ x
  · have h2 : ¬ x ≤ 1000000 := by omega
    go_enter Tryz.func171, Tryz.ntmps171
    go_wp2
    go_ret
    exact ⟨rfl, rfl⟩
  · have h3 : decide (-1000000 ≤ x) = false := by simp; omega
    go_enter Tryz.func171, Tryz.ntmps171
    go_wp2
    go_ret
    exact ⟨rfl, rfl⟩
theorem foldNum_any (x : Int) (w : World) (h : -1000000 ≤ x ∧ x ≤ 1000000) : Calls Tryz.prog 230 #[.int .i64 x] w fun e w' => e = .returned (.int .i64 (fold x)) ∧ w = w' := by
  rcases Int.lt_or_le x 0 with h0 | h0
  · have hu : (fold x : Int) = -2 * x - 1 := by unfold fold; rw [if_neg (by omega)]; omega
    have HU := Lib.hid hu; clear hu
    go_enter Tryz.func230, Tryz.ntmps230
    go_wp2
    go_ret
    exact ⟨ret_int HU.out.symm, rfl⟩
  · have hu : (fold x : Int) = 2 * x := by unfold fold; rw [if_pos (by omega)]; omega
    have HU := Lib.hid hu; clear hu
    go_enter Tryz.func230, Tryz.ntmps230
    go_wp2
    go_ret
    exact ⟨ret_int HU.out.symm, rfl⟩

def AddRel (w wr : World) (B h : Nat) (T E : TypeId) (l : List Int) (u0 : Nat) (q : Value) : Prop :=
  ∃ (acc : List Int) (u : Nat), q = .int .i64 u ∧ u ≤ 2000000 ∧ Wr wr B h T E (l ++ acc) ∧ acc ++ enc u = enc u0 ∧ Below B w wr ∧ B ≤ wr.heap.size
def Added (w : World) (B h : Nat) (T E : TypeId) (l : List Int) (e : Ending) (w' : World) : Prop := e = .returned (.tuple #[]) ∧ Wr w' B h T E l ∧ Below B w w'

set_option maxRecDepth 100000 in
set_option maxHeartbeats 1600000 in
theorem addNum_any (B h : Nat) (l : List Int) (x : Int) (w : World) (hx : -1000000 ≤ x ∧ x ≤ 1000000) (hw : Wr w B h 112 5 l) (hB : B ≤ w.heap.size) (hl : l.length ≤ 1000000000) :
    Calls Tryz.prog 172 #[.pointer (some ⟨h, 0, none⟩), .int .i64 x] w (Added w B h 112 5 (l ++ enc (fold x))) := by
  have hfold := fold_le hx
  obtain ⟨u0, hu0⟩ : ∃ u0 : Nat, u0 = fold x := ⟨_, rfl⟩
  have c1 := foldNum_any x w hx
  rw [← hu0] at hfold c1 ⊢
  have C1 := Lib.hid c1; have HX := Lib.hid hx; have HF := Lib.hid hfold; have HW := Lib.hid hw; clear c1 hx hu0 hfold hw
  go_enter Tryz.func172, Tryz.ntmps172
  go_wp2_with (go_at_call 230; refine C1.out.mono ?_; rintro e w' ⟨rfl, rfl⟩)
  clear C1
  go_loopw [4] (fun q wr => AddRel w wr B h 112 5 l u0 q) (fun q _ => (intOf q).toNat)
  case atStart => exact ⟨[], u0, rfl, HF.out, by rw [List.append_nil]; exact HW.out, rfl, Below.refl _ _, hB⟩
  case round =>
    obtain ⟨acc, u, rfl, hu, hw, he, hb, hBr⟩ := hrel
    have hal := acc_len he HF.out
    obtain ⟨l2, hl2⟩ : ∃ l2, l2 = l ++ acc := ⟨_, rfl⟩
    have hll : l2.length ≤ 1000000003 := by rw [hl2]; simp; omega
    rw [← hl2] at hw
    obtain ⟨ao, c, hblk, hBh, ho⟩ := hw
    have hcell := cell_of_one hblk
    have hne := own_ne (by decide) hblk ho
    have HBLK := Lib.hid hblk; have HE := Lib.hid he; have HO := Lib.hid ho; have HB := Lib.hid hb; have HL2 := Lib.hid hl2; have HNE := Lib.hid hne
    have hu' : (u : Int) ≤ 2000000 := by omega
    have HU := Lib.hid hu; clear hu he ho hb hl2 hblk hne
    by_cases h128 : 128 ≤ u
    · have h128' : (128 : Int) ≤ u := by omega
      go_wp2_with (at_builtin; refine wpList_append1 _ rfl (.tmp 12) (.tmp 17) 112 rfl B 5 .u8 1 Tryz.underlying112 Tryz.infoU8 ao c l2.length l2 rfl rfl (HO.out.alloc _) wr.heap.size 1 ((u : Int) % 128 + 128) rfl (cell_one _ _ _) (by unfold maxLen; omega) (by omega) (by simp; omega) ?_; intro ao' c' w1 ho' hg'; have hb1 := grown_block HBLK.out hg' (row_ne HNE.out); have hc1 := cell_of_one hb1; have hf1 := free_of_one hb1; have HB1 := Lib.hid hb1; have HO' := Lib.hid ho'; have HG' := Lib.hid hg'; clear hb1 ho' hg')
      go_roundw
      case rel =>
        have hb2 := below_row HB.out hBr HG'.out HO.out
        refine ⟨acc ++ [(u : Int) % 128 + 128], u / 128, by go_num, by omega, ?_, ?_, hb2.setCell hBh _, ?_⟩
        · rw [← List.append_assoc, ← HL2.out]; exact Wr.put (by decide) HB1.out hBh HO'.out (by simp)
        · rw [List.append_assoc, ← HE.out, enc_ge h128, Int.add_comm]; rfl
        · have := HG'.out.size; simp at this ⊢; omega
      case measure => simp [intOf]; omega
    · have h128' : (u : Int) < 128 := by omega
      go_wp2_with (at_builtin; refine wpList_append1 _ rfl (.tmp 25) (.tmp 28) 112 rfl B 5 .u8 1 Tryz.underlying112 Tryz.infoU8 ao c l2.length l2 rfl rfl (HO.out.alloc _) wr.heap.size 1 (u : Int) rfl (cell_one _ _ _) (by unfold maxLen; omega) (by omega) (by simp; omega) ?_; intro ao' c' w1 ho' hg'; have hb1 := grown_block HBLK.out hg' (row_ne HNE.out); have hc1 := cell_of_one hb1; have hf1 := free_of_one hb1; have HB1 := Lib.hid hb1; have HO' := Lib.hid ho'; have HG' := Lib.hid hg'; clear hb1 ho' hg')
      go_end0
      refine ⟨rfl, ?_, (below_row HB.out hBr HG'.out HO.out).setCell hBh _⟩
      rw [← HE.out, enc_lt (by omega), ← List.append_assoc, ← HL2.out]
      exact Wr.put (by decide) HB1.out hBh HO'.out (by simp)

theorem Wr.new (w : World) (T E : TypeId) : Wr (w.alloc (Obj.cells #[.slice none 0 0] T)) w.heap.size w.heap.size T E [] :=
  ⟨none, 0, heap_alloc_new w _, Nat.le_refl _, Own.none_⟩
theorem below_after {w w' : World} {o : Obj} (h : Below w.heap.size (w.alloc o) w') : Below w.heap.size w w' := ((Below.refl _ _).alloc (Nat.le_refl _) o).trans h
end Go.Proofs.YtfpbhedophlnkaaGreatDoor
