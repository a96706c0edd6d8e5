/-
  Append of one number onto a row of the call's own, as a law of the walk; and the contracts of spec.PutNum, spec.l01Bytes, spec.l01Join. Plain facts on reading a number out of bytes, and the contract of spec.TakeNum. For every slice of bytes and every place. What is put is taken again, one way alone: plain facts on the bytes of numbers. No walk. Contracts of spec.PutNum, spec.l01Bytes, spec.l01Join.
-/
import Derived.Test.YtfpbhedophlnkaaGreatDoorJ3x
namespace Go.Proofs.YtfpbhedophlnkaaGreatDoor
open Go.RowKit
set_option linter.unusedSimpArgs false
set_option linter.unusedVariables false

theorem own_slice {w : World} {base : Nat} {e : TypeId} {v : Value} {n : Nat} {xs : List Value} (h : w.ownsRow base e 1 v n xs) : ∃ ao c, v = .slice ao n c := by
  rcases h.2 with ⟨rfl, rfl⟩ | ⟨g, cap, _, rfl, _⟩
  · exact ⟨_, _, rfl⟩
  · exact ⟨_, _, rfl⟩

theorem wpList_append1 {P : Program} (w : World) {ops : Array Oper} {rest : List Oper} {o : Oper} {a : Act} {Q : Exit → Act → World → Prop} (hgd : o.guard = none) (s x : Operand) (t : TypeId)
    (ho : o.op = .call { callee := .builtin .append, args := #[s, x], argTypes := #[t, t] })
    (base : Nat) (e : TypeId) (k : IntKind) (bytes : Nat) (ht : P.underlying t = some (.slice e)) (hinfo : (P.info? e).map (fun i => (i.zero, i.size, i.bytes)) = some (some (.int k 0), 1, bytes))
    (ao : Option Addr) (c n : Nat) (l : List Int) (hs : a.eval s = .slice ao n c) (hn : n = l.length) (hown : Own w base e k ao c l)
    (g cx : Nat) (z : Int) (hx : a.eval x = .slice (some ⟨g, 0, none⟩) 1 cx) (hc : w.cell? ⟨g, 0, none⟩ = some (.int k z))
    (h63 : l.length + 1 ≤ maxLen) (hbytes : (l.length + 1) * bytes ≤ 140737488355328) (hbase : base ≤ w.heap.size)
    (h : ∀ ao' c' w', Own w' base e k ao' c' (l ++ [z]) → w.grownBy w' (ao.map (·.block)) → wpList P ops Q rest (a.put o.dst (.slice ao' (l.length + 1) c')) w') : wpList P ops Q (o :: rest) a w := by
  subst hn
  obtain ⟨i, hi, hz, hsize, hby⟩ := info_parts hinfo
  refine wpList_append_own (P := P) w hgd s x t ho base e i (.int k 0) 1 bytes ht hi hz hsize hby rfl (by decide) _ _ _ hs hown ⟨g, 0, none⟩ 1 cx [.int k z] hx rfl ?_ ?_ h63 hbytes hbase ?_
  · intro j u hj
    match j, hj with
    | 0, hj => simp at hj; subst hj; simpa [Addr.add] using hc
  · intro u hu; simp at hu; subst hu; rfl
  · intro v' w' hown' hgrow _
    obtain ⟨ao', c', rfl⟩ := own_slice hown'
    refine h ao' c' w' ?_ ?_
    · unfold Own; simpa using hown'
    · cases ao <;> exact hgrow

def enc (n : Nat) : List Int := if n < 128 then [(n : Int)] else (128 + (n : Int) % 128) :: enc (n / 128)
termination_by n
decreasing_by omega
theorem enc_lt {n : Nat} (h : n < 128) : enc n = [(n : Int)] := by rw [enc, if_pos h]
theorem enc_ge {n : Nat} (h : 128 ≤ n) : enc n = (128 + (n : Int) % 128) :: enc (n / 128) := by rw [enc, if_neg (by omega)]
theorem enc_by (n : Nat) : By (enc n) := by
  induction n using Nat.strongRecOn with
  | _ n ih =>
    by_cases h : n < 128
    · rw [enc_lt h]; exact By.one (by omega) (by omega)
    · rw [enc_ge (by omega)]
      intro z hz
      rcases List.mem_cons.1 hz with rfl | hz
      · omega
      · exact ih (n / 128) (by omega) z hz
theorem enc_len (n : Nat) (h : n ≤ 2097151) : 1 ≤ (enc n).length ∧ (enc n).length ≤ 3 := by
  by_cases h1 : n < 128
  · rw [enc_lt h1]; simp
  · rw [enc_ge (by omega)]
    by_cases h2 : n / 128 < 128
    · rw [enc_lt h2]; simp
    · rw [enc_ge (by omega), enc_lt (by omega)]; simp
def fold (x : Int) : Nat := if 0 ≤ x then (2 * x).toNat else (-2 * x - 1).toNat
def isN (x : Int) : Bool := decide (-1000000 ≤ x) && decide (x ≤ 1000000)
theorem isN_of {x : Int} (h : isN x = true) : -1000000 ≤ x ∧ x ≤ 1000000 := by unfold isN at h; simpa using h
theorem isN_mk {x : Int} (h : -1000000 ≤ x ∧ x ≤ 1000000) : isN x = true := by unfold isN; simpa using h
theorem isN_not {x : Int} (h : ¬ (-1000000 ≤ x ∧ x ≤ 1000000)) : isN x = false := by
  cases hc : isN x with
  | false => rfl
  | true => exact absurd (isN_of hc) h
theorem fold_le {x : Int} (h : -1000000 ≤ x ∧ x ≤ 1000000) : fold x ≤ 2000000 := by unfold fold; split <;> omega
def putN (x : Int) : List Int := if isN x then enc (fold x) else []
theorem putN_by (x : Int) : By (putN x) := by unfold putN; split; exact enc_by _; exact By.nil
theorem putN_len (x : Int) : (putN x).length ≤ 3 := by
  unfold putN; split
  · rename_i h; exact (enc_len _ (by have := fold_le (isN_of h); omega)).2
  · simp

theorem l01Number_t (x : Int) (w : World) (h : -1000000 ≤ x ∧ x ≤ 1000000) : Calls Tryz.prog 188 #[.int .i64 x] w fun e w' => e = .returned (.bool true) ∧ w = w' := by
  go_enter Tryz.func188, Tryz.ntmps188
  go_wp2
  go_ret
  exact ⟨rfl, rfl⟩
theorem l01Number_f (x : Int) (w : World) (h : ¬ (-1000000 ≤ x ∧ x ≤ 1000000)) : Calls Tryz.prog 188 #[.int .i64 x] w fun e w' => e = .returned (.bool false) ∧ w = w' := by
  by_cases h1 : -1000000 ≤ x
  · have h2 : ¬ x ≤ 1000000 := by omega
    go_enter Tryz.func188, Tryz.ntmps188
    go_wp2
    go_ret
    exact ⟨rfl, rfl⟩
  · have h3 : decide (-1000000 ≤ x) = false := by simp; omega
    go_enter Tryz.func188, Tryz.ntmps188
    go_wp2
    go_ret
    exact ⟨rfl, rfl⟩
end Go.Proofs.YtfpbhedophlnkaaGreatDoor
namespace Go.Proofs.YtfpbhedophlnkaaGreatDoor
open Go.RowKit
set_option linter.unusedSimpArgs false
set_option linter.unusedVariables false

def unf (u : Int) : Int := if u % 2 = 0 then u / 2 else -((u + 1) / 2)
/-- The number whose first k groups are u, read on from place a + k with at most f groups more; and the place behind it. -/
def goN (l : List Int) (a : Nat) : Nat → Nat → Int → Int × Int
  | 0, _, _ => (0, -1)
  | f + 1, k, u =>
    match l[a + k]? with
    | none => (0, -1)
    | some v => if 128 ≤ v then goN l a f (k + 1) (u + v % 128 * 128 ^ k) else if (v = 0 ∧ 0 < k) ∨ 2000000 < u + v % 128 * 128 ^ k then (0, -1) else (unf (u + v % 128 * 128 ^ k), ((a + k + 1 : Nat) : Int))
def takeN (l : List Int) (at_ : Int) : Int × Int := if at_ < 0 then (0, -1) else goN l at_.toNat 3 0 0

theorem goN_out {l : List Int} {a f k : Nat} {u : Int} (h : l.length ≤ a + k) : goN l a f k u = (0, -1) := by
  cases f with
  | zero => rfl
  | succ f => rw [goN, List.getElem?_eq_none h]
theorem goN_more {l : List Int} {a f k : Nat} {u v : Int} (h : l[a + k]? = some v) (hv : 128 ≤ v) : goN l a (f + 1) k u = goN l a f (k + 1) (u + v % 128 * 128 ^ k) := by
  rw [goN, h]; simp only; rw [if_pos hv]
theorem goN_bad {l : List Int} {a f k : Nat} {u v : Int} (h : l[a + k]? = some v) (hv : v < 128) (hb : (v = 0 ∧ 0 < k) ∨ 2000000 < u + v % 128 * 128 ^ k) : goN l a (f + 1) k u = (0, -1) := by
  rw [goN, h]; simp only; rw [if_neg (by omega), if_pos hb]
theorem goN_ok {l : List Int} {a f k : Nat} {u v : Int} (h : l[a + k]? = some v) (hv : v < 128) (hb : ¬ ((v = 0 ∧ 0 < k) ∨ 2000000 < u + v % 128 * 128 ^ k)) : goN l a (f + 1) k u = (unf (u + v % 128 * 128 ^ k), ((a + k + 1 : Nat) : Int)) := by
  rw [goN, h]; simp only; rw [if_neg (by omega), if_neg hb]
theorem goN_last {l : List Int} (hl : By l) (a : Nat) {u : Int} (hu : 0 ≤ u) : goN l a 1 3 u = (0, -1) := by
  rcases Nat.lt_or_ge (a + 3) l.length with h | h
  · have hv := List.getElem?_eq_getElem h
    have hb := hl _ (List.getElem_mem h)
    by_cases h1 : 128 ≤ l[a + 3]
    · rw [goN_more hv h1]; rfl
    · refine goN_bad hv (by omega) ?_
      have e : (128 : Int) ^ 3 = 2097152 := by decide
      rw [e]
      by_cases h0 : l[a + 3] = 0
      · left; exact ⟨h0, by omega⟩
      · right; omega
  · exact goN_out h
theorem goN_ext {l : List Int} (hl : By l) (a : Nat) : ∀ (f k : Nat) (u : Int), k + f = 3 → 0 ≤ u → goN l a (f + 1) k u = goN l a f k u
  | 0, k, u, hk, hu => by
    obtain rfl : k = 3 := by omega
    rw [goN_last hl a hu]; rfl
  | f + 1, k, u, hk, hu => by
    rcases Nat.lt_or_ge (a + k) l.length with h | h
    · have hv := List.getElem?_eq_getElem h
      have hb := hl _ (List.getElem_mem h)
      by_cases h1 : 128 ≤ l[a + k]
      · rw [goN_more hv h1, goN_more hv h1]
        refine goN_ext hl a f (k + 1) _ (by omega) ?_
        have : (0 : Int) ≤ l[a + k] % 128 * 128 ^ k := Int.mul_nonneg (by omega) (Int.pow_nonneg (by decide))
        omega
      · by_cases h2 : (l[a + k] = 0 ∧ 0 < k) ∨ 2000000 < u + l[a + k] % 128 * 128 ^ k
        · rw [goN_bad hv (by omega) h2, goN_bad hv (by omega) h2]
        · rw [goN_ok hv (by omega) h2, goN_ok hv (by omega) h2]
    · rw [goN_out h, goN_out h]
theorem unf_bd {u : Int} (h0 : 0 ≤ u) (h1 : u ≤ 2000000) : -1000000 ≤ unf u ∧ unf u ≤ 1000000 := by unfold unf; split <;> omega
theorem unf_out {u : Int} (h1 : 2000000 < u) : ¬ (-1000000 ≤ unf u ∧ unf u ≤ 1000000) := by unfold unf; split <;> omega
theorem goN_bd {l : List Int} (hl : By l) (a : Nat) : ∀ (f k : Nat) (u : Int), 0 ≤ u →
    -1000000 ≤ (goN l a f k u).1 ∧ (goN l a f k u).1 ≤ 1000000 ∧ ((goN l a f k u).2 = -1 ∨ ((a + k : Nat) : Int) < (goN l a f k u).2 ∧ (goN l a f k u).2 ≤ l.length) ∧ ((goN l a f k u).2 = -1 → (goN l a f k u).1 = 0)
  | 0, k, u, hu => by simp [goN]
  | f + 1, k, u, hu => by
    rcases Nat.lt_or_ge (a + k) l.length with h | h
    · have hv := List.getElem?_eq_getElem h
      have hb := hl _ (List.getElem_mem h)
      have hp : (0 : Int) ≤ l[a + k] % 128 * 128 ^ k := Int.mul_nonneg (by omega) (Int.pow_nonneg (by decide))
      by_cases h1 : 128 ≤ l[a + k]
      · rw [goN_more hv h1]
        have := goN_bd hl a f (k + 1) (u + l[a + k] % 128 * 128 ^ k) (by omega)
        refine ⟨this.1, this.2.1, ?_, this.2.2.2⟩
        rcases this.2.2.1 with h2 | h2
        · exact .inl h2
        · exact .inr ⟨by omega, h2.2⟩
      · by_cases h2 : (l[a + k] = 0 ∧ 0 < k) ∨ 2000000 < u + l[a + k] % 128 * 128 ^ k
        · rw [goN_bad hv (by omega) h2]; simp
        · rw [goN_ok hv (by omega) h2]
          have := unf_bd (u := u + l[a + k] % 128 * 128 ^ k) (by omega) (by omega)
          refine ⟨this.1, this.2, .inr ⟨by simp only; omega, by simp only; omega⟩, by simp only; omega⟩
    · rw [goN_out h]; simp
theorem takeN_bd {l : List Int} (hl : By l) (at_ : Int) :
    -1000000 ≤ (takeN l at_).1 ∧ (takeN l at_).1 ≤ 1000000 ∧ ((takeN l at_).2 = -1 ∨ 0 ≤ at_ ∧ at_ < (takeN l at_).2 ∧ (takeN l at_).2 ≤ l.length) ∧ ((takeN l at_).2 = -1 → (takeN l at_).1 = 0) := by
  unfold takeN
  split
  · simp
  · have := goN_bd hl at_.toNat 3 0 0 (by omega)
    refine ⟨this.1, this.2.1, ?_, this.2.2.2⟩
    rcases this.2.2.1 with h2 | h2
    · exact .inl h2
    · exact .inr ⟨by omega, by omega, h2.2⟩
end Go.Proofs.YtfpbhedophlnkaaGreatDoor
namespace Go.Proofs.YtfpbhedophlnkaaGreatDoor
open Go.RowKit
set_option linter.unusedSimpArgs false
set_option linter.unusedVariables false

theorem fold_unf {u : Nat} (h : u ≤ 2000000) : fold (unf (u : Int)) = u := by
  unfold fold unf
  split <;> split <;> omega
theorem unf_fold {x : Int} (h : -1000000 ≤ x ∧ x ≤ 1000000) : unf (fold x : Int) = x := by
  unfold fold unf
  split <;> split <;> omega
theorem drop_get {l r : List Int} {n : Nat} {v : Int} (h : l.drop n = v :: r) : l[n]? = some v ∧ l.drop (n + 1) = r := by
  constructor
  · have := congrArg (fun t => t[0]?) h
    simpa using this
  · rw [← List.drop_drop, h]; rfl

/-- The groups of u, read on. -/
theorem goN_enc {l rest : List Int} {a : Nat} : ∀ (f k u : Nat) (acc : Int), l.drop (a + k) = enc u ++ rest → (enc u).length ≤ f → (0 < k → u ≠ 0) → acc + u * 128 ^ k ≤ 2000000 → 0 ≤ acc →
    goN l a f k acc = (unf (acc + u * 128 ^ k), ((a + k + (enc u).length : Nat) : Int))
  | 0, k, u, acc, hd, hf, hk, hs, h0 => by
    have : 1 ≤ (enc u).length := by
      by_cases h : u < 128
      · rw [enc_lt h]; simp
      · rw [enc_ge (by omega)]; simp
    omega
  | f + 1, k, u, acc, hd, hf, hk, hs, h0 => by
    by_cases h : u < 128
    · rw [enc_lt h] at hd hf ⊢
      obtain ⟨h1, _⟩ := drop_get hd
      have em : ((u : Int)) % 128 = u := by omega
      rw [goN_ok h1 (by omega) (by rw [em]; omega), em]
      simp
    · rw [enc_ge (by omega)] at hd hf ⊢
      obtain ⟨h1, h2⟩ := drop_get hd
      rw [goN_more h1 (by omega)]
      have em : (128 + (u : Int) % 128) % 128 = (u : Int) % 128 := by omega
      have es : acc + (128 + (u : Int) % 128) % 128 * 128 ^ k + ((u / 128 : Nat) : Int) * 128 ^ (k + 1) = acc + u * 128 ^ k := by
        rw [em, Int.pow_succ]
        have e1 : (u : Int) = (u : Int) % 128 + ((u / 128 : Nat) : Int) * 128 := by omega
        generalize (128 : Int) ^ k = P
        have e2 : (u : Int) * P = (u : Int) % 128 * P + ((u / 128 : Nat) : Int) * (P * 128) := by
          rw [Int.mul_comm P 128, ← Int.mul_assoc, ← Int.add_mul, ← e1]
        rw [e2]; omega
      have hp : (0 : Int) ≤ (128 + (u : Int) % 128) % 128 * 128 ^ k := Int.mul_nonneg (by omega) (Int.pow_nonneg (by decide))
      have ih := goN_enc (l := l) (a := a) (rest := rest) f (k + 1) (u / 128) (acc + (128 + (u : Int) % 128) % 128 * 128 ^ k) (show l.drop (a + (k + 1)) = enc (u / 128) ++ rest from h2) (by simpa using hf) (by intro _; omega) (by rw [es]; exact hs) (by omega)
      rw [ih, es]
      simp
      omega
theorem takeN_put {l rest : List Int} {p : Nat} {x : Int} (hx : isN x = true) (hd : l.drop p = putN x ++ rest) : takeN l (p : Int) = (x, ((p + (putN x).length : Nat) : Int)) := by
  have hb := isN_of hx
  have hp : putN x = enc (fold x) := by unfold putN; rw [hx]; rfl
  rw [hp] at hd ⊢
  unfold takeN
  rw [if_neg (by omega), Int.toNat_natCast]
  have hf := fold_le hb
  rw [goN_enc (rest := rest) 3 0 (fold x) 0 hd (enc_len _ (by omega)).2 (by omega) (by simp; omega) (by omega)]
  simp [unf_fold hb]

/-- What is read was put so. -/
theorem goN_was {l : List Int} (hl : By l) {a : Nat} : ∀ (f k : Nat) (acc x q : Int), 0 ≤ acc → goN l a f k acc = (x, q) → q ≠ -1 →
    ∃ u n : Nat, q = n ∧ l.drop (a + k) = enc u ++ l.drop n ∧ x = unf (acc + u * 128 ^ k) ∧ acc + u * 128 ^ k ≤ 2000000 ∧ (0 < k → u ≠ 0) ∧ n = a + k + (enc u).length
  | 0, k, acc, x, q, h0, h, hq => by
    rw [goN] at h
    simp at h
    omega
  | f + 1, k, acc, x, q, h0, h, hq => by
    rcases Nat.lt_or_ge (a + k) l.length with hlt | hge
    · have hv := List.getElem?_eq_getElem hlt
      have hb := hl _ (List.getElem_mem hlt)
      have hcons : l.drop (a + k) = l[a + k] :: l.drop (a + k + 1) := List.drop_eq_getElem_cons hlt
      generalize l[a + k] = v at hv hb hcons
      have hp : (0 : Int) ≤ v % 128 * 128 ^ k := Int.mul_nonneg (by omega) (Int.pow_nonneg (by decide))
      by_cases h1 : 128 ≤ v
      · rw [goN_more hv h1] at h
        obtain ⟨u, n, e1, e2, e3, e4, e5, e6⟩ := goN_was hl f (k + 1) _ x q (by omega) h hq
        have hu0 : u ≠ 0 := e5 (by omega)
        have es : acc + v % 128 * 128 ^ k + (u : Int) * 128 ^ (k + 1) = acc + (((v % 128).toNat + 128 * u : Nat) : Int) * 128 ^ k := by
          rw [Int.pow_succ]
          have : (((v % 128).toNat + 128 * u : Nat) : Int) = v % 128 + 128 * u := by omega
          rw [this, Int.add_mul]
          generalize (128 : Int) ^ k = P
          rw [Int.mul_comm P 128, ← Int.mul_assoc, Int.mul_comm (u : Int) 128]
          omega
        have ee : enc ((v % 128).toNat + 128 * u) = v :: enc u := by
          rw [enc_ge (by omega)]
          have d1 : ((v % 128).toNat + 128 * u) / 128 = u := by omega
          have d2 : 128 + (((v % 128).toNat + 128 * u : Nat) : Int) % 128 = v := by omega
          rw [d1, d2]
        refine ⟨(v % 128).toNat + 128 * u, n, e1, ?_, by rw [e3, es], by rw [← es]; exact e4, by omega, by rw [ee]; simp; omega⟩
        rw [hcons, ee, show a + k + 1 = a + (k + 1) from by omega, e2]; rfl
      · by_cases h2 : (v = 0 ∧ 0 < k) ∨ 2000000 < acc + v % 128 * 128 ^ k
        · rw [goN_bad hv (by omega) h2] at h
          simp at h
          omega
        · rw [goN_ok hv (by omega) h2] at h
          simp only [Prod.mk.injEq] at h
          obtain ⟨rfl, rfl⟩ := h
          have ev : ((v.toNat : Nat) : Int) = v := by omega
          have em : v % 128 = v := by omega
          refine ⟨v.toNat, a + k + 1, rfl, ?_, by rw [em, ev], by rw [ev]; rw [em] at h2; omega, by intro hk hz; apply h2; left; exact ⟨by omega, hk⟩, by rw [enc_lt (by omega)]; simp⟩
          rw [hcons, enc_lt (by omega), ev]; rfl
    · rw [goN_out hge] at h
      simp at h
      omega
theorem takeN_was {l : List Int} (hl : By l) {p : Nat} {x q : Int} (h : takeN l (p : Int) = (x, q)) (hq : q ≠ -1) : ∃ n : Nat, q = n ∧ l.drop p = putN x ++ l.drop n ∧ isN x = true ∧ n = p + (putN x).length := by
  unfold takeN at h
  rw [if_neg (by omega), Int.toNat_natCast] at h
  obtain ⟨u, n, e1, e2, e3, e4, _, e6⟩ := goN_was hl 3 0 0 x q (by omega) h hq
  simp at e3 e4
  have hu : u ≤ 2000000 := by omega
  have hx : isN x = true := by rw [e3]; exact isN_mk (unf_bd (by omega) (by omega))
  have hp : putN x = enc u := by unfold putN; rw [hx, e3, fold_unf hu]; rfl
  exact ⟨n, e1, by rw [hp]; simpa using e2, hx, by rw [hp]; omega⟩

/-- Cut short, it is not there. -/
theorem goN_cut {l : List Int} {a : Nat} : ∀ (f k : Nat) (acc : Int), (∀ z ∈ l.drop (a + k), 128 ≤ z) → goN l a f k acc = (0, -1)
  | 0, k, acc, h => rfl
  | f + 1, k, acc, h => by
    rcases Nat.lt_or_ge (a + k) l.length with hlt | hge
    · have hv := List.getElem?_eq_getElem hlt
      have hcons : l.drop (a + k) = l[a + k] :: l.drop (a + k + 1) := List.drop_eq_getElem_cons hlt
      rw [goN_more hv (h _ (by rw [hcons]; exact List.mem_cons_self ..))]
      exact goN_cut f (k + 1) _ (fun z hz => h z (by rw [hcons]; exact List.mem_cons_of_mem _ hz))
    · exact goN_out hge
theorem enc_dropLast (u : Nat) : ∀ z ∈ (enc u).dropLast, 128 ≤ z := by
  induction u using Nat.strongRecOn with
  | _ u ih =>
    by_cases h : u < 128
    · rw [enc_lt h]; simp
    · rw [enc_ge (by omega)]
      have hne : enc (u / 128) ≠ [] := by
        intro e
        by_cases h2 : u / 128 < 128
        · rw [enc_lt h2] at e; cases e
        · rw [enc_ge (by omega)] at e; cases e
      rw [List.dropLast_cons_of_ne_nil hne]
      intro z hz
      rcases List.mem_cons.1 hz with rfl | hz
      · omega
      · exact ih (u / 128) (by omega) z hz
theorem takeN_cut {l : List Int} {p : Nat} {x : Int} (hd : l.drop p = (putN x).dropLast) : takeN l (p : Int) = (0, -1) := by
  unfold takeN
  rw [if_neg (by omega), Int.toNat_natCast]
  refine goN_cut 3 0 0 (fun z hz => ?_)
  rw [Nat.add_zero, hd] at hz
  unfold putN at hz
  split at hz
  · exact enc_dropLast _ z hz
  · simp at hz
end Go.Proofs.YtfpbhedophlnkaaGreatDoor
namespace Go.Proofs.YtfpbhedophlnkaaGreatDoor
open Go.RowKit
set_option linter.unusedSimpArgs false
set_option linter.unusedVariables false

/-- Behind 'append(out, x)': x lay in a block of its own. -/
theorem below_app1 {w wr w1 : World} {e : TypeId} {k : IntKind} {ao : Option Addr} {c : Nat} {l : List Int} {o : Obj} (hb : Below w.heap.size w wr) (ho : Own wr w.heap.size e k ao c l) (hg : (wr.alloc o).grownBy w1 (ao.map (·.block))) : Below w.heap.size w w1 := by
  refine (hb.alloc hb.size o).grown hg (by have := hb.size; simp; omega) ?_
  intro g hg'
  rcases ao with _ | a
  · cases hg'
  · simp at hg'; subst hg'; exact (ho.lt a rfl).1

def PutRel (w wr : World) (e : TypeId) (u0 : Nat) (v q : Value) : Prop :=
  ∃ (ao : Option Addr) (c : Nat) (acc : List Int) (u : Nat), v = .slice ao acc.length c ∧ q = .int .i64 u ∧ u ≤ 2000000 ∧ Own wr w.heap.size e .u8 ao c acc ∧ acc ++ enc u = enc u0 ∧ Below w.heap.size w wr
theorem putRel_step {w wr w1 : World} {e : TypeId} {u0 u : Nat} {ao ao' : Option Addr} {c c' : Nat} {acc : List Int} {o : Obj} {z : Int} (hz : z = 128 + (u : Int) % 128) (h128 : 128 ≤ u) (hu : u ≤ 2000000)
    (he : acc ++ enc u = enc u0) (ho : Own wr w.heap.size e .u8 ao c acc) (hb : Below w.heap.size w wr) (ho' : Own w1 w.heap.size e .u8 ao' c' (acc ++ [z])) (hg : (wr.alloc o).grownBy w1 (ao.map (·.block))) :
    PutRel w w1 e u0 (.slice ao' (acc.length + 1) c') (.int .i64 ((u : Int) / 128)) := by
  subst hz
  refine ⟨ao', c', acc ++ [128 + (u : Int) % 128], u / 128, by simp, by simp, by omega, ho', ?_, below_app1 hb ho hg⟩
  rw [List.append_assoc, ← he, enc_ge h128]; rfl
theorem acc_len {acc : List Int} {u u0 : Nat} (h : acc ++ enc u = enc u0) (h0 : u0 ≤ 2000000) : acc.length ≤ 3 := by
  have := congrArg List.length h
  have := (enc_len u0 (by omega)).2
  simp at *; omega

theorem base_le {w wr : World} {o : Obj} (hb : Below w.heap.size w wr) : w.heap.size ≤ (wr.alloc o).heap.size := by have := hb.size; simp; omega

set_option maxRecDepth 100000 in
set_option maxHeartbeats 800000 in
theorem specPutNum_any (x : Int) (w : World) : Calls Tryz.prog 113 #[.int .i64 x] w (Made w 5 .u8 (putN x)) := by
  by_cases hx : -1000000 ≤ x ∧ x ≤ 1000000
  · have hfold := fold_le hx
    rw [show putN x = enc (fold x) by unfold putN; rw [isN_mk hx]; rfl]
    obtain ⟨u0, hu0⟩ : ∃ u0 : Nat, u0 = fold x := ⟨_, rfl⟩
    rw [← hu0] at hfold ⊢
    have hst : Own (w.alloc (Obj.cells #[] 5)) w.heap.size 5 .u8 (some ⟨w.heap.size, 0, none⟩) 0 [] := World.ownsRow_lit w #[] 0 (Nat.le_refl _) (Nat.zero_le _) rfl
    have HST := Lib.hid hst; clear hst
    have HF := Lib.hid hfold
    have hf' : (u0 : Int) ≤ 2000000 := by omega
    rcases Int.lt_or_le x 0 with h0 | h0
    · have hu : -2 * x - 1 = (u0 : Int) := by rw [hu0]; unfold fold; rw [if_neg (by omega)]; omega
      have hd : decide (x < 0) = true := by simp; omega
      clear hu0 hfold
      go_enter Tryz.func113, Tryz.ntmps113
      go_wp2_with (go_at_call 188; refine (l01Number_t _ _ hx).mono ?_; rintro e w' ⟨rfl, rfl⟩)
      clear hu hx
      go_loopw [3, 4] (fun v q wr => PutRel w wr 5 u0 v q) (fun _ q _ => (intOf q).toNat)
      case atStart => exact ⟨_, _, [], u0, rfl, rfl, HF.out, HST.out, rfl, (Below.refl _ _).alloc (Nat.le_refl _) _⟩
      case round =>
        obtain ⟨ao, c, acc, u, rfl, rfl, hu, ho, he, hb⟩ := hrel
        have hal := acc_len he HF.out
        have HE := Lib.hid he; have HO := Lib.hid ho; have HB := Lib.hid hb
        have hu' : (u : Int) ≤ 2000000 := by omega
        have HU := Lib.hid hu; clear hu he ho hb
        by_cases h128 : 128 ≤ u
        · have h128' : (128 : Int) ≤ u := by omega
          go_wp2_with (at_builtin; refine wpList_append1 _ rfl (.tmp 18) (.tmp 23) 22 rfl w.heap.size 5 .u8 1 Tryz.underlying22 Tryz.infoU8 ao c acc.length acc rfl rfl (HO.out.alloc _) wr.heap.size 1 (128 + (u : Int) % 128) rfl (cell_one _ _ _) (by unfold maxLen; omega) (by omega) (base_le HB.out) ?_; intro ao' c' w1 ho' hg')
          go_roundw
          case rel => exact putRel_step rfl h128 HU.out HE.out HO.out HB.out ho' hg'
          case measure => simp [intOf]; omega
        · have h128' : (u : Int) < 128 := by omega
          clear h128 hu' hf'
          go_wp2_with (at_builtin; refine wpList_append1 _ rfl (.tmp 27) (.tmp 30) 22 rfl w.heap.size 5 .u8 1 Tryz.underlying22 Tryz.infoU8 ao c acc.length acc rfl rfl (HO.out.alloc _) wr.heap.size 1 (u : Int) rfl (cell_one _ _ _) (by unfold maxLen; omega) (by omega) (base_le HB.out) ?_; intro ao' c' w1 ho' hg')
          go_ret
          refine ⟨ao', c', ?_, ?_, below_app1 HB.out HO.out hg'⟩
          · rw [← HE.out, enc_lt (by omega)]; simp
          · rw [← HE.out, enc_lt (by omega)]; exact ho'
    · have hu : 2 * x = (u0 : Int) := by rw [hu0]; unfold fold; rw [if_pos h0]; omega
      have hd : decide (x < 0) = false := by simp; omega
      clear hu0 hfold
      go_enter Tryz.func113, Tryz.ntmps113
      go_wp2_with (go_at_call 188; refine (l01Number_t _ _ hx).mono ?_; rintro e w' ⟨rfl, rfl⟩)
      clear hu hx
      go_loopw [3, 4] (fun v q wr => PutRel w wr 5 u0 v q) (fun _ q _ => (intOf q).toNat)
      case atStart => exact ⟨_, _, [], u0, rfl, rfl, HF.out, HST.out, rfl, (Below.refl _ _).alloc (Nat.le_refl _) _⟩
      case round =>
        obtain ⟨ao, c, acc, u, rfl, rfl, hu, ho, he, hb⟩ := hrel
        have hal := acc_len he HF.out
        have HE := Lib.hid he; have HO := Lib.hid ho; have HB := Lib.hid hb
        have hu' : (u : Int) ≤ 2000000 := by omega
        have HU := Lib.hid hu; clear hu he ho hb
        by_cases h128 : 128 ≤ u
        · have h128' : (128 : Int) ≤ u := by omega
          go_wp2_with (at_builtin; refine wpList_append1 _ rfl (.tmp 18) (.tmp 23) 22 rfl w.heap.size 5 .u8 1 Tryz.underlying22 Tryz.infoU8 ao c acc.length acc rfl rfl (HO.out.alloc _) wr.heap.size 1 (128 + (u : Int) % 128) rfl (cell_one _ _ _) (by unfold maxLen; omega) (by omega) (base_le HB.out) ?_; intro ao' c' w1 ho' hg')
          go_roundw
          case rel => exact putRel_step rfl h128 HU.out HE.out HO.out HB.out ho' hg'
          case measure => simp [intOf]; omega
        · have h128' : (u : Int) < 128 := by omega
          clear h128 hu' hf'
          go_wp2_with (at_builtin; refine wpList_append1 _ rfl (.tmp 27) (.tmp 30) 22 rfl w.heap.size 5 .u8 1 Tryz.underlying22 Tryz.infoU8 ao c acc.length acc rfl rfl (HO.out.alloc _) wr.heap.size 1 (u : Int) rfl (cell_one _ _ _) (by unfold maxLen; omega) (by omega) (base_le HB.out) ?_; intro ao' c' w1 ho' hg')
          go_ret
          refine ⟨ao', c', ?_, ?_, below_app1 HB.out HO.out hg'⟩
          · rw [← HE.out, enc_lt (by omega)]; simp
          · rw [← HE.out, enc_lt (by omega)]; exact ho'
  · rw [show putN x = [] by unfold putN; rw [isN_not hx]; rfl]
    have HX := Lib.hid hx; clear hx
    go_enter Tryz.func113, Tryz.ntmps113
    go_wp2_with (go_at_call 188; refine (l01Number_f _ _ HX.out).mono ?_; rintro e w' ⟨rfl, rfl⟩)
    go_ret
    exact ⟨none, 0, rfl, Own.none_, (Below.refl _ _).alloc (Nat.le_refl _) _⟩
end Go.Proofs.YtfpbhedophlnkaaGreatDoor
