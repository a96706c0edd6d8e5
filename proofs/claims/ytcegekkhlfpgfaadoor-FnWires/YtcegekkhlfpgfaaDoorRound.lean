/-
  What is put is taken again, one way alone: plain facts on the bytes of numbers. No walk.
-/
import Derived.Test.YtcegekkhlfpgfaaDoorTake
namespace Go.Proofs.YtcegekkhlfpgfaaDoor
open Go.RowKit
set_option linter.unusedSimpArgs false
set_option linter.unusedVariables false

theorem fold_unf {u : Nat} (h : u ≤ 2000000) : fold (unf (u : Int)) = u := by
  unfold fold unf
  split <;> split <;> omega
theorem unf_fold {x : Int} (h : -1000000 ≤ x ∧ x ≤ 1000000) : unf (fold x : Int) = x := by
  unfold fold unf
  split <;> split <;> omega
theorem drop_get {l r : List Int} {n : Nat} {v : Int} (h : l.drop n = v :: r) : l[n]? = some v ∧ l.drop (n + 1) = r := by
  constructor
  · have := congrArg (fun t => t[0]?) h
    simpa using this
  · rw [← List.drop_drop, h]; rfl

/-- The groups of u, read on. -/
theorem goN_enc {l rest : List Int} {a : Nat} : ∀ (f k u : Nat) (acc : Int), l.drop (a + k) = enc u ++ rest → (enc u).length ≤ f → (0 < k → u ≠ 0) → acc + u * 128 ^ k ≤ 2000000 → 0 ≤ acc →
    goN l a f k acc = (unf (acc + u * 128 ^ k), ((a + k + (enc u).length : Nat) : Int))
  | 0, k, u, acc, hd, hf, hk, hs, h0 => by
    have : 1 ≤ (enc u).length := by
      by_cases h : u < 128
      · rw [enc_lt h]; simp
      · rw [enc_ge (by omega)]; simp
    omega
  | f + 1, k, u, acc, hd, hf, hk, hs, h0 => by
    by_cases h : u < 128
    · rw [enc_lt h] at hd hf ⊢
      obtain ⟨h1, _⟩ := drop_get hd
      have em : ((u : Int)) % 128 = u := by omega
      rw [goN_ok h1 (by omega) (by rw [em]; omega), em]
      simp
    · rw [enc_ge (by omega)] at hd hf ⊢
      obtain ⟨h1, h2⟩ := drop_get hd
      rw [goN_more h1 (by omega)]
      have em : (128 + (u : Int) % 128) % 128 = (u : Int) % 128 := by omega
      have es : acc + (128 + (u : Int) % 128) % 128 * 128 ^ k + ((u / 128 : Nat) : Int) * 128 ^ (k + 1) = acc + u * 128 ^ k := by
        rw [em, Int.pow_succ]
        have e1 : (u : Int) = (u : Int) % 128 + ((u / 128 : Nat) : Int) * 128 := by omega
        generalize (128 : Int) ^ k = P
        have e2 : (u : Int) * P = (u : Int) % 128 * P + ((u / 128 : Nat) : Int) * (P * 128) := by
          rw [Int.mul_comm P 128, ← Int.mul_assoc, ← Int.add_mul, ← e1]
        rw [e2]; omega
      have hp : (0 : Int) ≤ (128 + (u : Int) % 128) % 128 * 128 ^ k := Int.mul_nonneg (by omega) (Int.pow_nonneg (by decide))
      have ih := goN_enc (l := l) (a := a) (rest := rest) f (k + 1) (u / 128) (acc + (128 + (u : Int) % 128) % 128 * 128 ^ k) (show l.drop (a + (k + 1)) = enc (u / 128) ++ rest from h2) (by simpa using hf) (by intro _; omega) (by rw [es]; exact hs) (by omega)
      rw [ih, es]
      simp
      omega
theorem takeN_put {l rest : List Int} {p : Nat} {x : Int} (hx : isN x = true) (hd : l.drop p = putN x ++ rest) : takeN l (p : Int) = (x, ((p + (putN x).length : Nat) : Int)) := by
  have hb := isN_of hx
  have hp : putN x = enc (fold x) := by unfold putN; rw [hx]; rfl
  rw [hp] at hd ⊢
  unfold takeN
  rw [if_neg (by omega), Int.toNat_natCast]
  have hf := fold_le hb
  rw [goN_enc (rest := rest) 3 0 (fold x) 0 hd (enc_len _ (by omega)).2 (by omega) (by simp; omega) (by omega)]
  simp [unf_fold hb]

/-- What is read was put so. -/
theorem goN_was {l : List Int} (hl : By l) {a : Nat} : ∀ (f k : Nat) (acc x q : Int), 0 ≤ acc → goN l a f k acc = (x, q) → q ≠ -1 →
    ∃ u n : Nat, q = n ∧ l.drop (a + k) = enc u ++ l.drop n ∧ x = unf (acc + u * 128 ^ k) ∧ acc + u * 128 ^ k ≤ 2000000 ∧ (0 < k → u ≠ 0) ∧ n = a + k + (enc u).length
  | 0, k, acc, x, q, h0, h, hq => by
    rw [goN] at h
    simp at h
    omega
  | f + 1, k, acc, x, q, h0, h, hq => by
    rcases Nat.lt_or_ge (a + k) l.length with hlt | hge
    · have hv := List.getElem?_eq_getElem hlt
      have hb := hl _ (List.getElem_mem hlt)
      have hcons : l.drop (a + k) = l[a + k] :: l.drop (a + k + 1) := List.drop_eq_getElem_cons hlt
      generalize l[a + k] = v at hv hb hcons
      have hp : (0 : Int) ≤ v % 128 * 128 ^ k := Int.mul_nonneg (by omega) (Int.pow_nonneg (by decide))
      by_cases h1 : 128 ≤ v
      · rw [goN_more hv h1] at h
        obtain ⟨u, n, e1, e2, e3, e4, e5, e6⟩ := goN_was hl f (k + 1) _ x q (by omega) h hq
        have hu0 : u ≠ 0 := e5 (by omega)
        have es : acc + v % 128 * 128 ^ k + (u : Int) * 128 ^ (k + 1) = acc + (((v % 128).toNat + 128 * u : Nat) : Int) * 128 ^ k := by
          rw [Int.pow_succ]
          have : (((v % 128).toNat + 128 * u : Nat) : Int) = v % 128 + 128 * u := by omega
          rw [this, Int.add_mul]
          generalize (128 : Int) ^ k = P
          rw [Int.mul_comm P 128, ← Int.mul_assoc, Int.mul_comm (u : Int) 128]
          omega
        have ee : enc ((v % 128).toNat + 128 * u) = v :: enc u := by
          rw [enc_ge (by omega)]
          have d1 : ((v % 128).toNat + 128 * u) / 128 = u := by omega
          have d2 : 128 + (((v % 128).toNat + 128 * u : Nat) : Int) % 128 = v := by omega
          rw [d1, d2]
        refine ⟨(v % 128).toNat + 128 * u, n, e1, ?_, by rw [e3, es], by rw [← es]; exact e4, by omega, by rw [ee]; simp; omega⟩
        rw [hcons, ee, show a + k + 1 = a + (k + 1) from by omega, e2]; rfl
      · by_cases h2 : (v = 0 ∧ 0 < k) ∨ 2000000 < acc + v % 128 * 128 ^ k
        · rw [goN_bad hv (by omega) h2] at h
          simp at h
          omega
        · rw [goN_ok hv (by omega) h2] at h
          simp only [Prod.mk.injEq] at h
          obtain ⟨rfl, rfl⟩ := h
          have ev : ((v.toNat : Nat) : Int) = v := by omega
          have em : v % 128 = v := by omega
          refine ⟨v.toNat, a + k + 1, rfl, ?_, by rw [em, ev], by rw [ev]; rw [em] at h2; omega, by intro hk hz; apply h2; left; exact ⟨by omega, hk⟩, by rw [enc_lt (by omega)]; simp⟩
          rw [hcons, enc_lt (by omega), ev]; rfl
    · rw [goN_out hge] at h
      simp at h
      omega
theorem takeN_was {l : List Int} (hl : By l) {p : Nat} {x q : Int} (h : takeN l (p : Int) = (x, q)) (hq : q ≠ -1) : ∃ n : Nat, q = n ∧ l.drop p = putN x ++ l.drop n ∧ isN x = true ∧ n = p + (putN x).length := by
  unfold takeN at h
  rw [if_neg (by omega), Int.toNat_natCast] at h
  obtain ⟨u, n, e1, e2, e3, e4, _, e6⟩ := goN_was hl 3 0 0 x q (by omega) h hq
  simp at e3 e4
  have hu : u ≤ 2000000 := by omega
  have hx : isN x = true := by rw [e3]; exact isN_mk (unf_bd (by omega) (by omega))
  have hp : putN x = enc u := by unfold putN; rw [hx, e3, fold_unf hu]; rfl
  exact ⟨n, e1, by rw [hp]; simpa using e2, hx, by rw [hp]; omega⟩

/-- Cut short, it is not there. -/
theorem goN_cut {l : List Int} {a : Nat} : ∀ (f k : Nat) (acc : Int), (∀ z ∈ l.drop (a + k), 128 ≤ z) → goN l a f k acc = (0, -1)
  | 0, k, acc, h => rfl
  | f + 1, k, acc, h => by
    rcases Nat.lt_or_ge (a + k) l.length with hlt | hge
    · have hv := List.getElem?_eq_getElem hlt
      have hcons : l.drop (a + k) = l[a + k] :: l.drop (a + k + 1) := List.drop_eq_getElem_cons hlt
      rw [goN_more hv (h _ (by rw [hcons]; exact List.mem_cons_self ..))]
      exact goN_cut f (k + 1) _ (fun z hz => h z (by rw [hcons]; exact List.mem_cons_of_mem _ hz))
    · exact goN_out hge
theorem enc_dropLast (u : Nat) : ∀ z ∈ (enc u).dropLast, 128 ≤ z := by
  induction u using Nat.strongRecOn with
  | _ u ih =>
    by_cases h : u < 128
    · rw [enc_lt h]; simp
    · rw [enc_ge (by omega)]
      have hne : enc (u / 128) ≠ [] := by
        intro e
        by_cases h2 : u / 128 < 128
        · rw [enc_lt h2] at e; cases e
        · rw [enc_ge (by omega)] at e; cases e
      rw [List.dropLast_cons_of_ne_nil hne]
      intro z hz
      rcases List.mem_cons.1 hz with rfl | hz
      · omega
      · exact ih (u / 128) (by omega) z hz
theorem takeN_cut {l : List Int} {p : Nat} {x : Int} (hd : l.drop p = (putN x).dropLast) : takeN l (p : Int) = (0, -1) := by
  unfold takeN
  rw [if_neg (by omega), Int.toNat_natCast]
  refine goN_cut 3 0 0 (fun z hz => ?_)
  rw [Nat.add_zero, hd] at hz
  unfold putN at hz
  split at hz
  · exact enc_dropLast _ z hz
  · simp at hz
end Go.Proofs.YtcegekkhlfpgfaaDoor
