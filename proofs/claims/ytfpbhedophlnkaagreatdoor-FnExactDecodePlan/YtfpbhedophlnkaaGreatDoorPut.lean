/-
  Append of one number onto a row of the call's own, as a law of the walk; and the contracts of spec.PutNum, spec.l01Bytes, spec.l01Join.
-/
import Derived.Test.YtfpbhedophlnkaaGreatDoorSlice
namespace Go.Proofs.YtfpbhedophlnkaaGreatDoor
open Go.RowKit
set_option linter.unusedSimpArgs false
set_option linter.unusedVariables false

theorem own_slice {w : World} {base : Nat} {e : TypeId} {v : Value} {n : Nat} {xs : List Value} (h : w.ownsRow base e 1 v n xs) : ∃ ao c, v = .slice ao n c := by
  rcases h.2 with ⟨rfl, rfl⟩ | ⟨g, cap, _, rfl, _⟩
  · exact ⟨_, _, rfl⟩
  · exact ⟨_, _, rfl⟩

theorem wpList_append1 {P : Program} (w : World) {ops : Array Oper} {rest : List Oper} {o : Oper} {a : Act} {Q : Exit → Act → World → Prop} (hgd : o.guard = none) (s x : Operand) (t : TypeId)
    (ho : o.op = .call { callee := .builtin .append, args := #[s, x], argTypes := #[t, t] })
    (base : Nat) (e : TypeId) (k : IntKind) (bytes : Nat) (ht : P.underlying t = some (.slice e)) (hinfo : (P.info? e).map (fun i => (i.zero, i.size, i.bytes)) = some (some (.int k 0), 1, bytes))
    (ao : Option Addr) (c n : Nat) (l : List Int) (hs : a.eval s = .slice ao n c) (hn : n = l.length) (hown : Own w base e k ao c l)
    (g cx : Nat) (z : Int) (hx : a.eval x = .slice (some ⟨g, 0, none⟩) 1 cx) (hc : w.cell? ⟨g, 0, none⟩ = some (.int k z))
    (h63 : l.length + 1 ≤ maxLen) (hbytes : (l.length + 1) * bytes ≤ 140737488355328) (hbase : base ≤ w.heap.size)
    (h : ∀ ao' c' w', Own w' base e k ao' c' (l ++ [z]) → w.grownBy w' (ao.map (·.block)) → wpList P ops Q rest (a.put o.dst (.slice ao' (l.length + 1) c')) w') : wpList P ops Q (o :: rest) a w := by
  subst hn
  obtain ⟨i, hi, hz, hsize, hby⟩ := info_parts hinfo
  refine wpList_append_own (P := P) w hgd s x t ho base e i (.int k 0) 1 bytes ht hi hz hsize hby rfl (by decide) _ _ _ hs hown ⟨g, 0, none⟩ 1 cx [.int k z] hx rfl ?_ ?_ h63 hbytes hbase ?_
  · intro j u hj
    match j, hj with
    | 0, hj => simp at hj; subst hj; simpa [Addr.add] using hc
  · intro u hu; simp at hu; subst hu; rfl
  · intro v' w' hown' hgrow _
    obtain ⟨ao', c', rfl⟩ := own_slice hown'
    refine h ao' c' w' ?_ ?_
    · unfold Own; simpa using hown'
    · cases ao <;> exact hgrow

def enc (n : Nat) : List Int := if n < 128 then [(n : Int)] else (128 + (n : Int) % 128) :: enc (n / 128)
termination_by n
decreasing_by omega
theorem enc_lt {n : Nat} (h : n < 128) : enc n = [(n : Int)] := by rw [enc, if_pos h]
theorem enc_ge {n : Nat} (h : 128 ≤ n) : enc n = (128 + (n : Int) % 128) :: enc (n / 128) := by rw [enc, if_neg (by omega)]
theorem enc_by (n : Nat) : By (enc n) := by
  induction n using Nat.strongRecOn with
  | _ n ih =>
    by_cases h : n < 128
    · rw [enc_lt h]; exact By.one (by omega) (by omega)
    · rw [enc_ge (by omega)]
      intro z hz
      rcases List.mem_cons.1 hz with rfl | hz
      · omega
      · exact ih (n / 128) (by omega) z hz
theorem enc_len (n : Nat) (h : n ≤ 2097151) : 1 ≤ (enc n).length ∧ (enc n).length ≤ 3 := by
  by_cases h1 : n < 128
  · rw [enc_lt h1]; simp
  · rw [enc_ge (by omega)]
    by_cases h2 : n / 128 < 128
    · rw [enc_lt h2]; simp
    · rw [enc_ge (by omega), enc_lt (by omega)]; simp
def fold (x : Int) : Nat := if 0 ≤ x then (2 * x).toNat else (-2 * x - 1).toNat
def isN (x : Int) : Bool := decide (-1000000 ≤ x) && decide (x ≤ 1000000)
theorem isN_of {x : Int} (h : isN x = true) : -1000000 ≤ x ∧ x ≤ 1000000 := by unfold isN at h; simpa using h
theorem isN_mk {x : Int} (h : -1000000 ≤ x ∧ x ≤ 1000000) : isN x = true := by unfold isN; simpa using h
theorem isN_not {x : Int} (h : ¬ (-1000000 ≤ x ∧ x ≤ 1000000)) : isN x = false := by
  cases hc : isN x with
  | false => rfl
  | true => exact absurd (isN_of hc) h
theorem fold_le {x : Int} (h : -1000000 ≤ x ∧ x ≤ 1000000) : fold x ≤ 2000000 := by unfold fold; split <;> omega
def putN (x : Int) : List Int := if isN x then enc (fold x) else []
theorem putN_by (x : Int) : By (putN x) := by unfold putN; split; exact enc_by _; exact By.nil
theorem putN_len (x : Int) : (putN x).length ≤ 3 := by
  unfold putN; split
  · rename_i h; exact (enc_len _ (by have := fold_le (isN_of h); omega)).2
  · simp

theorem l01Number_t (x : Int) (w : World) (h : -1000000 ≤ x ∧ x ≤ 1000000) : Calls Tryz.prog 188 #[.int .i64 x] w fun e w' => e = .returned (.bool true) ∧ w = w' := by
  go_enter Tryz.func188, Tryz.ntmps188
  go_wp2
  go_ret
  exact ⟨rfl, rfl⟩
theorem l01Number_f (x : Int) (w : World) (h : ¬ (-1000000 ≤ x ∧ x ≤ 1000000)) : Calls Tryz.prog 188 #[.int .i64 x] w fun e w' => e = .returned (.bool false) ∧ w = w' := by
  by_cases h1 : -1000000 ≤ x
  · have h2 : ¬ x ≤ 1000000 := by omega
    go_enter Tryz.func188, Tryz.ntmps188
    go_wp2
    go_ret
    exact ⟨rfl, rfl⟩
  · have h3 : decide (-1000000 ≤ x) = false := by simp; omega
    go_enter Tryz.func188, Tryz.ntmps188
    go_wp2
    go_ret
    exact ⟨rfl, rfl⟩
end Go.Proofs.YtfpbhedophlnkaaGreatDoor
