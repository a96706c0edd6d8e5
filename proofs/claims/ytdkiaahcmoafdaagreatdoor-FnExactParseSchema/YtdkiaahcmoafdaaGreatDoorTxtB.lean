/-
  Contract of spec.SchemaText. For every slice of tables.
-/
import Derived.Test.YtdkiaahcmoafdaaGreatDoorTxtA
import Derived.Lib.Join
import Derived.Deep.RegionWith
namespace Go.Proofs.YtdkiaahcmoafdaaGreatDoor
open Go.RowKit
set_option linter.unusedSimpArgs false
set_option linter.unusedVariables false

/-- A table as a text. -/
def tbT (t : Tb) : List UInt8 := t.name.data.toList ++ [47] ++ [UInt8.ofNat (48 + t.width.toNat)]
/-- Texts with a blank between them. -/
def jn : List (List UInt8) → List UInt8
  | [] => []
  | [x] => x
  | x :: y :: r => x ++ [32] ++ jn (y :: r)
theorem jn_join : ∀ l : List (List UInt8), Lib.join l [32] = jn l
  | [] => rfl
  | [x] => by simp [Lib.join, jn, List.intercalate]
  | x :: y :: r => by
    have := jn_join (y :: r)
    simp only [Lib.join, List.intercalate, jn] at this ⊢
    rw [← this]
    simp [List.intersperse]
theorem jn_snoc : ∀ (l : List (List UInt8)) (x : List UInt8), jn (l ++ [x]) = if l = [] then x else jn l ++ [32] ++ x
  | [], x => by simp [jn]
  | [y], x => by simp [jn]
  | y :: z :: r, x => by
    have := jn_snoc (z :: r) x
    simp only [List.cons_append, jn] at this ⊢
    rw [this]
    simp
/-- A schema as a text. -/
def schT (l : List Tb) : List UInt8 := jn (l.map tbT)
theorem schT_take {l : List Tb} {j : Nat} {t : Tb} (h : l[j]? = some t) : schT (l.take (j + 1)) = if j = 0 then tbT t else schT (l.take j) ++ [32] ++ tbT t := by
  have hj : j < l.length := (List.getElem?_eq_some_iff.1 h).1
  have e : l[j] = t := by rw [List.getElem?_eq_getElem hj] at h; injection h
  unfold schT
  rw [List.take_succ_eq_append_getElem hj, e, List.map_append, List.map_cons, List.map_nil, jn_snoc]
  have hl : (l.take j).length = j := by simp; omega
  by_cases h0 : j = 0
  · subst h0; simp
  · rw [if_neg (by intro hh; have hz := congrArg List.length hh; rw [List.length_map, hl] at hz; exact h0 hz), if_neg h0]

theorem tbT_len {t : Tb} (h : tableB t = true) : (tbT t).length ≤ 14 ∧ t.name.size ≤ 12 := by
  unfold tableB at h
  rw [Bool.and_eq_true] at h
  have hw := h.1
  simp only [wordB, Tb.key, Bool.and_eq_true, decide_eq_true_eq] at hw
  have hs : t.name.data.toList.length = t.name.size := by rw [Array.length_toList]; rfl
  have : t.name.data.toList.length ≤ 12 := of_decide_eq_true hw.1.1.2
  rw [hs] at this
  refine ⟨?_, this⟩
  unfold tbT
  simp only [List.length_append, List.length_cons, List.length_nil, hs]
  omega
theorem jn_len : ∀ (l : List (List UInt8)), (∀ x ∈ l, x.length ≤ 14) → (jn l).length ≤ 15 * l.length
  | [], _ => by simp [jn]
  | [x], h => by have := h x (by simp); simp [jn]; omega
  | x :: y :: r, h => by
    have h1 := h x (by simp)
    have h2 := jn_len (y :: r) (fun z hz => h z (List.mem_cons_of_mem _ hz))
    simp only [jn, List.length_append, List.length_cons, List.length_nil] at h2 ⊢
    omega
theorem schT_len {l : List Tb} (h : ∀ t ∈ l, tableB t = true) : (schT l).length ≤ 15 * l.length := by
  have := jn_len (l.map tbT) (fun x hx => by
    obtain ⟨t, ht, rfl⟩ := List.mem_map.1 hx
    exact (tbT_len (h t ht)).1)
  rw [List.length_map] at this
  exact this
theorem digS_size (x : Int) : (digS x).size = 1 := rfl

def TxtRel (w : World) (l : List Tb) (wr : World) (s i : Value) : Prop :=
  ∃ (j : Nat) (X : ByteArray), j ≤ l.length ∧ i = .int .i64 j ∧ s = .string X ∧ X.data.toList = schT (l.take j) ∧ Below w.heap.size w wr

/-- What SchemaText answers. -/
def txtO (l : List Tb) : ByteArray := if schemaB l = true then ⟨(schT l).toArray⟩ else ⟨#[]⟩
end Go.Proofs.YtdkiaahcmoafdaaGreatDoor
