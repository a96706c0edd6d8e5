/-
  When a text is a schema's. Plain facts; no walk.
-/
import Derived.Test.YtdkiaahcmoafdaaGreatDoorSplit
import Derived.Test.YtdkiaahcmoafdaaGreatDoorReadP
import Derived.Test.YtdkiaahcmoafdaaGreatDoorTxtB
namespace Go.Proofs.YtdkiaahcmoafdaaGreatDoor
set_option linter.unusedSimpArgs false
set_option linter.unusedVariables false

/-- A table's text, its width written as any number is. -/
def wordOf (t : Tb) : List UInt8 := t.name.data.toList ++ 47 :: Lib.itoa t.width
def no47 (t : Tb) : Prop := ∀ c ∈ t.name.data.toList, c ≠ 47
theorem itoa_small {x : Int} (h1 : 1 ≤ x) (h2 : x ≤ 6) : Lib.itoa x = [UInt8.ofNat (48 + x.toNat)] := by
  unfold Lib.itoa
  rw [if_neg (by omega), dec_one (by omega)]
theorem itoa_no47 (x : Int) : ∀ c ∈ Lib.itoa x, c ≠ 47 := by
  intro c hc hh
  subst hh
  unfold Lib.itoa at hc
  split at hc
  · rcases List.mem_cons.1 hc with h | h
    · cases h
    · have := dec_digit _ _ h; simp at this
  · have := dec_digit _ _ hc; simp at this
theorem tableB_iff {t : Tb} (h : tableB t = true) : wordB t.name.data.toList = true ∧ 1 ≤ t.width ∧ t.width ≤ 6 := by
  unfold tableB at h
  rw [Bool.and_eq_true, decide_eq_true_eq] at h
  exact h
theorem word_chars {l : List UInt8} (h : wordB l = true) : ∀ c ∈ l, charB c.toNat = true := by
  simp only [wordB, Bool.and_eq_true] at h
  exact List.all_eq_true.1 h.2
theorem tbT_word {t : Tb} (h : tableB t = true) : tbT t = wordOf t ∧ no47 t ∧ ∀ c ∈ tbT t, c ≠ 32 := by
  obtain ⟨hw, h1, h2⟩ := tableB_iff h
  have hc := word_chars hw
  have e : tbT t = wordOf t := by unfold tbT wordOf; rw [itoa_small h1 h2]; simp
  refine ⟨e, fun c hm hh => ?_, fun c hm hh => ?_⟩
  · subst hh
    have := hc _ hm
    simp [charB] at this
  · subst hh
    unfold tbT at hm
    rw [List.mem_append, List.mem_append] at hm
    rcases hm with (hm | hm) | hm
    · have := hc _ hm
      simp [charB] at this
    · simp at hm
    · rw [List.mem_singleton] at hm
      have h3 : (UInt8.ofNat (48 + t.width.toNat)).toNat = 48 + t.width.toNat := by rw [UInt8.toNat_ofNat']; omega
      rw [← hm] at h3
      have : (32 : UInt8).toNat = 32 := rfl
      omega
theorem jn_joinB : ∀ l : List (List UInt8), jn l = joinB 32 l
  | [] => rfl
  | [x] => rfl
  | x :: y :: r => by
    have := jn_joinB (y :: r)
    simp only [jn, joinB] at this ⊢
    rw [this]; simp
theorem split_word {t : Tb} (h : no47 t) : splitB 47 (wordOf t) = [t.name.data.toList, Lib.itoa t.width] := by
  unfold wordOf
  rw [split_hit _ h, split_no (itoa_no47 _)]
theorem word_inj {s t : Tb} (hs : no47 s) (ht : no47 t) (h : wordOf s = wordOf t) : s = t := by
  have h1 := split_word hs
  rw [h, split_word ht] at h1
  simp only [List.cons.injEq, and_true] at h1
  have hw : s.width = t.width := by
    apply numT_inj
    unfold numT
    rw [h1.2]
  have hn : s.name = t.name := by
    apply ByteArray.ext
    exact Array.toList_inj.1 h1.1.symm
  cases s; cases t
  simp only at hw hn
  rw [hw, hn]
theorem map_word_inj : ∀ {l m : List Tb}, (∀ t ∈ l, no47 t) → (∀ t ∈ m, no47 t) → l.map wordOf = m.map wordOf → l = m
  | [], [], _, _, _ => rfl
  | [], _ :: _, _, _, h => by simp at h
  | _ :: _, [], _, _, h => by simp at h
  | s :: l, t :: m, h1, h2, h => by
    simp only [List.map_cons, List.cons.injEq] at h
    rw [word_inj (h1 s (by simp)) (h2 t (by simp)) h.1, map_word_inj (fun x hx => h1 x (by simp [hx])) (fun x hx => h2 x (by simp [hx])) h.2]
theorem schema_all {l : List Tb} (h : schemaB l = true) : ∀ t ∈ l, tableB t = true := (schemaB_iff.1 h).2.1
/-- The words of a schema's text. -/
theorem sch_words {l : List Tb} (h : schemaB l = true) (hne : l ≠ []) : splitB 32 (schT l) = l.map wordOf ∧ ∀ t ∈ l, no47 t := by
  have ha := schema_all h
  have e : l.map tbT = l.map wordOf := List.map_congr_left (fun t ht => (tbT_word (ha t ht)).1)
  refine ⟨?_, fun t ht => (tbT_word (ha t ht)).2.1⟩
  unfold schT
  rw [jn_joinB, split_join _ (by simpa using hne) (by
    intro x hx
    obtain ⟨t, ht, rfl⟩ := List.mem_map.1 hx
    exact (tbT_word (ha t ht)).2.2), e]
theorem sch_back {l : List Tb} {s : List UInt8} (h : schemaB l = true) (hw : splitB 32 s = l.map wordOf) : s = schT l := by
  have ha := schema_all h
  have e : l.map tbT = l.map wordOf := List.map_congr_left (fun t ht => (tbT_word (ha t ht)).1)
  rw [← join_split 32 s, hw, ← e]
  unfold schT
  rw [jn_joinB]
theorem sch_inj {l m : List Tb} (hl : schemaB l = true) (hm : schemaB m = true) (h : schT l = schT m) : l = m := by
  by_cases h1 : l = []
  · by_cases h2 : m = []
    · rw [h1, h2]
    · obtain ⟨hw, _⟩ := sch_words hm h2
      rw [← h, h1] at hw
      cases m with
      | nil => exact absurd rfl h2
      | cons t m =>
        have hh : [([] : List UInt8)] = (t :: m).map wordOf := hw
        simp only [List.map_cons, List.cons.injEq] at hh
        unfold wordOf at hh
        simp at hh
  · by_cases h2 : m = []
    · obtain ⟨hw, _⟩ := sch_words hl h1
      rw [h, h2] at hw
      cases l with
      | nil => exact absurd rfl h1
      | cons t l =>
        have hh : [([] : List UInt8)] = (t :: l).map wordOf := hw
        simp only [List.map_cons, List.cons.injEq] at hh
        unfold wordOf at hh
        simp at hh
    · obtain ⟨hw, hn⟩ := sch_words hl h1
      obtain ⟨hv, hn'⟩ := sch_words hm h2
      rw [h, hv] at hw
      exact (map_word_inj hn' hn hw).symm
/-- A text whose words are those of tables that are no schema is no schema's. -/
theorem sch_none {out : List Tb} {s : List UInt8} (hs : s ≠ []) (hb : schemaB out = false) (hw : splitB 32 s = out.map wordOf) (hn : ∀ t ∈ out, no47 t) : ∀ m, schemaB m = true → s ≠ schT m := by
  intro m hm he
  have hne : m ≠ [] := by rintro rfl; exact hs he
  obtain ⟨hv, hn'⟩ := sch_words hm hne
  rw [← he, hw] at hv
  rw [map_word_inj hn hn' hv, hm] at hb
  cases hb
/-- A word of a schema's text. -/
theorem sch_at {s x : List UInt8} {j : Nat} {m : List Tb} (hs : s ≠ []) (hx : (splitB 32 s)[j]? = some x) (hm : schemaB m = true) (he : s = schT m) : ∃ t, tableB t = true ∧ splitB 47 x = [t.name.data.toList, Lib.itoa t.width] := by
  have hne : m ≠ [] := by rintro rfl; exact hs he
  obtain ⟨hv, hn⟩ := sch_words hm hne
  rw [he, hv, List.getElem?_map] at hx
  cases ht : m[j]? with
  | none => rw [ht] at hx; cases hx
  | some t =>
    rw [ht] at hx
    simp at hx
    have hmem := List.mem_of_getElem? ht
    exact ⟨t, schema_all hm t hmem, by rw [← hx]; exact split_word (hn t hmem)⟩
/-- A word of two parts, the second a number. -/
theorem word_of {x a d : List UInt8} {y : Int} (hs : splitB 47 x = [a, d]) (hd : d = Lib.itoa y) : x = wordOf ⟨⟨a.toArray⟩, y⟩ ∧ no47 ⟨⟨a.toArray⟩, y⟩ := by
  refine ⟨?_, ?_⟩
  · rw [← join_split 47 x, hs, hd]
    simp [joinB, wordOf]
  · intro c hc
    exact split_parts x a (by rw [hs]; simp) c (by simpa using hc)
end Go.Proofs.YtdkiaahcmoafdaaGreatDoor
