/-
  What the library's parting of a text gives at a schema's text. Plain facts; no walk.
-/
import Derived.Test.YtdkiaahcmoafdaaGreatDoorPSch
import Derived.Test.YtdkiaahcmoafdaaGreatDoorSParts
import Derived.Test.YtdkiaahcmoafdaaGreatDoorSRead
import Derived.Lib.Split
import Derived.Lib.IndexMore
import Derived.Lib.IndexBytes
namespace Go.Proofs.YtdkiaahcmoafdaaGreatDoor
set_option linter.unusedSimpArgs false
set_option linter.unusedVariables false

theorem ib_hit {c : UInt8} : ∀ (a d : List UInt8), (∀ x ∈ a, x ≠ c) → Lib.indexByte (a ++ c :: d) c = a.length
  | [], d, _ => by simp [Lib.indexByte]
  | x :: a, d, h => by
    have ih := ib_hit a d (fun y hy => h y (by simp [hy]))
    rw [List.cons_append]
    unfold Lib.indexByte
    rw [if_neg (by simpa using h x (by simp)), ih, if_neg (by simp)]
    simp
theorem ib_miss {c : UInt8} : ∀ (a : List UInt8), (∀ x ∈ a, x ≠ c) → Lib.indexByte a c = -1
  | [], _ => rfl
  | x :: a, h => by
    have ih := ib_miss a (fun y hy => h y (by simp [hy]))
    unfold Lib.indexByte
    rw [if_neg (by simpa using h x (by simp)), ih]
    rfl
theorem cut_hit {a d : List UInt8} (h : ∀ x ∈ a, x ≠ 47) : Lib.cut (a ++ 47 :: d) [47] = (a, d, true) := by
  unfold Lib.cut
  rw [Lib.index_one, ib_hit a d h, if_pos (by omega)]
  simp
theorem cut_size (l sep : List UInt8) : (Lib.cut l sep).1.length ≤ l.length ∧ (Lib.cut l sep).2.1.length ≤ l.length := by
  unfold Lib.cut
  split
  · simp; omega
  · simp
theorem mkB_list (x : List UInt8) : (mkB x).data.toList = x := by simp [mkB]
theorem mkB_size (x : List UInt8) : (mkB x).size = x.length := by rw [← size_list, mkB_list]
theorem ext_le (s : ByteArray) (m k : Nat) : (s.extract m k).size ≤ s.size := by
  rw [ext_mk, mkB_size, ← size_list s]
  simp; omega
theorem splitN_le (sep : ByteArray) (save : Nat) : ∀ (k : Nat) (s x : ByteArray), x ∈ Lib.splitB sep save k s → x.size ≤ s.size
  | 0, s, x, h => by simp [Lib.splitB] at h; rw [h]; exact Nat.le_refl _
  | k + 1, s, x, h => by
    unfold Lib.splitB at h
    split at h
    · simp at h; rw [h]; exact Nat.le_refl _
    · rcases List.mem_cons.1 h with h | h
      · rw [h]; exact ext_le _ _ _
      · exact Nat.le_trans (splitN_le sep save k _ x h) (ext_le _ _ _)
theorem splitN_words : ∀ (xs : List (List UInt8)) (k : Nat), xs ≠ [] → (∀ x ∈ xs, ∀ c ∈ x, c ≠ 32) → xs.length ≤ k + 1 → Lib.splitB ⟨#[32]⟩ 0 k (mkB (joinB 32 xs)) = xs.map mkB
  | [], k, h, _, _ => absurd rfl h
  | [x], k, _, h, _ => by
    have : Lib.indexB (mkB x) ⟨#[32]⟩ = -1 := by
      show Lib.index (mkB x).data.toList [32] = -1
      rw [mkB_list, Lib.index_one, ib_miss x (h x (by simp))]
    exact Lib.splitB_miss _ _ _ _ this
  | x :: y :: r, 0, _, _, hk => by simp at hk
  | x :: y :: r, k + 1, _, h, hk => by
    have ih := splitN_words (y :: r) k (by simp) (fun z hz => h z (List.mem_cons_of_mem _ hz)) (by simp at hk ⊢; omega)
    have hi : Lib.indexB (mkB (joinB 32 (x :: y :: r))) ⟨#[32]⟩ = x.length := by
      show Lib.index (mkB _).data.toList [32] = _
      rw [mkB_list, Lib.index_one]
      exact ib_hit x _ (h x (by simp))
    rw [Lib.splitB_hit _ _ _ _ _ hi, ext_mk, ext_mk, mkB_list]
    have e1 : ((joinB 32 (x :: y :: r)).drop 0).take (x.length + 0 - 0) = x := by simp [joinB]
    have e2 : ((joinB 32 (x :: y :: r)).drop (x.length + (ByteArray.mk #[32]).size)).take ((mkB (joinB 32 (x :: y :: r))).size - (x.length + (ByteArray.mk #[32]).size)) = joinB 32 (y :: r) := by
      have h1 : (ByteArray.mk #[32]).size = 1 := rfl
      rw [h1, mkB_size]
      have h2 : (joinB 32 (x :: y :: r)).drop (x.length + 1) = joinB 32 (y :: r) := by
        simp only [joinB]
        rw [← List.drop_drop]
        simp
      rw [h2]
      apply List.take_of_length_le
      simp only [joinB, List.length_append, List.length_cons]
      omega
    rw [e1, e2, ih]
    rfl
/-- The words that the library gives of a schema's text. -/
theorem splitN_sch {s : ByteArray} {m : List Tb} (hm : schemaB m = true) (hne : m ≠ []) (he : s.data.toList = schT m) : Lib.splitB ⟨#[32]⟩ 0 (min 9 (s.size + 1) - 1) s = m.map fun t => mkB (wordOf t) := by
  obtain ⟨hw, hn⟩ := sch_words hm hne
  have ha := schema_all hm
  have hs : s = mkB (joinB 32 (m.map wordOf)) := by
    apply ByteArray.ext
    apply Array.toList_inj.1
    rw [mkB_list, he, ← hw, join_split]
  have hl := split_len 32 (schT m)
  rw [hw, List.length_map, ← he, size_list] at hl
  have h8 := (schemaB_iff.1 hm).1
  have key := splitN_words (m.map wordOf) (min 9 (s.size + 1) - 1) (by simpa using hne) (by
    intro x hx
    obtain ⟨t, ht, rfl⟩ := List.mem_map.1 hx
    rw [← (tbT_word (ha t ht)).1]
    exact (tbT_word (ha t ht)).2.2) (by rw [List.length_map]; omega)
  rw [← hs] at key
  rw [key, List.map_map]
  rfl
/-- What is known of the tables that the program reads. -/
def Cuts (WS : List ByteArray) (out : List Tb) : Prop :=
  ∀ (i : Nat) (t : Tb), out[i]? = some t → ∃ wd : ByteArray, WS[i]? = some wd ∧ t.name = mkB (Lib.cut wd.data.toList [47]).1 ∧ ∀ y : Int, 1 ≤ y → y ≤ 6 → mkB (Lib.cut wd.data.toList [47]).2.1 = numT y → t.width = y
theorem Cuts.snoc {WS : List ByteArray} {out : List Tb} {t : Tb} {wd : ByteArray} (h : Cuts WS out) (hw : WS[out.length]? = some wd) (hn : t.name = mkB (Lib.cut wd.data.toList [47]).1) (hx : ∀ y : Int, 1 ≤ y → y ≤ 6 → mkB (Lib.cut wd.data.toList [47]).2.1 = numT y → t.width = y) : Cuts WS (out ++ [t]) := by
  intro i u hu
  by_cases hi : i < out.length
  · rw [List.getElem?_append_left hi] at hu; exact h i u hu
  · rw [List.getElem?_append_right (by omega)] at hu
    have h0 : i - out.length = 0 := by
      have := (List.getElem?_eq_some_iff.1 hu).1; simp at this; omega
    rw [h0] at hu
    simp at hu
    subst hu
    rw [show i = out.length by omega]
    exact ⟨wd, hw, hn, hx⟩
theorem cuts_sch {s : ByteArray} {m out : List Tb} (hm : schemaB m = true) (hne : m ≠ []) (he : s.data.toList = schT m) (hl : out.length = (Lib.splitB ⟨#[32]⟩ 0 (min 9 (s.size + 1) - 1) s).length) (hc : Cuts (Lib.splitB ⟨#[32]⟩ 0 (min 9 (s.size + 1) - 1) s) out) : out = m := by
  have hs := splitN_sch hm hne he
  rw [hs] at hl hc
  rw [List.length_map] at hl
  apply List.ext_getElem? 
  intro i
  by_cases hi : i < out.length
  · have hu : out[i]? = some out[i] := List.getElem?_eq_getElem hi
    obtain ⟨wd, hw, hn, hx⟩ := hc i _ hu
    rw [List.getElem?_map] at hw
    have hi2 : i < m.length := by omega
    have hmi : m[i]? = some m[i] := List.getElem?_eq_getElem hi2
    rw [hmi] at hw
    simp at hw
    have hmem : m[i] ∈ m := List.getElem_mem hi2
    have ht := schema_all hm m[i] hmem
    obtain ⟨_, h1, h2⟩ := tableB_iff ht
    have h47 := (tbT_word ht).2.1
    have hcut : Lib.cut wd.data.toList [47] = (m[i].name.data.toList, Lib.itoa m[i].width, true) := by
      rw [← hw, mkB_list]
      exact cut_hit h47
    rw [hcut] at hn hx
    rw [hu, hmi]
    congr 1
    apply key_inj
    · unfold Tb.key
      rw [hn, mkB_list]
    · exact hx m[i].width h1 h2 (by unfold mkB numT; rfl)
  · rw [List.getElem?_eq_none (by omega), List.getElem?_eq_none (by omega)]
end Go.Proofs.YtdkiaahcmoafdaaGreatDoor
