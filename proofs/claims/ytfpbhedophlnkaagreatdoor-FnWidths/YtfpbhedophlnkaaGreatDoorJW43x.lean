/-
  Contract of spec.l01Num at a width. Contract of spec.SchemaText. For every slice of tables. When a text is a schema's. Plain facts; no walk. append of strings to a row of strings of the call's own: one string, or a whole slice of them. No walk. Contract of spec.l01Parts: a text parted at each byte of one kind. For every text that is not too long, and every byte.
-/
import Derived.Test.YtfpbhedophlnkaaGreatDoorJW8x
import Derived.Laws.IdiomStrings
import Derived.Lib.Join
import Derived.Deep.RegionWith
import Derived.Test.YtfpbhedophlnkaaGreatDoorJW42x
import Derived.Test.YtfpbhedophlnkaaGreatDoorJW4x
import Derived.Maps.AppendAt
import Derived.OwnWalk
import Derived.WalkKit
namespace Go.Proofs.YtfpbhedophlnkaaGreatDoor
open Go.RowKit
set_option linter.unusedSimpArgs false
set_option linter.unusedVariables false

/-- A number of one digit, as a text. -/
def digS (x : Int) : ByteArray := ⟨#[UInt8.ofNat (48 + x.toNat)]⟩
set_option maxRecDepth 100000 in
set_option maxHeartbeats 1600000 in
theorem num_any (x : Int) (w : World) (h1 : 1 ≤ x) (h2 : x ≤ 6) :
    Calls Tryz.prog 148 #[.int .i64 x] w fun e w' => e = .returned (.string (digS x)) ∧ Below w.heap.size w w' := by
  have hx : x = 1 ∨ x = 2 ∨ x = 3 ∨ x = 4 ∨ x = 5 ∨ x = 6 := by omega
  clear h1 h2
  have key : ∀ (z : UInt8), Sem.run Tryz.prog (convert 22 9 (.slice (some ⟨w.heap.size, 0, none⟩) 1 1)) (w.alloc (.cells #[.int .u8 (z.toNat : Int)] 5)) = .ok (.string ⟨#[z]⟩) (w.alloc (.cells #[.int .u8 (z.toNat : Int)] 5)) := fun z =>
    run_convert_bytes_back (P := Tryz.prog) (w.alloc (.cells #[.int .u8 (z.toNat : Int)] 5)) 22 9 5 ⟨w.heap.size, 0, none⟩ 1 [z] Tryz.underlying22 Tryz.underlying5 Tryz.underlying9 (by
      intro j hj
      obtain rfl : j = 0 := by simp at hj; omega
      rw [show (⟨w.heap.size, 0, none⟩ : Addr).add 0 = ⟨w.heap.size, 0, none⟩ from rfl, World.cell?_alloc_new]; rfl)
  rcases hx with rfl | rfl | rfl | rfl | rfl | rfl
  · have hb := key 49; simp at hb
    clear key
    go_enter Tryz.func148, Tryz.ntmps148
    go_wp2_with fail
    refine wp_loop_rounds 2 ?_; rw [rounds_succ]
    go_wp2_with fail
    rw [rounds_succ]
    go_wp2_with fail
    go_ret
    exact ⟨rfl, (Below.refl _ _).alloc (Nat.le_refl _) _⟩
  · have hb := key 50; simp at hb
    clear key
    go_enter Tryz.func148, Tryz.ntmps148
    go_wp2_with fail
    refine wp_loop_rounds 2 ?_; rw [rounds_succ]
    go_wp2_with fail
    rw [rounds_succ]
    go_wp2_with fail
    go_ret
    exact ⟨rfl, (Below.refl _ _).alloc (Nat.le_refl _) _⟩
  · have hb := key 51; simp at hb
    clear key
    go_enter Tryz.func148, Tryz.ntmps148
    go_wp2_with fail
    refine wp_loop_rounds 2 ?_; rw [rounds_succ]
    go_wp2_with fail
    rw [rounds_succ]
    go_wp2_with fail
    go_ret
    exact ⟨rfl, (Below.refl _ _).alloc (Nat.le_refl _) _⟩
  · have hb := key 52; simp at hb
    clear key
    go_enter Tryz.func148, Tryz.ntmps148
    go_wp2_with fail
    refine wp_loop_rounds 2 ?_; rw [rounds_succ]
    go_wp2_with fail
    rw [rounds_succ]
    go_wp2_with fail
    go_ret
    exact ⟨rfl, (Below.refl _ _).alloc (Nat.le_refl _) _⟩
  · have hb := key 53; simp at hb
    clear key
    go_enter Tryz.func148, Tryz.ntmps148
    go_wp2_with fail
    refine wp_loop_rounds 2 ?_; rw [rounds_succ]
    go_wp2_with fail
    rw [rounds_succ]
    go_wp2_with fail
    go_ret
    exact ⟨rfl, (Below.refl _ _).alloc (Nat.le_refl _) _⟩
  · have hb := key 54; simp at hb
    clear key
    go_enter Tryz.func148, Tryz.ntmps148
    go_wp2_with fail
    refine wp_loop_rounds 2 ?_; rw [rounds_succ]
    go_wp2_with fail
    rw [rounds_succ]
    go_wp2_with fail
    go_ret
    exact ⟨rfl, (Below.refl _ _).alloc (Nat.le_refl _) _⟩
end Go.Proofs.YtfpbhedophlnkaaGreatDoor
namespace Go.Proofs.YtfpbhedophlnkaaGreatDoor
open Go.RowKit
set_option linter.unusedSimpArgs false
set_option linter.unusedVariables false

/-- A table as a text. -/
def tbT (t : Tb) : List UInt8 := t.name.data.toList ++ [47] ++ [UInt8.ofNat (48 + t.width.toNat)]
/-- Texts with a blank between them. -/
def jn : List (List UInt8) → List UInt8
  | [] => []
  | [x] => x
  | x :: y :: r => x ++ [32] ++ jn (y :: r)
theorem jn_join : ∀ l : List (List UInt8), Lib.join l [32] = jn l
  | [] => rfl
  | [x] => by simp [Lib.join, jn, List.intercalate]
  | x :: y :: r => by
    have := jn_join (y :: r)
    simp only [Lib.join, List.intercalate, jn] at this ⊢
    rw [← this]
    simp [List.intersperse]
theorem jn_snoc : ∀ (l : List (List UInt8)) (x : List UInt8), jn (l ++ [x]) = if l = [] then x else jn l ++ [32] ++ x
  | [], x => by simp [jn]
  | [y], x => by simp [jn]
  | y :: z :: r, x => by
    have := jn_snoc (z :: r) x
    simp only [List.cons_append, jn] at this ⊢
    rw [this]
    simp
/-- A schema as a text. -/
def schT (l : List Tb) : List UInt8 := jn (l.map tbT)
theorem schT_take {l : List Tb} {j : Nat} {t : Tb} (h : l[j]? = some t) : schT (l.take (j + 1)) = if j = 0 then tbT t else schT (l.take j) ++ [32] ++ tbT t := by
  have hj : j < l.length := (List.getElem?_eq_some_iff.1 h).1
  have e : l[j] = t := by rw [List.getElem?_eq_getElem hj] at h; injection h
  unfold schT
  rw [List.take_succ_eq_append_getElem hj, e, List.map_append, List.map_cons, List.map_nil, jn_snoc]
  have hl : (l.take j).length = j := by simp; omega
  by_cases h0 : j = 0
  · subst h0; simp
  · rw [if_neg (by intro hh; have hz := congrArg List.length hh; rw [List.length_map, hl] at hz; exact h0 hz), if_neg h0]

theorem tbT_len {t : Tb} (h : tableB t = true) : (tbT t).length ≤ 14 ∧ t.name.size ≤ 12 := by
  unfold tableB at h
  rw [Bool.and_eq_true] at h
  have hw := h.1
  simp only [wordB, Tb.key, Bool.and_eq_true, decide_eq_true_eq] at hw
  have hs : t.name.data.toList.length = t.name.size := by rw [Array.length_toList]; rfl
  have : t.name.data.toList.length ≤ 12 := of_decide_eq_true hw.1.1.2
  rw [hs] at this
  refine ⟨?_, this⟩
  unfold tbT
  simp only [List.length_append, List.length_cons, List.length_nil, hs]
  omega
theorem jn_len : ∀ (l : List (List UInt8)), (∀ x ∈ l, x.length ≤ 14) → (jn l).length ≤ 15 * l.length
  | [], _ => by simp [jn]
  | [x], h => by have := h x (by simp); simp [jn]; omega
  | x :: y :: r, h => by
    have h1 := h x (by simp)
    have h2 := jn_len (y :: r) (fun z hz => h z (List.mem_cons_of_mem _ hz))
    simp only [jn, List.length_append, List.length_cons, List.length_nil] at h2 ⊢
    omega
theorem schT_len {l : List Tb} (h : ∀ t ∈ l, tableB t = true) : (schT l).length ≤ 15 * l.length := by
  have := jn_len (l.map tbT) (fun x hx => by
    obtain ⟨t, ht, rfl⟩ := List.mem_map.1 hx
    exact (tbT_len (h t ht)).1)
  rw [List.length_map] at this
  exact this
theorem digS_size (x : Int) : (digS x).size = 1 := rfl

def TxtRel (w : World) (l : List Tb) (wr : World) (s i : Value) : Prop :=
  ∃ (j : Nat) (X : ByteArray), j ≤ l.length ∧ i = .int .i64 j ∧ s = .string X ∧ X.data.toList = schT (l.take j) ∧ Below w.heap.size w wr

/-- What SchemaText answers. -/
def txtO (l : List Tb) : ByteArray := if schemaB l = true then ⟨(schT l).toArray⟩ else ⟨#[]⟩
end Go.Proofs.YtfpbhedophlnkaaGreatDoor
namespace Go.Proofs.YtfpbhedophlnkaaGreatDoor
set_option linter.unusedSimpArgs false
set_option linter.unusedVariables false

/-- A table's text, its width written as any number is. -/
def wordOf (t : Tb) : List UInt8 := t.name.data.toList ++ 47 :: Lib.itoa t.width
def no47 (t : Tb) : Prop := ∀ c ∈ t.name.data.toList, c ≠ 47
theorem itoa_small {x : Int} (h1 : 1 ≤ x) (h2 : x ≤ 6) : Lib.itoa x = [UInt8.ofNat (48 + x.toNat)] := by
  unfold Lib.itoa
  rw [if_neg (by omega), dec_one (by omega)]
theorem itoa_no47 (x : Int) : ∀ c ∈ Lib.itoa x, c ≠ 47 := by
  intro c hc hh
  subst hh
  unfold Lib.itoa at hc
  split at hc
  · rcases List.mem_cons.1 hc with h | h
    · cases h
    · have := dec_digit _ _ h; simp at this
  · have := dec_digit _ _ hc; simp at this
theorem tableB_iff {t : Tb} (h : tableB t = true) : wordB t.name.data.toList = true ∧ 1 ≤ t.width ∧ t.width ≤ 6 := by
  unfold tableB at h
  rw [Bool.and_eq_true, decide_eq_true_eq] at h
  exact h
theorem word_chars {l : List UInt8} (h : wordB l = true) : ∀ c ∈ l, charB c.toNat = true := by
  simp only [wordB, Bool.and_eq_true] at h
  exact List.all_eq_true.1 h.2
theorem tbT_word {t : Tb} (h : tableB t = true) : tbT t = wordOf t ∧ no47 t ∧ ∀ c ∈ tbT t, c ≠ 32 := by
  obtain ⟨hw, h1, h2⟩ := tableB_iff h
  have hc := word_chars hw
  have e : tbT t = wordOf t := by unfold tbT wordOf; rw [itoa_small h1 h2]; simp
  refine ⟨e, fun c hm hh => ?_, fun c hm hh => ?_⟩
  · subst hh
    have := hc _ hm
    simp [charB] at this
  · subst hh
    unfold tbT at hm
    rw [List.mem_append, List.mem_append] at hm
    rcases hm with (hm | hm) | hm
    · have := hc _ hm
      simp [charB] at this
    · simp at hm
    · rw [List.mem_singleton] at hm
      have h3 : (UInt8.ofNat (48 + t.width.toNat)).toNat = 48 + t.width.toNat := by rw [UInt8.toNat_ofNat']; omega
      rw [← hm] at h3
      have : (32 : UInt8).toNat = 32 := rfl
      omega
theorem jn_joinB : ∀ l : List (List UInt8), jn l = joinB 32 l
  | [] => rfl
  | [x] => rfl
  | x :: y :: r => by
    have := jn_joinB (y :: r)
    simp only [jn, joinB] at this ⊢
    rw [this]; simp
theorem split_word {t : Tb} (h : no47 t) : splitB 47 (wordOf t) = [t.name.data.toList, Lib.itoa t.width] := by
  unfold wordOf
  rw [split_hit _ h, split_no (itoa_no47 _)]
theorem word_inj {s t : Tb} (hs : no47 s) (ht : no47 t) (h : wordOf s = wordOf t) : s = t := by
  have h1 := split_word hs
  rw [h, split_word ht] at h1
  simp only [List.cons.injEq, and_true] at h1
  have hw : s.width = t.width := by
    apply numT_inj
    unfold numT
    rw [h1.2]
  have hn : s.name = t.name := by
    apply ByteArray.ext
    exact Array.toList_inj.1 h1.1.symm
  cases s; cases t
  simp only at hw hn
  rw [hw, hn]
theorem map_word_inj : ∀ {l m : List Tb}, (∀ t ∈ l, no47 t) → (∀ t ∈ m, no47 t) → l.map wordOf = m.map wordOf → l = m
  | [], [], _, _, _ => rfl
  | [], _ :: _, _, _, h => by simp at h
  | _ :: _, [], _, _, h => by simp at h
  | s :: l, t :: m, h1, h2, h => by
    simp only [List.map_cons, List.cons.injEq] at h
    rw [word_inj (h1 s (by simp)) (h2 t (by simp)) h.1, map_word_inj (fun x hx => h1 x (by simp [hx])) (fun x hx => h2 x (by simp [hx])) h.2]
theorem schema_all {l : List Tb} (h : schemaB l = true) : ∀ t ∈ l, tableB t = true := (schemaB_iff.1 h).2.1
/-- The words of a schema's text. -/
theorem sch_words {l : List Tb} (h : schemaB l = true) (hne : l ≠ []) : splitB 32 (schT l) = l.map wordOf ∧ ∀ t ∈ l, no47 t := by
  have ha := schema_all h
  have e : l.map tbT = l.map wordOf := List.map_congr_left (fun t ht => (tbT_word (ha t ht)).1)
  refine ⟨?_, fun t ht => (tbT_word (ha t ht)).2.1⟩
  unfold schT
  rw [jn_joinB, split_join _ (by simpa using hne) (by
    intro x hx
    obtain ⟨t, ht, rfl⟩ := List.mem_map.1 hx
    exact (tbT_word (ha t ht)).2.2), e]
theorem sch_back {l : List Tb} {s : List UInt8} (h : schemaB l = true) (hw : splitB 32 s = l.map wordOf) : s = schT l := by
  have ha := schema_all h
  have e : l.map tbT = l.map wordOf := List.map_congr_left (fun t ht => (tbT_word (ha t ht)).1)
  rw [← join_split 32 s, hw, ← e]
  unfold schT
  rw [jn_joinB]
theorem sch_inj {l m : List Tb} (hl : schemaB l = true) (hm : schemaB m = true) (h : schT l = schT m) : l = m := by
  by_cases h1 : l = []
  · by_cases h2 : m = []
    · rw [h1, h2]
    · obtain ⟨hw, _⟩ := sch_words hm h2
      rw [← h, h1] at hw
      cases m with
      | nil => exact absurd rfl h2
      | cons t m =>
        have hh : [([] : List UInt8)] = (t :: m).map wordOf := hw
        simp only [List.map_cons, List.cons.injEq] at hh
        unfold wordOf at hh
        simp at hh
  · by_cases h2 : m = []
    · obtain ⟨hw, _⟩ := sch_words hl h1
      rw [h, h2] at hw
      cases l with
      | nil => exact absurd rfl h1
      | cons t l =>
        have hh : [([] : List UInt8)] = (t :: l).map wordOf := hw
        simp only [List.map_cons, List.cons.injEq] at hh
        unfold wordOf at hh
        simp at hh
    · obtain ⟨hw, hn⟩ := sch_words hl h1
      obtain ⟨hv, hn'⟩ := sch_words hm h2
      rw [h, hv] at hw
      exact (map_word_inj hn' hn hw).symm
/-- A text whose words are those of tables that are no schema is no schema's. -/
theorem sch_none {out : List Tb} {s : List UInt8} (hs : s ≠ []) (hb : schemaB out = false) (hw : splitB 32 s = out.map wordOf) (hn : ∀ t ∈ out, no47 t) : ∀ m, schemaB m = true → s ≠ schT m := by
  intro m hm he
  have hne : m ≠ [] := by rintro rfl; exact hs he
  obtain ⟨hv, hn'⟩ := sch_words hm hne
  rw [← he, hw] at hv
  rw [map_word_inj hn hn' hv, hm] at hb
  cases hb
/-- A word of a schema's text. -/
theorem sch_at {s x : List UInt8} {j : Nat} {m : List Tb} (hs : s ≠ []) (hx : (splitB 32 s)[j]? = some x) (hm : schemaB m = true) (he : s = schT m) : ∃ t, tableB t = true ∧ splitB 47 x = [t.name.data.toList, Lib.itoa t.width] := by
  have hne : m ≠ [] := by rintro rfl; exact hs he
  obtain ⟨hv, hn⟩ := sch_words hm hne
  rw [he, hv, List.getElem?_map] at hx
  cases ht : m[j]? with
  | none => rw [ht] at hx; cases hx
  | some t =>
    rw [ht] at hx
    simp at hx
    have hmem := List.mem_of_getElem? ht
    exact ⟨t, schema_all hm t hmem, by rw [← hx]; exact split_word (hn t hmem)⟩
/-- A word of two parts, the second a number. -/
theorem word_of {x a d : List UInt8} {y : Int} (hs : splitB 47 x = [a, d]) (hd : d = Lib.itoa y) : x = wordOf ⟨⟨a.toArray⟩, y⟩ ∧ no47 ⟨⟨a.toArray⟩, y⟩ := by
  refine ⟨?_, ?_⟩
  · rw [← join_split 47 x, hs, hd]
    simp [joinB, wordOf]
  · intro c hc
    exact split_parts x a (by rw [hs]; simp) c (by simpa using hc)
end Go.Proofs.YtfpbhedophlnkaaGreatDoor
namespace Go.Proofs.YtfpbhedophlnkaaGreatDoor
open Go.RowKit
set_option linter.unusedSimpArgs false
set_option linter.unusedVariables false

theorem Tryz.infoStr : (Tryz.prog.info? 9).map (fun i => (i.zero, i.size, i.bytes)) = some (some (.string ⟨#[]⟩), 1, 16) := by kernel_rfl

/-- 'append(xs, ys...)' at a slice of strings of the call's own. -/
theorem wpList_appendSs {P : Program} (w : World) {ops : Array Oper} {rest : List Oper} {o : Oper} {a : Act} {Q : Exit → Act → World → Prop} (hgd : o.guard = none) (s x : Operand) (t : TypeId)
    (ho : o.op = .call { callee := .builtin .append, args := #[s, x], argTypes := #[t, t] }) (base : Nat) (ht : P.underlying t = some (.slice 9))
    (hi : (P.info? 9).map (fun i => (i.zero, i.size, i.bytes)) = some (some (.string ⟨#[]⟩), 1, 16))
    (ao : Option Addr) (c n : Nat) (l : List ByteArray) (hs : a.eval s = .slice ao n c) (hn : n = l.length) (hown : OwnS w base ao c l)
    (bl m cx : Nat) (ys : List ByteArray) (hx : a.eval x = .slice (some ⟨bl, 0, none⟩) m cx) (hm : m = ys.length) (hv : ∀ i, i < ys.length → w.cell? ⟨bl, i, none⟩ = some (.string (ys.getD i ByteArray.empty)))
    (hby : l.length + ys.length ≤ 1048576) (hbase : base ≤ w.heap.size)
    (h : ∀ ao' c' w', OwnS w' base ao' c' (l ++ ys) → w.grownBy w' (ao.map (·.block)) → wpList P ops Q rest (a.put o.dst (.slice ao' (l ++ ys).length c')) w') :
    wpList P ops Q (o :: rest) a w := by
  obtain ⟨i, hi0, hz0, hz1, hz2⟩ := info_parts hi
  subst hn hm
  refine wpList_append_own_at w hgd s x t ho base 9 i (.string ⟨#[]⟩) 1 16 ht hi0 hz0 hz1 hz2 rfl (by omega) _ l.length (l.map Value.string) hs hown ⟨bl, 0, none⟩ ys.length cx (ys.map Value.string) hx (by simp) ?_ ?_ (by unfold maxLen; omega) (by omega) hbase ?_
  · intro j u hj
    rw [List.getElem?_map] at hj
    cases hy : ys[j]? with
    | none => rw [hy] at hj; cases hj
    | some y =>
      rw [hy] at hj; simp at hj; subst hj
      have hlt : j < ys.length := by
        rcases Nat.lt_or_ge j ys.length with h1 | h1
        · exact h1
        · rw [List.getElem?_eq_none h1] at hy; cases hy
      have := hv j hlt
      rw [List.getD_eq_getElem?_getD, hy] at this
      by_cases h0 : j = 0
      · subst h0; simpa [Addr.add] using this
      · simpa [Addr.add, h0] using this
  · intro u hu
    obtain ⟨y, _, rfl⟩ := List.mem_map.1 hu
    rfl
  · intro v' w' ho' hg' _ hblk
    have hg2 : w.grownBy w' (ao.map (·.block)) := by
      cases ao with
      | none => exact hg'
      | some x => exact hg'
    have hlen : (l ++ ys).length = l.length + ys.length := by simp
    rw [← List.map_append] at ho'
    rcases ho'.2 with ⟨rfl, hz⟩ | ⟨g, cap, cur, rfl, r⟩
    · have hl0 : l ++ ys = [] := List.eq_nil_of_length_eq_zero (by omega)
      have := h none 0 w' (by rw [hl0]; exact OwnS.none_) hg2
      rw [hl0] at this; exact this
    · have := h _ _ _ (by unfold OwnS; rw [hlen]; exact ho') hg2
      rw [hlen] at this; exact this
theorem below_appS {w wr w1 : World} {ao : Option Addr} {c : Nat} {l : List ByteArray} {o : Obj} (hb : Below w.heap.size w wr) (ho : OwnS wr w.heap.size ao c l) (hg : (wr.alloc o).grownBy w1 (ao.map (·.block))) : Below w.heap.size w w1 := by
  refine (hb.alloc hb.size o).grown hg (by have := hb.size; simp; omega) ?_
  intro g hg'
  rcases ao with _ | a
  · cases hg'
  · simp at hg'; subst hg'; exact (ho.lt a rfl).1
theorem below_appS0 {w wr w1 : World} {ao : Option Addr} {c : Nat} {l : List ByteArray} (hb : Below w.heap.size w wr) (ho : OwnS wr w.heap.size ao c l) (hg : wr.grownBy w1 (ao.map (·.block))) : Below w.heap.size w w1 := by
  refine hb.grown hg hb.size ?_
  intro g hg'
  rcases ao with _ | a
  · cases hg'
  · simp at hg'; subst hg'; exact (ho.lt a rfl).1
theorem OwnS.alloc {w : World} {base : Nat} {ao : Option Addr} {c : Nat} {l : List ByteArray} (h : OwnS w base ao c l) (o : Obj) : OwnS (w.alloc o) base ao c l :=
  h.below ((Below.refl _ _).alloc (Nat.le_refl _) o)
end Go.Proofs.YtfpbhedophlnkaaGreatDoor
namespace Go.Proofs.YtfpbhedophlnkaaGreatDoor
open Go.RowKit
set_option linter.unusedSimpArgs false
set_option linter.unusedVariables false

def mkB (x : List UInt8) : ByteArray := ⟨x.toArray⟩
def partsSP (b : UInt8) (s : ByteArray) : List ByteArray := (splitB b s.data.toList).map mkB
def PRel (w : World) (s : ByteArray) (b : UInt8) (wr : World) (o a i : Value) : Prop :=
  ∃ (k m n : Nat) (ao : Option Addr) (c : Nat) (out : List ByteArray), o = .slice ao n c ∧ a = .int .i64 m ∧ i = .int .i64 k ∧ n = out.length ∧ OwnS wr w.heap.size ao c out ∧ Below w.heap.size w wr ∧ out.length ≤ k ∧ k ≤ s.size + 1 ∧
    ((k ≤ s.size ∧ m ≤ k ∧ partsSP b s = out ++ (splitB b (s.data.toList.drop m)).map mkB ∧ ∀ z ∈ (s.data.toList.drop m).take (k - m), z ≠ b) ∨ (k = s.size + 1 ∧ partsSP b s = out))
theorem ext_mk (s : ByteArray) (m k : Nat) : s.extract m k = mkB ((s.data.toList.drop m).take (k - m)) := by
  apply ByteArray.ext
  unfold mkB
  rw [ByteArray.data_extract]
  apply Array.toList_inj.1
  simp [Array.toList_extract, List.extract_eq_take_drop]
theorem cell_one_p (w : World) (y : ByteArray) (t : TypeId) : ∀ i, i < [y].length → (w.alloc (.cells #[.string y] t)).cell? ⟨w.heap.size, i, none⟩ = some (.string ([y].getD i ByteArray.empty)) := by
  intro i hi
  obtain rfl : i = 0 := by simp at hi; omega
  rw [World.cell?_alloc_new]; rfl

theorem p_hit {w w1 : World} {s : ByteArray} {b : UInt8} {k m : Nat} {ao : Option Addr} {c : Nat} {out : List ByteArray} (hlt : k < s.size) (hmk : m ≤ k) (hok : out.length ≤ k) (hp : partsSP b s = out ++ (splitB b (s.data.toList.drop m)).map mkB) (hno : ∀ z ∈ (s.data.toList.drop m).take (k - m), z ≠ b) (hx : s.data.toList[k]? = some b)
    (ho : OwnS w1 w.heap.size ao c (out ++ [s.extract m k])) (hb : Below w.heap.size w w1) : PRel w s b w1 (.slice ao (out ++ [s.extract m k]).length c) (.int .i64 ((k : Int) + 1)) (.int .i64 ((k : Int) + 1)) := by
  refine ⟨k + 1, k + 1, _, ao, c, _, rfl, by simp, by simp, rfl, ho, hb, by simp; omega, by omega, .inl ⟨hlt, Nat.le_refl _, ?_, by simp⟩⟩
  have hd : s.data.toList.drop m = (s.data.toList.drop m).take (k - m) ++ b :: s.data.toList.drop (k + 1) := by
    have h1 := (List.take_append_drop (k - m) (s.data.toList.drop m)).symm
    rw [List.drop_drop, show m + (k - m) = k by omega] at h1
    have hl := (List.getElem?_eq_some_iff.1 hx).1
    have h2 : s.data.toList.drop k = b :: s.data.toList.drop (k + 1) := by
      rw [List.drop_eq_getElem_cons hl]
      rw [List.getElem?_eq_getElem hl] at hx
      injection hx with hx
      rw [hx]
    rw [h2] at h1
    exact h1
  rw [hp]
  conv => lhs; rw [hd]
  rw [split_hit _ hno, ext_mk]
  simp
theorem p_on {w w1 : World} {s : ByteArray} {b z0 : UInt8} {k m n : Nat} {ao : Option Addr} {c : Nat} {out : List ByteArray} (hlt : k < s.size) (hmk : m ≤ k) (hok : out.length ≤ k) (hp : partsSP b s = out ++ (splitB b (s.data.toList.drop m)).map mkB) (hno : ∀ z ∈ (s.data.toList.drop m).take (k - m), z ≠ b) (hx : s.data.toList[k]? = some z0) (hz : z0 ≠ b) (hn : n = out.length)
    (ho : OwnS w1 w.heap.size ao c out) (hb : Below w.heap.size w w1) : PRel w s b w1 (.slice ao n c) (.int .i64 m) (.int .i64 ((k : Int) + 1)) := by
  refine ⟨k + 1, m, _, ao, c, _, rfl, rfl, by simp, hn, ho, hb, by omega, by omega, .inl ⟨hlt, by omega, hp, ?_⟩⟩
  intro z hzm
  rw [show k + 1 - m = (k - m) + 1 by omega, List.take_add_one, List.getElem?_drop, show m + (k - m) = k by omega, hx] at hzm
  rcases List.mem_append.1 hzm with h | h
  · exact hno z h
  · simp at h; rw [h]; exact hz
theorem p_end {w w1 : World} {s : ByteArray} {b : UInt8} {m : Nat} {ao : Option Addr} {c : Nat} {out : List ByteArray} (hmk : m ≤ s.size) (hok : out.length ≤ s.size) (hp : partsSP b s = out ++ (splitB b (s.data.toList.drop m)).map mkB) (hno : ∀ z ∈ (s.data.toList.drop m).take (s.size - m), z ≠ b)
    (ho : OwnS w1 w.heap.size ao c (out ++ [s.extract m s.size])) (hb : Below w.heap.size w w1) : PRel w s b w1 (.slice ao (out ++ [s.extract m s.size]).length c) (.int .i64 ((s.size : Int) + 1)) (.int .i64 ((s.size : Int) + 1)) := by
  have hl : s.data.toList.length = s.size := by rw [Array.length_toList]; rfl
  have he : (s.data.toList.drop m).take (s.size - m) = s.data.toList.drop m := List.take_of_length_le (by simp [hl])
  rw [he] at hno
  refine ⟨s.size + 1, s.size + 1, _, ao, c, _, rfl, by simp, by simp, rfl, ho, hb, by simp; omega, by omega, .inr ⟨rfl, ?_⟩⟩
  rw [hp, split_no hno, ext_mk, he]
  rfl

end Go.Proofs.YtfpbhedophlnkaaGreatDoor
