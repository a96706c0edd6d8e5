/-
  What is put is taken again: lists, words, frames. Plain facts. No walk. Reading a node, a plan and a schema out of bytes, as plain lists: one thing behind the other; once something is missing nothing more is read. No program, no walk. How long what is read out of bytes can be. No program, no walk. How many nodes, and each of them, read out of bytes: plain lists. No program, no walk. A node, a plan and a schema as bytes, as plain lists. No program, no walk. A plan's bytes, as plain lists. No program, no walk. What is in a frame: how long, and of bytes. No program, no walk.
-/
import Derived.Test.YtfpbhedophlnkaaGreatDoorJW26x
import Derived.Test.YtfpbhedophlnkaaGreatDoorJW27x
import Derived.Test.YtfpbhedophlnkaaGreatDoorJW28x
import Derived.Test.YtfpbhedophlnkaaGreatDoorJW31x
import Derived.Test.YtfpbhedophlnkaaGreatDoorJW3x
namespace Go.Proofs.YtfpbhedophlnkaaGreatDoor
open Go.RowKit
set_option linter.unusedSimpArgs false
set_option linter.unusedVariables false

theorem enc_ne (u : Nat) : enc u ≠ [] := by
  intro e
  by_cases h2 : u < 128
  · rw [enc_lt h2] at e; cases e
  · rw [enc_ge (by omega)] at e; cases e
theorem putN_ne {x : Int} (h : isN x = true) : putN x ≠ [] := by rw [putN_yes h]; exact enc_ne _
theorem drop_pre {α : Type} {l p r : List α} (h : l = p ++ r) : l.drop p.length = r := by rw [h]; simp

theorem rdN_put {l pre rest L : List Int} (hl : l = pre ++ (L.flatMap putN ++ rest)) (ha : ∀ z ∈ L, isN z = true) :
    ∀ k, k ≤ L.length → rdN l (pre.length : Int) k = some (L.take k, ((pre.length + ((L.take k).flatMap putN).length : Nat) : Int)) := by
  intro k
  induction k with
  | zero => intro _; rw [rdN]; simp
  | succ k ih =>
    intro hk
    have ih := ih (by omega)
    have hlt : k < L.length := by omega
    have ht : L.take (k + 1) = L.take k ++ [L[k]] := by simp
    have hL : L.flatMap putN = (L.take k).flatMap putN ++ (putN L[k] ++ (L.drop (k + 1)).flatMap putN) := by
      have hs : L = (L.take k ++ [L[k]]) ++ L.drop (k + 1) := by rw [← ht, List.take_append_drop]
      have hs := congrArg (List.flatMap putN) hs
      rw [List.flatMap_append, List.flatMap_append, List.append_assoc, List.flatMap_cons, List.flatMap_nil, List.append_nil] at hs
      exact hs
    have hd : l.drop (pre.length + ((L.take k).flatMap putN).length) = putN L[k] ++ ((L.drop (k + 1)).flatMap putN ++ rest) := by
      rw [← List.length_append]
      refine drop_pre ?_
      rw [hl, hL]; simp
    have T := takeN_put (ha _ (List.getElem_mem hlt)) hd
    rw [rdN_yes ih T.symm (by omega), ht, List.flatMap_append, List.flatMap_cons, List.flatMap_nil, List.append_nil, List.length_append, Nat.add_assoc]
theorem okNs_of {L : List Int} (h : okNs L = true) : L.length ≤ 300 ∧ ∀ z ∈ L, isN z = true := by
  unfold okNs at h; simpa using h
theorem putNs_ok {L : List Int} (h : okNs L = true) : putNs L = putN L.length ++ L.flatMap putN := by
  unfold putNs; rw [if_pos h]; simp [preN]
theorem putNs_pos {L : List Int} (h : 0 < (putNs L).length) : okNs L = true := by
  unfold putNs at h; split at h
  · assumption
  · simp at h
theorem takeNs_put {L : List Int} (h : okNs L = true) : takeNs (putNs L) 0 = (L, ((putNs L).length : Int)) := by
  have ⟨h1, h2⟩ := okNs_of h
  have hn : isN (L.length : Int) = true := isN_mk (by omega)
  have e := putNs_ok h
  have T := takeN_put (l := putNs L) (p := 0) hn (by rw [e]; rfl)
  have R := rdN_put (l := putNs L) (pre := putN L.length) (rest := []) (by rw [e]; simp) h2 L.length (Nat.le_refl _)
  rw [List.take_length] at R
  unfold takeNs
  rw [show (0 : Int) = ((0 : Nat) : Int) from rfl, T]
  simp only [Nat.zero_add, Int.toNat_natCast]
  rw [if_neg (by omega), R, e]
  simp
theorem takeNs_cut {L : List Int} (h : okNs L = true) : takeNs (putNs L).dropLast 0 = ([], -1) := by
  have ⟨h1, h2⟩ := okNs_of h
  have hn : isN (L.length : Int) = true := isN_mk (by omega)
  have e := putNs_ok h
  rcases List.eq_nil_or_concat L with rfl | ⟨M, z, rfl⟩
  · have T := takeN_cut (l := (putNs []).dropLast) (p := 0) (x := 0) (by rw [e]; simp)
    unfold takeNs
    rw [show (0 : Int) = ((0 : Nat) : Int) from rfl, T]
    rfl
  · rw [List.concat_eq_append] at *
    have hz : isN z = true := h2 z (by simp)
    have e2 : (putNs (M ++ [z])).dropLast = putN (M ++ [z]).length ++ (M.flatMap putN ++ (putN z).dropLast) := by
      rw [e, List.flatMap_append]
      rw [show [z].flatMap putN = putN z by simp]
      rw [← List.append_assoc, List.dropLast_append_of_ne_nil (putN_ne hz), List.append_assoc]
    have T := takeN_put (l := (putNs (M ++ [z])).dropLast) (p := 0) hn (by rw [e2]; rfl)
    have R := rdN_put (l := (putNs (M ++ [z])).dropLast) (pre := putN (M ++ [z]).length) (rest := (putN z).dropLast) (L := M) e2 (fun y hy => h2 y (by simp [hy])) M.length (Nat.le_refl _)
    rw [List.take_length] at R
    have C := takeN_cut (l := (putNs (M ++ [z])).dropLast) (p := (putN (M ++ [z]).length).length + (M.flatMap putN).length) (x := z) (by
      rw [← List.length_append]; refine drop_pre ?_; rw [e2]; simp)
    have N := rdN_no R C.symm rfl
    unfold takeNs
    rw [show (0 : Int) = ((0 : Nat) : Int) from rfl, T]
    simp only [Nat.zero_add, Int.toNat_natCast]
    rw [if_neg (by omega), show (M ++ [z]).length = M.length + 1 by simp]
    rw [show (M ++ [z]).length = M.length + 1 by simp] at N
    rw [N]; rfl

theorem str_back (s : ByteArray) : strOfNums (strL s) = s := by
  cases s with
  | mk d =>
    unfold strOfNums strL
    simp only [List.map_map]
    congr 1
    rw [show ((fun z : Int => UInt8.ofNat z.toNat) ∘ fun b : UInt8 => (b.toNat : Int)) = id by funext b; simp]
    simp
theorem putW_ok {s : ByteArray} (h : wordB s.data.toList = true) : putW s = putN s.size ++ strL s := by unfold putW; rw [if_pos h]
theorem putW_pos (s : ByteArray) : decide (0 < (putW s).length) = wordB s.data.toList := by
  cases h : wordB s.data.toList with
  | false => unfold putW; rw [h]; rfl
  | true =>
    have := wordB_size h
    rw [putW_ok h]
    simp [strL_len]
    omega
theorem takeW_put {s : ByteArray} (h : wordB s.data.toList = true) : takeW (putW s) 0 = (s, ((putW s).length : Int)) := by
  have hs := wordB_size h
  have hn : isN (s.size : Int) = true := isN_mk (by omega)
  have e := putW_ok h
  have T := takeN_put (l := putW s) (p := 0) hn (by rw [e]; rfl)
  have hd : (putW s).drop (putN s.size).length = strL s := drop_pre e
  have ht : (strL s).take s.size = strL s := by rw [← strL_len, List.take_length]
  unfold takeW
  rw [show (0 : Int) = ((0 : Nat) : Int) from rfl, T]
  simp only [Nat.zero_add, Int.toNat_natCast]
  have hlen : (putW s).length = (putN s.size).length + s.size := by rw [e, List.length_append, strL_len]
  rw [if_neg (by omega), hd, ht, str_back, if_pos h, hlen]
  simp

theorem unfL_frame {b : List Int} (h : b.length ≤ 4000) : unfL (frameL b) = some b := by
  have hn : isN (b.length : Int) = true := isN_mk (by omega)
  have hc := chk_bd b
  have hk : isN (chk b) = true := isN_mk (by omega)
  have e := frameL_yes h
  have T := takeN_put (l := frameL b) (p := 2) (rest := b ++ putN (chk b)) hn (by rw [e]; simp)
  have hlen : (frameL b).length = 2 + (putN b.length).length + b.length + (putN (chk b)).length := by rw [e]; simp; omega
  have d1 : (frameL b).drop (2 + (putN b.length).length) = b ++ putN (chk b) := by
    rw [show 2 + (putN b.length).length = ([80, 83] ++ putN b.length).length by simp; omega]
    exact drop_pre (by rw [e]; simp)
  have d2 : (frameL b).drop (2 + (putN b.length).length + b.length) = putN (chk b) := by
    rw [← List.drop_drop, d1]; simp
  have T2 := takeN_put (l := frameL b) (p := 2 + (putN b.length).length + b.length) (rest := []) hk (by rw [d2]; simp)
  unfold unfL
  rw [if_pos (by rw [e]; exact ⟨rfl, rfl⟩)]
  unfold unfT
  rw [show (2 : Int) = ((2 : Nat) : Int) from rfl, T]
  simp only [Int.toNat_natCast]
  rw [if_neg (by omega), ← Int.natCast_add, T2, d1]
  simp only [List.take_left]
  rw [if_pos ⟨by omega, trivial⟩]
theorem unfL_was {x b : List Int} (hx : By x) (h : unfL x = some b) : x = frameL b := by
  unfold unfL at h
  split at h
  rotate_left
  · cases h
  rename_i hh
  unfold unfT at h
  rcases ht : takeN x 2 with ⟨n, p⟩
  rw [ht] at h
  simp only at h
  split at h
  · cases h
  rename_i h1
  rcases hc : takeN x (p + n) with ⟨c, q⟩
  rw [hc] at h
  simp only at h
  split at h
  rotate_left
  · cases h
  rename_i h2
  obtain ⟨P, rfl, e1, _, e3⟩ := takeN_was hx (p := 2) ht (by omega)
  have hPn : ((P : Int) + n) = ((P + n.toNat : Nat) : Int) := by omega
  rw [hPn] at hc
  obtain ⟨Q, rfl, f1, _, _⟩ := takeN_was hx hc (by omega)
  simp only [Int.toNat_natCast, Option.some.injEq] at h h2
  have hQ : Q = x.length := by omega
  have hb : b.length = n.toNat := by rw [← h]; simp; omega
  rw [frameL_yes (by omega)]
  have hbn : ((b.length : Nat) : Int) = n := by omega
  rw [hbn, ← h] at *
  have x2 : x = [80, 83] ++ x.drop 2 := by
    obtain ⟨g0, g1⟩ := hh
    match x, g0, g1 with
    | a :: a' :: t, g0, g1 => simp at g0 g1; simp [g0, g1]
  have x3 : x.drop P = (x.drop P).take n.toNat ++ putN c := by
    conv => lhs; rw [← List.take_append_drop n.toNat (x.drop P)]
    rw [List.drop_drop, f1, hQ]; simp
  rw [← h2.2]
  conv => lhs; rw [x2, e1, x3]
  simp
theorem unfL_bent {f b : List Int} {k : Nat} {v : Int} (hf : By f) (hk : k < f.length) (hv : 0 ≤ v ∧ v ≤ 255) (hne : v ≠ f.getD k 0) (hfr : f = frameL b) : unfL (f.set k v) ≠ some b := by
  intro e
  have hby : By (f.set k v) := by
    intro z hz
    rcases List.mem_or_eq_of_mem_set hz with h | rfl
    · exact hf z h
    · omega
  have := unfL_was hby e
  rw [← hfr] at this
  have h2 : (f.set k v)[k]? = f[k]? := by rw [this]
  rw [List.getElem?_set_self hk] at h2
  rw [List.getD_eq_getElem?_getD, ← h2] at hne
  exact hne rfl
end Go.Proofs.YtfpbhedophlnkaaGreatDoor
namespace Go.Proofs.YtfpbhedophlnkaaGreatDoor
open Go.RowKit
set_option linter.unusedSimpArgs false
set_option linter.unusedVariables false

/-- A number at the place that is reached; none where something was missing already. -/
def numR (l : List Int) (s : Option Int) : Int × Option Int :=
  match s with
  | none => (0, none)
  | some p => if (takeN l p).2 = -1 then (0, none) else ((takeN l p).1, some (takeN l p).2)
def wordR (l : List Int) (s : Option Int) : ByteArray × Option Int :=
  match s with
  | none => (⟨#[]⟩, none)
  | some p => if (takeW l p).2 = -1 then (⟨#[]⟩, none) else ((takeW l p).1, some (takeW l p).2)
def listR (l : List Int) (s : Option Int) : List Int × Option Int :=
  match s with
  | none => ([], none)
  | some p => if (takeNs l p).2 = -1 then ([], none) else ((takeNs l p).1, some (takeNs l p).2)
def flagR (l : List Int) (s : Option Int) : Bool × Option Int :=
  ((numR l s).1 == 1, if (numR l s).1 = 0 ∨ (numR l s).1 = 1 then (numR l s).2 else none)
/-- What stands behind a node's kind. -/
def fieldR (l : List Int) (k : Int) (s : Option Int) : Nd × Option Int :=
  if k = 0 then (⟨0, (wordR l s).1, 0, 0, 0, false, []⟩, (wordR l s).2)
  else if k = 1 then
    (⟨1, ⟨#[]⟩, (numR l s).1, (numR l (numR l s).2).1, (numR l (flagR l (numR l (numR l s).2).2).2).1, (flagR l (numR l (numR l s).2).2).1, []⟩, (numR l (flagR l (numR l (numR l s).2).2).2).2)
  else if k = 2 then (⟨2, ⟨#[]⟩, 0, 0, 0, false, (listR l s).1⟩, (listR l s).2)
  else if k = 3 then (⟨3, ⟨#[]⟩, (numR l s).1, 0, (numR l (numR l s).2).1, false, []⟩, (numR l (numR l s).2).2)
  else if k = 5 then (⟨5, ⟨#[]⟩, (numR l s).1, 0, 0, false, []⟩, (numR l s).2)
  else if k = 6 then (⟨6, ⟨#[]⟩, 0, 0, (numR l (flagR l s).2).1, (flagR l s).1, []⟩, (numR l (flagR l s).2).2)
  else (⟨k, ⟨#[]⟩, 0, 0, 0, false, []⟩, s)
/-- A node, whether it is one or not, and the place behind it; none where something is missing or it is none. -/
def nodeR (l : List Int) (s : Option Int) : Nd × Option Int :=
  ((fieldR l (numR l s).1 (numR l s).2).1, if nodeB (fieldR l (numR l s).1 (numR l s).2).1 then (fieldR l (numR l s).1 (numR l s).2).2 else none)
def zeroNd : Nd := ⟨0, ⟨#[]⟩, 0, 0, 0, false, []⟩
def takeNd (l : List Int) (p : Int) : Nd × Int :=
  match (nodeR l (some p)).2 with
  | none => (zeroNd, -1)
  | some q => ((nodeR l (some p)).1, q)

theorem numR_none (l : List Int) : numR l none = (0, none) := rfl
theorem wordR_none (l : List Int) : wordR l none = (⟨#[]⟩, none) := rfl
theorem listR_none (l : List Int) : listR l none = ([], none) := rfl
theorem flagR_none (l : List Int) : flagR l none = (false, none) := rfl
theorem fieldR_none (l : List Int) (k : Int) : (fieldR l k none).2 = none := by
  unfold fieldR
  repeat' split
  all_goals first | rfl | simp [numR_none, flagR_none]

theorem takeW_pl {l : List Int} (hl : By l) (p : Int) : (takeW l p).2 = -1 ∨ (0 ≤ (takeW l p).2 ∧ (takeW l p).2 ≤ l.length) := by
  unfold takeW
  have := takeN_bd hl p
  repeat' split
  all_goals first | (left; rfl) | (right; simp only; omega) | (simp only; omega)
theorem takeW_12 (l : List Int) (p : Int) : (takeW l p).1.size ≤ 12 := by
  unfold takeW
  repeat' split
  · exact Nat.zero_le _
  · rw [strOf_size]; simp; omega
  · exact Nat.zero_le _
/-- A place of the bytes. -/
def Pl (l : List Int) (s : Option Int) : Prop := ∀ p, s = some p → 0 ≤ p ∧ p ≤ l.length
theorem Pl.none_ {l : List Int} : Pl l none := by intro p h; cases h
theorem numR_pl {l : List Int} (hl : By l) (s : Option Int) : Pl l (numR l s).2 := by
  unfold numR
  split
  · exact Pl.none_
  · split
    · exact Pl.none_
    · rename_i p h
      intro q hq
      injection hq with hq
      have := takeN_bd hl p
      omega
theorem numR_bd {l : List Int} (hl : By l) (s : Option Int) : -1000000 ≤ (numR l s).1 ∧ (numR l s).1 ≤ 1000000 := by
  unfold numR
  split
  · exact ⟨by decide, by decide⟩
  · split
    · exact ⟨by decide, by decide⟩
    · rename_i p h
      have := takeN_bd hl p
      omega
theorem flagR_pl {l : List Int} (hl : By l) (s : Option Int) : Pl l (flagR l s).2 := by
  unfold flagR
  simp only
  split
  · exact numR_pl hl s
  · exact Pl.none_
end Go.Proofs.YtfpbhedophlnkaaGreatDoor
namespace Go.Proofs.YtfpbhedophlnkaaGreatDoor
open Go.RowKit
set_option linter.unusedSimpArgs false
set_option linter.unusedVariables false

theorem takeNs_300 {l : List Int} (hl : By l) (p : Int) : (takeNs l p).1.length ≤ 300 := by
  unfold takeNs
  have bd := takeN_bd hl p
  split
  · simp
  · rename_i h
    rcases hk : rdN l (takeN l p).2 (takeN l p).1.toNat with _ | ⟨acc, q⟩
    · simp
    · have := (rdN_bd hl (by omega) (by omega) _ _ _ hk).1
      simp; omega
theorem listR_300 {l : List Int} (hl : By l) (s : Option Int) : (listR l s).1.length ≤ 300 := by
  unfold listR; repeat' split
  · simp
  · simp
  · exact takeNs_300 hl _
theorem wordR_12 (l : List Int) (s : Option Int) : (wordR l s).1.size ≤ 12 := by
  unfold wordR; repeat' split
  · exact Nat.zero_le _
  · exact Nat.zero_le _
  · exact takeW_12 _ _
theorem fieldR_cols {l : List Int} (hl : By l) (k : Int) (s : Option Int) : (fieldR l k s).1.cols.length ≤ 300 := by
  unfold fieldR; repeat' split
  all_goals first | exact listR_300 hl _ | simp
theorem fieldR_name (l : List Int) (k : Int) (s : Option Int) : (fieldR l k s).1.name.size ≤ 12 := by
  unfold fieldR; repeat' split
  all_goals first | exact wordR_12 l _ | exact Nat.zero_le _
theorem wordR_pl {l : List Int} (hl : By l) (s : Option Int) : Pl l (wordR l s).2 := by
  unfold wordR
  split
  · exact Pl.none_
  · split
    · exact Pl.none_
    · rename_i p h
      intro q hq
      injection hq with hq
      have := takeW_pl hl p
      omega
theorem takeNs_pl {l : List Int} (hl : By l) (p : Int) : (takeNs l p).2 = -1 ∨ (0 ≤ (takeNs l p).2 ∧ (takeNs l p).2 ≤ l.length) := by
  unfold takeNs
  have bd := takeN_bd hl p
  split
  · left; rfl
  · rename_i h
    rcases hk : rdN l (takeN l p).2 (takeN l p).1.toNat with _ | ⟨acc, q⟩
    · left; rfl
    · right
      have := (rdN_bd hl (by omega) (by omega) _ _ _ hk).2
      simpa using this
theorem listR_pl {l : List Int} (hl : By l) (s : Option Int) : Pl l (listR l s).2 := by
  unfold listR
  split
  · exact Pl.none_
  · split
    · exact Pl.none_
    · rename_i p h
      intro q hq
      injection hq with hq
      have := takeNs_pl hl p
      omega
theorem fieldR_pl {l : List Int} (hl : By l) (k : Int) {s : Option Int} (hs : Pl l s) : Pl l (fieldR l k s).2 := by
  unfold fieldR
  repeat' split
  all_goals first | exact wordR_pl hl _ | exact numR_pl hl _ | exact listR_pl hl _ | exact hs
theorem nodeR_pl {l : List Int} (hl : By l) (s : Option Int) : Pl l (nodeR l s).2 := by
  unfold nodeR
  split
  · exact fieldR_pl hl _ (numR_pl hl s)
  · exact Pl.none_
end Go.Proofs.YtfpbhedophlnkaaGreatDoor
namespace Go.Proofs.YtfpbhedophlnkaaGreatDoor
open Go.RowKit
set_option linter.unusedSimpArgs false
set_option linter.unusedVariables false

/-- The first k nodes behind place p, and the place behind them; none where one is missing. -/
def nodsK (l : List Int) (p : Int) : Nat → Option (List Nd × Int)
  | 0 => some ([], p)
  | k + 1 => match nodsK l p k with
    | none => none
    | some (acc, q) => match (nodeR l (some q)).2 with
      | none => none
      | some q' => some (acc ++ [(nodeR l (some q)).1], q')
def countNd (l : List Int) (s : Option Int) (most : Int) : Option (List Nd × Int) :=
  match (numR l s).2 with
  | none => none
  | some p => if 0 ≤ (numR l s).1 ∧ (numR l s).1 ≤ most then nodsK l p (numR l s).1.toNat else none
theorem nodsK_yes {l : List Int} {p q q' : Int} {k : Nat} {acc : List Nd} {t : Nd} (h : nodsK l p k = some (acc, q)) (ht : nodeR l (some q) = (t, some q')) : nodsK l p (k + 1) = some (acc ++ [t], q') := by
  simp only [nodsK, h, ht]
theorem nodsK_no {l : List Int} {p q : Int} {k : Nat} {acc : List Nd} {t : Nd} (h : nodsK l p k = some (acc, q)) (ht : nodeR l (some q) = (t, none)) : nodsK l p (k + 1) = none := by
  simp only [nodsK, h, ht]
theorem nodsK_stays {l : List Int} {p : Int} {k : Nat} (h : nodsK l p k = none) : ∀ m, k ≤ m → nodsK l p m = none := by
  intro m hm
  induction m with
  | zero => obtain rfl : k = 0 := by omega
            exact h
  | succ m ih =>
    rcases Nat.lt_or_ge k (m + 1) with h1 | h1
    · simp only [nodsK, ih (by omega)]
    · obtain rfl : k = m + 1 := by omega
      exact h
theorem nodsK_len {l : List Int} {p : Int} : ∀ {k : Nat} {acc : List Nd} {q : Int}, nodsK l p k = some (acc, q) → acc.length = k := by
  intro k
  induction k with
  | zero => intro acc q h; simp only [nodsK, Option.some.injEq, Prod.mk.injEq] at h; rw [← h.1]; rfl
  | succ k ih =>
    intro acc q h
    simp only [nodsK] at h
    cases hk : nodsK l p k with
    | none => rw [hk] at h; cases h
    | some x =>
      obtain ⟨a, r⟩ := x
      rw [hk] at h
      simp only at h
      cases ht : (nodeR l (some r)).2 with
      | none => rw [ht] at h; cases h
      | some r' =>
        rw [ht] at h
        simp only [Option.some.injEq, Prod.mk.injEq] at h
        rw [← h.1, List.length_append, ih hk]; rfl
theorem countNd_40 {l : List Int} {s : Option Int} {acc : List Nd} {q : Int} (h : countNd l s 40 = some (acc, q)) : acc.length ≤ 40 := by
  unfold countNd at h
  split at h
  · cases h
  · split at h
    · rename_i hc
      have := nodsK_len h
      omega
    · cases h
/-- A plan out of bytes, and how the reading ended. -/
def decP (l : List Int) : List Nd × Int :=
  match unfL l with
  | none => ([], 1)
  | some m => match countNd m (some 0) 40 with
    | none => ([], 2)
    | some (acc, q) => if q ≠ m.length then ([], 4) else if planB acc = true then (acc, 0) else ([], 3)
theorem nodeR_cols {l : List Int} (hl : By l) (s : Option Int) : (nodeR l s).1.cols.length ≤ 300 := fieldR_cols hl _ _
theorem nodsK_cols {l : List Int} (hl : By l) {p : Int} : ∀ {k : Nat} {acc : List Nd} {q : Int}, nodsK l p k = some (acc, q) → ∀ n ∈ acc, n.cols.length ≤ 300 := by
  intro k
  induction k with
  | zero => intro acc q h; simp only [nodsK, Option.some.injEq, Prod.mk.injEq] at h; rw [← h.1]; simp
  | succ k ih =>
    intro acc q h
    simp only [nodsK] at h
    cases hk : nodsK l p k with
    | none => rw [hk] at h; cases h
    | some x =>
      obtain ⟨a, r⟩ := x
      rw [hk] at h
      simp only at h
      cases ht : (nodeR l (some r)).2 with
      | none => rw [ht] at h; cases h
      | some r' =>
        rw [ht] at h
        simp only [Option.some.injEq, Prod.mk.injEq] at h
        rw [← h.1]
        intro n hn
        rcases List.mem_append.1 hn with h1 | h1
        · exact ih hk n h1
        · simp at h1; subst h1; exact nodeR_cols hl _
theorem countNd_cols {l : List Int} (hl : By l) {s : Option Int} {acc : List Nd} {q : Int} (h : countNd l s 40 = some (acc, q)) : ∀ n ∈ acc, n.cols.length ≤ 300 := by
  unfold countNd at h
  split at h
  · cases h
  · split at h
    · exact nodsK_cols hl h
    · cases h
end Go.Proofs.YtfpbhedophlnkaaGreatDoor
namespace Go.Proofs.YtfpbhedophlnkaaGreatDoor
open Go.RowKit
set_option linter.unusedSimpArgs false
set_option linter.unusedVariables false

def flagI (b : Bool) : Int := if b then 1 else 0
theorem flagI_bd (b : Bool) : 0 ≤ flagI b ∧ flagI b ≤ 1 := by cases b <;> simp [flagI]
/-- What stands behind a node's kind. -/
def fieldL (n : Nd) : List Int :=
  if n.kind = 0 then putW n.name
  else if n.kind = 1 then [n.col, n.op, flagI n.slot, n.num].flatMap putN
  else if n.kind = 2 then putNs n.cols
  else if n.kind = 3 then [n.col, n.num].flatMap putN
  else if n.kind = 5 then [n.col].flatMap putN
  else if n.kind = 6 then [flagI n.slot, n.num].flatMap putN
  else []
def putNd (n : Nd) : List Int := if nodeB n then putN n.kind ++ fieldL n else []

theorem fieldL_by (n : Nd) : By (fieldL n) := by
  unfold fieldL
  split
  · exact putW_by _
  split
  · exact flat_by _
  split
  · exact putNs_by _
  split
  · exact flat_by _
  split
  · exact flat_by _
  split
  · exact flat_by _
  exact By.nil
theorem putNd_by (n : Nd) : By (putNd n) := by
  unfold putNd; split
  · exact (putN_by _).app (fieldL_by _)
  · exact By.nil
theorem cols_of_nodeC {n : Nd} (h : nodeB n = true) : n.cols.length ≤ 6 := by
  obtain ⟨k, name, col, op, num, slot, cols⟩ := n
  have hk := kind_of_nodeB h
  have hc : k = 0 ∨ k = 1 ∨ k = 2 ∨ k = 3 ∨ k = 4 ∨ k = 5 ∨ k = 6 ∨ k = 7 := by simp only at hk; omega
  rcases hc with rfl | rfl | rfl | rfl | rfl | rfl | rfl | rfl
  all_goals simp [nodeB] at h
  all_goals first | (simp_all; done) | (simp only; omega)
theorem putNs_len' {l : List Int} (h : l.length ≤ 6) : (putNs l).length ≤ 21 := by
  unfold putNs; split
  · have h1 := putN_len l.length
    have h2 := flat_len (l.take l.length)
    have h3 : (l.take l.length).length ≤ l.length := by simp
    simp only [preN, List.length_append]; omega
  · simp
theorem fieldL_len {n : Nd} (h : n.cols.length ≤ 6) : (fieldL n).length ≤ 21 := by
  unfold fieldL
  split
  · have := putW_len n.name; omega
  split
  · have := flat_len [n.col, n.op, flagI n.slot, n.num]; simp only [List.length_cons, List.length_nil] at this; omega
  split
  · exact putNs_len' h
  split
  · have := flat_len [n.col, n.num]; simp only [List.length_cons, List.length_nil] at this; omega
  split
  · have := flat_len [n.col]; simp only [List.length_cons, List.length_nil] at this; omega
  split
  · have := flat_len [flagI n.slot, n.num]; simp only [List.length_cons, List.length_nil] at this; omega
  simp
theorem putNd_len (n : Nd) : (putNd n).length ≤ 24 := by
  unfold putNd; split
  · rename_i h
    have h1 := putN_len n.kind
    have h2 := fieldL_len (cols_of_nodeC h)
    simp only [List.length_append]; omega
  · simp
theorem putNd_no {n : Nd} (h : nodeB n = false) : putNd n = [] := by unfold putNd; rw [h]; rfl
theorem putNd_yes {n : Nd} (h : nodeB n = true) : putNd n = putN n.kind ++ fieldL n := by unfold putNd; rw [h]; rfl

/-- A plan's nodes, one behind the other, behind their number. -/
def preP (p : List Nd) (j : Nat) : List Int := putN p.length ++ (p.take j).flatMap putNd
theorem preP_zero (p : List Nd) : preP p 0 = putN p.length := by simp [preP]
theorem preP_succ {p : List Nd} {j : Nat} {n : Nd} (h : p[j]? = some n) : preP p (j + 1) = preP p j ++ putNd n := by
  simp [preP, List.take_add_one, h, List.flatMap_append]
theorem flatP_len : ∀ p : List Nd, (p.flatMap putNd).length ≤ 24 * p.length
  | [] => by simp
  | n :: p => by
    have := flatP_len p
    have := putNd_len n
    simp only [List.flatMap_cons, List.length_append, List.length_cons]; omega
theorem flatP_by : ∀ p : List Nd, By (p.flatMap putNd)
  | [] => by simp [By.nil]
  | n :: p => by rw [List.flatMap_cons]; exact (putNd_by n).app (flatP_by p)
theorem preP_by (p : List Nd) (j : Nat) : By (preP p j) := (putN_by _).app (flatP_by _)
theorem preP_len {p : List Nd} (j : Nat) (h : p.length ≤ 40) : (preP p j).length ≤ 963 := by
  have h1 := putN_len p.length
  have h2 := flatP_len (p.take j)
  have h3 : (p.take j).length ≤ p.length := by simp; omega
  simp only [preP, List.length_append]; omega
end Go.Proofs.YtfpbhedophlnkaaGreatDoor
namespace Go.Proofs.YtfpbhedophlnkaaGreatDoor
open Go.RowKit
set_option linter.unusedSimpArgs false
set_option linter.unusedVariables false

def encP (p : List Nd) : List Int := if planB p then frameL (preP p p.length) else []
def sumP (p : List Nd) : Int := if planB p then chk (encP p) else -1
theorem encP_yes {p : List Nd} (h : planB p = true) : encP p = frameL (preP p p.length) := by unfold encP; rw [if_pos h]
theorem encP_no {p : List Nd} (h : planB p = false) : encP p = [] := by unfold encP; rw [if_neg (by simp [h])]
theorem encP_by (p : List Nd) : By (encP p) := by
  unfold encP; split
  · exact frameL_by (preP_by _ _)
  · exact By.nil
theorem encP_len (p : List Nd) : (encP p).length ≤ 4008 := by
  unfold encP; split
  · exact frameL_len _
  · simp
theorem sumP_yes {p : List Nd} (h : planB p = true) : sumP p = chk (encP p) := by unfold sumP; rw [if_pos h]
theorem sumP_no {p : List Nd} (h : planB p = false) : sumP p = -1 := by unfold sumP; rw [if_neg (by simp [h])]
theorem planB_l40 {p : List Nd} (h : planB p = true) : p.length ≤ 40 := by
  cases ht : treeN p with
  | none => simp [planB, ht] at h
  | some T => exact (treeN_some ht).1
end Go.Proofs.YtfpbhedophlnkaaGreatDoor
namespace Go.Proofs.YtfpbhedophlnkaaGreatDoor
open Go.RowKit
set_option linter.unusedSimpArgs false
set_option linter.unusedVariables false

theorem unfL_4000 {l m : List Int} (h : unfL l = some m) : m.length ≤ 4000 := by
  unfold unfL unfT at h
  split at h
  · split at h
    · cases h
    · split at h
      · injection h with h; rw [← h]; simp; omega
      · cases h
  · cases h
theorem unfL_by {l m : List Int} (hl : By l) (h : unfL l = some m) : By m := by
  unfold unfL unfT at h
  split at h
  · split at h
    · cases h
    · split at h
      · injection h with h; rw [← h]; exact hl.take_drop _ _
      · cases h
  · cases h
end Go.Proofs.YtfpbhedophlnkaaGreatDoor
