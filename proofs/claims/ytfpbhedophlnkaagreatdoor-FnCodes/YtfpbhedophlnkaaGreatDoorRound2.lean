/-
  What is put is taken again: lists, words, frames. Plain facts. No walk.
-/
import Derived.Test.YtfpbhedophlnkaaGreatDoorJ4x
import Derived.Test.YtfpbhedophlnkaaGreatDoorJ6x
import Derived.Test.YtfpbhedophlnkaaGreatDoorJ7x
import Derived.Test.YtfpbhedophlnkaaGreatDoorJ10x
import Derived.Test.YtfpbhedophlnkaaGreatDoorJ11x
namespace Go.Proofs.YtfpbhedophlnkaaGreatDoor
open Go.RowKit
set_option linter.unusedSimpArgs false
set_option linter.unusedVariables false

theorem enc_ne (u : Nat) : enc u ≠ [] := by
  intro e
  by_cases h2 : u < 128
  · rw [enc_lt h2] at e; cases e
  · rw [enc_ge (by omega)] at e; cases e
theorem putN_ne {x : Int} (h : isN x = true) : putN x ≠ [] := by rw [putN_yes h]; exact enc_ne _
theorem drop_pre {α : Type} {l p r : List α} (h : l = p ++ r) : l.drop p.length = r := by rw [h]; simp

theorem rdN_put {l pre rest L : List Int} (hl : l = pre ++ (L.flatMap putN ++ rest)) (ha : ∀ z ∈ L, isN z = true) :
    ∀ k, k ≤ L.length → rdN l (pre.length : Int) k = some (L.take k, ((pre.length + ((L.take k).flatMap putN).length : Nat) : Int)) := by
  intro k
  induction k with
  | zero => intro _; rw [rdN]; simp
  | succ k ih =>
    intro hk
    have ih := ih (by omega)
    have hlt : k < L.length := by omega
    have ht : L.take (k + 1) = L.take k ++ [L[k]] := by simp
    have hL : L.flatMap putN = (L.take k).flatMap putN ++ (putN L[k] ++ (L.drop (k + 1)).flatMap putN) := by
      have hs : L = (L.take k ++ [L[k]]) ++ L.drop (k + 1) := by rw [← ht, List.take_append_drop]
      have hs := congrArg (List.flatMap putN) hs
      rw [List.flatMap_append, List.flatMap_append, List.append_assoc, List.flatMap_cons, List.flatMap_nil, List.append_nil] at hs
      exact hs
    have hd : l.drop (pre.length + ((L.take k).flatMap putN).length) = putN L[k] ++ ((L.drop (k + 1)).flatMap putN ++ rest) := by
      rw [← List.length_append]
      refine drop_pre ?_
      rw [hl, hL]; simp
    have T := takeN_put (ha _ (List.getElem_mem hlt)) hd
    rw [rdN_yes ih T.symm (by omega), ht, List.flatMap_append, List.flatMap_cons, List.flatMap_nil, List.append_nil, List.length_append, Nat.add_assoc]
theorem okNs_of {L : List Int} (h : okNs L = true) : L.length ≤ 300 ∧ ∀ z ∈ L, isN z = true := by
  unfold okNs at h; simpa using h
theorem putNs_ok {L : List Int} (h : okNs L = true) : putNs L = putN L.length ++ L.flatMap putN := by
  unfold putNs; rw [if_pos h]; simp [preN]
theorem putNs_pos {L : List Int} (h : 0 < (putNs L).length) : okNs L = true := by
  unfold putNs at h; split at h
  · assumption
  · simp at h
theorem takeNs_put {L : List Int} (h : okNs L = true) : takeNs (putNs L) 0 = (L, ((putNs L).length : Int)) := by
  have ⟨h1, h2⟩ := okNs_of h
  have hn : isN (L.length : Int) = true := isN_mk (by omega)
  have e := putNs_ok h
  have T := takeN_put (l := putNs L) (p := 0) hn (by rw [e]; rfl)
  have R := rdN_put (l := putNs L) (pre := putN L.length) (rest := []) (by rw [e]; simp) h2 L.length (Nat.le_refl _)
  rw [List.take_length] at R
  unfold takeNs
  rw [show (0 : Int) = ((0 : Nat) : Int) from rfl, T]
  simp only [Nat.zero_add, Int.toNat_natCast]
  rw [if_neg (by omega), R, e]
  simp
theorem takeNs_cut {L : List Int} (h : okNs L = true) : takeNs (putNs L).dropLast 0 = ([], -1) := by
  have ⟨h1, h2⟩ := okNs_of h
  have hn : isN (L.length : Int) = true := isN_mk (by omega)
  have e := putNs_ok h
  rcases List.eq_nil_or_concat L with rfl | ⟨M, z, rfl⟩
  · have T := takeN_cut (l := (putNs []).dropLast) (p := 0) (x := 0) (by rw [e]; simp)
    unfold takeNs
    rw [show (0 : Int) = ((0 : Nat) : Int) from rfl, T]
    rfl
  · rw [List.concat_eq_append] at *
    have hz : isN z = true := h2 z (by simp)
    have e2 : (putNs (M ++ [z])).dropLast = putN (M ++ [z]).length ++ (M.flatMap putN ++ (putN z).dropLast) := by
      rw [e, List.flatMap_append]
      rw [show [z].flatMap putN = putN z by simp]
      rw [← List.append_assoc, List.dropLast_append_of_ne_nil (putN_ne hz), List.append_assoc]
    have T := takeN_put (l := (putNs (M ++ [z])).dropLast) (p := 0) hn (by rw [e2]; rfl)
    have R := rdN_put (l := (putNs (M ++ [z])).dropLast) (pre := putN (M ++ [z]).length) (rest := (putN z).dropLast) (L := M) e2 (fun y hy => h2 y (by simp [hy])) M.length (Nat.le_refl _)
    rw [List.take_length] at R
    have C := takeN_cut (l := (putNs (M ++ [z])).dropLast) (p := (putN (M ++ [z]).length).length + (M.flatMap putN).length) (x := z) (by
      rw [← List.length_append]; refine drop_pre ?_; rw [e2]; simp)
    have N := rdN_no R C.symm rfl
    unfold takeNs
    rw [show (0 : Int) = ((0 : Nat) : Int) from rfl, T]
    simp only [Nat.zero_add, Int.toNat_natCast]
    rw [if_neg (by omega), show (M ++ [z]).length = M.length + 1 by simp]
    rw [show (M ++ [z]).length = M.length + 1 by simp] at N
    rw [N]; rfl

theorem str_back (s : ByteArray) : strOfNums (strL s) = s := by
  cases s with
  | mk d =>
    unfold strOfNums strL
    simp only [List.map_map]
    congr 1
    rw [show ((fun z : Int => UInt8.ofNat z.toNat) ∘ fun b : UInt8 => (b.toNat : Int)) = id by funext b; simp]
    simp
theorem putW_ok {s : ByteArray} (h : wordB s.data.toList = true) : putW s = putN s.size ++ strL s := by unfold putW; rw [if_pos h]
theorem putW_pos (s : ByteArray) : decide (0 < (putW s).length) = wordB s.data.toList := by
  cases h : wordB s.data.toList with
  | false => unfold putW; rw [h]; rfl
  | true =>
    have := wordB_size h
    rw [putW_ok h]
    simp [strL_len]
    omega
theorem takeW_put {s : ByteArray} (h : wordB s.data.toList = true) : takeW (putW s) 0 = (s, ((putW s).length : Int)) := by
  have hs := wordB_size h
  have hn : isN (s.size : Int) = true := isN_mk (by omega)
  have e := putW_ok h
  have T := takeN_put (l := putW s) (p := 0) hn (by rw [e]; rfl)
  have hd : (putW s).drop (putN s.size).length = strL s := drop_pre e
  have ht : (strL s).take s.size = strL s := by rw [← strL_len, List.take_length]
  unfold takeW
  rw [show (0 : Int) = ((0 : Nat) : Int) from rfl, T]
  simp only [Nat.zero_add, Int.toNat_natCast]
  have hlen : (putW s).length = (putN s.size).length + s.size := by rw [e, List.length_append, strL_len]
  rw [if_neg (by omega), hd, ht, str_back, if_pos h, hlen]
  simp

theorem unfL_frame {b : List Int} (h : b.length ≤ 4000) : unfL (frameL b) = some b := by
  have hn : isN (b.length : Int) = true := isN_mk (by omega)
  have hc := chk_bd b
  have hk : isN (chk b) = true := isN_mk (by omega)
  have e := frameL_yes h
  have T := takeN_put (l := frameL b) (p := 2) (rest := b ++ putN (chk b)) hn (by rw [e]; simp)
  have hlen : (frameL b).length = 2 + (putN b.length).length + b.length + (putN (chk b)).length := by rw [e]; simp; omega
  have d1 : (frameL b).drop (2 + (putN b.length).length) = b ++ putN (chk b) := by
    rw [show 2 + (putN b.length).length = ([80, 83] ++ putN b.length).length by simp; omega]
    exact drop_pre (by rw [e]; simp)
  have d2 : (frameL b).drop (2 + (putN b.length).length + b.length) = putN (chk b) := by
    rw [← List.drop_drop, d1]; simp
  have T2 := takeN_put (l := frameL b) (p := 2 + (putN b.length).length + b.length) (rest := []) hk (by rw [d2]; simp)
  unfold unfL
  rw [if_pos (by rw [e]; exact ⟨rfl, rfl⟩)]
  unfold unfT
  rw [show (2 : Int) = ((2 : Nat) : Int) from rfl, T]
  simp only [Int.toNat_natCast]
  rw [if_neg (by omega), ← Int.natCast_add, T2, d1]
  simp only [List.take_left]
  rw [if_pos ⟨by omega, trivial⟩]
theorem unfL_was {x b : List Int} (hx : By x) (h : unfL x = some b) : x = frameL b := by
  unfold unfL at h
  split at h
  rotate_left
  · cases h
  rename_i hh
  unfold unfT at h
  rcases ht : takeN x 2 with ⟨n, p⟩
  rw [ht] at h
  simp only at h
  split at h
  · cases h
  rename_i h1
  rcases hc : takeN x (p + n) with ⟨c, q⟩
  rw [hc] at h
  simp only at h
  split at h
  rotate_left
  · cases h
  rename_i h2
  obtain ⟨P, rfl, e1, _, e3⟩ := takeN_was hx (p := 2) ht (by omega)
  have hPn : ((P : Int) + n) = ((P + n.toNat : Nat) : Int) := by omega
  rw [hPn] at hc
  obtain ⟨Q, rfl, f1, _, _⟩ := takeN_was hx hc (by omega)
  simp only [Int.toNat_natCast, Option.some.injEq] at h h2
  have hQ : Q = x.length := by omega
  have hb : b.length = n.toNat := by rw [← h]; simp; omega
  rw [frameL_yes (by omega)]
  have hbn : ((b.length : Nat) : Int) = n := by omega
  rw [hbn, ← h] at *
  have x2 : x = [80, 83] ++ x.drop 2 := by
    obtain ⟨g0, g1⟩ := hh
    match x, g0, g1 with
    | a :: a' :: t, g0, g1 => simp at g0 g1; simp [g0, g1]
  have x3 : x.drop P = (x.drop P).take n.toNat ++ putN c := by
    conv => lhs; rw [← List.take_append_drop n.toNat (x.drop P)]
    rw [List.drop_drop, f1, hQ]; simp
  rw [← h2.2]
  conv => lhs; rw [x2, e1, x3]
  simp
theorem unfL_bent {f b : List Int} {k : Nat} {v : Int} (hf : By f) (hk : k < f.length) (hv : 0 ≤ v ∧ v ≤ 255) (hne : v ≠ f.getD k 0) (hfr : f = frameL b) : unfL (f.set k v) ≠ some b := by
  intro e
  have hby : By (f.set k v) := by
    intro z hz
    rcases List.mem_or_eq_of_mem_set hz with h | rfl
    · exact hf z h
    · omega
  have := unfL_was hby e
  rw [← hfr] at this
  have h2 : (f.set k v)[k]? = f[k]? := by rw [this]
  rw [List.getElem?_set_self hk] at h2
  rw [List.getD_eq_getElem?_getD, ← h2] at hne
  exact hne rfl
end Go.Proofs.YtfpbhedophlnkaaGreatDoor
