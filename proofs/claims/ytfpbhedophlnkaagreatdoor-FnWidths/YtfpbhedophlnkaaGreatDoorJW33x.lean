/-
  A node, a plan that is written is read as it was, and what is read was written so, one way alone. Plain facts; no program, no walk. A schema's bytes, as plain lists. No program, no walk. How many tables, and each of them, read out of bytes: plain lists. No program, no walk. A schema read out of bytes, as plain lists; the call that answers tables beside a bool. No program, no walk. A schema that is written is read as it was. Plain facts; no program, no walk.
-/
import Derived.Test.YtfpbhedophlnkaaGreatDoorJW32x
import Derived.Test.YtfpbhedophlnkaaGreatDoorJW28x
import Derived.Test.YtfpbhedophlnkaaGreatDoorJW27x
import Derived.Test.YtfpbhedophlnkaaGreatDoorJW5x
namespace Go.Proofs.YtfpbhedophlnkaaGreatDoor
open Go.RowKit
set_option linter.unusedSimpArgs false
set_option linter.unusedVariables false

theorem drop_next {l a rest : List Int} {p : Nat} (h : l.drop p = a ++ rest) : l.drop (p + a.length) = rest := by
  rw [← List.drop_drop, h]; simp
theorem drop_le {l a rest : List Int} {p : Nat} (h : l.drop p = a ++ rest) (ha : a ≠ []) : p + a.length ≤ l.length := by
  have := congrArg List.length h
  rw [List.length_drop, List.length_append] at this
  have := List.length_pos_iff.2 ha
  omega
theorem numR_put {l rest : List Int} {p : Nat} {x : Int} (hx : isN x = true) (hd : l.drop p = putN x ++ rest) : numR l (some (p : Int)) = (x, some ((p + (putN x).length : Nat) : Int)) := by
  simp only [numR, takeN_put hx hd]
  rw [if_neg (by omega)]
theorem takeW_at {l rest : List Int} {p : Nat} {s : ByteArray} (h : wordB s.data.toList = true) (hd : l.drop p = putW s ++ rest) : takeW l (p : Int) = (s, ((p + (putW s).length : Nat) : Int)) := by
  have hs := wordB_size h
  have hn : isN (s.size : Int) = true := isN_mk (by omega)
  have e := putW_ok h
  rw [e, List.append_assoc] at hd
  have T := takeN_put hn hd
  have h2 := drop_next hd
  have hle := drop_le hd (putN_ne hn)
  have hl2 := congrArg List.length h2
  rw [List.length_drop, List.length_append, strL_len] at hl2
  have ht : (strL s ++ rest).take s.size = strL s := by rw [← strL_len, List.take_left]
  unfold takeW
  rw [T]
  simp only [Int.toNat_natCast]
  rw [if_neg (by omega), h2, ht, str_back, if_pos h, e, List.length_append, strL_len]
  simp; omega
theorem wordR_put {l rest : List Int} {p : Nat} {s : ByteArray} (h : wordB s.data.toList = true) (hd : l.drop p = putW s ++ rest) : wordR l (some (p : Int)) = (s, some ((p + (putW s).length : Nat) : Int)) := by
  simp only [wordR, takeW_at h hd]
  rw [if_neg (by omega)]
theorem takeNs_at {l rest L : List Int} {p : Nat} (h : okNs L = true) (hd : l.drop p = putNs L ++ rest) : takeNs l (p : Int) = (L, ((p + (putNs L).length : Nat) : Int)) := by
  have ⟨h1, h2⟩ := okNs_of h
  have hn : isN (L.length : Int) = true := isN_mk (by omega)
  have e := putNs_ok h
  rw [e, List.append_assoc] at hd
  have T := takeN_put hn hd
  have h3 := drop_next hd
  have hle := drop_le hd (putN_ne hn)
  have hp : (l.take (p + (putN L.length).length)).length = p + (putN L.length).length := by rw [List.length_take]; omega
  have R := rdN_put (l := l) (pre := l.take (p + (putN L.length).length)) (rest := rest) (L := L) (by rw [← h3, List.take_append_drop]) h2 L.length (Nat.le_refl _)
  rw [List.take_length, hp] at R
  unfold takeNs
  rw [T]
  simp only [Int.toNat_natCast]
  rw [if_neg (by omega), R, e, List.length_append]
  simp; omega
theorem listR_put {l rest L : List Int} {p : Nat} (h : okNs L = true) (hd : l.drop p = putNs L ++ rest) : listR l (some (p : Int)) = (L, some ((p + (putNs L).length : Nat) : Int)) := by
  simp only [listR, takeNs_at h hd]
  rw [if_neg (by omega)]
theorem isN_flag (b : Bool) : isN (flagI b) = true := isN_mk (by have := flagI_bd b; omega)
theorem flagR_put {l rest : List Int} {p : Nat} {b : Bool} (hd : l.drop p = putN (flagI b) ++ rest) : flagR l (some (p : Int)) = (b, some ((p + (putN (flagI b)).length : Nat) : Int)) := by
  simp only [flagR, numR_put (isN_flag b) hd]
  cases b <;> simp [flagI]
/-- What a node that is one is, kind by kind. -/
theorem node_shape {n : Nd} (h : nodeB n = true) :
    (∃ name, wordB name.data.toList = true ∧ n = ⟨0, name, 0, 0, 0, false, []⟩) ∨
    (∃ col op num slot, (0 ≤ col ∧ col ≤ 63) ∧ (0 ≤ op ∧ op ≤ 3) ∧ (-1000000 ≤ num ∧ num ≤ 1000000) ∧ n = ⟨1, ⟨#[]⟩, col, op, num, slot, []⟩) ∨
    (∃ cols : List Int, 1 ≤ cols.length ∧ cols.length ≤ 6 ∧ (∀ x ∈ cols, 0 ≤ x ∧ x ≤ 63) ∧ n = ⟨2, ⟨#[]⟩, 0, 0, 0, false, cols⟩) ∨
    (∃ col num, (0 ≤ col ∧ col ≤ 63) ∧ (0 ≤ num ∧ num ≤ 63) ∧ n = ⟨3, ⟨#[]⟩, col, 0, num, false, []⟩) ∨
    n = ⟨4, ⟨#[]⟩, 0, 0, 0, false, []⟩ ∨
    (∃ col, (0 ≤ col ∧ col ≤ 63) ∧ n = ⟨5, ⟨#[]⟩, col, 0, 0, false, []⟩) ∨
    (∃ num slot, (0 ≤ num ∧ num ≤ 1000000) ∧ n = ⟨6, ⟨#[]⟩, 0, 0, num, slot, []⟩) ∨
    n = ⟨7, ⟨#[]⟩, 0, 0, 0, false, []⟩ := by
  have hk := kind_of_nodeB h
  obtain ⟨k, name, col, op, num, slot, cols⟩ := n
  simp only at hk
  have hnm : ∀ s : ByteArray, s.data.toList = [] → s = ⟨#[]⟩ := fun s hs => by
    obtain ⟨⟨l⟩⟩ := s
    simp only at hs; subst hs; rfl
  have hc : k = 0 ∨ k = 1 ∨ k = 2 ∨ k = 3 ∨ k = 4 ∨ k = 5 ∨ k = 6 ∨ k = 7 := by omega
  rcases hc with rfl | rfl | rfl | rfl | rfl | rfl | rfl | rfl
  all_goals simp only [nodeB, Int.reduceEq, if_false, if_true] at h
  · simp only [Bool.and_eq_true, decide_eq_true_eq] at h
    obtain ⟨hw, rfl, rfl, rfl, rfl, rfl⟩ := h
    exact .inl ⟨name, hw, rfl⟩
  · obtain ⟨hn, h1, h2, h3, h4, h5, rfl⟩ := of_decide_eq_true h
    obtain rfl := hnm _ hn
    exact .inr (.inl ⟨col, op, num, slot, h1, h2, h3, rfl⟩)
  · simp only [Bool.and_eq_true, decide_eq_true_eq, List.all_eq_true, colB_iff] at h
    obtain ⟨⟨hn, rfl, rfl, rfl, rfl, h1, h2⟩, h3⟩ := h
    obtain rfl := hnm _ hn
    exact .inr (.inr (.inl ⟨cols, h1, h2, h3, rfl⟩))
  · obtain ⟨hn, h1, rfl, h3, rfl, rfl⟩ := of_decide_eq_true h
    obtain rfl := hnm _ hn
    exact .inr (.inr (.inr (.inl ⟨col, num, h1, h3, rfl⟩)))
  · obtain ⟨hn, rfl, rfl, rfl, rfl, rfl⟩ := of_decide_eq_true h
    obtain rfl := hnm _ hn
    exact .inr (.inr (.inr (.inr (.inl rfl))))
  · obtain ⟨hn, h1, rfl, rfl, rfl, rfl⟩ := of_decide_eq_true h
    obtain rfl := hnm _ hn
    exact .inr (.inr (.inr (.inr (.inr (.inl ⟨col, h1, rfl⟩)))))
  · obtain ⟨hn, rfl, rfl, h1, _, rfl⟩ := of_decide_eq_true h
    obtain rfl := hnm _ hn
    exact .inr (.inr (.inr (.inr (.inr (.inr (.inl ⟨num, slot, h1, rfl⟩))))))
  · obtain ⟨hn, rfl, rfl, rfl, rfl, rfl⟩ := of_decide_eq_true h
    obtain rfl := hnm _ hn
    exact .inr (.inr (.inr (.inr (.inr (.inr (.inr rfl))))))
theorem okNs_cols {L : List Int} (h6 : L.length ≤ 6) (hb : ∀ x ∈ L, 0 ≤ x ∧ x ≤ 63) : okNs L = true := by
  unfold okNs
  rw [Bool.and_eq_true, decide_eq_true_eq, List.all_eq_true]
  exact ⟨by omega, fun x hx => isN_mk (by have := hb x hx; omega)⟩
theorem flat1 (a : Int) : [a].flatMap putN = putN a := by simp
theorem flat2 (a b : Int) : [a, b].flatMap putN = putN a ++ putN b := by simp
theorem flat4 (a b c d : Int) : [a, b, c, d].flatMap putN = putN a ++ (putN b ++ (putN c ++ putN d)) := by simp
/-- What stands behind a node's kind is read as it was written. -/
theorem fieldR_put {n : Nd} (h : nodeB n = true) {l rest : List Int} {p : Nat} (hd : l.drop p = fieldL n ++ rest) : fieldR l n.kind (some (p : Int)) = (n, some ((p + (fieldL n).length : Nat) : Int)) := by
  rcases node_shape h with ⟨name, hw, rfl⟩ | ⟨col, op, num, slot, h1, h2, h3, rfl⟩ | ⟨cols, h1, h2, h3, rfl⟩ | ⟨col, num, h1, h3, rfl⟩ | rfl | ⟨col, h1, rfl⟩ | ⟨num, slot, h1, rfl⟩ | rfl
  · have W := wordR_put hw hd
    simp only [fieldR, if_true, W]; rfl
  · simp only [fieldL, Int.reduceEq, if_false, if_true] at hd ⊢
    rw [flat4, List.append_assoc, List.append_assoc, List.append_assoc] at hd
    have N1 := numR_put (isN_mk (by omega)) hd
    have d2 := drop_next hd
    have N2 := numR_put (isN_mk (by omega)) d2
    have d3 := drop_next d2
    have N3 := flagR_put d3
    have d4 := drop_next d3
    have N4 := numR_put (isN_mk (by omega)) d4
    simp only [fieldR, Int.reduceEq, if_false, if_true, N1, N2, N3, N4]
    simp only [flat4, List.length_append, Nat.add_assoc]
  · simp only [fieldL, Int.reduceEq, if_false, if_true] at hd ⊢
    have W := listR_put (okNs_cols h2 h3) hd
    simp only [fieldR, Int.reduceEq, if_false, if_true, W]
  · simp only [fieldL, Int.reduceEq, if_false, if_true] at hd ⊢
    rw [flat2, List.append_assoc] at hd
    have N1 := numR_put (isN_mk (by omega)) hd
    have d2 := drop_next hd
    have N2 := numR_put (isN_mk (by omega)) d2
    simp only [fieldR, Int.reduceEq, if_false, if_true, N1, N2]
    simp only [flat2, List.length_append, Nat.add_assoc]
  · simp [fieldR, fieldL]
  · simp only [fieldL, Int.reduceEq, if_false, if_true] at hd ⊢
    rw [flat1] at hd
    have N1 := numR_put (isN_mk (by omega)) hd
    simp only [fieldR, Int.reduceEq, if_false, if_true, N1, flat1]
  · simp only [fieldL, Int.reduceEq, if_false, if_true] at hd ⊢
    rw [flat2, List.append_assoc] at hd
    have N1 := flagR_put hd
    have d2 := drop_next hd
    have N2 := numR_put (isN_mk (by omega)) d2
    simp only [fieldR, Int.reduceEq, if_false, if_true, N1, N2]
    simp only [flat2, List.length_append, Nat.add_assoc]
  · simp [fieldR, fieldL]
theorem isN_kind {n : Nd} (h : nodeB n = true) : isN n.kind = true := isN_mk (by have := kind_of_nodeB h; omega)
theorem nodeR_put {n : Nd} (h : nodeB n = true) {l rest : List Int} {p : Nat} (hd : l.drop p = putNd n ++ rest) : nodeR l (some (p : Int)) = (n, some ((p + (putNd n).length : Nat) : Int)) := by
  rw [putNd_yes h, List.append_assoc] at hd
  have N := numR_put (isN_kind h) hd
  have F := fieldR_put h (drop_next hd)
  unfold nodeR
  simp only [N, F, h, if_true]
  rw [putNd_yes h, List.length_append, Nat.add_assoc]
theorem nodsK_put {l rest : List Int} {q : Nat} {ns : List Nd} (ha : ∀ n ∈ ns, nodeB n = true) (hd : l.drop q = ns.flatMap putNd ++ rest) :
    ∀ k, k ≤ ns.length → nodsK l (q : Int) k = some (ns.take k, ((q + ((ns.take k).flatMap putNd).length : Nat) : Int))
  | 0, _ => by simp [nodsK]
  | k + 1, hk => by
    have ih := nodsK_put ha hd k (by omega)
    have hn : ns[k]? = some ns[k] := List.getElem?_eq_getElem (by omega)
    have hb := ha ns[k] (List.getElem_mem _)
    have ht : ns.take (k + 1) = ns.take k ++ [ns[k]] := by rw [List.take_add_one, hn]; rfl
    have e : ns.flatMap putNd = (ns.take k).flatMap putNd ++ (putNd ns[k] ++ (ns.drop (k + 1)).flatMap putNd) := by
      conv => lhs; rw [← List.take_append_drop k ns, List.drop_eq_getElem_cons (show k < ns.length by omega)]
      rw [List.flatMap_append, List.flatMap_cons]
    rw [e, List.append_assoc, List.append_assoc] at hd
    have R := nodeR_put hb (drop_next hd)
    rw [nodsK_yes ih R, ht, List.flatMap_append, List.length_append, Nat.add_assoc]
    simp
/-- A plan that is written is read as it was. -/
theorem dec_enc {p : List Nd} (h : planB p = true) : decP (encP p) = (p, 0) := by
  have h40 := planB_l40 h
  have hall : ∀ n ∈ p, nodeB n = true := by
    cases ht : treeN p with
    | none => simp [planB, ht] at h
    | some T => exact treeN_all ht
  have hpl := preP_len (p := p) p.length h40
  have hm : preP p p.length = putN p.length ++ p.flatMap putNd := by simp [preP]
  have hn : isN (p.length : Int) = true := isN_mk (by omega)
  have hd : (preP p p.length).drop 0 = putN p.length ++ p.flatMap putNd := by rw [List.drop_zero, hm]
  have N := numR_put hn hd
  have K := nodsK_put (l := preP p p.length) (rest := []) hall (by rw [List.append_nil]; exact drop_next hd) p.length (Nat.le_refl _)
  rw [List.take_length] at K
  unfold decP
  rw [encP_yes h, unfL_frame (by omega)]
  simp only [countNd]
  rw [show (0 : Int) = ((0 : Nat) : Int) from rfl, N]
  simp only [Int.toNat_natCast]
  rw [if_pos (by omega), K]
  simp only
  rw [if_neg (by simp [hm]), if_pos h]

theorem numR_was {l : List Int} (hl : By l) {p : Nat} {x q : Int} (h : numR l (some (p : Int)) = (x, some q)) : ∃ n : Nat, q = n ∧ l.drop p = putN x ++ l.drop n := by
  unfold numR at h
  simp only at h
  split at h
  · simp at h
  · rename_i hq
    simp only [Prod.mk.injEq, Option.some.injEq] at h
    obtain ⟨n, e1, e2, _⟩ := takeN_was hl (x := x) (q := q) (by rw [← h.1, ← h.2]) (by rw [← h.2]; exact hq)
    exact ⟨n, e1, e2⟩
theorem strL_back {m : List Int} (h : By m) : strL (strOfNums m) = m := by
  unfold strL strOfNums
  simp only [List.map_map]
  conv => rhs; rw [← List.map_id m]
  refine List.map_congr_left fun z hz => ?_
  have := h z hz
  simp only [Function.comp, id]
  rw [UInt8.toNat_ofNat']; omega
theorem wordR_was {l : List Int} (hl : By l) {p : Nat} {s : ByteArray} {q : Int} (h : wordR l (some (p : Int)) = (s, some q)) : ∃ n : Nat, q = n ∧ l.drop p = putW s ++ l.drop n := by
  have hlen : ∀ m : List Int, (strOfNums m).size = m.length := fun m => by simp [strOfNums, ByteArray.size]
  unfold wordR at h
  simp only at h
  split at h
  · simp at h
  · rename_i hq
    simp only [Prod.mk.injEq, Option.some.injEq] at h
    obtain ⟨h1, h2⟩ := h
    unfold takeW at hq h1 h2
    split at hq
    · exact absurd rfl hq
    · rename_i hc
      rw [if_neg hc] at h1 h2
      split at hq
      · rename_i hw
        rw [if_pos hw] at h1 h2
        simp only at h1 h2
        obtain ⟨⟨x, p1⟩, ht⟩ : ∃ r, takeN l (p : Int) = r := ⟨_, rfl⟩
        rw [ht] at h1 h2 hc hw
        simp only at h1 h2 hc hw
        obtain ⟨n, rfl, e2, _⟩ := takeN_was hl ht (by omega)
        rw [Int.toNat_natCast] at h1 hw
        have hk : ((l.drop n).take x.toNat).length = x.toNat := by rw [List.length_take, List.length_drop]; omega
        have hs : (s.size : Int) = x := by rw [← h1, hlen, hk]; omega
        have hst : strL s = (l.drop n).take x.toNat := by
          rw [← h1]; exact strL_back (fun z hz => hl z (List.mem_of_mem_drop (List.mem_of_mem_take hz)))
        refine ⟨n + x.toNat, by omega, ?_⟩
        rw [putW_ok (by rw [← h1]; exact hw), hs, hst, List.append_assoc, ← List.drop_drop, List.take_append_drop]
        exact e2
      · exact absurd rfl hq
theorem rdN_was {l : List Int} (hl : By l) {p : Nat} : ∀ (k : Nat) (acc : List Int) (q : Int), rdN l (p : Int) k = some (acc, q) → ∃ n : Nat, q = n ∧ l.drop p = acc.flatMap putN ++ l.drop n ∧ acc.length = k ∧ ∀ z ∈ acc, isN z = true := by
  intro k
  induction k with
  | zero =>
    intro acc q h
    simp only [rdN, Option.some.injEq, Prod.mk.injEq] at h
    obtain ⟨rfl, rfl⟩ := h
    exact ⟨p, rfl, by simp, rfl, by simp⟩
  | succ k ih =>
    intro acc q h
    rw [rdN] at h
    cases hk : rdN l (p : Int) k with
    | none => rw [hk] at h; cases h
    | some r =>
      obtain ⟨a, q1⟩ := r
      rw [hk] at h
      simp only at h
      split at h
      · cases h
      · rename_i hq
        simp only [Option.some.injEq, Prod.mk.injEq] at h
        obtain ⟨n1, rfl, e1, l1, a1⟩ := ih a q1 hk
        obtain ⟨n, e2, e3, e4, _⟩ := takeN_was hl (x := (takeN l (n1 : Int)).1) (q := (takeN l (n1 : Int)).2) rfl hq
        refine ⟨n, by rw [← h.2]; exact e2, ?_, by rw [← h.1]; simp [l1], ?_⟩
        · rw [← h.1, List.flatMap_append, e1, e3]; simp
        · rw [← h.1]
          intro z hz
          rcases List.mem_append.1 hz with hz | hz
          · exact a1 z hz
          · simp at hz; subst hz; exact e4
theorem listR_was {l : List Int} (hl : By l) {p : Nat} {L : List Int} {q : Int} (h : listR l (some (p : Int)) = (L, some q)) : ∃ n : Nat, q = n ∧ l.drop p = putNs L ++ l.drop n := by
  unfold listR at h
  simp only at h
  split at h
  · simp at h
  · rename_i hq
    simp only [Prod.mk.injEq, Option.some.injEq] at h
    obtain ⟨h1, h2⟩ := h
    unfold takeNs at hq h1 h2
    split at hq
    · exact absurd rfl hq
    · rename_i hc
      rw [if_neg hc] at h1 h2
      obtain ⟨⟨x, p1⟩, ht⟩ : ∃ r, takeN l (p : Int) = r := ⟨_, rfl⟩
      rw [ht] at hq h1 h2 hc
      simp only at hq h1 h2 hc
      obtain ⟨n, rfl, e2, _⟩ := takeN_was hl ht (by omega)
      cases hr : rdN l (n : Int) x.toNat with
      | none => rw [hr] at hq; exact absurd rfl hq
      | some r =>
        obtain ⟨acc, q1⟩ := r
        rw [hr] at h1 h2
        simp only [Option.getD_some] at h1 h2
        subst h1; subst h2
        obtain ⟨m, rfl, e3, l1, a1⟩ := rdN_was hl _ _ _ hr
        have hx : x = (acc.length : Int) := by omega
        have ok : okNs acc = true := by
          unfold okNs
          rw [Bool.and_eq_true, decide_eq_true_eq, List.all_eq_true]
          exact ⟨by omega, a1⟩
        refine ⟨m, rfl, ?_⟩
        rw [putNs_ok ok, List.append_assoc, ← e3, ← hx]
        exact e2
theorem flagR_was {l : List Int} (hl : By l) {p : Nat} {b : Bool} {q : Int} (h : flagR l (some (p : Int)) = (b, some q)) : ∃ n : Nat, q = n ∧ l.drop p = putN (flagI b) ++ l.drop n := by
  unfold flagR at h
  simp only [Prod.mk.injEq] at h
  obtain ⟨h1, h2⟩ := h
  split at h2
  · rename_i hx
    obtain ⟨n, e1, e2⟩ := numR_was hl (x := (numR l (some (p : Int))).1) (q := q) (Prod.ext rfl h2)
    have e : (numR l (some (p : Int))).1 = flagI b := by
      rw [← h1]
      rcases hx with hx | hx <;> rw [hx] <;> rfl
    exact ⟨n, e1, by rw [← e]; exact e2⟩
  · cases h2
end Go.Proofs.YtfpbhedophlnkaaGreatDoor
namespace Go.Proofs.YtfpbhedophlnkaaGreatDoor
open Go.RowKit
set_option linter.unusedSimpArgs false
set_option linter.unusedVariables false

def putTb (t : Tb) : List Int := putW t.name ++ putN t.width
def preQ (l : List Tb) (j : Nat) : List Int := putN l.length ++ (l.take j).flatMap putTb
def encQ (l : List Tb) : List Int := if schemaB l then frameL (preQ l l.length) else []
theorem putTb_len (t : Tb) : (putTb t).length ≤ 18 := by
  have := putW_len t.name; have := putN_len t.width
  simp only [putTb, List.length_append]; omega
theorem putTb_by (t : Tb) : By (putTb t) := (putW_by _).app (putN_by _)
theorem preQ_zero (l : List Tb) : preQ l 0 = putN l.length := by simp [preQ]
theorem preQ_succ {l : List Tb} {j : Nat} {t : Tb} (h : l[j]? = some t) : preQ l (j + 1) = preQ l j ++ putTb t := by
  simp [preQ, List.take_add_one, h, List.flatMap_append]
theorem flatQ_len : ∀ l : List Tb, (l.flatMap putTb).length ≤ 18 * l.length
  | [] => by simp
  | t :: l => by
    have := flatQ_len l
    have := putTb_len t
    simp only [List.flatMap_cons, List.length_append, List.length_cons]; omega
theorem flatQ_by : ∀ l : List Tb, By (l.flatMap putTb)
  | [] => by simp [By.nil]
  | t :: l => by rw [List.flatMap_cons]; exact (putTb_by t).app (flatQ_by l)
theorem preQ_by (l : List Tb) (j : Nat) : By (preQ l j) := (putN_by _).app (flatQ_by _)
theorem preQ_len {l : List Tb} (j : Nat) (h : l.length ≤ 8) : (preQ l j).length ≤ 147 := by
  have h1 := putN_len l.length
  have h2 := flatQ_len (l.take j)
  have h3 : (l.take j).length ≤ l.length := by simp; omega
  simp only [preQ, List.length_append]; omega
theorem encQ_yes {l : List Tb} (h : schemaB l = true) : encQ l = frameL (preQ l l.length) := by unfold encQ; rw [if_pos h]
theorem encQ_no {l : List Tb} (h : schemaB l = false) : encQ l = [] := by unfold encQ; rw [if_neg (by simp [h])]
theorem encQ_by (l : List Tb) : By (encQ l) := by
  unfold encQ; split
  · exact frameL_by (preQ_by _ _)
  · exact By.nil
theorem encQ_len (l : List Tb) : (encQ l).length ≤ 4008 := by
  unfold encQ; split
  · exact frameL_len _
  · simp
theorem schemaB_l8 {l : List Tb} (h : schemaB l = true) : l.length ≤ 8 := (schemaB_iff.1 h).1
end Go.Proofs.YtfpbhedophlnkaaGreatDoor
namespace Go.Proofs.YtfpbhedophlnkaaGreatDoor
open Go.RowKit
set_option linter.unusedSimpArgs false
set_option linter.unusedVariables false

/-- A table at the place that is reached, and the place behind it; none where something is missing. -/
def tableR (l : List Int) (s : Option Int) : Tb × Option Int := (⟨(wordR l s).1, (numR l (wordR l s).2).1⟩, (numR l (wordR l s).2).2)
theorem tableR_none (l : List Int) : (tableR l none).2 = none := rfl
theorem wordR_12T (l : List Int) (s : Option Int) : (wordR l s).1.size ≤ 12 := by
  unfold wordR; repeat' split
  · exact Nat.zero_le _
  · exact Nat.zero_le _
  · exact takeW_12 _ _
/-- The first k tables behind place p, and the place behind them; none where one is missing. -/
def tabsK (l : List Int) (p : Int) : Nat → Option (List Tb × Int)
  | 0 => some ([], p)
  | k + 1 => match tabsK l p k with
    | none => none
    | some (acc, q) => match (tableR l (some q)).2 with
      | none => none
      | some q' => some (acc ++ [(tableR l (some q)).1], q')
def countT (l : List Int) (s : Option Int) (most : Int) : Option (List Tb × Int) :=
  match (numR l s).2 with
  | none => none
  | some p => if 0 ≤ (numR l s).1 ∧ (numR l s).1 ≤ most then tabsK l p (numR l s).1.toNat else none
theorem tabsK_yes {l : List Int} {p q q' : Int} {k : Nat} {acc : List Tb} {t : Tb} (h : tabsK l p k = some (acc, q)) (ht : tableR l (some q) = (t, some q')) : tabsK l p (k + 1) = some (acc ++ [t], q') := by
  simp only [tabsK, h, ht]
theorem tabsK_no {l : List Int} {p q : Int} {k : Nat} {acc : List Tb} {t : Tb} (h : tabsK l p k = some (acc, q)) (ht : tableR l (some q) = (t, none)) : tabsK l p (k + 1) = none := by
  simp only [tabsK, h, ht]
theorem tabsK_stays {l : List Int} {p : Int} {k : Nat} (h : tabsK l p k = none) : ∀ m, k ≤ m → tabsK l p m = none := by
  intro m hm
  induction m with
  | zero => obtain rfl : k = 0 := by omega
            exact h
  | succ m ih =>
    rcases Nat.lt_or_ge k (m + 1) with h1 | h1
    · simp only [tabsK, ih (by omega)]
    · obtain rfl : k = m + 1 := by omega
      exact h
theorem tabsK_len {l : List Int} {p : Int} : ∀ {k : Nat} {acc : List Tb} {q : Int}, tabsK l p k = some (acc, q) → acc.length = k := by
  intro k
  induction k with
  | zero => intro acc q h; simp only [tabsK, Option.some.injEq, Prod.mk.injEq] at h; rw [← h.1]; rfl
  | succ k ih =>
    intro acc q h
    simp only [tabsK] at h
    cases hk : tabsK l p k with
    | none => rw [hk] at h; cases h
    | some x =>
      obtain ⟨a, r⟩ := x
      rw [hk] at h
      simp only at h
      cases ht : (tableR l (some r)).2 with
      | none => rw [ht] at h; cases h
      | some r' =>
        rw [ht] at h
        simp only [Option.some.injEq, Prod.mk.injEq] at h
        rw [← h.1, List.length_append, ih hk]; rfl
theorem countT_8 {l : List Int} {s : Option Int} {acc : List Tb} {q : Int} (h : countT l s 8 = some (acc, q)) : acc.length ≤ 8 := by
  unfold countT at h
  split at h
  · cases h
  · split at h
    · rename_i hc
      have := tabsK_len h
      omega
    · cases h
end Go.Proofs.YtfpbhedophlnkaaGreatDoor
namespace Go.Proofs.YtfpbhedophlnkaaGreatDoor
open Go.RowKit
set_option linter.unusedSimpArgs false
set_option linter.unusedVariables false

def decQ (l : List Int) : Option (List Tb) :=
  match unfL l with
  | none => none
  | some m => match countT m (some 0) 8 with
    | none => none
    | some (acc, q) => if q = m.length ∧ schemaB acc = true then some acc else none
/-- The call returned tables of its own beside a bool, and nothing that was there has turned. -/
def MadeT2 (res : Option (List Tb)) (w : World) (e : Ending) (w' : World) : Prop :=
  ∃ ao c, e = .returned (.tuple #[.slice ao (res.getD []).length c, .bool res.isSome]) ∧ OwnT w' w.heap.size ao c (res.getD []) ∧ Below w.heap.size w w'
theorem madeT2_no {res : Option (List Tb)} {w w' : World} (h : res = none) (hb : Below w.heap.size w w') : MadeT2 res w (.returned (.tuple #[.slice none 0 0, .bool false])) w' := by
  rw [h]; exact ⟨none, 0, rfl, OwnT.none_, hb⟩
theorem madeT2_yes {res : Option (List Tb)} {w w' : World} {acc : List Tb} {ao : Option Addr} {c n : Nat} (h : res = some acc) (hn : n = acc.length) (ho : OwnT w' w.heap.size ao c acc) (hb : Below w.heap.size w w') : MadeT2 res w (.returned (.tuple #[.slice ao n c, .bool true])) w' := by
  rw [h, hn]; exact ⟨ao, c, rfl, ho, hb⟩
end Go.Proofs.YtfpbhedophlnkaaGreatDoor
namespace Go.Proofs.YtfpbhedophlnkaaGreatDoor
open Go.RowKit
set_option linter.unusedSimpArgs false
set_option linter.unusedVariables false

theorem tab_parts {t : Tb} (h : tableB t = true) : wordB t.name.data.toList = true ∧ 1 ≤ t.width ∧ t.width ≤ 6 := by
  unfold tableB Tb.key at h
  simpa using h
theorem tableR_put {t : Tb} (h : tableB t = true) {l rest : List Int} {p : Nat} (hd : l.drop p = putTb t ++ rest) : tableR l (some (p : Int)) = (t, some ((p + (putTb t).length : Nat) : Int)) := by
  obtain ⟨h1, h2, h3⟩ := tab_parts h
  unfold putTb at hd ⊢
  rw [List.append_assoc] at hd
  have W := wordR_put h1 hd
  have N := numR_put (isN_mk (show -1000000 ≤ t.width ∧ t.width ≤ 1000000 by omega)) (drop_next hd)
  simp only [tableR, W, N]
  rw [List.length_append, Nat.add_assoc]
theorem tabsK_yes' {l : List Int} {p q q' : Int} {k : Nat} {acc : List Tb} {t : Tb} (h : tabsK l p k = some (acc, q)) (ht : tableR l (some q) = (t, some q')) : tabsK l p (k + 1) = some (acc ++ [t], q') := by
  simp only [tabsK, h, ht]
theorem tabsK_put {l rest : List Int} {q : Nat} {ts : List Tb} (ha : ∀ t ∈ ts, tableB t = true) (hd : l.drop q = ts.flatMap putTb ++ rest) :
    ∀ k, k ≤ ts.length → tabsK l (q : Int) k = some (ts.take k, ((q + ((ts.take k).flatMap putTb).length : Nat) : Int))
  | 0, _ => by simp [tabsK]
  | k + 1, hk => by
    have ih := tabsK_put ha hd k (by omega)
    have hn : ts[k]? = some ts[k] := List.getElem?_eq_getElem (by omega)
    have hb := ha ts[k] (List.getElem_mem _)
    have ht : ts.take (k + 1) = ts.take k ++ [ts[k]] := by rw [List.take_add_one, hn]; rfl
    have e : ts.flatMap putTb = (ts.take k).flatMap putTb ++ (putTb ts[k] ++ (ts.drop (k + 1)).flatMap putTb) := by
      conv => lhs; rw [← List.take_append_drop k ts, List.drop_eq_getElem_cons (show k < ts.length by omega)]
      rw [List.flatMap_append, List.flatMap_cons]
    rw [e, List.append_assoc, List.append_assoc] at hd
    have R := tableR_put hb (drop_next hd)
    rw [tabsK_yes' ih R, ht, List.flatMap_append, List.length_append, Nat.add_assoc]
    simp
theorem decQ_enc {l : List Tb} (h : schemaB l = true) : decQ (encQ l) = some l := by
  obtain ⟨h8, hall, _⟩ := schemaB_iff.1 h
  have hm : preQ l l.length = putN l.length ++ l.flatMap putTb := by simp [preQ]
  have hlen : (preQ l l.length).length ≤ 4000 := by
    rw [hm, List.length_append]
    have := putN_len (l.length : Int)
    have := flatQ_len l
    omega
  have hn : isN (l.length : Int) = true := isN_mk (by omega)
  have hd : (preQ l l.length).drop 0 = putN l.length ++ l.flatMap putTb := by rw [List.drop_zero, hm]
  have N := numR_put hn hd
  have K := tabsK_put (l := preQ l l.length) (rest := []) hall (by rw [List.append_nil]; exact drop_next hd) l.length (Nat.le_refl _)
  rw [List.take_length] at K
  unfold decQ encQ
  rw [h]
  simp only [if_true]
  rw [unfL_frame hlen]
  simp only [countT]
  rw [show (0 : Int) = ((0 : Nat) : Int) from rfl, N]
  simp only [Int.toNat_natCast]
  rw [if_pos (by omega), K]
  simp only
  rw [if_pos ⟨by simp [hm], h⟩]
end Go.Proofs.YtfpbhedophlnkaaGreatDoor
