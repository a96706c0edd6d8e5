/-
  A node, a plan that is written is read as it was, and what is read was written so, one way alone. Plain facts; no program, no walk. What is read as a plan was written so, one way alone; cut bytes are not read. Plain facts; no program, no walk.
-/
import Derived.Test.YtfpbhedophlnkaaGreatDoorRound2
import Derived.Test.YtfpbhedophlnkaaGreatDoorJ14x
namespace Go.Proofs.YtfpbhedophlnkaaGreatDoor
open Go.RowKit
set_option linter.unusedSimpArgs false
set_option linter.unusedVariables false

theorem drop_next {l a rest : List Int} {p : Nat} (h : l.drop p = a ++ rest) : l.drop (p + a.length) = rest := by
  rw [← List.drop_drop, h]; simp
theorem drop_le {l a rest : List Int} {p : Nat} (h : l.drop p = a ++ rest) (ha : a ≠ []) : p + a.length ≤ l.length := by
  have := congrArg List.length h
  rw [List.length_drop, List.length_append] at this
  have := List.length_pos_iff.2 ha
  omega
theorem numR_put {l rest : List Int} {p : Nat} {x : Int} (hx : isN x = true) (hd : l.drop p = putN x ++ rest) : numR l (some (p : Int)) = (x, some ((p + (putN x).length : Nat) : Int)) := by
  simp only [numR, takeN_put hx hd]
  rw [if_neg (by omega)]
theorem takeW_at {l rest : List Int} {p : Nat} {s : ByteArray} (h : wordB s.data.toList = true) (hd : l.drop p = putW s ++ rest) : takeW l (p : Int) = (s, ((p + (putW s).length : Nat) : Int)) := by
  have hs := wordB_size h
  have hn : isN (s.size : Int) = true := isN_mk (by omega)
  have e := putW_ok h
  rw [e, List.append_assoc] at hd
  have T := takeN_put hn hd
  have h2 := drop_next hd
  have hle := drop_le hd (putN_ne hn)
  have hl2 := congrArg List.length h2
  rw [List.length_drop, List.length_append, strL_len] at hl2
  have ht : (strL s ++ rest).take s.size = strL s := by rw [← strL_len, List.take_left]
  unfold takeW
  rw [T]
  simp only [Int.toNat_natCast]
  rw [if_neg (by omega), h2, ht, str_back, if_pos h, e, List.length_append, strL_len]
  simp; omega
theorem wordR_put {l rest : List Int} {p : Nat} {s : ByteArray} (h : wordB s.data.toList = true) (hd : l.drop p = putW s ++ rest) : wordR l (some (p : Int)) = (s, some ((p + (putW s).length : Nat) : Int)) := by
  simp only [wordR, takeW_at h hd]
  rw [if_neg (by omega)]
theorem takeNs_at {l rest L : List Int} {p : Nat} (h : okNs L = true) (hd : l.drop p = putNs L ++ rest) : takeNs l (p : Int) = (L, ((p + (putNs L).length : Nat) : Int)) := by
  have ⟨h1, h2⟩ := okNs_of h
  have hn : isN (L.length : Int) = true := isN_mk (by omega)
  have e := putNs_ok h
  rw [e, List.append_assoc] at hd
  have T := takeN_put hn hd
  have h3 := drop_next hd
  have hle := drop_le hd (putN_ne hn)
  have hp : (l.take (p + (putN L.length).length)).length = p + (putN L.length).length := by rw [List.length_take]; omega
  have R := rdN_put (l := l) (pre := l.take (p + (putN L.length).length)) (rest := rest) (L := L) (by rw [← h3, List.take_append_drop]) h2 L.length (Nat.le_refl _)
  rw [List.take_length, hp] at R
  unfold takeNs
  rw [T]
  simp only [Int.toNat_natCast]
  rw [if_neg (by omega), R, e, List.length_append]
  simp; omega
theorem listR_put {l rest L : List Int} {p : Nat} (h : okNs L = true) (hd : l.drop p = putNs L ++ rest) : listR l (some (p : Int)) = (L, some ((p + (putNs L).length : Nat) : Int)) := by
  simp only [listR, takeNs_at h hd]
  rw [if_neg (by omega)]
theorem isN_flag (b : Bool) : isN (flagI b) = true := isN_mk (by have := flagI_bd b; omega)
theorem flagR_put {l rest : List Int} {p : Nat} {b : Bool} (hd : l.drop p = putN (flagI b) ++ rest) : flagR l (some (p : Int)) = (b, some ((p + (putN (flagI b)).length : Nat) : Int)) := by
  simp only [flagR, numR_put (isN_flag b) hd]
  cases b <;> simp [flagI]
/-- What a node that is one is, kind by kind. -/
theorem node_shape {n : Nd} (h : nodeB n = true) :
    (∃ name, wordB name.data.toList = true ∧ n = ⟨0, name, 0, 0, 0, false, []⟩) ∨
    (∃ col op num slot, (0 ≤ col ∧ col ≤ 63) ∧ (0 ≤ op ∧ op ≤ 3) ∧ (-1000000 ≤ num ∧ num ≤ 1000000) ∧ n = ⟨1, ⟨#[]⟩, col, op, num, slot, []⟩) ∨
    (∃ cols : List Int, 1 ≤ cols.length ∧ cols.length ≤ 6 ∧ (∀ x ∈ cols, 0 ≤ x ∧ x ≤ 63) ∧ n = ⟨2, ⟨#[]⟩, 0, 0, 0, false, cols⟩) ∨
    (∃ col num, (0 ≤ col ∧ col ≤ 63) ∧ (0 ≤ num ∧ num ≤ 63) ∧ n = ⟨3, ⟨#[]⟩, col, 0, num, false, []⟩) ∨
    n = ⟨4, ⟨#[]⟩, 0, 0, 0, false, []⟩ ∨
    (∃ col, (0 ≤ col ∧ col ≤ 63) ∧ n = ⟨5, ⟨#[]⟩, col, 0, 0, false, []⟩) ∨
    (∃ num slot, (0 ≤ num ∧ num ≤ 1000000) ∧ n = ⟨6, ⟨#[]⟩, 0, 0, num, slot, []⟩) ∨
    n = ⟨7, ⟨#[]⟩, 0, 0, 0, false, []⟩ := by
  have hk := kind_of_nodeB h
  obtain ⟨k, name, col, op, num, slot, cols⟩ := n
  simp only at hk
  have hnm : ∀ s : ByteArray, s.data.toList = [] → s = ⟨#[]⟩ := fun s hs => by
    obtain ⟨⟨l⟩⟩ := s
    simp only at hs; subst hs; rfl
  have hc : k = 0 ∨ k = 1 ∨ k = 2 ∨ k = 3 ∨ k = 4 ∨ k = 5 ∨ k = 6 ∨ k = 7 := by omega
  rcases hc with rfl | rfl | rfl | rfl | rfl | rfl | rfl | rfl
  all_goals simp only [nodeB, Int.reduceEq, if_false, if_true] at h
  · simp only [Bool.and_eq_true, decide_eq_true_eq] at h
    obtain ⟨hw, rfl, rfl, rfl, rfl, rfl⟩ := h
    exact .inl ⟨name, hw, rfl⟩
  · obtain ⟨hn, h1, h2, h3, h4, h5, rfl⟩ := of_decide_eq_true h
    obtain rfl := hnm _ hn
    exact .inr (.inl ⟨col, op, num, slot, h1, h2, h3, rfl⟩)
  · simp only [Bool.and_eq_true, decide_eq_true_eq, List.all_eq_true, colB_iff] at h
    obtain ⟨⟨hn, rfl, rfl, rfl, rfl, h1, h2⟩, h3⟩ := h
    obtain rfl := hnm _ hn
    exact .inr (.inr (.inl ⟨cols, h1, h2, h3, rfl⟩))
  · obtain ⟨hn, h1, rfl, h3, rfl, rfl⟩ := of_decide_eq_true h
    obtain rfl := hnm _ hn
    exact .inr (.inr (.inr (.inl ⟨col, num, h1, h3, rfl⟩)))
  · obtain ⟨hn, rfl, rfl, rfl, rfl, rfl⟩ := of_decide_eq_true h
    obtain rfl := hnm _ hn
    exact .inr (.inr (.inr (.inr (.inl rfl))))
  · obtain ⟨hn, h1, rfl, rfl, rfl, rfl⟩ := of_decide_eq_true h
    obtain rfl := hnm _ hn
    exact .inr (.inr (.inr (.inr (.inr (.inl ⟨col, h1, rfl⟩)))))
  · obtain ⟨hn, rfl, rfl, h1, _, rfl⟩ := of_decide_eq_true h
    obtain rfl := hnm _ hn
    exact .inr (.inr (.inr (.inr (.inr (.inr (.inl ⟨num, slot, h1, rfl⟩))))))
  · obtain ⟨hn, rfl, rfl, rfl, rfl, rfl⟩ := of_decide_eq_true h
    obtain rfl := hnm _ hn
    exact .inr (.inr (.inr (.inr (.inr (.inr (.inr rfl))))))
theorem okNs_cols {L : List Int} (h6 : L.length ≤ 6) (hb : ∀ x ∈ L, 0 ≤ x ∧ x ≤ 63) : okNs L = true := by
  unfold okNs
  rw [Bool.and_eq_true, decide_eq_true_eq, List.all_eq_true]
  exact ⟨by omega, fun x hx => isN_mk (by have := hb x hx; omega)⟩
theorem flat1 (a : Int) : [a].flatMap putN = putN a := by simp
theorem flat2 (a b : Int) : [a, b].flatMap putN = putN a ++ putN b := by simp
theorem flat4 (a b c d : Int) : [a, b, c, d].flatMap putN = putN a ++ (putN b ++ (putN c ++ putN d)) := by simp
/-- What stands behind a node's kind is read as it was written. -/
theorem fieldR_put {n : Nd} (h : nodeB n = true) {l rest : List Int} {p : Nat} (hd : l.drop p = fieldL n ++ rest) : fieldR l n.kind (some (p : Int)) = (n, some ((p + (fieldL n).length : Nat) : Int)) := by
  rcases node_shape h with ⟨name, hw, rfl⟩ | ⟨col, op, num, slot, h1, h2, h3, rfl⟩ | ⟨cols, h1, h2, h3, rfl⟩ | ⟨col, num, h1, h3, rfl⟩ | rfl | ⟨col, h1, rfl⟩ | ⟨num, slot, h1, rfl⟩ | rfl
  · have W := wordR_put hw hd
    simp only [fieldR, if_true, W]; rfl
  · simp only [fieldL, Int.reduceEq, if_false, if_true] at hd ⊢
    rw [flat4, List.append_assoc, List.append_assoc, List.append_assoc] at hd
    have N1 := numR_put (isN_mk (by omega)) hd
    have d2 := drop_next hd
    have N2 := numR_put (isN_mk (by omega)) d2
    have d3 := drop_next d2
    have N3 := flagR_put d3
    have d4 := drop_next d3
    have N4 := numR_put (isN_mk (by omega)) d4
    simp only [fieldR, Int.reduceEq, if_false, if_true, N1, N2, N3, N4]
    simp only [flat4, List.length_append, Nat.add_assoc]
  · simp only [fieldL, Int.reduceEq, if_false, if_true] at hd ⊢
    have W := listR_put (okNs_cols h2 h3) hd
    simp only [fieldR, Int.reduceEq, if_false, if_true, W]
  · simp only [fieldL, Int.reduceEq, if_false, if_true] at hd ⊢
    rw [flat2, List.append_assoc] at hd
    have N1 := numR_put (isN_mk (by omega)) hd
    have d2 := drop_next hd
    have N2 := numR_put (isN_mk (by omega)) d2
    simp only [fieldR, Int.reduceEq, if_false, if_true, N1, N2]
    simp only [flat2, List.length_append, Nat.add_assoc]
  · simp [fieldR, fieldL]
  · simp only [fieldL, Int.reduceEq, if_false, if_true] at hd ⊢
    rw [flat1] at hd
    have N1 := numR_put (isN_mk (by omega)) hd
    simp only [fieldR, Int.reduceEq, if_false, if_true, N1, flat1]
  · simp only [fieldL, Int.reduceEq, if_false, if_true] at hd ⊢
    rw [flat2, List.append_assoc] at hd
    have N1 := flagR_put hd
    have d2 := drop_next hd
    have N2 := numR_put (isN_mk (by omega)) d2
    simp only [fieldR, Int.reduceEq, if_false, if_true, N1, N2]
    simp only [flat2, List.length_append, Nat.add_assoc]
  · simp [fieldR, fieldL]
theorem isN_kind {n : Nd} (h : nodeB n = true) : isN n.kind = true := isN_mk (by have := kind_of_nodeB h; omega)
theorem nodeR_put {n : Nd} (h : nodeB n = true) {l rest : List Int} {p : Nat} (hd : l.drop p = putNd n ++ rest) : nodeR l (some (p : Int)) = (n, some ((p + (putNd n).length : Nat) : Int)) := by
  rw [putNd_yes h, List.append_assoc] at hd
  have N := numR_put (isN_kind h) hd
  have F := fieldR_put h (drop_next hd)
  unfold nodeR
  simp only [N, F, h, if_true]
  rw [putNd_yes h, List.length_append, Nat.add_assoc]
theorem nodsK_put {l rest : List Int} {q : Nat} {ns : List Nd} (ha : ∀ n ∈ ns, nodeB n = true) (hd : l.drop q = ns.flatMap putNd ++ rest) :
    ∀ k, k ≤ ns.length → nodsK l (q : Int) k = some (ns.take k, ((q + ((ns.take k).flatMap putNd).length : Nat) : Int))
  | 0, _ => by simp [nodsK]
  | k + 1, hk => by
    have ih := nodsK_put ha hd k (by omega)
    have hn : ns[k]? = some ns[k] := List.getElem?_eq_getElem (by omega)
    have hb := ha ns[k] (List.getElem_mem _)
    have ht : ns.take (k + 1) = ns.take k ++ [ns[k]] := by rw [List.take_add_one, hn]; rfl
    have e : ns.flatMap putNd = (ns.take k).flatMap putNd ++ (putNd ns[k] ++ (ns.drop (k + 1)).flatMap putNd) := by
      conv => lhs; rw [← List.take_append_drop k ns, List.drop_eq_getElem_cons (show k < ns.length by omega)]
      rw [List.flatMap_append, List.flatMap_cons]
    rw [e, List.append_assoc, List.append_assoc] at hd
    have R := nodeR_put hb (drop_next hd)
    rw [nodsK_yes ih R, ht, List.flatMap_append, List.length_append, Nat.add_assoc]
    simp
/-- A plan that is written is read as it was. -/
theorem dec_enc {p : List Nd} (h : planB p = true) : decP (encP p) = (p, 0) := by
  have h40 := planB_l40 h
  have hall : ∀ n ∈ p, nodeB n = true := by
    cases ht : treeN p with
    | none => simp [planB, ht] at h
    | some T => exact treeN_all ht
  have hpl := preP_len (p := p) p.length h40
  have hm : preP p p.length = putN p.length ++ p.flatMap putNd := by simp [preP]
  have hn : isN (p.length : Int) = true := isN_mk (by omega)
  have hd : (preP p p.length).drop 0 = putN p.length ++ p.flatMap putNd := by rw [List.drop_zero, hm]
  have N := numR_put hn hd
  have K := nodsK_put (l := preP p p.length) (rest := []) hall (by rw [List.append_nil]; exact drop_next hd) p.length (Nat.le_refl _)
  rw [List.take_length] at K
  unfold decP
  rw [encP_yes h, unfL_frame (by omega)]
  simp only [countNd]
  rw [show (0 : Int) = ((0 : Nat) : Int) from rfl, N]
  simp only [Int.toNat_natCast]
  rw [if_pos (by omega), K]
  simp only
  rw [if_neg (by simp [hm]), if_pos h]

theorem numR_was {l : List Int} (hl : By l) {p : Nat} {x q : Int} (h : numR l (some (p : Int)) = (x, some q)) : ∃ n : Nat, q = n ∧ l.drop p = putN x ++ l.drop n := by
  unfold numR at h
  simp only at h
  split at h
  · simp at h
  · rename_i hq
    simp only [Prod.mk.injEq, Option.some.injEq] at h
    obtain ⟨n, e1, e2, _⟩ := takeN_was hl (x := x) (q := q) (by rw [← h.1, ← h.2]) (by rw [← h.2]; exact hq)
    exact ⟨n, e1, e2⟩
theorem strL_back {m : List Int} (h : By m) : strL (strOfNums m) = m := by
  unfold strL strOfNums
  simp only [List.map_map]
  conv => rhs; rw [← List.map_id m]
  refine List.map_congr_left fun z hz => ?_
  have := h z hz
  simp only [Function.comp, id]
  rw [UInt8.toNat_ofNat']; omega
theorem wordR_was {l : List Int} (hl : By l) {p : Nat} {s : ByteArray} {q : Int} (h : wordR l (some (p : Int)) = (s, some q)) : ∃ n : Nat, q = n ∧ l.drop p = putW s ++ l.drop n := by
  have hlen : ∀ m : List Int, (strOfNums m).size = m.length := fun m => by simp [strOfNums, ByteArray.size]
  unfold wordR at h
  simp only at h
  split at h
  · simp at h
  · rename_i hq
    simp only [Prod.mk.injEq, Option.some.injEq] at h
    obtain ⟨h1, h2⟩ := h
    unfold takeW at hq h1 h2
    split at hq
    · exact absurd rfl hq
    · rename_i hc
      rw [if_neg hc] at h1 h2
      split at hq
      · rename_i hw
        rw [if_pos hw] at h1 h2
        simp only at h1 h2
        obtain ⟨⟨x, p1⟩, ht⟩ : ∃ r, takeN l (p : Int) = r := ⟨_, rfl⟩
        rw [ht] at h1 h2 hc hw
        simp only at h1 h2 hc hw
        obtain ⟨n, rfl, e2, _⟩ := takeN_was hl ht (by omega)
        rw [Int.toNat_natCast] at h1 hw
        have hk : ((l.drop n).take x.toNat).length = x.toNat := by rw [List.length_take, List.length_drop]; omega
        have hs : (s.size : Int) = x := by rw [← h1, hlen, hk]; omega
        have hst : strL s = (l.drop n).take x.toNat := by
          rw [← h1]; exact strL_back (fun z hz => hl z (List.mem_of_mem_drop (List.mem_of_mem_take hz)))
        refine ⟨n + x.toNat, by omega, ?_⟩
        rw [putW_ok (by rw [← h1]; exact hw), hs, hst, List.append_assoc, ← List.drop_drop, List.take_append_drop]
        exact e2
      · exact absurd rfl hq
theorem rdN_was {l : List Int} (hl : By l) {p : Nat} : ∀ (k : Nat) (acc : List Int) (q : Int), rdN l (p : Int) k = some (acc, q) → ∃ n : Nat, q = n ∧ l.drop p = acc.flatMap putN ++ l.drop n ∧ acc.length = k ∧ ∀ z ∈ acc, isN z = true := by
  intro k
  induction k with
  | zero =>
    intro acc q h
    simp only [rdN, Option.some.injEq, Prod.mk.injEq] at h
    obtain ⟨rfl, rfl⟩ := h
    exact ⟨p, rfl, by simp, rfl, by simp⟩
  | succ k ih =>
    intro acc q h
    rw [rdN] at h
    cases hk : rdN l (p : Int) k with
    | none => rw [hk] at h; cases h
    | some r =>
      obtain ⟨a, q1⟩ := r
      rw [hk] at h
      simp only at h
      split at h
      · cases h
      · rename_i hq
        simp only [Option.some.injEq, Prod.mk.injEq] at h
        obtain ⟨n1, rfl, e1, l1, a1⟩ := ih a q1 hk
        obtain ⟨n, e2, e3, e4, _⟩ := takeN_was hl (x := (takeN l (n1 : Int)).1) (q := (takeN l (n1 : Int)).2) rfl hq
        refine ⟨n, by rw [← h.2]; exact e2, ?_, by rw [← h.1]; simp [l1], ?_⟩
        · rw [← h.1, List.flatMap_append, e1, e3]; simp
        · rw [← h.1]
          intro z hz
          rcases List.mem_append.1 hz with hz | hz
          · exact a1 z hz
          · simp at hz; subst hz; exact e4
theorem listR_was {l : List Int} (hl : By l) {p : Nat} {L : List Int} {q : Int} (h : listR l (some (p : Int)) = (L, some q)) : ∃ n : Nat, q = n ∧ l.drop p = putNs L ++ l.drop n := by
  unfold listR at h
  simp only at h
  split at h
  · simp at h
  · rename_i hq
    simp only [Prod.mk.injEq, Option.some.injEq] at h
    obtain ⟨h1, h2⟩ := h
    unfold takeNs at hq h1 h2
    split at hq
    · exact absurd rfl hq
    · rename_i hc
      rw [if_neg hc] at h1 h2
      obtain ⟨⟨x, p1⟩, ht⟩ : ∃ r, takeN l (p : Int) = r := ⟨_, rfl⟩
      rw [ht] at hq h1 h2 hc
      simp only at hq h1 h2 hc
      obtain ⟨n, rfl, e2, _⟩ := takeN_was hl ht (by omega)
      cases hr : rdN l (n : Int) x.toNat with
      | none => rw [hr] at hq; exact absurd rfl hq
      | some r =>
        obtain ⟨acc, q1⟩ := r
        rw [hr] at h1 h2
        simp only [Option.getD_some] at h1 h2
        subst h1; subst h2
        obtain ⟨m, rfl, e3, l1, a1⟩ := rdN_was hl _ _ _ hr
        have hx : x = (acc.length : Int) := by omega
        have ok : okNs acc = true := by
          unfold okNs
          rw [Bool.and_eq_true, decide_eq_true_eq, List.all_eq_true]
          exact ⟨by omega, a1⟩
        refine ⟨m, rfl, ?_⟩
        rw [putNs_ok ok, List.append_assoc, ← e3, ← hx]
        exact e2
theorem flagR_was {l : List Int} (hl : By l) {p : Nat} {b : Bool} {q : Int} (h : flagR l (some (p : Int)) = (b, some q)) : ∃ n : Nat, q = n ∧ l.drop p = putN (flagI b) ++ l.drop n := by
  unfold flagR at h
  simp only [Prod.mk.injEq] at h
  obtain ⟨h1, h2⟩ := h
  split at h2
  · rename_i hx
    obtain ⟨n, e1, e2⟩ := numR_was hl (x := (numR l (some (p : Int))).1) (q := q) (Prod.ext rfl h2)
    have e : (numR l (some (p : Int))).1 = flagI b := by
      rw [← h1]
      rcases hx with hx | hx <;> rw [hx] <;> rfl
    exact ⟨n, e1, by rw [← e]; exact e2⟩
  · cases h2
end Go.Proofs.YtfpbhedophlnkaaGreatDoor
namespace Go.Proofs.YtfpbhedophlnkaaGreatDoor
open Go.RowKit
set_option linter.unusedSimpArgs false
set_option linter.unusedVariables false

theorem flagR_of {l : List Int} {s : Option Int} {b : Bool} {q : Int} (h : flagR l s = (b, some q)) : ∃ p, s = some p := by
  cases s with
  | none => rw [flagR_none] at h; simp at h
  | some p => exact ⟨p, rfl⟩
theorem numR_of {l : List Int} {s : Option Int} {x q : Int} (h : numR l s = (x, some q)) : ∃ p, s = some p := by
  cases s with
  | none => rw [numR_none] at h; simp at h
  | some p => exact ⟨p, rfl⟩
theorem pair_some {α : Type} {a : α × Option Int} {q : Int} (h : a.2 = some q) : a = (a.1, some q) := Prod.ext rfl h
/-- What was read behind a node's kind was written so. -/
theorem fieldR_was {l : List Int} (hl : By l) {p : Nat} {n : Nd} {k q : Int} (hk0 : 0 ≤ k) (hk7 : k ≤ 7) (h : fieldR l k (some (p : Int)) = (n, some q)) : n.kind = k ∧ ∃ m : Nat, q = m ∧ l.drop p = fieldL n ++ l.drop m := by
  have hc : k = 0 ∨ k = 1 ∨ k = 2 ∨ k = 3 ∨ k = 4 ∨ k = 5 ∨ k = 6 ∨ k = 7 := by omega
  rcases hc with rfl | rfl | rfl | rfl | rfl | rfl | rfl | rfl
  all_goals
    simp only [fieldR, Int.reduceEq, if_false, if_true, Prod.mk.injEq] at h
    obtain ⟨rfl, h2⟩ := h
    refine ⟨rfl, ?_⟩
    simp only [fieldL, Int.reduceEq, if_false, if_true]
  · exact wordR_was hl (pair_some h2)
  · have e4 := pair_some h2
    obtain ⟨p3, e3⟩ := numR_of e4
    obtain ⟨p2, e2⟩ := flagR_of (pair_some e3)
    obtain ⟨p1, e1⟩ := numR_of (pair_some e2)
    obtain ⟨n1, rfl, d1⟩ := numR_was hl (pair_some e1)
    rw [e1] at e2
    obtain ⟨n2, rfl, d2⟩ := numR_was hl (pair_some e2)
    rw [e1, e2] at e3
    obtain ⟨n3, rfl, d3⟩ := flagR_was hl (pair_some e3)
    rw [e1, e2, e3] at h2
    obtain ⟨n4, e5, d4⟩ := numR_was hl (pair_some h2)
    refine ⟨n4, e5, ?_⟩
    rw [e1, e2, e3, flat4, d1, d2, d3, d4]
    simp only [List.append_assoc]
  · exact listR_was hl (pair_some h2)
  · obtain ⟨p1, e1⟩ := numR_of (pair_some h2)
    obtain ⟨n1, rfl, d1⟩ := numR_was hl (pair_some e1)
    rw [e1] at h2
    obtain ⟨n2, e5, d2⟩ := numR_was hl (pair_some h2)
    refine ⟨n2, e5, ?_⟩
    rw [e1, flat2, d1, d2]
    simp only [List.append_assoc]
  · simp only [Option.some.injEq] at h2
    exact ⟨p, h2.symm, rfl⟩
  · obtain ⟨n1, e1, d1⟩ := numR_was hl (pair_some h2)
    exact ⟨n1, e1, by rw [flat1]; exact d1⟩
  · obtain ⟨p1, e1⟩ := numR_of (pair_some h2)
    obtain ⟨n1, rfl, d1⟩ := flagR_was hl (pair_some e1)
    rw [e1] at h2
    obtain ⟨n2, e5, d2⟩ := numR_was hl (pair_some h2)
    refine ⟨n2, e5, ?_⟩
    rw [e1, flat2, d1, d2]
    simp only [List.append_assoc]
  · simp only [Option.some.injEq] at h2
    exact ⟨p, h2.symm, rfl⟩
theorem fieldR_kind {l : List Int} {k : Int} {s : Option Int} : (fieldR l k s).1.kind = k := by
  unfold fieldR
  repeat' split
  all_goals first | (symm; assumption) | rfl
theorem nodeR_was {l : List Int} (hl : By l) {p : Nat} {n : Nd} {q : Int} (h : nodeR l (some (p : Int)) = (n, some q)) : nodeB n = true ∧ ∃ m : Nat, q = m ∧ l.drop p = putNd n ++ l.drop m := by
  unfold nodeR at h
  simp only [Prod.mk.injEq] at h
  obtain ⟨h1, h2⟩ := h
  split at h2
  · rename_i hb
    rw [h1] at hb
    have hk : (numR l (some (p : Int))).1 = n.kind := by rw [← h1, fieldR_kind]
    have hkb := kind_of_nodeB hb
    cases hs : (numR l (some (p : Int))).2 with
    | none => rw [hs, fieldR_none] at h2; cases h2
    | some p1 =>
      obtain ⟨n1, rfl, d1⟩ := numR_was hl (pair_some hs)
      rw [hs, hk] at h1 h2
      obtain ⟨_, m, e, d2⟩ := fieldR_was hl hkb.1 hkb.2 (Prod.ext h1 h2)
      refine ⟨hb, m, e, ?_⟩
      rw [putNd_yes hb, d1, d2, hk, List.append_assoc]
  · cases h2
theorem nodsK_was {l : List Int} (hl : By l) {p : Nat} : ∀ (k : Nat) (acc : List Nd) (q : Int), nodsK l (p : Int) k = some (acc, q) → ∃ n : Nat, q = n ∧ l.drop p = acc.flatMap putNd ++ l.drop n := by
  intro k
  induction k with
  | zero =>
    intro acc q h
    simp only [nodsK, Option.some.injEq, Prod.mk.injEq] at h
    obtain ⟨rfl, rfl⟩ := h
    exact ⟨p, rfl, by simp⟩
  | succ k ih =>
    intro acc q h
    rw [nodsK] at h
    cases hk : nodsK l (p : Int) k with
    | none => rw [hk] at h; cases h
    | some r =>
      obtain ⟨a, q1⟩ := r
      rw [hk] at h
      simp only at h
      obtain ⟨n1, rfl, e1⟩ := ih a q1 hk
      cases hs : (nodeR l (some (n1 : Int))).2 with
      | none => rw [hs] at h; cases h
      | some q2 =>
        rw [hs] at h
        simp only [Option.some.injEq, Prod.mk.injEq] at h
        obtain ⟨_, m, e, d⟩ := nodeR_was hl (pair_some hs)
        refine ⟨m, by rw [← h.2]; exact e, ?_⟩
        rw [← h.1, List.flatMap_append, e1, d]; simp
theorem dec_some {l : List Int} (h : (decP l).2 = 0) : ∃ m acc, unfL l = some m ∧ countNd m (some 0) 40 = some (acc, (m.length : Int)) ∧ planB acc = true ∧ (decP l).1 = acc := by
  unfold decP at h ⊢
  cases hu : unfL l with
  | none => rw [hu] at h; simp at h
  | some m =>
    rw [hu] at h
    simp only at h ⊢
    cases hc : countNd m (some 0) 40 with
    | none => rw [hc] at h; simp at h
    | some r =>
      obtain ⟨acc, q⟩ := r
      rw [hc] at h
      simp only at h ⊢
      by_cases hq : q ≠ m.length
      · rw [if_pos hq] at h; simp at h
      · rw [if_neg hq] at h ⊢
        by_cases hb : planB acc = true
        · rw [if_pos hb]
          have hq' : q = m.length := by simpa using hq
          exact ⟨m, acc, rfl, by rw [hc, hq'], hb, rfl⟩
        · rw [if_neg hb] at h; simp at h
theorem dec_plan {l : List Int} (h : (decP l).2 = 0) : planB (decP l).1 = true := by
  obtain ⟨m, acc, _, _, hb, e⟩ := dec_some h
  rw [e]; exact hb
/-- What is read as a plan is that plan's bytes. -/
theorem enc_dec {l : List Int} (hl : By l) (h : (decP l).2 = 0) : encP (decP l).1 = l := by
  obtain ⟨m, acc, hu, hc, hb, e⟩ := dec_some h
  have hm := unfL_by hl hu
  rw [e, encP_yes hb, unfL_was hl hu]
  congr 1
  unfold countNd at hc
  cases hs : (numR m (some 0)).2 with
  | none => rw [hs] at hc; cases hc
  | some p1 =>
    rw [hs] at hc
    simp only at hc
    split at hc
    · rename_i hx
      have hs' : (numR m (some ((0 : Nat) : Int))).2 = some p1 := hs
      obtain ⟨n1, rfl, d1⟩ := numR_was hm (pair_some hs')
      obtain ⟨n2, e2, d2⟩ := nodsK_was hm _ _ _ hc
      have hl2 := nodsK_len hc
      have he : (numR m (some ((0 : Nat) : Int))).1 = (acc.length : Int) := by
        have : (numR m (some ((0 : Nat) : Int))).1 = (numR m (some 0)).1 := rfl
        omega
      rw [List.drop_zero, he, d2] at d1
      have h2 : n2 = m.length := by omega
      rw [h2, List.drop_length, List.append_nil] at d1
      simp only [preP, List.take_length]
      exact d1.symm
    · cases hc
/-- No bytes cut short are read as a plan. -/
theorem frame_pre {a b t : List Int} (ha : a.length ≤ 4000) (hb : b.length ≤ 4000) (h : frameL b = frameL a ++ t) : t = [] := by
  have na : isN (a.length : Int) = true := isN_mk (by omega)
  have nb : isN (b.length : Int) = true := isN_mk (by omega)
  rw [frameL_yes ha, frameL_yes hb] at h
  have h2 : (([80, 83] ++ putN b.length) ++ b) ++ putN (chk b) = [80, 83] ++ (putN b.length ++ (b ++ putN (chk b))) := by simp
  have h3 : ((([80, 83] ++ putN a.length) ++ a) ++ putN (chk a)) ++ t = [80, 83] ++ (putN a.length ++ (a ++ (putN (chk a) ++ t))) := by simp
  rw [h2, h3] at h
  have h4 := List.append_cancel_left h
  have T1 := takeN_put (l := putN b.length ++ (b ++ putN (chk b))) (p := 0) (rest := b ++ putN (chk b)) nb (by simp)
  have T2 := takeN_put (l := putN b.length ++ (b ++ putN (chk b))) (p := 0) (rest := a ++ (putN (chk a) ++ t)) na (by rw [List.drop_zero]; exact h4)
  rw [T1] at T2
  have e : (b.length : Int) = a.length := (Prod.mk.inj T2).1
  rw [e] at h4
  have h5 := List.append_cancel_left h4
  obtain ⟨h6, h7⟩ := List.append_inj h5 (by omega)
  rw [h6] at h7
  have := congrArg List.length h7
  rw [List.length_append] at this
  exact List.eq_nil_of_length_eq_zero (by omega)
theorem dec_cut {p : List Nd} (h : planB p = true) {k : Nat} (hk : k < (encP p).length) : (decP ((encP p).take k)).2 ≠ 0 := by
  intro h0
  have h40 := planB_l40 h
  have hpl := preP_len (p := p) p.length h40
  obtain ⟨m, acc, hu, _⟩ := dec_some h0
  have hby : By ((encP p).take k) := fun z hz => encP_by p z (List.mem_of_mem_take hz)
  have e := unfL_was hby hu
  have hm := unfL_4000 hu
  have hs : encP p = (encP p).take k ++ (encP p).drop k := (List.take_append_drop k _).symm
  rw [e, encP_yes h] at hs
  have := frame_pre hm (by omega) hs
  have h2 := congrArg List.length this
  rw [List.length_drop, ← encP_yes h] at h2
  simp at h2
  omega
end Go.Proofs.YtfpbhedophlnkaaGreatDoor
