/-
  A plan's lines: what the program writes by its tree and what the model writes place by place are one text. Plain facts; no program, no walk. The contracts of the law's own helpers: same, sameBytes, at, alt; and of the model's draws of a list, a word and a body: some list, some text, in memory of its own. For every slice of bytes. The contracts of the model's DrawPutNums, DrawPutWord and DrawFrame: some list of numbers, some text, some bytes, in memory of their own. For every slice of bytes. Plain facts on reading a number out of bytes, and the contract of spec.TakeNum. For every slice of bytes and every place.
-/
import Derived.Test.YtfpbhedophlnkaaGreatDoorJT6x
import Derived.Test.YtfpbhedophlnkaaGreatDoorJT38x
import Derived.Test.YtfpbhedophlnkaaGreatDoorJT37x
namespace Go.Proofs.YtfpbhedophlnkaaGreatDoor
open Go.RowKit
set_option linter.unusedSimpArgs false
set_option linter.unusedVariables false

def padL : Nat → List UInt8
  | 0 => []
  | d + 1 => padL d ++ [32, 32]
/-- A node's line, so many nodes standing above it. -/
def lineT (d : Nat) (n : Nd) : List UInt8 := padL d ++ ndT n ++ [10]
def linT : Nat → Tr → List UInt8
  | d, .t0 n _ _ => lineT d n
  | d, .t1 n _ _ c => lineT d n ++ linT (d + 1) c
  | d, .t2 n _ _ c e => lineT d n ++ linT (d + 1) c ++ linT (d + 1) e
def lineAt (p : List Nd) (d k : Nat) : List UInt8 :=
  match p[k]? with
  | some n => lineT d n
  | none => []
/-- Where the tree at a place ends, 0 where there is none. -/
def en10 (p : List Nd) (i : Nat) : Nat :=
  match endN p 10 i with
  | some (e, _) => e
  | none => 0
/-- How many of the m places from j on end behind k. -/
def cntE (p : List Nd) (k j : Nat) : Nat → Nat
  | 0 => 0
  | m + 1 => cntE p k j m + if k < en10 p (j + m) then 1 else 0
def aboveN (p : List Nd) (k : Nat) : Nat := cntE p k 0 k
def rngL (f : Nat → List UInt8) (j : Nat) : Nat → List UInt8
  | 0 => []
  | m + 1 => rngL f j m ++ f (j + m)
def linsT (p : List Nd) (m : Nat) : List UInt8 := rngL (fun k => lineAt p (aboveN p k) k) 0 m
/-- A plan's lines; no text where it is no plan. -/
def linO (p : List Nd) : ByteArray := if planB p then ⟨(linsT p p.length).toArray⟩ else ⟨#[]⟩
theorem linO_yes {p : List Nd} (h : planB p = true) : linO p = ⟨(linsT p p.length).toArray⟩ := by unfold linO; rw [if_pos h]
theorem linO_no {p : List Nd} (h : planB p = false) : linO p = ⟨#[]⟩ := by unfold linO; rw [if_neg (by rw [h]; simp)]

theorem planO_size (p : List Nd) : (planO p).size ≤ 9223372036854775807 := by
  cases hb : planB p with
  | false => rw [planO_no hb]; decide
  | true =>
    rw [planO_yes hb]
    have h1 := planT_len (planB_nodes hb)
    have h2 := planB_40 hb
    have e1 : (⟨(planT p).toArray⟩ : ByteArray).size = (planT p).length := by show (planT p).toArray.size = _; simp
    have e2 : planT p = joinB 32 (p.map ndT) := rfl
    rw [e1, e2]; omega
theorem padL_len : ∀ d, (padL d).length = 2 * d
  | 0 => rfl
  | d + 1 => by simp only [padL, List.length_append, padL_len d, List.length_cons, List.length_nil]; omega
theorem rngL_add (f : Nat → List UInt8) (j a : Nat) : ∀ b, rngL f j (a + b) = rngL f j a ++ rngL f (j + a) b
  | 0 => by simp [rngL]
  | b + 1 => by
    show rngL f j (a + b) ++ f (j + (a + b)) = rngL f j a ++ (rngL f (j + a) b ++ f (j + a + b))
    rw [rngL_add f j a b, List.append_assoc, Nat.add_assoc]
theorem rngL_congr {f g : Nat → List UInt8} (j : Nat) : ∀ m, (∀ k, j ≤ k → k < j + m → f k = g k) → rngL f j m = rngL g j m
  | 0, _ => rfl
  | m + 1, h => by
    show rngL f j m ++ f (j + m) = rngL g j m ++ g (j + m)
    rw [rngL_congr j m (fun k h1 h2 => h k h1 (by omega)), h (j + m) (by omega) (by omega)]
theorem cntE_add (p : List Nd) (k j a : Nat) : ∀ b, cntE p k j (a + b) = cntE p k j a + cntE p k (j + a) b
  | 0 => rfl
  | b + 1 => by
    show cntE p k j (a + b) + (if k < en10 p (j + (a + b)) then 1 else 0) = cntE p k j a + (cntE p k (j + a) b + (if k < en10 p (j + a + b) then 1 else 0))
    rw [cntE_add p k j a b, Nat.add_assoc, Nat.add_assoc]
theorem cntE_none (p : List Nd) (k j : Nat) : ∀ m, (∀ i, j ≤ i → i < j + m → en10 p i ≤ k) → cntE p k j m = 0
  | 0, _ => rfl
  | m + 1, h => by
    show cntE p k j m + _ = 0
    rw [cntE_none p k j m (fun i h1 h2 => h i h1 (by omega)), if_neg (by have := h (j + m) (by omega) (by omega); omega)]
theorem cntE_le (p : List Nd) (k j : Nat) : ∀ m, cntE p k j m ≤ m
  | 0 => Nat.le_refl _
  | m + 1 => by
    show cntE p k j m + _ ≤ m + 1
    have := cntE_le p k j m
    split <;> omega
theorem aboveN_le (p : List Nd) (k : Nat) : aboveN p k ≤ k := cntE_le p k 0 k
theorem lineT_len (d : Nat) {n : Nd} (h : nodeB n = true) : (lineT d n).length ≤ 2 * d + 177 := by
  have := ndT_len h
  simp only [lineT, List.length_append, padL_len, List.length_cons, List.length_nil]; omega
theorem lineAt_len {p : List Nd} (h : ∀ n ∈ p, nodeB n = true) (d k : Nat) : (lineAt p d k).length ≤ 2 * d + 177 := by
  unfold lineAt
  cases hn : p[k]? with
  | none => simp
  | some n => exact lineT_len d (h n (List.mem_of_getElem? hn))
theorem linsT_len {p : List Nd} (h : ∀ n ∈ p, nodeB n = true) (h40 : p.length ≤ 40) : ∀ m, m ≤ 40 → (linsT p m).length ≤ 257 * m
  | 0, _ => Nat.zero_le _
  | m + 1, hm => by
    show (rngL _ 0 m ++ lineAt p (aboveN p (0 + m)) (0 + m)).length ≤ _
    have h1 := linsT_len h h40 m (by omega)
    unfold linsT at h1
    have h2 := lineAt_len h (aboveN p (0 + m)) (0 + m)
    have h3 := aboveN_le p (0 + m)
    rw [List.length_append]; omega
theorem linsT_succ (p : List Nd) (m : Nat) : linsT p (m + 1) = linsT p m ++ lineAt p (aboveN p m) m := by
  show rngL _ 0 m ++ lineAt p (aboveN p (0 + m)) (0 + m) = _
  rw [Nat.zero_add]; rfl
theorem lineAt_some {p : List Nd} {d k : Nat} {n : Nd} (h : p[k]? = some n) : lineAt p d k = lineT d n := by unfold lineAt; rw [h]

theorem growT_up (p : List Nd) (k : Nat) (T : Tr) (f : Nat) (h : growT p f k = some T) : ∀ g, growT p (f + g) k = some T
  | 0 => h
  | g + 1 => growT_more p (f + g) k T (growT_up p k T f h g)
theorem en10_grow {p : List Nd} (hall : ∀ n ∈ p, nodeB n = true) {f i : Nat} {S : Tr} (h : growT p f i = some S) (hd : S.depth ≤ 10) : en10 p i = S.en := by
  unfold en10
  rw [endN_grow p hall (f + p.length) 10 i (by omega), growT_up p i S f h p.length]
  simp only
  rw [if_pos hd]
theorem lin_grow {p : List Nd} (hall : ∀ n ∈ p, nodeB n = true) : ∀ (f j d : Nat) (T : Tr), growT p f j = some T → T.depth ≤ 10 →
    linT d T = rngL (fun k => lineAt p (d + cntE p k j (k - j)) k) j (T.en - j) := by
  intro f
  induction f with
  | zero => intro j d T h; cases h
  | succ f ih =>
    intro j d T h hdep
    have hfull := h
    simp only [growT] at h
    cases hp : p[j]? with
    | none => rw [hp] at h; cases h
    | some n =>
      rw [hp] at h
      simp only at h
      have hn : nodeB n = true := hall n (List.mem_of_getElem? hp)
      rw [hn] at h
      simp only [Bool.true_eq_false, if_false] at h
      have he := en10_grow hall hfull hdep
      have hone : rngL (fun k => lineAt p (d + cntE p k j (k - j)) k) j 1 = lineT d n := by
        show [] ++ lineAt p (d + cntE p (j + 0) j (j + 0 - j)) (j + 0) = _
        rw [Nat.add_zero, Nat.sub_self, lineAt_some hp]; rfl
      split at h
      · cases hc : growT p f (j + 1) with
        | none => rw [hc] at h; cases h
        | some c =>
          rw [hc] at h; simp only [Option.some.injEq] at h; subst h
          have hs := growT_sound p _ _ _ hc
          have hcd : c.depth ≤ 10 := by simp only [Tr.depth] at hdep; omega
          have hI := ih (j + 1) (d + 1) c hc hcd
          simp only [Tr.en1] at he ⊢
          rw [show c.en - j = 1 + (c.en - (j + 1)) by omega, rngL_add, hone]
          show lineT d n ++ linT (d + 1) c = _
          rw [hI]
          congr 1
          refine rngL_congr _ _ fun k h1 h2 => ?_
          have e1 : cntE p k j (k - j) = 1 + cntE p k (j + 1) (k - (j + 1)) := by
            rw [show k - j = 1 + (k - (j + 1)) by omega, cntE_add]
            congr 1
            show 0 + (if k < en10 p (j + 0) then 1 else 0) = 1
            rw [Nat.add_zero, if_pos (by omega)]
          show lineAt p _ k = lineAt p _ k
          rw [e1, Nat.add_assoc]
      · split at h
        · cases hc : growT p f (j + 1) with
          | none => rw [hc] at h; cases h
          | some c =>
            rw [hc] at h; simp only at h
            cases hd : growT p f c.en with
            | none => rw [hd] at h; cases h
            | some e =>
              rw [hd] at h; simp only [Option.some.injEq] at h; subst h
              have hs := growT_sound p _ _ _ hc
              have hs' := growT_sound p _ _ _ hd
              have hcd : c.depth ≤ 10 := by simp only [Tr.depth] at hdep; omega
              have hed : e.depth ≤ 10 := by simp only [Tr.depth] at hdep; omega
              have hI := ih (j + 1) (d + 1) c hc hcd
              have hJ := ih c.en (d + 1) e hd hed
              simp only [Tr.en2] at he ⊢
              rw [show e.en - j = 1 + ((c.en - (j + 1)) + (e.en - c.en)) by omega, rngL_add, rngL_add, hone]
              show lineT d n ++ linT (d + 1) c ++ linT (d + 1) e = _
              rw [hI, hJ, List.append_assoc]
              have e0 : ∀ k, j + 1 ≤ k → k < e.en → cntE p k j (k - j) = 1 + cntE p k (j + 1) (k - (j + 1)) := fun k h1 h2 => by
                rw [show k - j = 1 + (k - (j + 1)) by omega, cntE_add]
                congr 1
                show 0 + (if k < en10 p (j + 0) then 1 else 0) = 1
                rw [Nat.add_zero, if_pos (by omega)]
              congr 1
              congr 1
              · refine rngL_congr _ _ fun k h1 h2 => ?_
                show lineAt p _ k = lineAt p _ k
                rw [e0 k h1 (by omega), Nat.add_assoc]
              · rw [show j + 1 + (c.en - (j + 1)) = c.en by omega]
                refine rngL_congr _ _ fun k h1 h2 => ?_
                show lineAt p _ k = lineAt p _ k
                have e2 : cntE p k (j + 1) (k - (j + 1)) = cntE p k c.en (k - c.en) := by
                  rw [show k - (j + 1) = (c.en - (j + 1)) + (k - c.en) by omega, cntE_add, show j + 1 + (c.en - (j + 1)) = c.en by omega]
                  rw [cntE_none p k (j + 1) (c.en - (j + 1)) fun i i1 i2 => ?_, Nat.zero_add]
                  obtain ⟨S, _, hS, hSd, hSe⟩ := find_grow p f (j + 1) i c hc i1 (by omega)
                  rw [en10_grow hall hS (by omega)]; omega
                rw [e0 k (by omega) (by omega), e2, Nat.add_assoc]
        · simp only [Option.some.injEq] at h; subst h
          simp only [Tr.en0]
          rw [show j + 1 - j = 1 by omega, hone]; rfl
theorem lin_tree {p : List Nd} {T : Tr} (h : treeN p = some T) : linT 0 T = linsT p p.length := by
  have hall := treeN_all h
  obtain ⟨_, hg, he, hd⟩ := treeN_some h
  rw [lin_grow hall _ 0 0 T hg hd, he]
  unfold linsT
  refine rngL_congr _ _ fun k _ _ => ?_
  show lineAt p _ k = lineAt p _ k
  rw [Nat.zero_add]; rfl
theorem linT_len {p : List Nd} {T : Tr} (h : treeN p = some T) : (linT 0 T).length ≤ 10280 := by
  have h40 := (treeN_some h).1
  have := linsT_len (treeN_all h) h40 p.length h40
  rw [lin_tree h]; omega
end Go.Proofs.YtfpbhedophlnkaaGreatDoor
namespace Go.Proofs.YtfpbhedophlnkaaGreatDoor
open Go.RowKit
set_option linter.unusedSimpArgs false
set_option linter.unusedVariables false

set_option maxHeartbeats 800000 in
theorem sameBytes_any (a b : Option Addr) (c d : Nat) (l m : List Int) (w : World) (h : Rd w .u8 a l) (k : Rd w .u8 b m) (hn : l.length ≤ maxLen) (hm : m.length ≤ maxLen) :
    Calls Tryz.prog 39 #[.slice a l.length c, .slice b m.length d] w fun e w' => e = .returned (.bool (eqL l m)) ∧ Below w.heap.size w w' := by
  unfold maxLen at hn hm
  by_cases hlen : l.length = m.length
  · have hne : ((l.length : Int) != (m.length : Int)) = false := by simp [hlen]
    have HL := Lib.hid hlen; clear hlen
    rcases h with rfl | ⟨b1, o1, rfl, hc⟩
    · have hm0 : m = [] := List.eq_nil_of_length_eq_zero HL.out.symm
      subst hm0
      clear hne
      go_enter Tryz.func39, Tryz.ntmps39
      go_wp2
      refine wp_loop_rounds 1 ?_; rw [rounds_succ]; go_wp2
      go_ret
      exact ⟨rfl, Below.refl _ _⟩
    · rcases k with rfl | ⟨b2, o2, rfl, kc⟩
      · have hl0 : l = [] := List.eq_nil_of_length_eq_zero HL.out
        subst hl0
        clear hne hc
        go_enter Tryz.func39, Tryz.ntmps39
        go_wp2
        refine wp_loop_rounds 1 ?_; rw [rounds_succ]; go_wp2
        go_ret
        exact ⟨rfl, Below.refl _ _⟩
      · have HC := Lib.hid hc; have KC := Lib.hid kc; clear hc kc
        go_enter Tryz.func39, Tryz.ntmps39
        go_wp2
        go_loopw [5] (fun i wr => ∃ j q : Nat, j ≤ l.length ∧ i = .int .i64 j ∧ l.take j = m.take j ∧ wr = w.drewN q) (fun i _ => l.length - (intOf i).toNat)
        case atStart => exact ⟨0, 0, Nat.zero_le _, rfl, rfl, rfl⟩
        case round =>
          obtain ⟨j, q, hj, rfl, ht, rfl⟩ := hrel
          have HT := Lib.hid ht; clear ht
          by_cases hlt : j < l.length
          · have hlt2 : j < m.length := by have := HL.out; omega
            obtain ⟨x, _, hx, hcx, htx⟩ := Rd.at_ HC.out hlt
            obtain ⟨y, _, hy, hcy, hty⟩ := Rd.at_ KC.out hlt2
            have X := Lib.hid hx; have Y := Lib.hid hy; have TX := Lib.hid htx; have TY := Lib.hid hty
            clear hx hy htx hty
            have i1 : (j : Int) < (l.length : Int) := by omega
            have i2 : (j : Int) < (m.length : Int) := by omega
            by_cases hxy : x = y
            · subst hxy
              have hb : (x != x) = false := by simp
              go_wp2
              go_quiet (fail)
              go_wp2
              go_roundw
              case rel => exact ⟨j + 1, _, by omega, by go_num, by rw [TX.out, TY.out, HT.out], by first | rfl | rw [World.drewN_drewN]⟩
              case measure => simp [intOf]; omega
            · have hb : (x != y) = true := by simp [hxy]
              have HF := Lib.hid (eqL_no hxy X.out Y.out)
              clear hxy
              go_wp2
              go_quiet (fail)
              go_wp2
              go_ret
              exact ⟨ret_bool HF.out.symm, by first | exact below_drewN (Below.refl _ _) _ | exact below_drewN (below_drewN (Below.refl _ _) _) _⟩
          · go_wp2
            go_ret
            exact ⟨ret_bool (eqL_yes HL.out (by omega) HT.out).symm, below_drewN (Below.refl _ _) _⟩
  · have hne : ((l.length : Int) != (m.length : Int)) = true := by simp; omega
    have HF : Hid (eqL l m = false) := by
      show eqL l m = false
      unfold eqL; simp; rintro rfl; exact hlen rfl
    go_enter Tryz.func39, Tryz.ntmps39
    go_wp2
    go_ret
    exact ⟨ret_bool HF.out.symm, Below.refl _ _⟩
set_option maxHeartbeats 800000 in
theorem same_any (a b : Option Addr) (c d : Nat) (l m : List Int) (w : World) (h : Rd w .i64 a l) (k : Rd w .i64 b m) (hn : l.length ≤ maxLen) (hm : m.length ≤ maxLen) :
    Calls Tryz.prog 31 #[.slice a l.length c, .slice b m.length d] w fun e w' => e = .returned (.bool (eqL l m)) ∧ Below w.heap.size w w' := by
  unfold maxLen at hn hm
  by_cases hlen : l.length = m.length
  · have hne : ((l.length : Int) != (m.length : Int)) = false := by simp [hlen]
    have HL := Lib.hid hlen; clear hlen
    rcases h with rfl | ⟨b1, o1, rfl, hc⟩
    · have hm0 : m = [] := List.eq_nil_of_length_eq_zero HL.out.symm
      subst hm0
      clear hne
      go_enter Tryz.func31, Tryz.ntmps31
      go_wp2
      refine wp_loop_rounds 1 ?_; rw [rounds_succ]; go_wp2
      go_ret
      exact ⟨rfl, Below.refl _ _⟩
    · rcases k with rfl | ⟨b2, o2, rfl, kc⟩
      · have hl0 : l = [] := List.eq_nil_of_length_eq_zero HL.out
        subst hl0
        clear hne hc
        go_enter Tryz.func31, Tryz.ntmps31
        go_wp2
        refine wp_loop_rounds 1 ?_; rw [rounds_succ]; go_wp2
        go_ret
        exact ⟨rfl, Below.refl _ _⟩
      · have HC := Lib.hid hc; have KC := Lib.hid kc; clear hc kc
        go_enter Tryz.func31, Tryz.ntmps31
        go_wp2
        go_loopw [5] (fun i wr => ∃ j q : Nat, j ≤ l.length ∧ i = .int .i64 j ∧ l.take j = m.take j ∧ wr = w.drewN q) (fun i _ => l.length - (intOf i).toNat)
        case atStart => exact ⟨0, 0, Nat.zero_le _, rfl, rfl, rfl⟩
        case round =>
          obtain ⟨j, q, hj, rfl, ht, rfl⟩ := hrel
          have HT := Lib.hid ht; clear ht
          by_cases hlt : j < l.length
          · have hlt2 : j < m.length := by have := HL.out; omega
            obtain ⟨x, _, hx, hcx, htx⟩ := Rd.at_ HC.out hlt
            obtain ⟨y, _, hy, hcy, hty⟩ := Rd.at_ KC.out hlt2
            have X := Lib.hid hx; have Y := Lib.hid hy; have TX := Lib.hid htx; have TY := Lib.hid hty
            clear hx hy htx hty
            have i1 : (j : Int) < (l.length : Int) := by omega
            have i2 : (j : Int) < (m.length : Int) := by omega
            by_cases hxy : x = y
            · subst hxy
              have hb : (x != x) = false := by simp
              go_wp2
              go_quiet (fail)
              go_wp2
              go_roundw
              case rel => exact ⟨j + 1, _, by omega, by go_num, by rw [TX.out, TY.out, HT.out], by first | rfl | rw [World.drewN_drewN]⟩
              case measure => simp [intOf]; omega
            · have hb : (x != y) = true := by simp [hxy]
              have HF := Lib.hid (eqL_no hxy X.out Y.out)
              clear hxy
              go_wp2
              go_quiet (fail)
              go_wp2
              go_ret
              exact ⟨ret_bool HF.out.symm, by first | exact below_drewN (Below.refl _ _) _ | exact below_drewN (below_drewN (Below.refl _ _) _) _⟩
          · go_wp2
            go_ret
            exact ⟨ret_bool (eqL_yes HL.out (by omega) HT.out).symm, below_drewN (Below.refl _ _) _⟩
  · have hne : ((l.length : Int) != (m.length : Int)) = true := by simp; omega
    have HF : Hid (eqL l m = false) := by
      show eqL l m = false
      unfold eqL; simp; rintro rfl; exact hlen rfl
    go_enter Tryz.func31, Tryz.ntmps31
    go_wp2
    go_ret
    exact ⟨ret_bool HF.out.symm, Below.refl _ _⟩

set_option maxRecDepth 100000 in
theorem at_any (ao : Option Addr) (d : Nat) (code : List Int) (i : Int) (w : World) (hr : Rd w .u8 ao code) (hby : By code) (hl : code.length ≤ 1048576) (h0 : 0 ≤ i) (h1 : i ≤ 2) :
    Calls Tryz.prog 43 #[.slice ao code.length d, .int .i64 i] w fun e w' => (∃ x : Int, 0 ≤ x ∧ x ≤ 255 ∧ e = .returned (.int .i64 x)) ∧ w = w' := by
  have hl' : (code.length : Int) ≤ 1048576 := by omega
  obtain ⟨k, rfl⟩ : ∃ k : Nat, i = k := ⟨i.toNat, by omega⟩
  by_cases hlt : k < code.length
  · rcases hr with rfl | ⟨b1, off, rfl, hc⟩
    · simp at hlt
    · obtain ⟨z, hz, _, hcz, _⟩ := Rd.at_ hc hlt
      have zb := hby z hz
      clear hz hc hby hl
      go_enter Tryz.func43, Tryz.ntmps43
      go_wp2
      go_ret
      exact ⟨⟨z, by omega, by omega, rfl⟩, rfl⟩
  · clear hr hby hl
    go_enter Tryz.func43, Tryz.ntmps43
    go_wp2
    go_ret
    exact ⟨⟨_, by omega, by omega, rfl⟩, rfl⟩

def AltRel (w wr : World) (v i : Value) (m : Nat) : Prop :=
  ∃ (k : Nat) (acc : List Int) (ao : Option Addr) (c n : Nat), v = .slice ao n c ∧ i = .int .i64 k ∧ n = acc.length ∧ acc.length = k + 1 ∧ k ≤ m ∧ k ≤ 3000 ∧ By acc ∧ Own wr w.heap.size 5 .u8 ao c acc ∧ Below w.heap.size w wr
def SomeP (w : World) (m : Nat) (e : Ending) (w' : World) : Prop :=
  ∃ (l : List Int) (ao : Option Addr) (c : Nat), e = .returned (.slice ao l.length c) ∧ l.length ≤ m ∧ By l ∧ Own w' w.heap.size 5 .u8 ao c l ∧ Below w.heap.size w w'
theorem by_snoc {acc : List Int} {z : Int} (h : By acc) (h0 : 0 ≤ z) (h1 : z < 256) : By (acc ++ [z]) := h.app (By.one h0 h1)

set_option maxRecDepth 100000 in
set_option maxHeartbeats 1600000 in
theorem alt_any (xo : Option Addr) (d : Nat) (code : List Int) (x : Int) (w : World) (hr : Rd w .u8 xo code) (hby : By code) (hl : code.length ≤ 1048576) (h0 : 0 ≤ x) (h1 : x ≤ 2) :
    Calls Tryz.prog 17 #[.slice xo code.length d, .int .i64 x] w (SomeP w 3001) := by
  have HR := Lib.hid hr; have HBY := Lib.hid hby
  have hst : Own (w.alloc (Obj.cells #[.int .u8 x] 5)) w.heap.size 5 .u8 (some ⟨w.heap.size, 0, none⟩) 1 [x] := World.ownsRow_lit w #[.int .u8 x] 1 (Nat.le_refl _) (by unfold maxLen; omega) rfl
  have HST := Lib.hid hst
  have hl' : (code.length : Int) ≤ 1048576 := by omega
  clear hst hby
  rcases hr with rfl | ⟨b1, off, rfl, hc⟩
  · go_enter Tryz.func17, Tryz.ntmps17
    go_wp2
    refine wp_loop_rounds 1 ?_; rw [rounds_succ]; go_wp2
    go_ret
    exact ⟨[x], _, _, rfl, by simp, By.one h0 (by omega), HST.out, (Below.refl _ _).alloc (Nat.le_refl _) _⟩
  · clear hc
    go_enter Tryz.func17, Tryz.ntmps17
    go_wp2
    go_loopw [5, 6] (fun v i wr => AltRel w wr v i code.length) (fun _ i _ => code.length - (intOf i).toNat)
    case atStart => exact ⟨0, [x], _, _, _, rfl, rfl, rfl, rfl, Nat.zero_le _, by omega, By.one h0 (by omega), HST.out, (Below.refl _ _).alloc (Nat.le_refl _) _⟩
    case round =>
      obtain ⟨k, acc, ao, c, n', rfl, rfl, hn', hak, hkm, hk3, hacc, ho, hb⟩ := hrel
      have HNN := Lib.hid hn'; have HAK := Lib.hid hak; have HALL := Lib.hid hacc; have HO := Lib.hid ho; have HB := Lib.hid hb
      have hal : acc.length ≤ 3001 := by omega
      clear hn' hak hacc ho hb
      have fin : Hid (∀ W, W = wr → SomeP w 3001 (.returned (.slice ao n' c)) W) := by
        intro W hW
        rw [hW, HNN.out]
        exact ⟨acc, ao, c, rfl, hal, HALL.out, HO.out, HB.out⟩
      by_cases hlt : k < code.length
      · have hbl : decide (k < code.length) = true := by simpa using hlt
        by_cases h3 : k < 3000
        · have h3' : (k : Int) < 3000 := by omega
          obtain ⟨b', off', heq, hc⟩ : ∃ b' off', (some ⟨b1, off, none⟩ : Option Addr) = some ⟨b', off', none⟩ ∧ ∀ i, i < code.length → wr.cell? ⟨b', off' + i, none⟩ = some (.int .u8 (code.getD i 0)) := by
            rcases HR.out.below HB.out with rfl | h'
            · simp at hlt
            · exact h'
          simp only [Option.some.injEq, Addr.mk.injEq, and_true] at heq
          obtain ⟨rfl, rfl⟩ := heq
          obtain ⟨z, hz, _, hcz, _⟩ := Rd.at_ hc hlt
          have zb := HBY.out z hz
          clear hz hc
          go_wp2_with (at_builtin; refine wpList_append1 _ rfl (.tmp 20) (.tmp 25) 22 rfl w.heap.size 5 .u8 1 Tryz.underlying22 Tryz.infoU8 ao c n' acc rfl HNN.out (HO.out.alloc _) wr.heap.size 1 z rfl (cell_one _ _ _) (by unfold maxLen; omega) (by omega) (base_le HB.out) ?_; intro ao' c' w1 ho' hg'; have HO' := Lib.hid ho'; have HG' := Lib.hid hg'; clear ho' hg')
          go_roundw
          case rel => exact ⟨k + 1, acc ++ [z], ao', c', _, rfl, by go_num, by simp, by simp; exact HAK.out, by omega, by omega, by_snoc HALL.out zb.1 zb.2, HO'.out, below_app1 HB.out HO.out HG'.out⟩
          case measure => simp [intOf]; omega
        · have h3' : (3000 : Int) ≤ k := by omega
          go_wp2
          go_ret
          exact fin.out _ rfl
      · have hbl : decide (k < code.length) = false := by simpa using hlt
        go_wp2
        go_ret
        exact fin.out _ rfl
end Go.Proofs.YtfpbhedophlnkaaGreatDoor
namespace Go.Proofs.YtfpbhedophlnkaaGreatDoor
open Go.RowKit
set_option linter.unusedSimpArgs false
set_option linter.unusedVariables false

theorem below_cur {w w1 w2 : World} {g : Nat} (h : Below w.heap.size w w1) (hg : w.heap.size ≤ g) (k : w1.grownBy w2 (some g)) : Below w.heap.size w w2 :=
  h.grown k h.size (by intro r hr; injection hr with hr; omega)

def ListP (w : World) (e : Ending) (w' : World) : Prop :=
  ∃ (l : List Int) (ao : Option Addr) (c : Nat), e = .returned (.slice ao l.length c) ∧ l.length ≤ 301 ∧ (∀ z ∈ l, -1000001 ≤ z ∧ z ≤ 1000001) ∧ Own w' w.heap.size 3 .i64 ao c l ∧ Below w.heap.size w w'
def TextP (w : World) (e : Ending) (w' : World) : Prop := ∃ s : ByteArray, s.size ≤ 100 ∧ e = .returned (.string s) ∧ Below w.heap.size w w'
def BytesRel (w wr : World) (g : Nat) (xo : Option Addr) (d : Nat) (code : List Int) (m : Nat) (v i : Value) : Prop :=
  ∃ (k : Nat) (acc : List Int) (ao : Option Addr) (c n : Nat), v = .slice ao n c ∧ i = .int .i64 k ∧ n = acc.length ∧ acc.length = k ∧ k ≤ m ∧ By acc ∧ Own wr w.heap.size 5 .u8 ao c acc ∧ Drew w g xo d code wr
def BytesP (w : World) (g : Nat) (xo : Option Addr) (d : Nat) (code : List Int) (m : Nat) (e : Ending) (w' : World) : Prop :=
  ∃ (l : List Int) (ao : Option Addr) (c : Nat), e = .returned (.slice ao l.length c) ∧ l.length ≤ m ∧ By l ∧ Own w' w.heap.size 5 .u8 ao c l ∧ Drew w g xo d code w'
end Go.Proofs.YtfpbhedophlnkaaGreatDoor
namespace Go.Proofs.YtfpbhedophlnkaaGreatDoor
open Go.RowKit
set_option linter.unusedSimpArgs false
set_option linter.unusedVariables false

def unf (u : Int) : Int := if u % 2 = 0 then u / 2 else -((u + 1) / 2)
/-- The number whose first k groups are u, read on from place a + k with at most f groups more; and the place behind it. -/
def goN (l : List Int) (a : Nat) : Nat → Nat → Int → Int × Int
  | 0, _, _ => (0, -1)
  | f + 1, k, u =>
    match l[a + k]? with
    | none => (0, -1)
    | some v => if 128 ≤ v then goN l a f (k + 1) (u + v % 128 * 128 ^ k) else if (v = 0 ∧ 0 < k) ∨ 2000000 < u + v % 128 * 128 ^ k then (0, -1) else (unf (u + v % 128 * 128 ^ k), ((a + k + 1 : Nat) : Int))
def takeN (l : List Int) (at_ : Int) : Int × Int := if at_ < 0 then (0, -1) else goN l at_.toNat 3 0 0

theorem goN_out {l : List Int} {a f k : Nat} {u : Int} (h : l.length ≤ a + k) : goN l a f k u = (0, -1) := by
  cases f with
  | zero => rfl
  | succ f => rw [goN, List.getElem?_eq_none h]
theorem goN_more {l : List Int} {a f k : Nat} {u v : Int} (h : l[a + k]? = some v) (hv : 128 ≤ v) : goN l a (f + 1) k u = goN l a f (k + 1) (u + v % 128 * 128 ^ k) := by
  rw [goN, h]; simp only; rw [if_pos hv]
theorem goN_bad {l : List Int} {a f k : Nat} {u v : Int} (h : l[a + k]? = some v) (hv : v < 128) (hb : (v = 0 ∧ 0 < k) ∨ 2000000 < u + v % 128 * 128 ^ k) : goN l a (f + 1) k u = (0, -1) := by
  rw [goN, h]; simp only; rw [if_neg (by omega), if_pos hb]
theorem goN_ok {l : List Int} {a f k : Nat} {u v : Int} (h : l[a + k]? = some v) (hv : v < 128) (hb : ¬ ((v = 0 ∧ 0 < k) ∨ 2000000 < u + v % 128 * 128 ^ k)) : goN l a (f + 1) k u = (unf (u + v % 128 * 128 ^ k), ((a + k + 1 : Nat) : Int)) := by
  rw [goN, h]; simp only; rw [if_neg (by omega), if_neg hb]
theorem goN_last {l : List Int} (hl : By l) (a : Nat) {u : Int} (hu : 0 ≤ u) : goN l a 1 3 u = (0, -1) := by
  rcases Nat.lt_or_ge (a + 3) l.length with h | h
  · have hv := List.getElem?_eq_getElem h
    have hb := hl _ (List.getElem_mem h)
    by_cases h1 : 128 ≤ l[a + 3]
    · rw [goN_more hv h1]; rfl
    · refine goN_bad hv (by omega) ?_
      have e : (128 : Int) ^ 3 = 2097152 := by decide
      rw [e]
      by_cases h0 : l[a + 3] = 0
      · left; exact ⟨h0, by omega⟩
      · right; omega
  · exact goN_out h
theorem goN_ext {l : List Int} (hl : By l) (a : Nat) : ∀ (f k : Nat) (u : Int), k + f = 3 → 0 ≤ u → goN l a (f + 1) k u = goN l a f k u
  | 0, k, u, hk, hu => by
    obtain rfl : k = 3 := by omega
    rw [goN_last hl a hu]; rfl
  | f + 1, k, u, hk, hu => by
    rcases Nat.lt_or_ge (a + k) l.length with h | h
    · have hv := List.getElem?_eq_getElem h
      have hb := hl _ (List.getElem_mem h)
      by_cases h1 : 128 ≤ l[a + k]
      · rw [goN_more hv h1, goN_more hv h1]
        refine goN_ext hl a f (k + 1) _ (by omega) ?_
        have : (0 : Int) ≤ l[a + k] % 128 * 128 ^ k := Int.mul_nonneg (by omega) (Int.pow_nonneg (by decide))
        omega
      · by_cases h2 : (l[a + k] = 0 ∧ 0 < k) ∨ 2000000 < u + l[a + k] % 128 * 128 ^ k
        · rw [goN_bad hv (by omega) h2, goN_bad hv (by omega) h2]
        · rw [goN_ok hv (by omega) h2, goN_ok hv (by omega) h2]
    · rw [goN_out h, goN_out h]
theorem unf_bd {u : Int} (h0 : 0 ≤ u) (h1 : u ≤ 2000000) : -1000000 ≤ unf u ∧ unf u ≤ 1000000 := by unfold unf; split <;> omega
theorem unf_out {u : Int} (h1 : 2000000 < u) : ¬ (-1000000 ≤ unf u ∧ unf u ≤ 1000000) := by unfold unf; split <;> omega
theorem goN_bd {l : List Int} (hl : By l) (a : Nat) : ∀ (f k : Nat) (u : Int), 0 ≤ u →
    -1000000 ≤ (goN l a f k u).1 ∧ (goN l a f k u).1 ≤ 1000000 ∧ ((goN l a f k u).2 = -1 ∨ ((a + k : Nat) : Int) < (goN l a f k u).2 ∧ (goN l a f k u).2 ≤ l.length) ∧ ((goN l a f k u).2 = -1 → (goN l a f k u).1 = 0)
  | 0, k, u, hu => by simp [goN]
  | f + 1, k, u, hu => by
    rcases Nat.lt_or_ge (a + k) l.length with h | h
    · have hv := List.getElem?_eq_getElem h
      have hb := hl _ (List.getElem_mem h)
      have hp : (0 : Int) ≤ l[a + k] % 128 * 128 ^ k := Int.mul_nonneg (by omega) (Int.pow_nonneg (by decide))
      by_cases h1 : 128 ≤ l[a + k]
      · rw [goN_more hv h1]
        have := goN_bd hl a f (k + 1) (u + l[a + k] % 128 * 128 ^ k) (by omega)
        refine ⟨this.1, this.2.1, ?_, this.2.2.2⟩
        rcases this.2.2.1 with h2 | h2
        · exact .inl h2
        · exact .inr ⟨by omega, h2.2⟩
      · by_cases h2 : (l[a + k] = 0 ∧ 0 < k) ∨ 2000000 < u + l[a + k] % 128 * 128 ^ k
        · rw [goN_bad hv (by omega) h2]; simp
        · rw [goN_ok hv (by omega) h2]
          have := unf_bd (u := u + l[a + k] % 128 * 128 ^ k) (by omega) (by omega)
          refine ⟨this.1, this.2, .inr ⟨by simp only; omega, by simp only; omega⟩, by simp only; omega⟩
    · rw [goN_out h]; simp
theorem takeN_bd {l : List Int} (hl : By l) (at_ : Int) :
    -1000000 ≤ (takeN l at_).1 ∧ (takeN l at_).1 ≤ 1000000 ∧ ((takeN l at_).2 = -1 ∨ 0 ≤ at_ ∧ at_ < (takeN l at_).2 ∧ (takeN l at_).2 ≤ l.length) ∧ ((takeN l at_).2 = -1 → (takeN l at_).1 = 0) := by
  unfold takeN
  split
  · simp
  · have := goN_bd hl at_.toNat 3 0 0 (by omega)
    refine ⟨this.1, this.2.1, ?_, this.2.2.2⟩
    rcases this.2.2.1 with h2 | h2
    · exact .inl h2
    · exact .inr ⟨by omega, by omega, h2.2⟩
end Go.Proofs.YtfpbhedophlnkaaGreatDoor
