/-
  Plain facts on rows of integers that are compared, filled and marked. No walk. Contracts of the helpers over slices of int: eqIntS, markIntS, toIntS, heldIntS. For every slice of int. Contracts of the helpers over nodes: szIntS, szNode, toNode, eqNode. For every node.
-/
import Derived.Test.YtfpbhedophlnkaaGreatDoorRows
import Derived.Test.YtfpbhedophlnkaaGreatDoorJR3x
import Derived.WalkKit
import Derived.WalkSpells
import Derived.WalkLawsBesides
import Derived.Deep.QuietTactic
import Derived.BigQuiet
import Derived.Test.YtfpbhedophlnkaaGreatDoorJR4x
namespace Go.Proofs.YtfpbhedophlnkaaGreatDoor
open Go.RowKit
set_option linter.unusedSimpArgs false
set_option linter.unusedVariables false

def eqL (a b : List Int) : Bool := decide (a = b)

theorem eqL_no {l m : List Int} {j : Nat} {x y : Int} (h : ¬ x = y) (hx : l[j]? = some x) (hy : m[j]? = some y) : eqL l m = false := by
  unfold eqL; simp; rintro rfl; rw [hx] at hy; exact h (by injection hy)
theorem eqL_yes {l m : List Int} {j : Nat} (h : l.length = m.length) (hj : l.length ≤ j) (ht : l.take j = m.take j) : eqL l m = true := by
  unfold eqL; simp; rw [List.take_of_length_le hj, List.take_of_length_le (by omega)] at ht; exact ht
theorem eqL_refl (l : List Int) : eqL l l = true := by unfold eqL; simp
theorem below_drewN {B : Nat} {a w : World} (h : Below B a w) (n : Nat) : Below B a (w.drewN n) := ⟨h.os, h.tape, h.output, h.size, h.block⟩

def fillL (l : List Int) (k : Nat) : List Int := l.take k ++ List.replicate (l.length - k) 0
theorem fillL_zero (l : List Int) : fillL l 0 = List.replicate l.length 0 := by simp [fillL]
theorem fillL_len (l : List Int) (k : Nat) (h : k ≤ l.length) : (fillL l k).length = l.length := by simp [fillL]; omega
theorem fillL_all (l : List Int) (k : Nat) (h : l.length ≤ k) : fillL l k = l := by
  simp [fillL, List.take_of_length_le h, Nat.sub_eq_zero_of_le h]
theorem fillL_step (l : List Int) (k : Nat) (z : Int) (h : k < l.length) (ht : l.take (k + 1) = l.take k ++ [z]) : (fillL l k).set k z = fillL l (k + 1) := by
  have e : l.length - k = (l.length - (k + 1)) + 1 := by omega
  have hk : (l.take k).length = k := by simp; omega
  simp only [fillL]
  rw [ht, e, List.replicate_succ, List.set_append_right _ _ (by omega), hk, Nat.sub_self]
  simp
theorem map_set_int (k : IntKind) (l : List Int) (i : Nat) (z : Int) : (l.map (Value.int k)).set i (.int k z) = (l.set i z).map (Value.int k) := by
  rw [List.map_set]
theorem made_ints (k : IntKind) (n : Nat) : (madeCells (Value.int k 0).cells (n * 1)).toList = (List.replicate n (0 : Int)).map (Value.int k) := by
  rw [Nat.mul_one, show (Value.int k 0).cells = #[.int k 0] from rfl, toList_madeCells_one]; simp
theorem Tryz.infoI64 : (Tryz.prog.info? 3).map (fun i => (i.zero, i.size, i.bytes)) = some (some (.int .i64 0), 1, 8) := by kernel_rfl

theorem toS_round {w wr : World} {e : TypeId} {k : IntKind} {g : Nat} {l : List Int} {j : Nat} {z : Int} (hj : j < l.length) (ht : l.take (j + 1) = l.take j ++ [z]) (hg : w.heap.size ≤ g)
    (ho : wr.ownsRow w.heap.size e 1 (.slice (some ⟨g, 0, none⟩) l.length l.length) l.length ((fillL l j).map (Value.int k))) (hb : Below w.heap.size w wr) :
    (wr.setCell ⟨g, j, none⟩ (.int k z)).ownsRow w.heap.size e 1 (.slice (some ⟨g, 0, none⟩) l.length l.length) l.length ((fillL l (j + 1)).map (Value.int k)) ∧ Below w.heap.size w (wr.setCell ⟨g, j, none⟩ (.int k z)) := by
  have h1 := (ho.stored j (.int k z)).1
  rw [map_set_int, fillL_step l j z hj ht] at h1
  exact ⟨h1, hb.setCell hg _⟩
theorem toS_cell {w wr : World} {e : TypeId} {k : IntKind} {g : Nat} {l : List Int} {j : Nat} (hj : j < l.length)
    (ho : wr.ownsRow w.heap.size e 1 (.slice (some ⟨g, 0, none⟩) l.length l.length) l.length ((fillL l j).map (Value.int k))) : ∃ y, wr.cell? ⟨g, j, none⟩ = some (.int k y) := by
  have h := ho.cellAt j (by omega)
  have hl : j < (fillL l j).length := by rw [fillL_len l j (by omega)]; exact hj
  rw [List.getElem?_map, List.getElem?_eq_getElem hl] at h
  exact ⟨_, h⟩

/-- What marking lays into n cells from the number m on. -/
def marksL (f : Int → Int) (m : Int) (n : Nat) : List Int := (List.range n).map fun (i : Nat) => f (m + (i : Int))
theorem marksL_len (f : Int → Int) (m : Int) (n : Nat) : (marksL f m n).length = n := by simp [marksL]
theorem marksL_succ (f : Int → Int) (m : Int) (n : Nat) : marksL f m (n + 1) = marksL f m n ++ [f (m + (n : Int))] := by simp [marksL, List.range_succ]
theorem marksL_get (f : Int → Int) (m : Int) (n i : Nat) (h : i < n) : (marksL f m n)[i]? = some (f (m + (i : Int))) := by simp [marksL, h]
theorem marks_step (f : Int → Int) (m : Int) (l : List Int) (j : Nat) (h : j < l.length) : (marksL f m j ++ l.drop j).set j (f (m + (j : Int))) = marksL f m (j + 1) ++ l.drop (j + 1) := by
  rw [List.set_append_right _ _ (by rw [marksL_len]; exact Nat.le_refl _), marksL_len, Nat.sub_self, marksL_succ, List.append_assoc, List.drop_eq_getElem_cons h]
  rfl
def Marked (w : World) (f : Int → Int) (k : IntKind) (ao : Option Addr) (n : Nat) (m : Int) (en : Ending) (w' : World) : Prop :=
  en = .returned (.int .i64 (m + n)) ∧ Rd w' k ao (marksL f m n) ∧ w.grownBy w' (ao.map (·.block))
def MarkRel (w wr : World) (base : Nat) (e : TypeId) (k : IntKind) (f : Int → Int) (m : Int) (g : Nat) (c : Nat) (l : List Int) (j : Nat) : Prop :=
  wr.ownsRow base e 1 (.slice (some ⟨g, 0, none⟩) l.length c) l.length ((marksL f m j ++ l.drop j).map (Value.int k)) ∧ w.grownBy wr (some g)
theorem MarkRel.cell {w wr : World} {base : Nat} {e : TypeId} {k : IntKind} {f : Int → Int} {m : Int} {g c : Nat} {l : List Int} {j : Nat} (h : MarkRel w wr base e k f m g c l j) (hj : j < l.length) :
    ∃ y, wr.cell? ⟨g, j, none⟩ = some (.int k y) := by
  have h1 := h.1.cellAt j (by omega)
  have hl : j < (marksL f m j ++ l.drop j).length := by simp [marksL_len]; omega
  rw [List.getElem?_map, List.getElem?_eq_getElem hl] at h1
  exact ⟨_, h1⟩
theorem MarkRel.step {w wr : World} {base : Nat} {e : TypeId} {k : IntKind} {f : Int → Int} {m : Int} {g c : Nat} {l : List Int} {j : Nat} (h : MarkRel w wr base e k f m g c l j) (hj : j < l.length) :
    MarkRel w (wr.setCell ⟨g, j, none⟩ (.int k (f (m + (j : Int))))) base e k f m g c l (j + 1) := by
  have h1 := h.1.stored j (.int k (f (m + (j : Int))))
  rw [map_set_int, marks_step f m l j hj] at h1
  refine ⟨h1.1, ⟨h1.2.os.trans h.2.os, h1.2.tape.trans h.2.tape, h1.2.output.trans h.2.output, Nat.le_trans h.2.size h1.2.size, fun i hi hne => (h1.2.block i (Nat.lt_of_lt_of_le hi h.2.size) hne).trans (h.2.block i hi hne)⟩⟩
theorem MarkRel.done {w wr : World} {base : Nat} {e : TypeId} {k : IntKind} {f : Int → Int} {m : Int} {g c : Nat} {l : List Int} {j : Nat} (h : MarkRel w wr base e k f m g c l j) (hj : j = l.length) :
    Rd wr k (some ⟨g, 0, none⟩) (marksL f m l.length) := by
  subst hj
  refine .inr ⟨g, 0, rfl, fun i hi => ?_⟩
  rw [marksL_len] at hi
  rw [Nat.zero_add, h.1.cellAt i (by omega), List.drop_length, List.append_nil, List.getElem?_map, List.getD_eq_getElem?_getD, marksL_get f m _ i hi]; rfl

end Go.Proofs.YtfpbhedophlnkaaGreatDoor
namespace Go.Proofs.YtfpbhedophlnkaaGreatDoor
open Go.RowKit
set_option linter.unusedSimpArgs false
set_option linter.unusedVariables false

set_option maxHeartbeats 800000 in
theorem eqIntS_any (a b : Option Addr) (c d : Nat) (l m : List Int) (w : World) (h : Rd w .i64 a l) (k : Rd w .i64 b m) (hn : l.length ≤ maxLen) (hm : m.length ≤ maxLen) :
    Calls Tryz.prog 214 #[.slice a l.length c, .slice b m.length d] w fun e w' => e = .returned (.bool (eqL l m)) ∧ Below w.heap.size w w' := by
  unfold maxLen at hn hm
  by_cases hlen : l.length = m.length
  · have hne : ((l.length : Int) != (m.length : Int)) = false := by simp [hlen]
    have HL := Lib.hid hlen; clear hlen
    rcases h with rfl | ⟨b1, o1, rfl, hc⟩
    · have hm0 : m = [] := List.eq_nil_of_length_eq_zero HL.out.symm
      subst hm0
      clear hne
      go_enter Tryz.func214, Tryz.ntmps214
      go_wp2
      refine wp_loop_rounds 1 ?_; rw [rounds_succ]; go_wp2
      go_ret
      exact ⟨rfl, Below.refl _ _⟩
    · rcases k with rfl | ⟨b2, o2, rfl, kc⟩
      · have hl0 : l = [] := List.eq_nil_of_length_eq_zero HL.out
        subst hl0
        clear hne hc
        go_enter Tryz.func214, Tryz.ntmps214
        go_wp2
        refine wp_loop_rounds 1 ?_; rw [rounds_succ]; go_wp2
        go_ret
        exact ⟨rfl, Below.refl _ _⟩
      · have HC := Lib.hid hc; have KC := Lib.hid kc; clear hc kc
        go_enter Tryz.func214, Tryz.ntmps214
        go_wp2
        go_loopw [5] (fun i wr => ∃ j q : Nat, j ≤ l.length ∧ i = .int .i64 j ∧ l.take j = m.take j ∧ wr = w.drewN q) (fun i _ => l.length - (intOf i).toNat)
        case atStart => exact ⟨0, 0, Nat.zero_le _, rfl, rfl, rfl⟩
        case round =>
          obtain ⟨j, q, hj, rfl, ht, rfl⟩ := hrel
          have HT := Lib.hid ht; clear ht
          by_cases hlt : j < l.length
          · have hlt2 : j < m.length := by have := HL.out; omega
            obtain ⟨x, _, hx, hcx, htx⟩ := Rd.at_ HC.out hlt
            obtain ⟨y, _, hy, hcy, hty⟩ := Rd.at_ KC.out hlt2
            have X := Lib.hid hx; have Y := Lib.hid hy; have TX := Lib.hid htx; have TY := Lib.hid hty
            clear hx hy htx hty
            have i1 : (j : Int) < (l.length : Int) := by omega
            have i2 : (j : Int) < (m.length : Int) := by omega
            by_cases hxy : x = y
            · subst hxy
              have hb : (x != x) = false := by simp
              go_wp2
              go_quiet (fail)
              go_wp2
              go_roundw
              case rel => exact ⟨j + 1, _, by omega, by go_num, by rw [TX.out, TY.out, HT.out], by first | rfl | rw [World.drewN_drewN]⟩
              case measure => simp [intOf]; omega
            · have hb : (x != y) = true := by simp [hxy]
              have HF := Lib.hid (eqL_no hxy X.out Y.out)
              clear hxy
              go_wp2
              go_quiet (fail)
              go_wp2
              go_ret
              exact ⟨ret_bool HF.out.symm, by first | exact below_drewN (Below.refl _ _) _ | exact below_drewN (below_drewN (Below.refl _ _) _) _⟩
          · go_wp2
            go_ret
            exact ⟨ret_bool (eqL_yes HL.out (by omega) HT.out).symm, below_drewN (Below.refl _ _) _⟩
  · have hne : ((l.length : Int) != (m.length : Int)) = true := by simp; omega
    have HF : Hid (eqL l m = false) := by
      show eqL l m = false
      unfold eqL; simp; rintro rfl; exact hlen rfl
    go_enter Tryz.func214, Tryz.ntmps214
    go_wp2
    go_ret
    exact ⟨ret_bool HF.out.symm, Below.refl _ _⟩
set_option maxHeartbeats 800000 in
theorem markIntS_any (base : Nat) (ao : Option Addr) (c : Nat) (l : List Int) (m : Int) (w : World) (h : Own w base 3 .i64 ao c l) (h0 : 0 ≤ m) (hm : m + l.length ≤ 4611686018427387904) :
    Calls Tryz.prog 143 #[.slice ao l.length c, .int .i64 m] w (Marked w id .i64 ao l.length m) := by
  rcases h.form with ⟨rfl, rfl, rfl⟩ | ⟨g, rfl, _⟩
  · go_enter Tryz.func143, Tryz.ntmps143
    go_wp2
    refine wp_loop_rounds 1 ?_; rw [rounds_succ]; go_wp2
    go_ret
    exact ⟨ret_int (by simp), .inl rfl, World.grownBy.refl _ _⟩
  · have hs : MarkRel w w base 3 .i64 id m g c l 0 := ⟨by have h' := h; unfold Own at h'; simpa [marksL] using h', World.grownBy.refl _ _⟩
    clear h
    go_enter Tryz.func143, Tryz.ntmps143
    go_wp2
    go_loopw [1, 5] (fun q i wr => ∃ j : Nat, j ≤ l.length ∧ i = .int .i64 j ∧ q = .int .i64 (m + j) ∧ MarkRel w wr base 3 .i64 id m g c l j) (fun _ i _ => l.length - (intOf i).toNat)
    case atStart => exact ⟨0, Nat.zero_le _, rfl, by simp, hs⟩
    case round =>
      clear hs
      obtain ⟨j, hj, rfl, rfl, hr⟩ := hrel
      by_cases hlt : j < l.length
      · obtain ⟨y, hy⟩ := hr.cell hlt
        have hf := hr.1.frozenAt j
        have R := Lib.hid (hr.step hlt)
        clear hr
        go_wp2
        go_roundw
        case rel => exact ⟨j + 1, by omega, by go_num, by go_num, R.out⟩
        case measure => simp [intOf]; omega
      · have e : j = l.length := by omega
        have D := Lib.hid (hr.done e)
        have G := Lib.hid hr.2
        clear hr
        subst e
        go_wp2
        go_ret
        exact ⟨rfl, D.out, G.out⟩

set_option maxHeartbeats 800000 in
theorem heldIntS_any (ao : Option Addr) (c n : Nat) (m : Int) (w : World) (h : Rd w .i64 ao (marksL id m n)) (h0 : 0 ≤ m) (hm : m + n ≤ 4611686018427387904) :
    Calls Tryz.prog 144 #[.slice ao n c, .int .i64 m] w fun e w' => e = .returned (.int .i64 (m + n)) ∧ w = w' := by
  rcases h with h | ⟨b, off, rfl, hc⟩
  · have hn : n = 0 := by have := congrArg List.length h; rw [marksL_len] at this; simpa using this
    subst hn
    clear h
    go_enter Tryz.func144, Tryz.ntmps144
    go_wp2
    refine wp_loop_rounds 1 ?_; rw [rounds_succ]; go_wp2
    go_ret
    exact ⟨ret_int (by simp), rfl⟩
  · have hc' : ∀ i : Nat, i < n → w.cell? ⟨b, off + i, none⟩ = some (.int .i64 (id (m + (i : Int)))) := by
      intro i hi
      rw [hc i (by rw [marksL_len]; exact hi), List.getD_eq_getElem?_getD, marksL_get _ _ _ _ hi]; rfl
    have HC := Lib.hid hc'; clear hc hc'
    go_enter Tryz.func144, Tryz.ntmps144
    go_wp2
    go_loop [1, 5] (fun q i => ∃ j : Nat, j ≤ n ∧ i = .int .i64 j ∧ q = .int .i64 (m + j)) (fun _ i => n - (intOf i).toNat)
    case atStart => exact ⟨0, Nat.zero_le _, rfl, by simp⟩
    case round =>
      obtain ⟨j, hj, rfl, rfl⟩ := hrel
      by_cases hlt : j < n
      · have hcz := HC.out j hlt
        go_wp2
        go_round
        case rel => exact ⟨j + 1, by omega, by go_num, by go_num⟩
        case measure => simp [intOf]; omega
      · obtain rfl : j = n := by omega
        go_wp2
        go_ret
        exact ⟨rfl, rfl⟩
end Go.Proofs.YtfpbhedophlnkaaGreatDoor
namespace Go.Proofs.YtfpbhedophlnkaaGreatDoor
open Go.RowKit
set_option linter.unusedSimpArgs false
set_option linter.unusedVariables false

theorem Own.far {w : World} {base : Nat} {e : TypeId} {k : IntKind} {ao : Option Addr} {c : Nat} {l : List Int} {p : Addr} (h : Own w base e k ao c l) (hp : ∀ x, ao = some x → x.block ≠ p.block) (u : Value) :
    Own (w.setCell p u) base e k ao c l := h.keep fun a ha _ => Below.heap_setCell w p u a.block (hp a ha)
theorem bcell {W w1 : World} (hb : Below W.heap.size W w1) :
    (∀ b o, b < W.heap.size → w1.cell? ⟨b, o, none⟩ = W.cell? ⟨b, o, none⟩) ∧ (∀ b o, b < W.heap.size → w1.frozen? ⟨b, o, none⟩ = W.frozen? ⟨b, o, none⟩) :=
  ⟨fun b o h => hb.cell (p := ⟨b, o, none⟩) h, fun b o h => hb.frozen (p := ⟨b, o, none⟩) h⟩

/-- What is left behind a node. -/
def szN (n : Nd) (left : Int) : Int :=
  if left < (n.name.size : Int) then -1 else if left - (n.name.size : Int) < (n.cols.length : Int) then -1 else left - n.name.size - n.cols.length

/-- The call returned the node n, its columns in memory of its own. -/
def MadeNd (w : World) (n : Nd) (en : Ending) (w' : World) : Prop :=
  ∃ a c, en = .returned (.agg #[.int .i64 n.kind, .string n.name, .int .i64 n.col, .int .i64 n.op, .int .i64 n.num, .bool n.slot, .slice a n.cols.length c]) ∧ Own w' w.heap.size 3 .i64 a c n.cols ∧ Below w.heap.size w w'

end Go.Proofs.YtfpbhedophlnkaaGreatDoor
