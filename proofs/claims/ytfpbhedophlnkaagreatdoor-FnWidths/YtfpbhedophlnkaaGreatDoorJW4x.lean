/-
  Words for slices of nodes in memory: what a node's seven cells read as, what a slice of nodes reads as, what of it the call itself owns. No program, no walk. Plain facts on rows of integers that are compared, filled and marked. No walk. Contracts of the helpers over slices of int: eqIntS, markIntS, toIntS, heldIntS. For every slice of int. Contracts of the helpers over nodes: szIntS, szNode, toNode, eqNode. For every node. Contract of markText: it answers one text for one number. For every number that is not too great. Words for slices of strings in memory: what a slice reads as, what the call itself owns, and how both are carried from world to world. No walk.
-/
import Derived.Test.YtfpbhedophlnkaaGreatDoorJW3x
import Derived.Test.YtfpbhedophlnkaaGreatDoorRows
import Derived.WalkKit
import Derived.WalkSpells
import Derived.WalkLawsBesides
import Derived.Deep.QuietTactic
import Derived.BigQuiet
import Derived.Laws.Strings
import Derived.Laws.IdiomStrings
namespace Go.Proofs.YtfpbhedophlnkaaGreatDoor
open Go.RowKit
set_option linter.unusedSimpArgs false
set_option linter.unusedVariables false

/-- The seven cells at place o of block b read as the node n, its columns behind the address a. -/
structure NdAt (w : World) (b o : Nat) (n : Nd) (a : Option Addr) (c : Nat) : Prop where
  c0 : w.cell? ⟨b, o, none⟩ = some (.int .i64 n.kind)
  c1 : w.cell? ⟨b, o + 1, none⟩ = some (.string n.name)
  c2 : w.cell? ⟨b, o + 2, none⟩ = some (.int .i64 n.col)
  c3 : w.cell? ⟨b, o + 3, none⟩ = some (.int .i64 n.op)
  c4 : w.cell? ⟨b, o + 4, none⟩ = some (.int .i64 n.num)
  c5 : w.cell? ⟨b, o + 5, none⟩ = some (.bool n.slot)
  c6 : w.cell? ⟨b, o + 6, none⟩ = some (.slice a n.cols.length c)
  rd : Rd w .i64 a n.cols
  cap : n.cols.length ≤ c
  mx : c ≤ maxLen
  nm : n.name.size ≤ maxLen

/-- The slice that begins at 'ao' reads as the nodes l. -/
def RdN (w : World) (ao : Option Addr) (l : List Nd) : Prop :=
  l = [] ∨ ∃ b off, ao = some ⟨b, off, none⟩ ∧ ∀ i n, l[i]? = some n → ∃ a c, NdAt w b (off + i * 7) n a c

section
variable {w w' : World} {b o : Nat} {n : Nd} {a ao : Option Addr} {c : Nat} {l : List Nd}

theorem NdAt.lt (h : NdAt w b o n a c) : b < w.heap.size := World.block_lt_of_cell? w ⟨b, o, none⟩ h.c0
theorem NdAt.below (h : NdAt w b o n a c) (hb : Below w.heap.size w w') : NdAt w' b o n a c :=
  ⟨(hb.cell (p := ⟨b, o, none⟩) h.lt).trans h.c0, (hb.cell (p := ⟨b, o + 1, none⟩) h.lt).trans h.c1, (hb.cell (p := ⟨b, o + 2, none⟩) h.lt).trans h.c2, (hb.cell (p := ⟨b, o + 3, none⟩) h.lt).trans h.c3,
   (hb.cell (p := ⟨b, o + 4, none⟩) h.lt).trans h.c4, (hb.cell (p := ⟨b, o + 5, none⟩) h.lt).trans h.c5, (hb.cell (p := ⟨b, o + 6, none⟩) h.lt).trans h.c6, h.rd.below hb, h.cap, h.mx, h.nm⟩
theorem RdN.nil : RdN w ao [] := .inl rfl
theorem RdN.below (h : RdN w ao l) (hb : Below w.heap.size w w') : RdN w' ao l := by
  rcases h with h | ⟨b, off, rfl, hc⟩
  · exact .inl h
  · refine .inr ⟨b, off, rfl, fun i n hi => ?_⟩
    obtain ⟨a, c, hn⟩ := hc i n hi
    exact ⟨a, c, hn.below hb⟩
theorem RdN.at_ (h : RdN w ao l) {i : Nat} (hi : i < l.length) : ∃ b off n a c, ao = some ⟨b, off, none⟩ ∧ l[i]? = some n ∧ NdAt w b (off + i * 7) n a c := by
  rcases h with rfl | ⟨b, off, rfl, hc⟩
  · simp at hi
  · obtain ⟨a, c, hn⟩ := hc i _ (List.getElem?_eq_getElem hi)
    exact ⟨b, off, _, a, c, rfl, List.getElem?_eq_getElem hi, hn⟩
/-- A part of a slice of nodes. -/
theorem RdN.part {b off : Nat} (h : RdN w (some ⟨b, off, none⟩) l) (k m : Nat) : RdN w (some ⟨b, off + k * 7, none⟩) ((l.drop k).take m) := by
  rcases h with rfl | ⟨b', off', he, hc⟩
  · left; simp
  · simp only [Option.some.injEq, Addr.mk.injEq, and_true] at he
    obtain ⟨rfl, rfl⟩ := he
    refine .inr ⟨b, _, rfl, fun i n hi => ?_⟩
    rw [List.getElem?_take] at hi
    split at hi
    · rw [List.getElem?_drop] at hi
      obtain ⟨a, c, hn⟩ := hc _ _ hi
      refine ⟨a, c, ?_⟩
      rw [show off + k * 7 + i * 7 = off + (k + i) * 7 by omega]
      exact hn
    · cases hi
end
end Go.Proofs.YtfpbhedophlnkaaGreatDoor
namespace Go.Proofs.YtfpbhedophlnkaaGreatDoor
open Go.RowKit
set_option linter.unusedSimpArgs false
set_option linter.unusedVariables false

def eqL (a b : List Int) : Bool := decide (a = b)

theorem eqL_no {l m : List Int} {j : Nat} {x y : Int} (h : ¬ x = y) (hx : l[j]? = some x) (hy : m[j]? = some y) : eqL l m = false := by
  unfold eqL; simp; rintro rfl; rw [hx] at hy; exact h (by injection hy)
theorem eqL_yes {l m : List Int} {j : Nat} (h : l.length = m.length) (hj : l.length ≤ j) (ht : l.take j = m.take j) : eqL l m = true := by
  unfold eqL; simp; rw [List.take_of_length_le hj, List.take_of_length_le (by omega)] at ht; exact ht
theorem eqL_refl (l : List Int) : eqL l l = true := by unfold eqL; simp
theorem below_drewN {B : Nat} {a w : World} (h : Below B a w) (n : Nat) : Below B a (w.drewN n) := ⟨h.os, h.tape, h.output, h.size, h.block⟩

def fillL (l : List Int) (k : Nat) : List Int := l.take k ++ List.replicate (l.length - k) 0
theorem fillL_zero (l : List Int) : fillL l 0 = List.replicate l.length 0 := by simp [fillL]
theorem fillL_len (l : List Int) (k : Nat) (h : k ≤ l.length) : (fillL l k).length = l.length := by simp [fillL]; omega
theorem fillL_all (l : List Int) (k : Nat) (h : l.length ≤ k) : fillL l k = l := by
  simp [fillL, List.take_of_length_le h, Nat.sub_eq_zero_of_le h]
theorem fillL_step (l : List Int) (k : Nat) (z : Int) (h : k < l.length) (ht : l.take (k + 1) = l.take k ++ [z]) : (fillL l k).set k z = fillL l (k + 1) := by
  have e : l.length - k = (l.length - (k + 1)) + 1 := by omega
  have hk : (l.take k).length = k := by simp; omega
  simp only [fillL]
  rw [ht, e, List.replicate_succ, List.set_append_right _ _ (by omega), hk, Nat.sub_self]
  simp
theorem map_set_int (k : IntKind) (l : List Int) (i : Nat) (z : Int) : (l.map (Value.int k)).set i (.int k z) = (l.set i z).map (Value.int k) := by
  rw [List.map_set]
theorem made_ints (k : IntKind) (n : Nat) : (madeCells (Value.int k 0).cells (n * 1)).toList = (List.replicate n (0 : Int)).map (Value.int k) := by
  rw [Nat.mul_one, show (Value.int k 0).cells = #[.int k 0] from rfl, toList_madeCells_one]; simp
theorem Tryz.infoI64 : (Tryz.prog.info? 3).map (fun i => (i.zero, i.size, i.bytes)) = some (some (.int .i64 0), 1, 8) := by kernel_rfl

theorem toS_round {w wr : World} {e : TypeId} {k : IntKind} {g : Nat} {l : List Int} {j : Nat} {z : Int} (hj : j < l.length) (ht : l.take (j + 1) = l.take j ++ [z]) (hg : w.heap.size ≤ g)
    (ho : wr.ownsRow w.heap.size e 1 (.slice (some ⟨g, 0, none⟩) l.length l.length) l.length ((fillL l j).map (Value.int k))) (hb : Below w.heap.size w wr) :
    (wr.setCell ⟨g, j, none⟩ (.int k z)).ownsRow w.heap.size e 1 (.slice (some ⟨g, 0, none⟩) l.length l.length) l.length ((fillL l (j + 1)).map (Value.int k)) ∧ Below w.heap.size w (wr.setCell ⟨g, j, none⟩ (.int k z)) := by
  have h1 := (ho.stored j (.int k z)).1
  rw [map_set_int, fillL_step l j z hj ht] at h1
  exact ⟨h1, hb.setCell hg _⟩
theorem toS_cell {w wr : World} {e : TypeId} {k : IntKind} {g : Nat} {l : List Int} {j : Nat} (hj : j < l.length)
    (ho : wr.ownsRow w.heap.size e 1 (.slice (some ⟨g, 0, none⟩) l.length l.length) l.length ((fillL l j).map (Value.int k))) : ∃ y, wr.cell? ⟨g, j, none⟩ = some (.int k y) := by
  have h := ho.cellAt j (by omega)
  have hl : j < (fillL l j).length := by rw [fillL_len l j (by omega)]; exact hj
  rw [List.getElem?_map, List.getElem?_eq_getElem hl] at h
  exact ⟨_, h⟩

/-- What marking lays into n cells from the number m on. -/
def marksL (f : Int → Int) (m : Int) (n : Nat) : List Int := (List.range n).map fun (i : Nat) => f (m + (i : Int))
theorem marksL_len (f : Int → Int) (m : Int) (n : Nat) : (marksL f m n).length = n := by simp [marksL]
theorem marksL_succ (f : Int → Int) (m : Int) (n : Nat) : marksL f m (n + 1) = marksL f m n ++ [f (m + (n : Int))] := by simp [marksL, List.range_succ]
theorem marksL_get (f : Int → Int) (m : Int) (n i : Nat) (h : i < n) : (marksL f m n)[i]? = some (f (m + (i : Int))) := by simp [marksL, h]
theorem marks_step (f : Int → Int) (m : Int) (l : List Int) (j : Nat) (h : j < l.length) : (marksL f m j ++ l.drop j).set j (f (m + (j : Int))) = marksL f m (j + 1) ++ l.drop (j + 1) := by
  rw [List.set_append_right _ _ (by rw [marksL_len]; exact Nat.le_refl _), marksL_len, Nat.sub_self, marksL_succ, List.append_assoc, List.drop_eq_getElem_cons h]
  rfl
def Marked (w : World) (f : Int → Int) (k : IntKind) (ao : Option Addr) (n : Nat) (m : Int) (en : Ending) (w' : World) : Prop :=
  en = .returned (.int .i64 (m + n)) ∧ Rd w' k ao (marksL f m n) ∧ w.grownBy w' (ao.map (·.block))
def MarkRel (w wr : World) (base : Nat) (e : TypeId) (k : IntKind) (f : Int → Int) (m : Int) (g : Nat) (c : Nat) (l : List Int) (j : Nat) : Prop :=
  wr.ownsRow base e 1 (.slice (some ⟨g, 0, none⟩) l.length c) l.length ((marksL f m j ++ l.drop j).map (Value.int k)) ∧ w.grownBy wr (some g)
theorem MarkRel.cell {w wr : World} {base : Nat} {e : TypeId} {k : IntKind} {f : Int → Int} {m : Int} {g c : Nat} {l : List Int} {j : Nat} (h : MarkRel w wr base e k f m g c l j) (hj : j < l.length) :
    ∃ y, wr.cell? ⟨g, j, none⟩ = some (.int k y) := by
  have h1 := h.1.cellAt j (by omega)
  have hl : j < (marksL f m j ++ l.drop j).length := by simp [marksL_len]; omega
  rw [List.getElem?_map, List.getElem?_eq_getElem hl] at h1
  exact ⟨_, h1⟩
theorem MarkRel.step {w wr : World} {base : Nat} {e : TypeId} {k : IntKind} {f : Int → Int} {m : Int} {g c : Nat} {l : List Int} {j : Nat} (h : MarkRel w wr base e k f m g c l j) (hj : j < l.length) :
    MarkRel w (wr.setCell ⟨g, j, none⟩ (.int k (f (m + (j : Int))))) base e k f m g c l (j + 1) := by
  have h1 := h.1.stored j (.int k (f (m + (j : Int))))
  rw [map_set_int, marks_step f m l j hj] at h1
  refine ⟨h1.1, ⟨h1.2.os.trans h.2.os, h1.2.tape.trans h.2.tape, h1.2.output.trans h.2.output, Nat.le_trans h.2.size h1.2.size, fun i hi hne => (h1.2.block i (Nat.lt_of_lt_of_le hi h.2.size) hne).trans (h.2.block i hi hne)⟩⟩
theorem MarkRel.done {w wr : World} {base : Nat} {e : TypeId} {k : IntKind} {f : Int → Int} {m : Int} {g c : Nat} {l : List Int} {j : Nat} (h : MarkRel w wr base e k f m g c l j) (hj : j = l.length) :
    Rd wr k (some ⟨g, 0, none⟩) (marksL f m l.length) := by
  subst hj
  refine .inr ⟨g, 0, rfl, fun i hi => ?_⟩
  rw [marksL_len] at hi
  rw [Nat.zero_add, h.1.cellAt i (by omega), List.drop_length, List.append_nil, List.getElem?_map, List.getD_eq_getElem?_getD, marksL_get f m _ i hi]; rfl

end Go.Proofs.YtfpbhedophlnkaaGreatDoor
namespace Go.Proofs.YtfpbhedophlnkaaGreatDoor
open Go.RowKit
set_option linter.unusedSimpArgs false
set_option linter.unusedVariables false

set_option maxHeartbeats 800000 in
theorem eqIntS_any (a b : Option Addr) (c d : Nat) (l m : List Int) (w : World) (h : Rd w .i64 a l) (k : Rd w .i64 b m) (hn : l.length ≤ maxLen) (hm : m.length ≤ maxLen) :
    Calls Tryz.prog 214 #[.slice a l.length c, .slice b m.length d] w fun e w' => e = .returned (.bool (eqL l m)) ∧ Below w.heap.size w w' := by
  unfold maxLen at hn hm
  by_cases hlen : l.length = m.length
  · have hne : ((l.length : Int) != (m.length : Int)) = false := by simp [hlen]
    have HL := Lib.hid hlen; clear hlen
    rcases h with rfl | ⟨b1, o1, rfl, hc⟩
    · have hm0 : m = [] := List.eq_nil_of_length_eq_zero HL.out.symm
      subst hm0
      clear hne
      go_enter Tryz.func214, Tryz.ntmps214
      go_wp2
      refine wp_loop_rounds 1 ?_; rw [rounds_succ]; go_wp2
      go_ret
      exact ⟨rfl, Below.refl _ _⟩
    · rcases k with rfl | ⟨b2, o2, rfl, kc⟩
      · have hl0 : l = [] := List.eq_nil_of_length_eq_zero HL.out
        subst hl0
        clear hne hc
        go_enter Tryz.func214, Tryz.ntmps214
        go_wp2
        refine wp_loop_rounds 1 ?_; rw [rounds_succ]; go_wp2
        go_ret
        exact ⟨rfl, Below.refl _ _⟩
      · have HC := Lib.hid hc; have KC := Lib.hid kc; clear hc kc
        go_enter Tryz.func214, Tryz.ntmps214
        go_wp2
        go_loopw [5] (fun i wr => ∃ j q : Nat, j ≤ l.length ∧ i = .int .i64 j ∧ l.take j = m.take j ∧ wr = w.drewN q) (fun i _ => l.length - (intOf i).toNat)
        case atStart => exact ⟨0, 0, Nat.zero_le _, rfl, rfl, rfl⟩
        case round =>
          obtain ⟨j, q, hj, rfl, ht, rfl⟩ := hrel
          have HT := Lib.hid ht; clear ht
          by_cases hlt : j < l.length
          · have hlt2 : j < m.length := by have := HL.out; omega
            obtain ⟨x, _, hx, hcx, htx⟩ := Rd.at_ HC.out hlt
            obtain ⟨y, _, hy, hcy, hty⟩ := Rd.at_ KC.out hlt2
            have X := Lib.hid hx; have Y := Lib.hid hy; have TX := Lib.hid htx; have TY := Lib.hid hty
            clear hx hy htx hty
            have i1 : (j : Int) < (l.length : Int) := by omega
            have i2 : (j : Int) < (m.length : Int) := by omega
            by_cases hxy : x = y
            · subst hxy
              have hb : (x != x) = false := by simp
              go_wp2
              go_quiet (fail)
              go_wp2
              go_roundw
              case rel => exact ⟨j + 1, _, by omega, by go_num, by rw [TX.out, TY.out, HT.out], by first | rfl | rw [World.drewN_drewN]⟩
              case measure => simp [intOf]; omega
            · have hb : (x != y) = true := by simp [hxy]
              have HF := Lib.hid (eqL_no hxy X.out Y.out)
              clear hxy
              go_wp2
              go_quiet (fail)
              go_wp2
              go_ret
              exact ⟨ret_bool HF.out.symm, by first | exact below_drewN (Below.refl _ _) _ | exact below_drewN (below_drewN (Below.refl _ _) _) _⟩
          · go_wp2
            go_ret
            exact ⟨ret_bool (eqL_yes HL.out (by omega) HT.out).symm, below_drewN (Below.refl _ _) _⟩
  · have hne : ((l.length : Int) != (m.length : Int)) = true := by simp; omega
    have HF : Hid (eqL l m = false) := by
      show eqL l m = false
      unfold eqL; simp; rintro rfl; exact hlen rfl
    go_enter Tryz.func214, Tryz.ntmps214
    go_wp2
    go_ret
    exact ⟨ret_bool HF.out.symm, Below.refl _ _⟩
set_option maxHeartbeats 800000 in
theorem markIntS_any (base : Nat) (ao : Option Addr) (c : Nat) (l : List Int) (m : Int) (w : World) (h : Own w base 3 .i64 ao c l) (h0 : 0 ≤ m) (hm : m + l.length ≤ 4611686018427387904) :
    Calls Tryz.prog 143 #[.slice ao l.length c, .int .i64 m] w (Marked w id .i64 ao l.length m) := by
  rcases h.form with ⟨rfl, rfl, rfl⟩ | ⟨g, rfl, _⟩
  · go_enter Tryz.func143, Tryz.ntmps143
    go_wp2
    refine wp_loop_rounds 1 ?_; rw [rounds_succ]; go_wp2
    go_ret
    exact ⟨ret_int (by simp), .inl rfl, World.grownBy.refl _ _⟩
  · have hs : MarkRel w w base 3 .i64 id m g c l 0 := ⟨by have h' := h; unfold Own at h'; simpa [marksL] using h', World.grownBy.refl _ _⟩
    clear h
    go_enter Tryz.func143, Tryz.ntmps143
    go_wp2
    go_loopw [1, 5] (fun q i wr => ∃ j : Nat, j ≤ l.length ∧ i = .int .i64 j ∧ q = .int .i64 (m + j) ∧ MarkRel w wr base 3 .i64 id m g c l j) (fun _ i _ => l.length - (intOf i).toNat)
    case atStart => exact ⟨0, Nat.zero_le _, rfl, by simp, hs⟩
    case round =>
      clear hs
      obtain ⟨j, hj, rfl, rfl, hr⟩ := hrel
      by_cases hlt : j < l.length
      · obtain ⟨y, hy⟩ := hr.cell hlt
        have hf := hr.1.frozenAt j
        have R := Lib.hid (hr.step hlt)
        clear hr
        go_wp2
        go_roundw
        case rel => exact ⟨j + 1, by omega, by go_num, by go_num, R.out⟩
        case measure => simp [intOf]; omega
      · have e : j = l.length := by omega
        have D := Lib.hid (hr.done e)
        have G := Lib.hid hr.2
        clear hr
        subst e
        go_wp2
        go_ret
        exact ⟨rfl, D.out, G.out⟩

set_option maxHeartbeats 800000 in
theorem heldIntS_any (ao : Option Addr) (c n : Nat) (m : Int) (w : World) (h : Rd w .i64 ao (marksL id m n)) (h0 : 0 ≤ m) (hm : m + n ≤ 4611686018427387904) :
    Calls Tryz.prog 144 #[.slice ao n c, .int .i64 m] w fun e w' => e = .returned (.int .i64 (m + n)) ∧ w = w' := by
  rcases h with h | ⟨b, off, rfl, hc⟩
  · have hn : n = 0 := by have := congrArg List.length h; rw [marksL_len] at this; simpa using this
    subst hn
    clear h
    go_enter Tryz.func144, Tryz.ntmps144
    go_wp2
    refine wp_loop_rounds 1 ?_; rw [rounds_succ]; go_wp2
    go_ret
    exact ⟨ret_int (by simp), rfl⟩
  · have hc' : ∀ i : Nat, i < n → w.cell? ⟨b, off + i, none⟩ = some (.int .i64 (id (m + (i : Int)))) := by
      intro i hi
      rw [hc i (by rw [marksL_len]; exact hi), List.getD_eq_getElem?_getD, marksL_get _ _ _ _ hi]; rfl
    have HC := Lib.hid hc'; clear hc hc'
    go_enter Tryz.func144, Tryz.ntmps144
    go_wp2
    go_loop [1, 5] (fun q i => ∃ j : Nat, j ≤ n ∧ i = .int .i64 j ∧ q = .int .i64 (m + j)) (fun _ i => n - (intOf i).toNat)
    case atStart => exact ⟨0, Nat.zero_le _, rfl, by simp⟩
    case round =>
      obtain ⟨j, hj, rfl, rfl⟩ := hrel
      by_cases hlt : j < n
      · have hcz := HC.out j hlt
        go_wp2
        go_round
        case rel => exact ⟨j + 1, by omega, by go_num, by go_num⟩
        case measure => simp [intOf]; omega
      · obtain rfl : j = n := by omega
        go_wp2
        go_ret
        exact ⟨rfl, rfl⟩
end Go.Proofs.YtfpbhedophlnkaaGreatDoor
namespace Go.Proofs.YtfpbhedophlnkaaGreatDoor
open Go.RowKit
set_option linter.unusedSimpArgs false
set_option linter.unusedVariables false

theorem Own.far {w : World} {base : Nat} {e : TypeId} {k : IntKind} {ao : Option Addr} {c : Nat} {l : List Int} {p : Addr} (h : Own w base e k ao c l) (hp : ∀ x, ao = some x → x.block ≠ p.block) (u : Value) :
    Own (w.setCell p u) base e k ao c l := h.keep fun a ha _ => Below.heap_setCell w p u a.block (hp a ha)
theorem bcell {W w1 : World} (hb : Below W.heap.size W w1) :
    (∀ b o, b < W.heap.size → w1.cell? ⟨b, o, none⟩ = W.cell? ⟨b, o, none⟩) ∧ (∀ b o, b < W.heap.size → w1.frozen? ⟨b, o, none⟩ = W.frozen? ⟨b, o, none⟩) :=
  ⟨fun b o h => hb.cell (p := ⟨b, o, none⟩) h, fun b o h => hb.frozen (p := ⟨b, o, none⟩) h⟩

/-- What is left behind a node. -/
def szN (n : Nd) (left : Int) : Int :=
  if left < (n.name.size : Int) then -1 else if left - (n.name.size : Int) < (n.cols.length : Int) then -1 else left - n.name.size - n.cols.length

/-- The call returned the node n, its columns in memory of its own. -/
def MadeNd (w : World) (n : Nd) (en : Ending) (w' : World) : Prop :=
  ∃ a c, en = .returned (.agg #[.int .i64 n.kind, .string n.name, .int .i64 n.col, .int .i64 n.op, .int .i64 n.num, .bool n.slot, .slice a n.cols.length c]) ∧ Own w' w.heap.size 3 .i64 a c n.cols ∧ Below w.heap.size w w'

end Go.Proofs.YtfpbhedophlnkaaGreatDoor
namespace Go.Proofs.YtfpbhedophlnkaaGreatDoor
open Go.RowKit
set_option linter.unusedSimpArgs false
set_option linter.unusedVariables false

/-- The decimal digits of a number, at most f of them. -/
def digF : Nat → Nat → List UInt8
  | 0, _ => []
  | f + 1, n => if n = 0 then [] else digF f (n / 10) ++ [UInt8.ofNat (48 + n % 10)]
/-- The mark of a number. -/
def mtext (k : Int) : ByteArray := if k ≤ 0 then ⟨#[109, 48]⟩ else ⟨(109 :: digF 20 k.toNat).toArray⟩
theorem digF_step {f n : Nat} (h : 0 < n) : digF (f + 1) n = digF f (n / 10) ++ [UInt8.ofNat (48 + n % 10)] := by
  simp only [digF]; rw [if_neg (by omega)]
theorem digF_zero (f : Nat) : digF f 0 = [] := by cases f <;> simp [digF]
theorem digF_len : ∀ f n, (digF f n).length ≤ f
  | 0, _ => Nat.le_refl _
  | f + 1, n => by
    simp only [digF]; split
    · simp
    · have := digF_len f (n / 10); simp; omega
theorem mtext_size (k : Int) : (mtext k).size ≤ 21 := by
  unfold mtext; split
  · decide
  · have := digF_len 20 k.toNat
    simp [ByteArray.size]; omega

theorem app_bytes (a b : List UInt8) : ((⟨a.toArray⟩ : ByteArray) ++ (⟨b.toArray⟩ : ByteArray)) = ⟨(a ++ b).toArray⟩ := by
  apply ByteArray.ext
  simp

set_option maxRecDepth 100000 in
set_option maxHeartbeats 1600000 in
theorem markText_any (k : Int) (w : World) (hk : k ≤ 1000000000000) :
    Calls Tryz.prog 142 #[.int .i64 k] w fun e w' => e = .returned (.string (mtext k)) ∧ Below w.heap.size w w' := by
  by_cases h0 : k ≤ 0
  · have E := Lib.hid (show mtext k = ⟨#[109, 48]⟩ by unfold mtext; rw [if_pos h0])
    go_enter Tryz.func142, Tryz.ntmps142
    go_wp2_with fail
    go_ret
    exact ⟨by rw [E.out]; rfl, Below.refl _ _⟩
  · have h1 : 0 < k := by omega
    have E := Lib.hid (show mtext k = ⟨(109 :: digF 20 k.toNat).toArray⟩ by unfold mtext; rw [if_neg h0])
    have D0 := Lib.hid (show ∃ (f : Nat) (q : Nat) (L : List UInt8), digF 20 k.toNat = digF f q ++ L ∧ q < 10 ^ f ∧ (k = q ∧ L = []) from ⟨20, k.toNat, [], by simp, by omega, by omega, rfl⟩)
    clear h0
    go_enter Tryz.func142, Tryz.ntmps142
    go_wp2_with fail
    go_loopw [0, 3] (fun q s wr => ∃ (f n : Nat) (L : List UInt8), digF 20 k.toNat = digF f n ++ L ∧ n < 10 ^ f ∧ n ≤ 1000000000000 ∧ q = .int .i64 n ∧ s = .string ⟨L.toArray⟩ ∧ L.length + f = 20 ∧ Below w.heap.size w wr) (fun q _ _ => (intOf q).toNat)
    case atStart => exact ⟨20, k.toNat, [], by simp, by omega, by omega, by rw [Int.toNat_of_nonneg (by omega)], rfl, rfl, Below.refl _ _⟩
    case round =>
      obtain ⟨f, n, L, hd, hlt, hn, rfl, rfl, hlen, hb⟩ := hrel
      have HD := Lib.hid hd; have HL := Lib.hid hlt; have HB := Lib.hid hb; have HE := Lib.hid hlen
      clear hd hlt hb hlen
      by_cases hz : 0 < n
      · obtain ⟨f, rfl⟩ : ∃ f', f = f' + 1 := by
          cases f with
          | zero => have := HL.out; omega
          | succ f => exact ⟨f, rfl⟩
        have hconv : (convert 22 9 (.slice (some ⟨wr.heap.size, 0, none⟩) 1 1)).run Tryz.prog (wr.alloc (.cells #[.int .u8 (48 + (n : Int) % 10)] 5)) = .ok (.string ⟨#[UInt8.ofNat (48 + n % 10)]⟩) (wr.alloc (.cells #[.int .u8 (48 + (n : Int) % 10)] 5)) :=
          run_convert_bytes_back (P := Tryz.prog) _ 22 9 5 ⟨wr.heap.size, 0, none⟩ 1 [UInt8.ofNat (48 + n % 10)] Tryz.underlying22 Tryz.underlying5 Tryz.underlying9 (by
            intro j hj
            obtain rfl : j = 0 := by simpa using hj
            simp [Addr.add]
            omega)
        have hL : L.length ≤ 20 := by have := HE.out; omega
        have S := Lib.hid (digF_step (f := f) hz)
        have HBA := Lib.hid (HB.out.alloc HB.out.size (.cells #[.int .u8 (48 + (n : Int) % 10)] 5))
        go_wp2_with fail
        go_roundw
        case rel => exact ⟨f, n / 10, UInt8.ofNat (48 + n % 10) :: L, by rw [HD.out, S.out]; simp, by have := HL.out; rw [Nat.pow_succ] at this; omega, by omega, by go_num, by rw [app_bytes]; simp, by have := HE.out; simp; omega, HBA.out⟩
        case measure => simp [intOf]; omega
      · obtain rfl : n = 0 := by omega
        have hL : L.length ≤ 20 := by have := HE.out; omega
        go_wp2_with fail
        go_ret
        refine ⟨?_, HB.out⟩
        rw [E.out, HD.out, digF_zero]
        exact congrArg (fun x => Ending.returned (.string x)) (app_bytes [109] L)
end Go.Proofs.YtfpbhedophlnkaaGreatDoor
namespace Go.Proofs.YtfpbhedophlnkaaGreatDoor
open Go.RowKit
set_option linter.unusedSimpArgs false
set_option linter.unusedVariables false

/-- The slice that begins at 'ao' reads as the strings l. -/
def RdS (w : World) (ao : Option Addr) (l : List ByteArray) : Prop :=
  l = [] ∨ ∃ b off, ao = some ⟨b, off, none⟩ ∧ ∀ i, i < l.length → w.cell? ⟨b, off + i, none⟩ = some (.string (l.getD i ByteArray.empty))

/-- A row of the call's own: a slice value of it, with the strings l. -/
def OwnS (w : World) (base : Nat) (ao : Option Addr) (c : Nat) (l : List ByteArray) : Prop :=
  w.ownsRow base 9 1 (.slice ao l.length c) l.length (l.map Value.string)

/-- The call returned a slice of its own with the strings l, and nothing that was there has turned. -/
def MadeS (w : World) (l : List ByteArray) (en : Ending) (w' : World) : Prop :=
  ∃ ao c, en = .returned (.slice ao l.length c) ∧ OwnS w' w.heap.size ao c l ∧ Below w.heap.size w w'

section
variable {w w' : World} {base : Nat} {ao : Option Addr} {c : Nat} {l : List ByteArray}

theorem RdS.keep (h : RdS w ao l) (hk : ∀ a p : Addr, ao = some a → p.block = a.block → p.block < w.heap.size → w'.cell? p = w.cell? p) : RdS w' ao l := by
  rcases h with rfl | ⟨b, off, rfl, hc⟩
  · exact .inl rfl
  · refine .inr ⟨b, off, rfl, fun i hi => ?_⟩
    have h1 := hc i hi
    rw [hk ⟨b, off, none⟩ ⟨b, off + i, none⟩ rfl rfl (World.block_lt_of_cell? w ⟨b, off + i, none⟩ h1)]
    exact h1
theorem RdS.below (h : RdS w ao l) (hb : Below w.heap.size w w') : RdS w' ao l := h.keep fun _ _ _ _ hp => hb.cell hp
theorem RdS.at_ {b off : Nat} {i : Nat} (hc : ∀ i, i < l.length → w.cell? ⟨b, off + i, none⟩ = some (.string (l.getD i ByteArray.empty))) (hi : i < l.length) :
    ∃ z, z ∈ l ∧ l[i]? = some z ∧ w.cell? ⟨b, off + i, none⟩ = some (.string z) ∧ l.take (i + 1) = l.take i ++ [z] := by
  refine ⟨l[i], List.getElem_mem hi, List.getElem?_eq_getElem hi, ?_, List.take_succ_eq_append_getElem hi⟩
  have := hc i hi
  rwa [List.getD_eq_getElem?_getD, List.getElem?_eq_getElem hi] at this

theorem OwnS.form (h : OwnS w base ao c l) : (ao = none ∧ c = 0 ∧ l = []) ∨ ∃ g, ao = some ⟨g, 0, none⟩ ∧ base ≤ g ∧ g < w.heap.size := by
  rcases h.2 with ⟨hv, hn⟩ | ⟨g, cap, cur, hv, hb, hg, _⟩
  · simp only [Value.slice.injEq] at hv
    exact .inl ⟨hv.1, hv.2.2, List.eq_nil_of_length_eq_zero hn⟩
  · simp only [Value.slice.injEq] at hv
    refine .inr ⟨g, hv.1, hb, ?_⟩
    rcases Nat.lt_or_ge g w.heap.size with hlt | hge
    · exact hlt
    · rw [Array.getElem?_eq_none hge] at hg; cases hg
theorem OwnS.lt (h : OwnS w base ao c l) : ∀ a, ao = some a → base ≤ a.block ∧ a.block < w.heap.size := by
  rcases h.form with ⟨rfl, _⟩ | ⟨g, rfl, h1, h2⟩
  · intro a ha; cases ha
  · intro a ha; cases ha; exact ⟨h1, h2⟩
theorem OwnS.len_le (h : OwnS w base ao c l) : l.length ≤ maxLen := by
  rcases h.2 with ⟨_, hn⟩ | ⟨g, cap, cur, _, _, _, h1, h2, _⟩
  · rw [hn]; exact Nat.zero_le _
  · exact Nat.le_trans h1 h2
theorem OwnS.cell {g : Nat} (h : OwnS w base (some ⟨g, 0, none⟩) c l) (i : Nat) (hi : i < l.length) : w.cell? ⟨g, i, none⟩ = some (.string (l.getD i ByteArray.empty)) := by
  have := World.ownsRow.cellAt h i (by omega)
  rw [this, List.getElem?_map, List.getD_eq_getElem?_getD, List.getElem?_eq_getElem hi]; rfl
theorem OwnS.rd (h : OwnS w base ao c l) : RdS w ao l := by
  rcases h.form with ⟨_, _, rfl⟩ | ⟨g, rfl, _⟩
  · exact .inl rfl
  · exact .inr ⟨g, 0, rfl, fun i hi => by rw [Nat.zero_add]; exact h.cell i hi⟩
theorem OwnS.keep (h : OwnS w base ao c l) (hk : ∀ a : Addr, ao = some a → a.block < w.heap.size → w'.heap[a.block]? = w.heap[a.block]?) : OwnS w' base ao c l := by
  refine ⟨h.1, ?_⟩
  have hl := h.lt
  rcases h.2 with h2 | ⟨g, cap, cur, hv, hb, hg, r⟩
  · exact .inl h2
  · refine .inr ⟨g, cap, cur, hv, hb, ?_, r⟩
    simp only [Value.slice.injEq] at hv
    rw [hk _ hv.1 (hl _ hv.1).2]; exact hg
theorem OwnS.below (h : OwnS w base ao c l) (hb : Below w.heap.size w w') : OwnS w' base ao c l := h.keep fun _ _ hlt => hb.block _ hlt
theorem OwnS.grown {row : Option Nat} (h : OwnS w base ao c l) (hg : w.grownBy w' row) (hne : ∀ a, ao = some a → some a.block ≠ row) : OwnS w' base ao c l :=
  h.keep fun a ha hlt => hg.block _ hlt (hne a ha)
theorem OwnS.base_le {base' : Nat} (h : OwnS w base ao c l) (hb : base' ≤ base) : OwnS w base' ao c l := by
  refine ⟨h.1, ?_⟩
  rcases h.2 with h2 | ⟨g, cap, cur, hv, hg, r⟩
  · exact .inl h2
  · exact .inr ⟨g, cap, cur, hv, Nat.le_trans hb hg, r⟩
theorem OwnS.none_ : OwnS w base none 0 [] := World.ownsRow_nil _ _ _ _
theorem OwnS.apart {ao' : Option Addr} (h : OwnS w base ao c l) (hg : w.grownBy w' (ao'.map (·.block))) (hne : ∀ a b, ao = some a → ao' = some b → a.block ≠ b.block) : OwnS w' base ao c l :=
  h.grown hg (by
    intro a ha
    cases ao' with
    | none => simp
    | some b => simp; exact hne a b ha rfl)
end

/-- Whether two rows of strings are the same. -/
def eqSs (a b : List ByteArray) : Bool := decide (a.map ByteArray.toList = b.map ByteArray.toList)
theorem eqSs_no {l m : List ByteArray} {j : Nat} {x y : ByteArray} (h : ¬ x.toList = y.toList) (hx : l[j]? = some x) (hy : m[j]? = some y) : eqSs l m = false := by
  unfold eqSs; simp only [decide_eq_false_iff_not]
  intro he
  have h1 : (l.map ByteArray.toList)[j]? = some x.toList := by rw [List.getElem?_map, hx]; rfl
  have h2 : (m.map ByteArray.toList)[j]? = some y.toList := by rw [List.getElem?_map, hy]; rfl
  rw [he, h2] at h1
  exact h (by injection h1 with h1; exact h1.symm)
theorem eqSs_yes {l m : List ByteArray} {j : Nat} (h : l.length = m.length) (hj : l.length ≤ j) (ht : (l.take j).map ByteArray.toList = (m.take j).map ByteArray.toList) : eqSs l m = true := by
  unfold eqSs; rw [List.take_of_length_le hj, List.take_of_length_le (by omega)] at ht; simpa using ht
theorem eqSs_refl (l : List ByteArray) : eqSs l l = true := by unfold eqSs; simp

/-- What marking lays into n cells from the number m on. -/
def marksS (m : Int) (n : Nat) : List ByteArray := (List.range n).map fun (i : Nat) => mtext (m + (i : Int))
theorem marksS_len (m : Int) (n : Nat) : (marksS m n).length = n := by simp [marksS]
theorem marksS_succ (m : Int) (n : Nat) : marksS m (n + 1) = marksS m n ++ [mtext (m + (n : Int))] := by simp [marksS, List.range_succ]
theorem marksS_get (m : Int) (n i : Nat) (h : i < n) : (marksS m n)[i]? = some (mtext (m + (i : Int))) := by simp [marksS, h]
theorem marksS_step (m : Int) (l : List ByteArray) (j : Nat) (h : j < l.length) : (marksS m j ++ l.drop j).set j (mtext (m + (j : Int))) = marksS m (j + 1) ++ l.drop (j + 1) := by
  rw [List.set_append_right _ _ (by rw [marksS_len]; exact Nat.le_refl _), marksS_len, Nat.sub_self, marksS_succ, List.append_assoc, List.drop_eq_getElem_cons h]
  rfl
theorem map_set_str (l : List ByteArray) (i : Nat) (z : ByteArray) : (l.map Value.string).set i (.string z) = (l.set i z).map Value.string := by
  rw [List.map_set]
end Go.Proofs.YtfpbhedophlnkaaGreatDoor
