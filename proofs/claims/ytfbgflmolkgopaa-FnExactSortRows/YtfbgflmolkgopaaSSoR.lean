/-
  Contracts of spec.l04Copy and spec.SortRows. For every slice of rows.
-/
import Derived.Test.YtfbgflmolkgopaaISoR
import Derived.Test.YtfbgflmolkgopaaCopyL
import Derived.Test.YtfbgflmolkgopaaSLess
import Derived.BigQuiet
namespace Go.Proofs.Ytfbgflmolkgopaa
open Go.RowKit
set_option linter.unusedSimpArgs false
set_option linter.unusedVariables false

theorem below_appV {B : Nat} {w wr w1 : World} {e : TypeId} {ao : Option Addr} {c : Nat} {xs : List Value} {o : Obj} (hb : Below B w wr) (hB : B ≤ wr.heap.size) (ho : OwnV wr B e ao c xs) (hg : (wr.alloc o).grownBy w1 (ao.map (·.block))) : Below B w w1 := by
  refine (hb.alloc hB o).grown hg (by simp; omega) ?_
  intro g hg'
  rcases ao with _ | a
  · cases hg'
  · simp at hg'; subst hg'; exact (ho.lt a rfl).1

theorem OwnV.cap_le {w : World} {base : Nat} {e : TypeId} {ao : Option Addr} {c : Nat} {xs : List Value} (h : OwnV w base e ao c xs) : c ≤ maxLen := by
  rcases h.2 with ⟨hv, _⟩ | ⟨g, cap, cur, hv, _, _, _, h2, _⟩
  · simp only [Value.slice.injEq] at hv; rw [hv.2.2]; exact Nat.zero_le _
  · simp only [Value.slice.injEq] at hv; rw [hv.2.2]; exact h2

set_option maxRecDepth 100000 in
set_option maxHeartbeats 1600000 in
theorem l04Copy_any (ao : Option Addr) (c : Nat) (l : List (List Int)) (w : World) (h : RdR w ao l) (hl : l.length ≤ 1048576) (hr : ∀ r ∈ l, r.length ≤ 1048576) :
    Calls Try.prog 48 #[.slice ao l.length c] w (MadeR w l) := by
  have H := Lib.hid (h)
  have HR := Lib.hid (hr)
  have P0 : Hid (∃ xs A C, PartR (w.alloc (.cells #[] 32)) w.heap.size w.heap.size 0 0 l 0 xs A C) := ⟨_, _, _, PartR.start w l⟩
  have B0 := Lib.hid ((Below.refl w.heap.size w).alloc (Nat.le_refl _) (.cells #[] 32))
  clear h hr
  go_enter Try.func48, Try.ntmps48
  go_wp2_with fail
  go_loopw [3, 4] (fun s i wr => ∃ (j g cc : Nat), j ≤ l.length ∧ i = .int .i64 j ∧ s = .slice (some ⟨g, 0, none⟩) j cc ∧ cc ≤ maxLen ∧ (∃ xs A C, PartR wr w.heap.size g cc j l j xs A C) ∧ Below w.heap.size w wr) (fun _ i _ => l.length - (intOf i).toNat)
  case atStart => exact ⟨0, _, _, Nat.zero_le _, rfl, rfl, Nat.zero_le _, P0.out, B0.out⟩
  case round =>
    clear P0 B0
    obtain ⟨j, g, cc, hj, rfl, rfl, hcc, ⟨xs, A, C, hp⟩, hb⟩ := hrel
    have HP := Lib.hid (hp)
    have HB := Lib.hid (hb)
    have HCC := Lib.hid (hcc)
    by_cases hlt : j < l.length
    · obtain ⟨b, off, r, a, c', rfl, hn, ⟨c0, rd, cx, mx⟩⟩ := (H.out.below hb).at_ hlt
      have HN := Lib.hid (hn)
      have RD := Lib.hid (rd)
      have RL := Lib.hid (HR.out r (List.mem_of_getElem? hn))
      have XL : Hid (xs.length = j) := by have := hp.own.1; show _ = _; omega
      clear hn hp hb rd cx mx hcc
      have T := Lib.hid (fun w => l01CopyL_any a c' r w)
      go_wp2_with fail
      refine (T.out _ RD.out RL.out).mono ?_
      rintro e w2 ⟨a2, c2, rfl, o2, b2⟩
      have O2 := Lib.hid (o2)
      have B2 := Lib.hid (b2)
      have OV : Hid (OwnV w2 w.heap.size 32 (some ⟨g, 0, none⟩) cc xs) := by
        have := (HP.out.below b2).own
        show World.ownsRow _ _ _ _ _ _ _
        rw [XL.out]
        exact this
      clear o2 b2 c0
      go_wp2_with (at_builtin; refine wpList_appendV _ rfl (.tmp 12) (.tmp 18) 40 rfl w.heap.size 32 (.slice none 0 0) 24 Try.underlying40 infoRw rfl (some ⟨g, 0, none⟩) cc j xs rfl XL.out.symm (OV.out.alloc _) w2.heap.size 1 (.slice a2 r.length c2) rfl (cell_one _ _ _) rfl (by have := XL.out; unfold maxLen; omega) (by have := XL.out; omega) (by have := HB.out.size; have := B2.out.size; simp; omega) ?_; intro ao3 c3 w3 o3 g3 k3; obtain ⟨g', rfl, hp'⟩ := HP.out.push HN.out (B2.out.trans ((Below.refl _ w2).alloc B2.out.size _)) (O2.out.alloc _) HB.out.size o3 g3 k3; have P3 := Lib.hid hp'; have M3 := Lib.hid o3.cap_le; have B3 := Lib.hid (below_appV (o := .cells #[.slice a2 r.length c2] 32) (below_step HB.out (Nat.le_refl _) B2.out) (Nat.le_trans HB.out.size B2.out.size) OV.out g3); clear o3 g3 k3 hp')
      rw [XL.out]
      go_roundw
      case rel => exact ⟨j + 1, g', c3, by omega, by go_num, rfl, M3.out, ⟨_, _, _, P3.out⟩, B3.out⟩
      case measure => simp [intOf]; omega
    · obtain rfl : j = l.length := by omega
      have CG : Hid (l.length ≤ cc) := by
        rcases hp.own.2 with ⟨e, _⟩ | ⟨q, cap, cur, e, _, _, h1, _⟩
        · cases e
        · simp only [Value.slice.injEq] at e; rw [e.2.2]; exact h1
      clear hp hb hcc
      go_wp2_with fail
      go_ret
      exact ⟨_, _, rfl, .inr ⟨_, _, _, _, rfl, HP.out⟩, CG.out, HCC.out, HB.out⟩
end Go.Proofs.Ytfbgflmolkgopaa
