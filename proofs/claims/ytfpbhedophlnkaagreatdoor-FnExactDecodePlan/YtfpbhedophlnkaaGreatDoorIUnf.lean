/-
  The contracts of slices.Clone at the program's wire and of impl.Unframe. For every slice of bytes.
-/
import Derived.Test.YtfpbhedophlnkaaGreatDoorFrameAt
namespace Go.Proofs.YtfpbhedophlnkaaGreatDoor
open Go.RowKit
set_option linter.unusedSimpArgs false
set_option linter.unusedVariables false

set_option maxRecDepth 100000 in
theorem clone_any (ao : Option Addr) (n : Nat) (m : List Int) (w : World) (h : Rd w .u8 ao m) (hn : m.length = n) (hz : ao = none → n = 0) (hl : n ≤ 70368744177664) :
    Calls Tryz.prog 178 #[.slice ao n n] w (Made w 5 .u8 m) := by
  have hq := fun (w : World) (a : Option Addr) (n c : Nat) => Lib.run_eql_slice_nil (P := Tryz.prog) w 112 5 a n c 0 0 Tryz.underlying112
  cases ao with
  | none =>
    obtain rfl : n = 0 := hz rfl
    obtain rfl : m = [] := List.eq_nil_of_length_eq_zero hn
    clear hz h hn
    go_enter Tryz.func178, Tryz.ntmps178
    go_wp2
    go_ret
    exact ⟨none, 0, rfl, Own.none_, Below.refl _ _⟩
  | some a =>
    have hst : Own (w.alloc (Obj.cells #[] 5)) w.heap.size 5 .u8 (some ⟨w.heap.size, 0, none⟩) 0 [] := World.ownsRow_lit w #[] 0 (Nat.le_refl _) (Nat.zero_le _) rfl
    have HST := Lib.hid hst; have H := Lib.hid (h.below ((Below.refl _ _).alloc (Nat.le_refl _) (Obj.cells #[] 5))); have HN := Lib.hid hn
    have hll : (n : Int) ≤ 70368744177664 := by omega
    clear hst h hn hz hl
    go_enter Tryz.func178, Tryz.ntmps178
    go_wp2_with (at_builtin; refine wpList_appendR _ rfl (.tmp 5) (.tmp 6) 112 112 rfl w.heap.size 5 5 .u8 1 Tryz.underlying112 Tryz.underlying112 Tryz.infoU8 (some ⟨w.heap.size, 0, none⟩) 0 0 [] rfl rfl HST.out (some a) n n m rfl HN.out.symm H.out (by intro hh; cases hh) (by have := HN.out; unfold maxLen; simp; omega) (by have := HN.out; simp; omega) (by simp) ?_; intro ao' c' w1 ho' hg'; have HO' := Lib.hid ho'; have HG' := Lib.hid hg'; clear ho' hg')
    go_ret
    refine ⟨ao', c', ret_slice (by simp), HO'.out, ?_⟩
    exact ((Below.refl _ _).alloc (Nat.le_refl _) _).grown HG'.out (by simp) (by intro g hg; simp at hg; omega)

set_option maxRecDepth 100000 in
theorem implUnframe_any (b : Option Addr) (d : Nat) (l : List Int) (w : World) (hg : ErrT w) (h : Rd w .u8 b l) (hby : By l) (hl : l.length ≤ maxLen) (hd : l.length ≤ d) (hd2 : d ≤ maxLen) :
    Calls Tryz.prog 92 #[.slice b l.length d] w (UnfPost (unfL l) w) := by
  have C := Lib.hid (frame_any b d l w h hby hl hd hd2)
  have G := Lib.hid hg
  have hlen : Hid (∀ m, unfL l = some m → m.length ≤ 4000) := by
    intro m hm
    unfold unfL unfT at hm
    split at hm
    · split at hm
      · cases hm
      · split at hm
        · injection hm with hm
          rw [← hm]; simp; omega
        · cases hm
    · cases hm
  obtain ⟨r, hr⟩ : ∃ r, r = unfL l := ⟨_, rfl⟩
  rw [← hr] at C hlen ⊢
  clear hr hg h hby hl hd hd2
  go_enter Tryz.func92, Tryz.ntmps92
  go_wp2_with fail
  refine C.out.mono ?_
  rintro e w' ⟨h | h, hb0⟩
  · obtain ⟨h1, k1, k2, rfl⟩ := h
    have H1 := Lib.hid h1; have B0 := Lib.hid hb0; clear h1 hb0
    go_wp2_with fail
    refine (isMissing_hit _ _ _ (G.out.below B0.out)).mono ?_
    rintro e w1 ⟨rfl, hb⟩
    have HB := Lib.hid (below_step B0.out (Nat.le_refl _) hb); clear hb
    go_wp2
    go_ret2
    exact unf_no H1.out HB.out
  · obtain ⟨ao, n, m, h1, rfl, hrd, hn, hz⟩ := h
    have H1 := Lib.hid h1; have RD := Lib.hid hrd; have HN := Lib.hid hn; have HZ := Lib.hid hz; have B0 := Lib.hid hb0; clear h1 hrd hn hz hb0
    go_wp2_with fail
    refine (isMissing_nil _).mono ?_
    rintro e w1 ⟨rfl, hb⟩
    have RD1 := Lib.hid (RD.out.below hb); have HB := Lib.hid (below_step B0.out (Nat.le_refl _) hb); clear hb
    go_wp2_with fail
    refine (clone_any ao n m w1 RD1.out HN.out HZ.out (by have := hlen.out m H1.out; have := HN.out; omega)).mono ?_
    rintro e w2 ⟨a2, c2, rfl, o2, b2⟩
    have O2 := Lib.hid o2; have B2 := Lib.hid (below_step HB.out (Nat.le_refl _) b2); clear o2 b2
    go_wp2
    go_ret2
    rw [H1.out]
    exact ⟨a2, c2, rfl, O2.out.base_le HB.out.size, B2.out⟩
end Go.Proofs.YtfpbhedophlnkaaGreatDoor
