/-
  The contract of impl.TakeNum. For every slice of bytes and every place, where the program's start has laid what package errors asks for.
-/
import Derived.Test.YthnjagbjoglkbaaDoorNumAt
namespace Go.Proofs.YthnjagbjoglkbaaDoor
open Go.RowKit

def TookB (r : Int × Int) (w : World) (e : Ending) (w' : World) : Prop := e = .returned (.tuple #[.int .i64 r.1, .int .i64 r.2]) ∧ Below w.heap.size w w'

set_option maxRecDepth 100000 in
theorem implTakeNum_any (b : Option Addr) (d : Nat) (l : List Int) (at_ : Int) (w : World) (hg : ErrT w) (h : Rd w .u8 b l) (hby : By l) (hl : l.length ≤ maxLen) (hd : l.length ≤ d) (hd2 : d ≤ maxLen) (ha : at_ ≤ 9223372036854775807) (ha' : -9223372036854775808 ≤ at_) :
    Calls Tryd.prog 27 #[.slice b l.length d, .int .i64 at_] w (TookB (takeN l at_) w) := by
  have C := Lib.hid (numAt_any b d l at_ w h hby hl hd hd2 ha ha')
  have BD := Lib.hid (takeN_bd hby at_)
  have G := Lib.hid hg
  obtain ⟨r, hr⟩ : ∃ r, r = takeN l at_ := ⟨_, rfl⟩
  rw [← hr] at C BD ⊢
  clear hr hg h hby hl hd hd2 ha ha'
  go_enter Tryd.func27, Tryd.ntmps27
  go_wp2_with fail
  refine C.out.mono ?_
  rintro e w' ⟨h | h, rfl⟩
  · obtain ⟨h1, rfl⟩ := h
    have H1 := Lib.hid h1; clear h1
    go_wp2_with fail
    refine (isMissing_hit _ _ _ G.out).mono ?_
    rintro e w1 ⟨rfl, hb⟩
    have HB := Lib.hid hb; clear hb
    go_wp2
    go_ret2
    have e1 := BD.out.2.2.2 H1.out
    exact ⟨ret_pair e1.symm H1.out.symm, HB.out⟩
  · obtain ⟨h1, rfl⟩ := h
    clear h1
    go_wp2_with fail
    refine (isMissing_nil _).mono ?_
    rintro e w1 ⟨rfl, hb⟩
    have HB := Lib.hid hb; clear hb
    go_wp2
    go_ret2
    exact ⟨rfl, HB.out⟩
end Go.Proofs.YthnjagbjoglkbaaDoor
