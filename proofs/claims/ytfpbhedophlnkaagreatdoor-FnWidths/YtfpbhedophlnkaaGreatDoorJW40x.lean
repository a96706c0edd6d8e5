/-
  Contracts of spec.DrawWidthOf and spec.DrawPutPart. For every slice of bytes.
-/
import Derived.Test.YtfpbhedophlnkaaGreatDoorJW39x
import Derived.Handy
namespace Go.Proofs.YtfpbhedophlnkaaGreatDoor
open Go.RowKit
set_option linter.unusedSimpArgs false
set_option linter.unusedVariables false

def DrWP (w : World) (e : Ending) (w' : World) : Prop :=
  ∃ (s : List Tb) (sa : Option Addr) (sc : Nat) (l : List Nd) (b c : Nat), e = .returned (.tuple #[.slice sa s.length sc, .slice (some ⟨b, 0, none⟩) l.length c]) ∧ s.length ≤ 10 ∧ RdT w' sa s ∧ l.length ≤ 82 ∧ Small l ∧ l.length ≤ c ∧ c ≤ maxLen ∧ RdN w' (some ⟨b, 0, none⟩) l ∧ Below w.heap.size w w'
set_option maxRecDepth 100000 in
theorem drawWidthOf_any (xo : Option Addr) (d : Nat) (code : List Int) (w : World) (hr : Rd w .u8 xo code) (hby : By code) (hl : code.length ≤ 1048577) :
    Calls Tryz.prog 12 #[.slice xo code.length d] w (DrWP w) := by
  have C := Lib.hid (l01New_any xo d code w hr hby hl)
  have HL := Lib.hid hl
  clear hr hby hl
  go_enter Tryz.func12, Tryz.ntmps12
  go_wp2_with fail
  refine C.out.mono ?_
  rintro e w1 ⟨g, rfl, hg, hc, hb⟩
  have HG := Lib.hid hg; have HC := Lib.hid hc; have HB := Lib.hid hb; clear hg hc hb
  go_wp2_with fail
  refine (drawSchema_any g xo d code w1 HC.out HL.out).mono ?_
  rintro e w2 ⟨s, sa, sc, rfl, hs, o2, d2⟩
  have O2 := Lib.hid o2; have D2 := Lib.hid d2; clear o2 d2
  have hgl := HC.out.lt
  go_wp2_with fail
  refine (drawLoose_any g xo d code xo d w2 D2.out.1 HL.out).mono ?_
  rintro e w3 ⟨l, b, c, rfl, h1, h2, h3, h4⟩
  have H2 := Lib.hid h2; have H3 := Lib.hid h3; have H4 := Lib.hid h4
  have O3 := Lib.hid (O2.out.draw h4.2 hgl)
  clear h2 h3 h4
  go_wp2_with fail
  go_ret2
  exact ⟨s, sa, sc, l, b, c, rfl, hs, O3.out.rd, h1, ⟨by omega, fun n hn => by have := H2.out n hn; omega⟩, H3.out.cap, H3.out.mx, H3.out.rd, HB.out.grown (grownBy_trans D2.out.2 H4.out.2) HB.out.size (by intro r hr; injection hr with hr; have := HG.out; omega)⟩
def DrPP (w : World) (e : Ending) (w' : World) : Prop :=
  ∃ (p : List Nd) (pb pc : Nat) (k : Int) (q : List Nd) (b c : Nat), e = .returned (.tuple #[.slice (some ⟨pb, 0, none⟩) p.length pc, .int .i64 k, .slice (some ⟨b, 0, none⟩) q.length c]) ∧ -1 ≤ k ∧ k ≤ 100 ∧ q.length ≤ 82 ∧ Small q ∧ RdN w' (some ⟨b, 0, none⟩) q ∧ Below w.heap.size w w'
set_option maxRecDepth 100000 in
set_option maxHeartbeats 1000000 in
theorem drawPutPart_any (xo : Option Addr) (d : Nat) (code : List Int) (w : World) (hr : Rd w .u8 xo code) (hby : By code) (hl : code.length ≤ 1048577) :
    Calls Tryz.prog 16 #[.slice xo code.length d] w (DrPP w) := by
  have C := Lib.hid (l01New_any xo d code w hr hby hl)
  have HL := Lib.hid hl
  clear hr hby hl
  go_enter Tryz.func16, Tryz.ntmps16
  go_wp2_with fail
  refine C.out.mono ?_
  rintro e w1 ⟨g, rfl, hg, hc, hb⟩
  have HG := Lib.hid hg; have HC := Lib.hid hc; have HB := Lib.hid hb; clear hg hc hb
  go_wp2_with fail
  refine (drawLoose_any g xo d code xo d w1 HC.out HL.out).mono ?_
  rintro e w2 ⟨p, pb, pc, rfl, h1, _, _, h4⟩
  have D2 := Lib.hid h4; clear h4
  go_wp2_with fail
  refine (below_d g xo d code ((p.length : Int) + 2) _ D2.out.1 HL.out (by omega) (by omega)).mono ?_
  rintro e w3 ⟨k, hk0, hk1, rfl, d3⟩
  have D3 := Lib.hid (D2.out.next d3); clear d3
  go_wp2_with fail
  refine (below_d g xo d code 5 _ D3.out.1 HL.out (by omega) (by omega)).mono ?_
  rintro e w4 ⟨y, hy0, hy1, rfl, d4⟩
  have D4 := Lib.hid (D3.out.next d4); clear d4
  go_wp2_with fail
  refine (drawPlan_any g xo d code HL.out 7 (Nat.le_refl _) (1 + y) (by omega) (by omega) _ D4.out.1).mono ?_
  rintro e w5 ⟨q, v, b5, c5, xs, A, Cc, rfl, q1, q2, q3, q4, q5, p5, d5⟩
  have P5 := Lib.hid p5; have D5 := Lib.hid d5; have Q3 := Lib.hid q3
  have h81 := (BV7 7 (Nat.le_refl _)).1
  clear p5 d5 q3
  have BR := Lib.hid (break_any g xo d code w4 w5 b5 c5 q xs A Cc D4.out.1 HL.out D5.out P5.out q1 (by omega) Q3.out)
  go_wp2_with fail
  refine BR.out.mono ?_
  rintro e w6 ⟨l, b, c, rfl, l1, l2, l3, l4⟩
  have L2 := Lib.hid l2; have L3 := Lib.hid l3; have L4 := Lib.hid l4
  clear l2 l3 l4
  go_wp2_with fail
  go_ret3
  exact ⟨p, pb, pc, _, l, b, c, rfl, by omega, by omega, l1, ⟨by omega, fun n hn => by have := L2.out n hn; omega⟩, L3.out.rd, HB.out.grown (grownBy_trans D4.out.2 L4.out.2) HB.out.size (by intro r hr; injection hr with hr; have := HG.out; omega)⟩
end Go.Proofs.YtfpbhedophlnkaaGreatDoor
