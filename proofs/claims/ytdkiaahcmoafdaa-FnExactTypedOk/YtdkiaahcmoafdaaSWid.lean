/-
  Contract of spec.l03Width: the width of the tree at a place. For every plan and every schema.
-/
import Derived.Test.YtdkiaahcmoafdaaSWid0
import Derived.Test.YtdkiaahcmoafdaaSWid1
import Derived.Test.YtdkiaahcmoafdaaSWid2
import Derived.Test.YtdkiaahcmoafdaaSWid3
namespace Go.Proofs.Ytdkiaahcmoafdaa
open Go.RowKit
set_option linter.unusedSimpArgs false
set_option linter.unusedVariables false

theorem l03Width_any (sa : Option Addr) (cs : Nat) (s : List Tb) (ao : Option Addr) (c : Nat) (p : List Nd) (T0 : Tr) (hs : schemaB s = true) (hsl : s.length ≤ 1048576) (hp : p.length ≤ 1048576) (ht : treeN p = some T0) : ∀ T : Tr, ∀ (k : Nat) (w : World), RdT w sa s → RdN w ao p → growT p p.length k = some T → T.depth ≤ 10 →
    Calls Try.prog 83 #[.slice sa s.length cs, .slice ao p.length c, .int .i64 k] w fun e w' => e = .returned (.int .i64 (widT (fnOf s) T)) ∧ Below w.heap.size w w' := by
  intro T
  induction T with
  | t0 n pl en => exact wid_t0 sa cs s ao c p T0 hs hsl hp ht n pl en
  | t1 n pl en ch ih => exact wid_t1 sa cs s ao c p T0 hs hsl hp ht n pl en ch ih
  | t2 n pl en ch dh ihc ihd =>
    intro k w h1 h2 hg hd
    rcases kinds2 (growT_nodes p _ _ _ hg).1.2 with hk | hk
    · exact wid_t2j sa cs s ao c p T0 hs hsl hp ht n pl en ch dh hk ihc ihd k w h1 h2 hg hd
    · exact wid_t2b sa cs s ao c p T0 hs hsl hp ht n pl en ch dh hk ihc ihd k w h1 h2 hg hd
end Go.Proofs.Ytdkiaahcmoafdaa
