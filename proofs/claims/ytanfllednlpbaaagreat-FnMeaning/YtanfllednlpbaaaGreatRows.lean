/-
  No cell of these rows narrows 'for every input' (looked for: loops, veiled, ifaces, maps, wideKeys, modest, calm, conditions, laid).
  DERIVED. THE GIVEN ROWS OF THIS SEAT. 3 by the template 'for every input the law returns true; each argument reads behind the call as it read before'; 0 by the template 'total and deterministic' (their statements: YtanfllednlpbaaaGreatTotals.lean).
  GIVEN WITH THE SEED: the statements are not yours to turn. If you find one false, say at which input.
  Laid BY PROGRAM, IN A SANDBOX (cutbox-rows.mjs): the forced cells as the released guide's own fill.sh prints them over the translation def29fc581161a1c… (all of the seat's roots in one cut). By AI agents, Wed Nov 11 2026. No macro, syntax, notation, axiom, sorry.
-/
import Derived.Test.YtanfllednlpbaaaGreatChecked
import GoSem.Claim
import GoSem.ClaimJoined
import GoSem.ClaimMapViews
import Derived.JoinedTies
import Derived.KernelRfl
namespace Go.Proofs.YtanfllednlpbaaaGreat
/- THE CELL 'sum', in the pinned program and in every row, IS THE sha256 OF THE DUMP (.gsa) THAT YtanfllednlpbaaaGreatProg.lean LOADS. Nothing in Lean hashes anything: it is a label: what it is worth is what the hold of that sum in a sandbox is worth. -/
noncomputable def Tryz.pinned : Pinned := { name := "ytanfllednlpbaaagreat", sum := "def29fc581161a1c05d0e29d471700fb17101899ee9c736a96d59bf001990341", checked := Tryz.checked }
namespace Rows
def none {H : Type} : Left H := { results := [], args := [] }

/-- 'laws.FnMeaning': WHATEVER THE INPUT: true; the input reads as it did. -/
def fnMeaningSpec : ChangeSpec := { name := "fnMeaning", fn := fun _ => fun
  | [d] => { results := [.lit (.bool true)], args := [d] }
  | _ => none }
def fnMeaningRow : OpenClaim := { program := "ytanfllednlpbaaagreat", sum := "def29fc581161a1c05d0e29d471700fb17101899ee9c736a96d59bf001990341", func := "loop.example/g00844/laws.FnMeaning", spec := "fnMeaning", inPlace := ["internal/bytealg.abigen_runtime_cmpstring"], unfollowed := true, recurses := true, apart := false }
def FnMeaningSaid : Prop := fnMeaningRow.holds Tryz.pinned (OpenSpec.ofChange fnMeaningSpec)

/-- ITS FALSE NEIGHBOUR: 'it returns false'. Refute it at one input. -/
def fnMeaningWrong : ChangeSpec := { name := "fnMeaning", fn := fun _ => fun
  | [d] => { results := [.lit (.bool false)], args := [d] }
  | _ => none }
def FnMeaningWrongFalsely : Prop := fnMeaningRow.holds Tryz.pinned (OpenSpec.ofChange fnMeaningWrong)

/-- 'laws.FnExactEvalPlan': WHATEVER THE INPUT: true; the input reads as it did. -/
def fnExactEvalPlanSpec : ChangeSpec := { name := "fnExactEvalPlan", fn := fun _ => fun
  | [d1, d2, d3] => { results := [.lit (.bool true)], args := [d1, d2, d3] }
  | _ => none }
def fnExactEvalPlanRow : OpenClaim := { program := "ytanfllednlpbaaagreat", sum := "def29fc581161a1c05d0e29d471700fb17101899ee9c736a96d59bf001990341", func := "loop.example/g00844/laws.FnExactEvalPlan", spec := "fnExactEvalPlan", inPlace := ["internal/bytealg.abigen_runtime_cmpstring"], unfollowed := true, recurses := true, apart := false }
def FnExactEvalPlanSaid : Prop := fnExactEvalPlanRow.holds Tryz.pinned (OpenSpec.ofChange fnExactEvalPlanSpec)

/-- ITS FALSE NEIGHBOUR: 'it returns false'. Refute it at one input. -/
def fnExactEvalPlanWrong : ChangeSpec := { name := "fnExactEvalPlan", fn := fun _ => fun
  | [d1, d2, d3] => { results := [.lit (.bool false)], args := [d1, d2, d3] }
  | _ => none }
def FnExactEvalPlanWrongFalsely : Prop := fnExactEvalPlanRow.holds Tryz.pinned (OpenSpec.ofChange fnExactEvalPlanWrong)

/-- 'laws.FnExactSizesOf': WHATEVER THE INPUT: true; the input reads as it did. -/
def fnExactSizesOfSpec : ChangeSpec := { name := "fnExactSizesOf", fn := fun _ => fun
  | [d1, d2, d3] => { results := [.lit (.bool true)], args := [d1, d2, d3] }
  | _ => none }
def fnExactSizesOfRow : OpenClaim := { program := "ytanfllednlpbaaagreat", sum := "def29fc581161a1c05d0e29d471700fb17101899ee9c736a96d59bf001990341", func := "loop.example/g00844/laws.FnExactSizesOf", spec := "fnExactSizesOf", inPlace := ["internal/bytealg.abigen_runtime_cmpstring"], unfollowed := true, recurses := true, apart := false }
def FnExactSizesOfSaid : Prop := fnExactSizesOfRow.holds Tryz.pinned (OpenSpec.ofChange fnExactSizesOfSpec)

/-- ITS FALSE NEIGHBOUR: 'it returns false'. Refute it at one input. -/
def fnExactSizesOfWrong : ChangeSpec := { name := "fnExactSizesOf", fn := fun _ => fun
  | [d1, d2, d3] => { results := [.lit (.bool false)], args := [d1, d2, d3] }
  | _ => none }
def FnExactSizesOfWrongFalsely : Prop := fnExactSizesOfRow.holds Tryz.pinned (OpenSpec.ofChange fnExactSizesOfWrong)

/- THE SECOND FORM. 'bulk': how many values and letters a reading holds, each counted each time it is reached (what is shared counts as often as it is met; a slice's spare places count too). A statement '..UptoSaid' is the law's where the arguments, and the package variables that the reading takes, are together of bulk at most 1048576: NARROWER than '..Said'. Prove '..Said' where nothing that the law and all that it calls make is longer than what came in: it says more and counts as full. Else prove '..UptoSaid'. A law counts once. -/
mutual
def uptoBulk {H : Type} : DataW H → Nat
  | .lit (.string bytes) => bytes.length + 1
  | .lit _ => 1
  | .nil => 1
  | .ptr d => uptoBulk d + 1
  | .slice elems spare => uptoBulkAll elems + uptoBulkAll spare + 1
  | .agg parts => uptoBulkAll parts + 1
  | .iface _ d => uptoBulk d + 1
  | .map entries => uptoBulkEntries entries + 1
  | .held _ => 1
def uptoBulkAll {H : Type} : List (DataW H) → Nat
  | [] => 0
  | d :: r => uptoBulk d + uptoBulkAll r
def uptoBulkEntries {H : Type} : List (Lit × DataW H) → Nat
  | [] => 0
  | x :: r => uptoBulkEntry x + uptoBulkEntries r
def uptoBulkEntry {H : Type} : Lit × DataW H → Nat
  | (.string bytes, d) => bytes.length + uptoBulk d + 1
  | (_, d) => uptoBulk d + 1
 end
def uptoSmall : (H : Type) → List (DataW H) → Bool := fun _ ds => decide (uptoBulkAll ds ≤ 1048576)
def OpenSpec.upto (s : _root_.Go.ChangeSpec) : _root_.Go.OpenSpec := { _root_.Go.OpenSpec.ofChange s with cond := some uptoSmall }

/-- 'laws.FnMeaning', WHERE WHAT IT READS IS OF BULK AT MOST 1048576: true; the input reads as it did. -/
def fnMeaningUptoRow : OpenClaim := { program := "ytanfllednlpbaaagreat", sum := "def29fc581161a1c05d0e29d471700fb17101899ee9c736a96d59bf001990341", func := "loop.example/g00844/laws.FnMeaning", spec := "fnMeaning", inPlace := ["internal/bytealg.abigen_runtime_cmpstring"], unfollowed := true, recurses := true, apart := false, narrowed := true }
def FnMeaningUptoSaid : Prop := fnMeaningUptoRow.holds Tryz.pinned (OpenSpec.upto fnMeaningSpec)

/-- 'laws.FnExactEvalPlan', WHERE WHAT IT READS IS OF BULK AT MOST 1048576: true; the input reads as it did. -/
def fnExactEvalPlanUptoRow : OpenClaim := { program := "ytanfllednlpbaaagreat", sum := "def29fc581161a1c05d0e29d471700fb17101899ee9c736a96d59bf001990341", func := "loop.example/g00844/laws.FnExactEvalPlan", spec := "fnExactEvalPlan", inPlace := ["internal/bytealg.abigen_runtime_cmpstring"], unfollowed := true, recurses := true, apart := false, narrowed := true }
def FnExactEvalPlanUptoSaid : Prop := fnExactEvalPlanUptoRow.holds Tryz.pinned (OpenSpec.upto fnExactEvalPlanSpec)

/-- 'laws.FnExactSizesOf', WHERE WHAT IT READS IS OF BULK AT MOST 1048576: true; the input reads as it did. -/
def fnExactSizesOfUptoRow : OpenClaim := { program := "ytanfllednlpbaaagreat", sum := "def29fc581161a1c05d0e29d471700fb17101899ee9c736a96d59bf001990341", func := "loop.example/g00844/laws.FnExactSizesOf", spec := "fnExactSizesOf", inPlace := ["internal/bytealg.abigen_runtime_cmpstring"], unfollowed := true, recurses := true, apart := false, narrowed := true }
def FnExactSizesOfUptoSaid : Prop := fnExactSizesOfUptoRow.holds Tryz.pinned (OpenSpec.upto fnExactSizesOfSpec)

end Rows
end Go.Proofs.YtanfllednlpbaaaGreat
