/-
  No cell of these rows narrows 'for every input' (looked for: loops, veiled, ifaces, maps, wideKeys, modest, calm, conditions, laid).
  DERIVED. THE GIVEN ROWS OF THIS SEAT. 4 by the template 'for every input the law returns true; each argument reads behind the call as it read before'; 0 by the template 'total and deterministic' (their statements: YtcegekkhlfpgfaaTotals.lean).
  GIVEN WITH THE SEED: the statements are not yours to turn. If you find one false, say at which input.
  Laid BY PROGRAM, IN A SANDBOX (cutbox-rows.mjs): the forced cells as the released guide's own fill.sh prints them over the translation 014e6f03bcf8b160… (all of the seat's roots in one cut). By AI agents, Wed Nov 11 2026. No macro, syntax, notation, axiom, sorry.
-/
import Derived.Test.YtcegekkhlfpgfaaChecked
import GoSem.Claim
import GoSem.ClaimJoined
import GoSem.ClaimMapViews
import Derived.JoinedTies
import Derived.KernelRfl
namespace Go.Proofs.Ytcegekkhlfpgfaa
/- THE CELL 'sum', in the pinned program and in every row, IS THE sha256 OF THE DUMP (.gsa) THAT YtcegekkhlfpgfaaProg.lean LOADS. Nothing in Lean hashes anything: it is a label: what it is worth is what the hold of that sum in a sandbox is worth. -/
noncomputable def Try.pinned : Pinned := { name := "ytcegekkhlfpgfaa", sum := "014e6f03bcf8b1605fb0e9f2742636e4be26d32779965ec300413b4423a9e843", checked := Try.checked }
namespace Rows
def none {H : Type} : Left H := { results := [], args := [] }

/-- 'laws.FnExactPutNode': WHATEVER THE INPUT: true; the input reads as it did. -/
def fnExactPutNodeSpec : ChangeSpec := { name := "fnExactPutNode", fn := fun _ => fun
  | [d] => { results := [.lit (.bool true)], args := [d] }
  | _ => none }
def fnExactPutNodeRow : OpenClaim := { program := "ytcegekkhlfpgfaa", sum := "014e6f03bcf8b1605fb0e9f2742636e4be26d32779965ec300413b4423a9e843", func := "loop.example/g00844/laws.FnExactPutNode", spec := "fnExactPutNode", unfollowed := true, recurses := true, apart := false }
def FnExactPutNodeSaid : Prop := fnExactPutNodeRow.holds Try.pinned (OpenSpec.ofChange fnExactPutNodeSpec)

/-- ITS FALSE NEIGHBOUR: 'it returns false'. Refute it at one input. -/
def fnExactPutNodeWrong : ChangeSpec := { name := "fnExactPutNode", fn := fun _ => fun
  | [d] => { results := [.lit (.bool false)], args := [d] }
  | _ => none }
def FnExactPutNodeWrongFalsely : Prop := fnExactPutNodeRow.holds Try.pinned (OpenSpec.ofChange fnExactPutNodeWrong)

/-- 'laws.FnExactEncodePlan': WHATEVER THE INPUT: true; the input reads as it did. -/
def fnExactEncodePlanSpec : ChangeSpec := { name := "fnExactEncodePlan", fn := fun _ => fun
  | [d] => { results := [.lit (.bool true)], args := [d] }
  | _ => none }
def fnExactEncodePlanRow : OpenClaim := { program := "ytcegekkhlfpgfaa", sum := "014e6f03bcf8b1605fb0e9f2742636e4be26d32779965ec300413b4423a9e843", func := "loop.example/g00844/laws.FnExactEncodePlan", spec := "fnExactEncodePlan", unfollowed := true, recurses := true, apart := false }
def FnExactEncodePlanSaid : Prop := fnExactEncodePlanRow.holds Try.pinned (OpenSpec.ofChange fnExactEncodePlanSpec)

/-- ITS FALSE NEIGHBOUR: 'it returns false'. Refute it at one input. -/
def fnExactEncodePlanWrong : ChangeSpec := { name := "fnExactEncodePlan", fn := fun _ => fun
  | [d] => { results := [.lit (.bool false)], args := [d] }
  | _ => none }
def FnExactEncodePlanWrongFalsely : Prop := fnExactEncodePlanRow.holds Try.pinned (OpenSpec.ofChange fnExactEncodePlanWrong)

/-- 'laws.FnExactPlanSum': WHATEVER THE INPUT: true; the input reads as it did. -/
def fnExactPlanSumSpec : ChangeSpec := { name := "fnExactPlanSum", fn := fun _ => fun
  | [d] => { results := [.lit (.bool true)], args := [d] }
  | _ => none }
def fnExactPlanSumRow : OpenClaim := { program := "ytcegekkhlfpgfaa", sum := "014e6f03bcf8b1605fb0e9f2742636e4be26d32779965ec300413b4423a9e843", func := "loop.example/g00844/laws.FnExactPlanSum", spec := "fnExactPlanSum", unfollowed := true, recurses := true, apart := false }
def FnExactPlanSumSaid : Prop := fnExactPlanSumRow.holds Try.pinned (OpenSpec.ofChange fnExactPlanSumSpec)

/-- ITS FALSE NEIGHBOUR: 'it returns false'. Refute it at one input. -/
def fnExactPlanSumWrong : ChangeSpec := { name := "fnExactPlanSum", fn := fun _ => fun
  | [d] => { results := [.lit (.bool false)], args := [d] }
  | _ => none }
def FnExactPlanSumWrongFalsely : Prop := fnExactPlanSumRow.holds Try.pinned (OpenSpec.ofChange fnExactPlanSumWrong)

/-- 'laws.FnExactEncodeSchema': WHATEVER THE INPUT: true; the input reads as it did. -/
def fnExactEncodeSchemaSpec : ChangeSpec := { name := "fnExactEncodeSchema", fn := fun _ => fun
  | [d] => { results := [.lit (.bool true)], args := [d] }
  | _ => none }
def fnExactEncodeSchemaRow : OpenClaim := { program := "ytcegekkhlfpgfaa", sum := "014e6f03bcf8b1605fb0e9f2742636e4be26d32779965ec300413b4423a9e843", func := "loop.example/g00844/laws.FnExactEncodeSchema", spec := "fnExactEncodeSchema", inPlace := ["internal/bytealg.abigen_runtime_cmpstring"], unfollowed := true, recurses := true, apart := false }
def FnExactEncodeSchemaSaid : Prop := fnExactEncodeSchemaRow.holds Try.pinned (OpenSpec.ofChange fnExactEncodeSchemaSpec)

/-- ITS FALSE NEIGHBOUR: 'it returns false'. Refute it at one input. -/
def fnExactEncodeSchemaWrong : ChangeSpec := { name := "fnExactEncodeSchema", fn := fun _ => fun
  | [d] => { results := [.lit (.bool false)], args := [d] }
  | _ => none }
def FnExactEncodeSchemaWrongFalsely : Prop := fnExactEncodeSchemaRow.holds Try.pinned (OpenSpec.ofChange fnExactEncodeSchemaWrong)

/- THE SECOND FORM. 'bulk': how many values and letters a reading holds, each counted each time it is reached (what is shared counts as often as it is met; a slice's spare places count too). A statement '..UptoSaid' is the law's where the arguments, and the package variables that the reading takes, are together of bulk at most 1048576: NARROWER than '..Said'. Prove '..Said' where nothing that the law and all that it calls make is longer than what came in: it says more and counts as full. Else prove '..UptoSaid'. A law counts once. -/
mutual
def uptoBulk {H : Type} : DataW H → Nat
  | .lit (.string bytes) => bytes.length + 1
  | .lit _ => 1
  | .nil => 1
  | .ptr d => uptoBulk d + 1
  | .slice elems spare => uptoBulkAll elems + uptoBulkAll spare + 1
  | .agg parts => uptoBulkAll parts + 1
  | .iface _ d => uptoBulk d + 1
  | .map entries => uptoBulkEntries entries + 1
  | .held _ => 1
def uptoBulkAll {H : Type} : List (DataW H) → Nat
  | [] => 0
  | d :: r => uptoBulk d + uptoBulkAll r
def uptoBulkEntries {H : Type} : List (Lit × DataW H) → Nat
  | [] => 0
  | x :: r => uptoBulkEntry x + uptoBulkEntries r
def uptoBulkEntry {H : Type} : Lit × DataW H → Nat
  | (.string bytes, d) => bytes.length + uptoBulk d + 1
  | (_, d) => uptoBulk d + 1
 end
def uptoSmall : (H : Type) → List (DataW H) → Bool := fun _ ds => decide (uptoBulkAll ds ≤ 1048576)
def OpenSpec.upto (s : _root_.Go.ChangeSpec) : _root_.Go.OpenSpec := { _root_.Go.OpenSpec.ofChange s with cond := some uptoSmall }

/-- 'laws.FnExactPutNode', WHERE WHAT IT READS IS OF BULK AT MOST 1048576: true; the input reads as it did. -/
def fnExactPutNodeUptoRow : OpenClaim := { program := "ytcegekkhlfpgfaa", sum := "014e6f03bcf8b1605fb0e9f2742636e4be26d32779965ec300413b4423a9e843", func := "loop.example/g00844/laws.FnExactPutNode", spec := "fnExactPutNode", unfollowed := true, recurses := true, apart := false, narrowed := true }
def FnExactPutNodeUptoSaid : Prop := fnExactPutNodeUptoRow.holds Try.pinned (OpenSpec.upto fnExactPutNodeSpec)

/-- 'laws.FnExactEncodePlan', WHERE WHAT IT READS IS OF BULK AT MOST 1048576: true; the input reads as it did. -/
def fnExactEncodePlanUptoRow : OpenClaim := { program := "ytcegekkhlfpgfaa", sum := "014e6f03bcf8b1605fb0e9f2742636e4be26d32779965ec300413b4423a9e843", func := "loop.example/g00844/laws.FnExactEncodePlan", spec := "fnExactEncodePlan", unfollowed := true, recurses := true, apart := false, narrowed := true }
def FnExactEncodePlanUptoSaid : Prop := fnExactEncodePlanUptoRow.holds Try.pinned (OpenSpec.upto fnExactEncodePlanSpec)

/-- 'laws.FnExactPlanSum', WHERE WHAT IT READS IS OF BULK AT MOST 1048576: true; the input reads as it did. -/
def fnExactPlanSumUptoRow : OpenClaim := { program := "ytcegekkhlfpgfaa", sum := "014e6f03bcf8b1605fb0e9f2742636e4be26d32779965ec300413b4423a9e843", func := "loop.example/g00844/laws.FnExactPlanSum", spec := "fnExactPlanSum", unfollowed := true, recurses := true, apart := false, narrowed := true }
def FnExactPlanSumUptoSaid : Prop := fnExactPlanSumUptoRow.holds Try.pinned (OpenSpec.upto fnExactPlanSumSpec)

/-- 'laws.FnExactEncodeSchema', WHERE WHAT IT READS IS OF BULK AT MOST 1048576: true; the input reads as it did. -/
def fnExactEncodeSchemaUptoRow : OpenClaim := { program := "ytcegekkhlfpgfaa", sum := "014e6f03bcf8b1605fb0e9f2742636e4be26d32779965ec300413b4423a9e843", func := "loop.example/g00844/laws.FnExactEncodeSchema", spec := "fnExactEncodeSchema", inPlace := ["internal/bytealg.abigen_runtime_cmpstring"], unfollowed := true, recurses := true, apart := false, narrowed := true }
def FnExactEncodeSchemaUptoSaid : Prop := fnExactEncodeSchemaUptoRow.holds Try.pinned (OpenSpec.upto fnExactEncodeSchemaSpec)

end Rows
end Go.Proofs.Ytcegekkhlfpgfaa
