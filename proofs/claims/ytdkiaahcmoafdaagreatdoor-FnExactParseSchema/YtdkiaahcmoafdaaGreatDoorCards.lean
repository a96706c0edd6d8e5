/-
  DERIVED. GIVEN WITH THE SEED: THE CARDS: each row of YtdkiaahcmoafdaaGreatDoorRows.lean that lists a variable, with what it lists TIED to the program's text (the seventh form; the later family's looks); each row that meets fmt, with fmt's text TOLD by the authors' own Lean function (tested against real Go, not proved from fmt's source: count such statements apart). THE CARD IS WHAT COUNTS. Prove the row's statement (the work); the ties are given (YtdkiaahcmoafdaaGreatDoorTie.lean); close each card by the builder's one call (the guide's Derived/Test/ToyasCard.lean, 'card_holds'). Laid BY PROGRAM, IN A SANDBOX (cutbox-door.mjs). By AI agents, Wed Nov 11 2026. No macro, syntax, notation, axiom, sorry.
-/
import Derived.Test.YtdkiaahcmoafdaaGreatDoorRows
import GoSem.ClaimSeven
namespace Go.Proofs.YtdkiaahcmoafdaaGreatDoor
namespace Rows

/-- THE TIED CARD OF 'laws.FnExactParseSchema'. -/
def fnExactParseSchemaCard : Claim7 := { stood := { row := fnExactParseSchemaRow, standIns := [], harness := (true, "40d9be3eed8bc40687edf4f10e35497175598cda9a9a059577989484aa4f593a"), looks := true }, kinds := [], alts := [], laidByText := true, laidKinds := [.data, .data, .data, .data, .sentinel, .sentinel, .pinned], laidTests := true, laidLooks := .later }
def FnExactParseSchemaCardSaid : Prop := Claim7.holds Tryz.pinned (.plain (OpenSpec.ofChange fnExactParseSchemaSpec)) fnExactParseSchemaCard

/-- THE SECOND FORM's CARD OF 'laws.FnExactParseSchema'. -/
def fnExactParseSchemaUptoCard : Claim7 := { stood := { row := fnExactParseSchemaUptoRow, standIns := [], harness := (true, "40d9be3eed8bc40687edf4f10e35497175598cda9a9a059577989484aa4f593a"), looks := true }, kinds := [], alts := [], laidByText := true, laidKinds := [.data, .data, .data, .data, .sentinel, .sentinel, .pinned], laidTests := true, laidLooks := .later }
def FnExactParseSchemaUptoCardSaid : Prop := Claim7.holds Tryz.pinned (.plain (OpenSpec.upto fnExactParseSchemaSpec)) fnExactParseSchemaUptoCard
end Rows
end Go.Proofs.YtdkiaahcmoafdaaGreatDoor
