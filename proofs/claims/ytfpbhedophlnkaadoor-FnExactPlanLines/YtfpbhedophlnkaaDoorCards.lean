/-
  DERIVED. GIVEN WITH THE SEED: THE CARDS: each row of YtfpbhedophlnkaaDoorRows.lean that lists a variable, with what it lists TIED to the program's text (the seventh form; the later family's looks); each row that meets fmt, with fmt's text TOLD by the authors' own Lean function (tested against real Go, not proved from fmt's source: count such statements apart). THE CARD IS WHAT COUNTS. Prove the row's statement (the work); the ties are given (YtfpbhedophlnkaaDoorTie.lean); close each card by the builder's one call (the guide's Derived/Test/ToyasCard.lean, 'card_holds'). Laid BY PROGRAM, IN A SANDBOX (cutbox-door.mjs). By AI agents, Wed Nov 11 2026. No macro, syntax, notation, axiom, sorry.
-/
import Derived.Test.YtfpbhedophlnkaaDoorRows
import GoSem.ClaimSeven
namespace Go.Proofs.YtfpbhedophlnkaaDoor
namespace Rows

/-- THE TIED CARD OF 'laws.FnExactNodeText'. -/
def fnExactNodeTextCard : Claim7 := { stood := { row := fnExactNodeTextRow, standIns := [], harness := (true, "c51649148f8d80a514d33a222f13ab358053f25ac623cc266e4efdd12daf37fb"), looks := true }, kinds := [], alts := [], laidByText := true, laidKinds := [.data, .data, .data], laidTests := true, laidLooks := .later }
def FnExactNodeTextCardSaid : Prop := Claim7.holds Tryd.pinned (.plain (OpenSpec.ofChange fnExactNodeTextSpec)) fnExactNodeTextCard

/-- THE TIED CARD OF 'laws.FnExactPrintPlan'. -/
def fnExactPrintPlanCard : Claim7 := { stood := { row := fnExactPrintPlanRow, standIns := [], harness := (true, "c51649148f8d80a514d33a222f13ab358053f25ac623cc266e4efdd12daf37fb"), looks := true }, kinds := [], alts := [], laidByText := true, laidKinds := [.data, .data, .data], laidTests := true, laidLooks := .later }
def FnExactPrintPlanCardSaid : Prop := Claim7.holds Tryd.pinned (.plain (OpenSpec.ofChange fnExactPrintPlanSpec)) fnExactPrintPlanCard

/-- THE TIED CARD OF 'laws.FnExactPlanLines'. -/
def fnExactPlanLinesCard : Claim7 := { stood := { row := fnExactPlanLinesRow, standIns := [], harness := (true, "c51649148f8d80a514d33a222f13ab358053f25ac623cc266e4efdd12daf37fb"), looks := true }, kinds := [], alts := [], laidByText := true, laidKinds := [.data, .data, .data], laidTests := true, laidLooks := .later }
def FnExactPlanLinesCardSaid : Prop := Claim7.holds Tryd.pinned (.plain (OpenSpec.ofChange fnExactPlanLinesSpec)) fnExactPlanLinesCard

/-- THE SECOND FORM's CARD OF 'laws.FnExactNodeText'. -/
def fnExactNodeTextUptoCard : Claim7 := { stood := { row := fnExactNodeTextUptoRow, standIns := [], harness := (true, "c51649148f8d80a514d33a222f13ab358053f25ac623cc266e4efdd12daf37fb"), looks := true }, kinds := [], alts := [], laidByText := true, laidKinds := [.data, .data, .data], laidTests := true, laidLooks := .later }
def FnExactNodeTextUptoCardSaid : Prop := Claim7.holds Tryd.pinned (.plain (OpenSpec.upto fnExactNodeTextSpec)) fnExactNodeTextUptoCard

/-- THE SECOND FORM's CARD OF 'laws.FnExactPrintPlan'. -/
def fnExactPrintPlanUptoCard : Claim7 := { stood := { row := fnExactPrintPlanUptoRow, standIns := [], harness := (true, "c51649148f8d80a514d33a222f13ab358053f25ac623cc266e4efdd12daf37fb"), looks := true }, kinds := [], alts := [], laidByText := true, laidKinds := [.data, .data, .data], laidTests := true, laidLooks := .later }
def FnExactPrintPlanUptoCardSaid : Prop := Claim7.holds Tryd.pinned (.plain (OpenSpec.upto fnExactPrintPlanSpec)) fnExactPrintPlanUptoCard

/-- THE SECOND FORM's CARD OF 'laws.FnExactPlanLines'. -/
def fnExactPlanLinesUptoCard : Claim7 := { stood := { row := fnExactPlanLinesUptoRow, standIns := [], harness := (true, "c51649148f8d80a514d33a222f13ab358053f25ac623cc266e4efdd12daf37fb"), looks := true }, kinds := [], alts := [], laidByText := true, laidKinds := [.data, .data, .data], laidTests := true, laidLooks := .later }
def FnExactPlanLinesUptoCardSaid : Prop := Claim7.holds Tryd.pinned (.plain (OpenSpec.upto fnExactPlanLinesSpec)) fnExactPlanLinesUptoCard
end Rows
end Go.Proofs.YtfpbhedophlnkaaDoor
