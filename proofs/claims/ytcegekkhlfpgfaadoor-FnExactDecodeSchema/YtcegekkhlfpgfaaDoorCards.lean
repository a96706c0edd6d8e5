/-
  DERIVED. GIVEN WITH THE SEED: THE CARDS: each row of YtcegekkhlfpgfaaDoorRows.lean that lists a variable, with what it lists TIED to the program's text (the seventh form; the later family's looks); each row that meets fmt, with fmt's text TOLD by the authors' own Lean function (tested against real Go, not proved from fmt's source: count such statements apart). THE CARD IS WHAT COUNTS. Prove the row's statement (the work); the ties are given (YtcegekkhlfpgfaaDoorTie.lean); close each card by the builder's one call (the guide's Derived/Test/ToyasCard.lean, 'card_holds'). Laid BY PROGRAM, IN A SANDBOX (cutbox-door.mjs). By AI agents, Wed Nov 11 2026. No macro, syntax, notation, axiom, sorry.
-/
import Derived.Test.YtcegekkhlfpgfaaDoorRows
import GoSem.ClaimSeven
namespace Go.Proofs.YtcegekkhlfpgfaaDoor
namespace Rows

/-- THE TIED CARD OF 'laws.FnExactTakeNode'. -/
def fnExactTakeNodeCard : Claim7 := { stood := { row := fnExactTakeNodeRow, standIns := [], harness := (true, "109a7af8f30392ccf53cde4ddec56e73bc5ffadea014f9f33ea1e17f855a5b33"), looks := true }, kinds := [], alts := [], laidByText := true, laidKinds := [.handle], laidTests := true, laidLooks := .later }
def FnExactTakeNodeCardSaid : Prop := Claim7.holds Tryd.pinned (.plain (OpenSpec.ofChange fnExactTakeNodeSpec)) fnExactTakeNodeCard

/-- THE TIED CARD OF 'laws.FnExactDecodeSchema'. -/
def fnExactDecodeSchemaCard : Claim7 := { stood := { row := fnExactDecodeSchemaRow, standIns := [], harness := (true, "109a7af8f30392ccf53cde4ddec56e73bc5ffadea014f9f33ea1e17f855a5b33"), looks := true }, kinds := [], alts := [], laidByText := true, laidKinds := [.handle], laidTests := true, laidLooks := .later }
def FnExactDecodeSchemaCardSaid : Prop := Claim7.holds Tryd.pinned (.plain (OpenSpec.ofChange fnExactDecodeSchemaSpec)) fnExactDecodeSchemaCard

/-- THE TIED CARD OF 'laws.FnExactUnframe'. -/
def fnExactUnframeCard : Claim7 := { stood := { row := fnExactUnframeRow, standIns := [], harness := (true, "109a7af8f30392ccf53cde4ddec56e73bc5ffadea014f9f33ea1e17f855a5b33"), looks := true }, kinds := [], alts := [], laidByText := true, laidKinds := [.handle], laidTests := true, laidLooks := .later }
def FnExactUnframeCardSaid : Prop := Claim7.holds Tryd.pinned (.plain (OpenSpec.ofChange fnExactUnframeSpec)) fnExactUnframeCard

/-- THE TIED CARD OF 'laws.FnWires'. -/
def fnWiresCard : Claim7 := { stood := { row := fnWiresRow, standIns := [], harness := (true, "109a7af8f30392ccf53cde4ddec56e73bc5ffadea014f9f33ea1e17f855a5b33"), looks := true }, kinds := [], alts := [], laidByText := true, laidKinds := [.handle], laidTests := true, laidLooks := .later }
def FnWiresCardSaid : Prop := Claim7.holds Tryd.pinned (.plain (OpenSpec.ofChange fnWiresSpec)) fnWiresCard

/-- THE SECOND FORM's CARD OF 'laws.FnExactTakeNode'. -/
def fnExactTakeNodeUptoCard : Claim7 := { stood := { row := fnExactTakeNodeUptoRow, standIns := [], harness := (true, "109a7af8f30392ccf53cde4ddec56e73bc5ffadea014f9f33ea1e17f855a5b33"), looks := true }, kinds := [], alts := [], laidByText := true, laidKinds := [.handle], laidTests := true, laidLooks := .later }
def FnExactTakeNodeUptoCardSaid : Prop := Claim7.holds Tryd.pinned (.plain (OpenSpec.upto fnExactTakeNodeSpec)) fnExactTakeNodeUptoCard

/-- THE SECOND FORM's CARD OF 'laws.FnExactDecodeSchema'. -/
def fnExactDecodeSchemaUptoCard : Claim7 := { stood := { row := fnExactDecodeSchemaUptoRow, standIns := [], harness := (true, "109a7af8f30392ccf53cde4ddec56e73bc5ffadea014f9f33ea1e17f855a5b33"), looks := true }, kinds := [], alts := [], laidByText := true, laidKinds := [.handle], laidTests := true, laidLooks := .later }
def FnExactDecodeSchemaUptoCardSaid : Prop := Claim7.holds Tryd.pinned (.plain (OpenSpec.upto fnExactDecodeSchemaSpec)) fnExactDecodeSchemaUptoCard

/-- THE SECOND FORM's CARD OF 'laws.FnExactUnframe'. -/
def fnExactUnframeUptoCard : Claim7 := { stood := { row := fnExactUnframeUptoRow, standIns := [], harness := (true, "109a7af8f30392ccf53cde4ddec56e73bc5ffadea014f9f33ea1e17f855a5b33"), looks := true }, kinds := [], alts := [], laidByText := true, laidKinds := [.handle], laidTests := true, laidLooks := .later }
def FnExactUnframeUptoCardSaid : Prop := Claim7.holds Tryd.pinned (.plain (OpenSpec.upto fnExactUnframeSpec)) fnExactUnframeUptoCard

/-- THE SECOND FORM's CARD OF 'laws.FnWires'. -/
def fnWiresUptoCard : Claim7 := { stood := { row := fnWiresUptoRow, standIns := [], harness := (true, "109a7af8f30392ccf53cde4ddec56e73bc5ffadea014f9f33ea1e17f855a5b33"), looks := true }, kinds := [], alts := [], laidByText := true, laidKinds := [.handle], laidTests := true, laidLooks := .later }
def FnWiresUptoCardSaid : Prop := Claim7.holds Tryd.pinned (.plain (OpenSpec.upto fnWiresSpec)) fnWiresUptoCard
end Rows
end Go.Proofs.YtcegekkhlfpgfaaDoor
