/-
  DERIVED. GIVEN WITH THE SEED: THE CARDS: each row of YthnjagbjoglkbaaDoorRows.lean that lists a variable, with what it lists TIED to the program's text (the seventh form; the later family's looks); each row that meets fmt, with fmt's text TOLD by the authors' own Lean function (tested against real Go, not proved from fmt's source: count such statements apart). THE CARD IS WHAT COUNTS. Prove the row's statement (the work); the ties are given (YthnjagbjoglkbaaDoorTie.lean); close each card by the builder's one call (the guide's Derived/Test/ToyasCard.lean, 'card_holds'). Laid BY PROGRAM, IN A SANDBOX (cutbox-door.mjs). By AI agents, Wed Nov 11 2026. No macro, syntax, notation, axiom, sorry.
-/
import Derived.Test.YthnjagbjoglkbaaDoorRows
import GoSem.ClaimSeven
namespace Go.Proofs.YthnjagbjoglkbaaDoor
namespace Rows

/-- THE TIED CARD OF 'laws.FnWires'. -/
def fnWiresCard : Claim7 := { stood := { row := fnWiresRow, standIns := [], harness := (true, "b46961d7ecc015a4d92461c2b0aa9ca9f3a2d80483ece6e36c9873acbc21417a"), looks := true }, kinds := [], alts := [], laidByText := true, laidKinds := [.handle], laidTests := true, laidLooks := .later }
def FnWiresCardSaid : Prop := Claim7.holds Tryd.pinned (.plain (OpenSpec.ofChange fnWiresSpec)) fnWiresCard

/-- THE TIED CARD OF 'laws.FnExactTakeNum'. -/
def fnExactTakeNumCard : Claim7 := { stood := { row := fnExactTakeNumRow, standIns := [], harness := (true, "b46961d7ecc015a4d92461c2b0aa9ca9f3a2d80483ece6e36c9873acbc21417a"), looks := true }, kinds := [], alts := [], laidByText := true, laidKinds := [.handle], laidTests := true, laidLooks := .later }
def FnExactTakeNumCardSaid : Prop := Claim7.holds Tryd.pinned (.plain (OpenSpec.ofChange fnExactTakeNumSpec)) fnExactTakeNumCard

/-- THE TIED CARD OF 'laws.FnExactTakeWord'. -/
def fnExactTakeWordCard : Claim7 := { stood := { row := fnExactTakeWordRow, standIns := [], harness := (true, "b46961d7ecc015a4d92461c2b0aa9ca9f3a2d80483ece6e36c9873acbc21417a"), looks := true }, kinds := [], alts := [], laidByText := true, laidKinds := [.handle], laidTests := true, laidLooks := .later }
def FnExactTakeWordCardSaid : Prop := Claim7.holds Tryd.pinned (.plain (OpenSpec.ofChange fnExactTakeWordSpec)) fnExactTakeWordCard

/-- THE TIED CARD OF 'laws.FnExactTakeNums'. -/
def fnExactTakeNumsCard : Claim7 := { stood := { row := fnExactTakeNumsRow, standIns := [], harness := (true, "b46961d7ecc015a4d92461c2b0aa9ca9f3a2d80483ece6e36c9873acbc21417a"), looks := true }, kinds := [], alts := [], laidByText := true, laidKinds := [.handle], laidTests := true, laidLooks := .later }
def FnExactTakeNumsCardSaid : Prop := Claim7.holds Tryd.pinned (.plain (OpenSpec.ofChange fnExactTakeNumsSpec)) fnExactTakeNumsCard

/-- THE TIED CARD OF 'laws.FnExactUnframe'. -/
def fnExactUnframeCard : Claim7 := { stood := { row := fnExactUnframeRow, standIns := [], harness := (true, "b46961d7ecc015a4d92461c2b0aa9ca9f3a2d80483ece6e36c9873acbc21417a"), looks := true }, kinds := [], alts := [], laidByText := true, laidKinds := [.handle], laidTests := true, laidLooks := .later }
def FnExactUnframeCardSaid : Prop := Claim7.holds Tryd.pinned (.plain (OpenSpec.ofChange fnExactUnframeSpec)) fnExactUnframeCard

/-- THE SECOND FORM's CARD OF 'laws.FnWires'. -/
def fnWiresUptoCard : Claim7 := { stood := { row := fnWiresUptoRow, standIns := [], harness := (true, "b46961d7ecc015a4d92461c2b0aa9ca9f3a2d80483ece6e36c9873acbc21417a"), looks := true }, kinds := [], alts := [], laidByText := true, laidKinds := [.handle], laidTests := true, laidLooks := .later }
def FnWiresUptoCardSaid : Prop := Claim7.holds Tryd.pinned (.plain (OpenSpec.upto fnWiresSpec)) fnWiresUptoCard

/-- THE SECOND FORM's CARD OF 'laws.FnExactTakeNum'. -/
def fnExactTakeNumUptoCard : Claim7 := { stood := { row := fnExactTakeNumUptoRow, standIns := [], harness := (true, "b46961d7ecc015a4d92461c2b0aa9ca9f3a2d80483ece6e36c9873acbc21417a"), looks := true }, kinds := [], alts := [], laidByText := true, laidKinds := [.handle], laidTests := true, laidLooks := .later }
def FnExactTakeNumUptoCardSaid : Prop := Claim7.holds Tryd.pinned (.plain (OpenSpec.upto fnExactTakeNumSpec)) fnExactTakeNumUptoCard

/-- THE SECOND FORM's CARD OF 'laws.FnExactTakeWord'. -/
def fnExactTakeWordUptoCard : Claim7 := { stood := { row := fnExactTakeWordUptoRow, standIns := [], harness := (true, "b46961d7ecc015a4d92461c2b0aa9ca9f3a2d80483ece6e36c9873acbc21417a"), looks := true }, kinds := [], alts := [], laidByText := true, laidKinds := [.handle], laidTests := true, laidLooks := .later }
def FnExactTakeWordUptoCardSaid : Prop := Claim7.holds Tryd.pinned (.plain (OpenSpec.upto fnExactTakeWordSpec)) fnExactTakeWordUptoCard

/-- THE SECOND FORM's CARD OF 'laws.FnExactTakeNums'. -/
def fnExactTakeNumsUptoCard : Claim7 := { stood := { row := fnExactTakeNumsUptoRow, standIns := [], harness := (true, "b46961d7ecc015a4d92461c2b0aa9ca9f3a2d80483ece6e36c9873acbc21417a"), looks := true }, kinds := [], alts := [], laidByText := true, laidKinds := [.handle], laidTests := true, laidLooks := .later }
def FnExactTakeNumsUptoCardSaid : Prop := Claim7.holds Tryd.pinned (.plain (OpenSpec.upto fnExactTakeNumsSpec)) fnExactTakeNumsUptoCard

/-- THE SECOND FORM's CARD OF 'laws.FnExactUnframe'. -/
def fnExactUnframeUptoCard : Claim7 := { stood := { row := fnExactUnframeUptoRow, standIns := [], harness := (true, "b46961d7ecc015a4d92461c2b0aa9ca9f3a2d80483ece6e36c9873acbc21417a"), looks := true }, kinds := [], alts := [], laidByText := true, laidKinds := [.handle], laidTests := true, laidLooks := .later }
def FnExactUnframeUptoCardSaid : Prop := Claim7.holds Tryd.pinned (.plain (OpenSpec.upto fnExactUnframeSpec)) fnExactUnframeUptoCard
end Rows
end Go.Proofs.YthnjagbjoglkbaaDoor
