/-
  DERIVED. GIVEN WITH THE SEED: THE CARDS: each row of YticidhbnljdidaaGreatDoorRows.lean that lists a variable, with what it lists TIED to the program's text (the seventh form; the later family's looks); each row that meets fmt, with fmt's text TOLD by the authors' own Lean function (tested against real Go, not proved from fmt's source: count such statements apart). THE CARD IS WHAT COUNTS. Prove the row's statement (the work); the ties are given (YticidhbnljdidaaGreatDoorTie.lean); close each card by the builder's one call (the guide's Derived/Test/ToyasCard.lean, 'card_holds'). Laid BY PROGRAM, IN A SANDBOX (cutbox-door.mjs). By AI agents, Wed Nov 11 2026. No macro, syntax, notation, axiom, sorry.
-/
import Derived.Test.YticidhbnljdidaaGreatDoorRows
import GoSem.ClaimSeven
namespace Go.Proofs.YticidhbnljdidaaGreatDoor
namespace Rows

/-- THE TIED CARD OF 'rudderlaw20.FusionPlays'. -/
def fusionPlaysCard : Claim7 := { stood := { row := fusionPlaysRow, standIns := [], harness := (true, "a6e7500d347ec2b0ec63f3c05bc0330a80f5b6459e8dc133a895d5398a9870fa"), looks := false }, kinds := [], alts := [], laidByText := true, laidKinds := [.data], laidTests := true, laidLooks := .later }
def FusionPlaysCardSaid : Prop := Claim7.holds Tryz.pinned (.plain (OpenSpec.ofChange fusionPlaysSpec)) fusionPlaysCard

/-- THE TIED CARD OF 'rudderlaw20.FusionTells'. -/
def fusionTellsCard : Claim7 := { stood := { row := fusionTellsRow, standIns := [], harness := (true, "a6e7500d347ec2b0ec63f3c05bc0330a80f5b6459e8dc133a895d5398a9870fa"), looks := false }, kinds := [], alts := [], laidByText := true, laidKinds := [.data], laidTests := true, laidLooks := .later }
def FusionTellsCardSaid : Prop := Claim7.holds Tryz.pinned (.plain (OpenSpec.ofChange fusionTellsSpec)) fusionTellsCard

/-- THE TIED CARD OF 'rudderlaw20.FusionBounded'. -/
def fusionBoundedCard : Claim7 := { stood := { row := fusionBoundedRow, standIns := [], harness := (true, "a6e7500d347ec2b0ec63f3c05bc0330a80f5b6459e8dc133a895d5398a9870fa"), looks := false }, kinds := [], alts := [], laidByText := true, laidKinds := [.data], laidTests := true, laidLooks := .later }
def FusionBoundedCardSaid : Prop := Claim7.holds Tryz.pinned (.plain (OpenSpec.ofChange fusionBoundedSpec)) fusionBoundedCard

/-- THE SECOND FORM's CARD OF 'rudderlaw20.FusionPlays'. -/
def fusionPlaysUptoCard : Claim7 := { stood := { row := fusionPlaysUptoRow, standIns := [], harness := (true, "a6e7500d347ec2b0ec63f3c05bc0330a80f5b6459e8dc133a895d5398a9870fa"), looks := false }, kinds := [], alts := [], laidByText := true, laidKinds := [.data], laidTests := true, laidLooks := .later }
def FusionPlaysUptoCardSaid : Prop := Claim7.holds Tryz.pinned (.plain (OpenSpec.upto fusionPlaysSpec)) fusionPlaysUptoCard

/-- THE SECOND FORM's CARD OF 'rudderlaw20.FusionTells'. -/
def fusionTellsUptoCard : Claim7 := { stood := { row := fusionTellsUptoRow, standIns := [], harness := (true, "a6e7500d347ec2b0ec63f3c05bc0330a80f5b6459e8dc133a895d5398a9870fa"), looks := false }, kinds := [], alts := [], laidByText := true, laidKinds := [.data], laidTests := true, laidLooks := .later }
def FusionTellsUptoCardSaid : Prop := Claim7.holds Tryz.pinned (.plain (OpenSpec.upto fusionTellsSpec)) fusionTellsUptoCard

/-- THE SECOND FORM's CARD OF 'rudderlaw20.FusionBounded'. -/
def fusionBoundedUptoCard : Claim7 := { stood := { row := fusionBoundedUptoRow, standIns := [], harness := (true, "a6e7500d347ec2b0ec63f3c05bc0330a80f5b6459e8dc133a895d5398a9870fa"), looks := false }, kinds := [], alts := [], laidByText := true, laidKinds := [.data], laidTests := true, laidLooks := .later }
def FusionBoundedUptoCardSaid : Prop := Claim7.holds Tryz.pinned (.plain (OpenSpec.upto fusionBoundedSpec)) fusionBoundedUptoCard
end Rows
end Go.Proofs.YticidhbnljdidaaGreatDoor
