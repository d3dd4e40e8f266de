/-
  DERIVED. GIVEN WITH THE SEED: THE CARDS: each row of YthccllmfecgapaaDoorRows.lean that lists a variable, with what it lists TIED to the program's text (the seventh form; the later family's looks); each row that meets fmt, with fmt's text TOLD by the authors' own Lean function (tested against real Go, not proved from fmt's source: count such statements apart). THE CARD IS WHAT COUNTS. Prove the row's statement (the work); the ties are given (YthccllmfecgapaaDoorTie.lean); close each card by the builder's one call (the guide's Derived/Test/ToyasCard.lean, 'card_holds'). Laid BY PROGRAM, IN A SANDBOX (cutbox-door.mjs). By AI agents, Wed Nov 11 2026. No macro, syntax, notation, axiom, sorry.
-/
import Derived.Test.YthccllmfecgapaaDoorRows
import GoSem.ClaimSeven
namespace Go.Proofs.YthccllmfecgapaaDoor
namespace Rows

/-- THE TIED CARD OF 'rudderlaw05.FrameTells'. -/
def frameTellsCard : Claim7 := { stood := { row := frameTellsRow, standIns := [], harness := (true, "474718d2367c2cf3d853d7c3d8e2187b40ff59f3bad3429b290a3ac38136849f"), looks := false }, kinds := [], alts := [], laidByText := true, laidKinds := [.data], laidTests := true, laidLooks := .later }
def FrameTellsCardSaid : Prop := Claim7.holds Tryd.pinned (.plain (OpenSpec.ofChange frameTellsSpec)) frameTellsCard

/-- THE TIED CARD OF 'rudderlaw05.FrameBack'. -/
def frameBackCard : Claim7 := { stood := { row := frameBackRow, standIns := [], harness := (true, "474718d2367c2cf3d853d7c3d8e2187b40ff59f3bad3429b290a3ac38136849f"), looks := false }, kinds := [], alts := [], laidByText := true, laidKinds := [.data], laidTests := true, laidLooks := .later }
def FrameBackCardSaid : Prop := Claim7.holds Tryd.pinned (.plain (OpenSpec.ofChange frameBackSpec)) frameBackCard

/-- THE TIED CARD OF 'rudderlaw05.FrameRejects'. -/
def frameRejectsCard : Claim7 := { stood := { row := frameRejectsRow, standIns := [], harness := (true, "474718d2367c2cf3d853d7c3d8e2187b40ff59f3bad3429b290a3ac38136849f"), looks := false }, kinds := [], alts := [], laidByText := true, laidKinds := [.data], laidTests := true, laidLooks := .later }
def FrameRejectsCardSaid : Prop := Claim7.holds Tryd.pinned (.plain (OpenSpec.ofChange frameRejectsSpec)) frameRejectsCard

/-- THE SECOND FORM's CARD OF 'rudderlaw05.FrameTells'. -/
def frameTellsUptoCard : Claim7 := { stood := { row := frameTellsUptoRow, standIns := [], harness := (true, "474718d2367c2cf3d853d7c3d8e2187b40ff59f3bad3429b290a3ac38136849f"), looks := false }, kinds := [], alts := [], laidByText := true, laidKinds := [.data], laidTests := true, laidLooks := .later }
def FrameTellsUptoCardSaid : Prop := Claim7.holds Tryd.pinned (.plain (OpenSpec.upto frameTellsSpec)) frameTellsUptoCard

/-- THE SECOND FORM's CARD OF 'rudderlaw05.FrameBack'. -/
def frameBackUptoCard : Claim7 := { stood := { row := frameBackUptoRow, standIns := [], harness := (true, "474718d2367c2cf3d853d7c3d8e2187b40ff59f3bad3429b290a3ac38136849f"), looks := false }, kinds := [], alts := [], laidByText := true, laidKinds := [.data], laidTests := true, laidLooks := .later }
def FrameBackUptoCardSaid : Prop := Claim7.holds Tryd.pinned (.plain (OpenSpec.upto frameBackSpec)) frameBackUptoCard

/-- THE SECOND FORM's CARD OF 'rudderlaw05.FrameRejects'. -/
def frameRejectsUptoCard : Claim7 := { stood := { row := frameRejectsUptoRow, standIns := [], harness := (true, "474718d2367c2cf3d853d7c3d8e2187b40ff59f3bad3429b290a3ac38136849f"), looks := false }, kinds := [], alts := [], laidByText := true, laidKinds := [.data], laidTests := true, laidLooks := .later }
def FrameRejectsUptoCardSaid : Prop := Claim7.holds Tryd.pinned (.plain (OpenSpec.upto frameRejectsSpec)) frameRejectsUptoCard
end Rows
end Go.Proofs.YthccllmfecgapaaDoor
