/-
  DERIVED. GIVEN WITH THE SEED: THE CARDS: each row of YtmfpoakefpephaaDoorRows.lean that lists a variable, with what it lists TIED to the program's text (the seventh form; the later family's looks); each row that meets fmt, with fmt's text TOLD by the authors' own Lean function (tested against real Go, not proved from fmt's source: count such statements apart). THE CARD IS WHAT COUNTS. Prove the row's statement (the work); the ties are given (YtmfpoakefpephaaDoorTie.lean); close each card by the builder's one call (the guide's Derived/Test/ToyasCard.lean, 'card_holds'). Laid BY PROGRAM, IN A SANDBOX (cutbox-door.mjs). By AI agents, Wed Nov 11 2026. No macro, syntax, notation, axiom, sorry.
-/
import Derived.Test.YtmfpoakefpephaaDoorRows
import GoSem.ClaimSeven
namespace Go.Proofs.YtmfpoakefpephaaDoor
namespace Rows

/-- THE TIED CARD OF 'rudderlaw17.RingPlays'. -/
def ringPlaysCard : Claim7 := { stood := { row := ringPlaysRow, standIns := [], harness := (true, "46ab450e9b970b20c49a107fac30ca6afe6eaaf075c142aa7489ac1f5123db6e"), looks := false }, kinds := [], alts := [], laidByText := true, laidKinds := [.data, .data, .data, .data, .data], laidTests := true, laidLooks := .later }
def RingPlaysCardSaid : Prop := Claim7.holds Tryd.pinned (.plain (OpenSpec.ofChange ringPlaysSpec)) ringPlaysCard

/-- THE TIED CARD OF 'rudderlaw17.RingLast'. -/
def ringLastCard : Claim7 := { stood := { row := ringLastRow, standIns := [], harness := (true, "46ab450e9b970b20c49a107fac30ca6afe6eaaf075c142aa7489ac1f5123db6e"), looks := false }, kinds := [], alts := [], laidByText := true, laidKinds := [.data, .data, .data, .data, .data], laidTests := true, laidLooks := .later }
def RingLastCardSaid : Prop := Claim7.holds Tryd.pinned (.plain (OpenSpec.ofChange ringLastSpec)) ringLastCard

/-- THE SECOND FORM's CARD OF 'rudderlaw17.RingPlays'. -/
def ringPlaysUptoCard : Claim7 := { stood := { row := ringPlaysUptoRow, standIns := [], harness := (true, "46ab450e9b970b20c49a107fac30ca6afe6eaaf075c142aa7489ac1f5123db6e"), looks := false }, kinds := [], alts := [], laidByText := true, laidKinds := [.data, .data, .data, .data, .data], laidTests := true, laidLooks := .later }
def RingPlaysUptoCardSaid : Prop := Claim7.holds Tryd.pinned (.plain (OpenSpec.upto ringPlaysSpec)) ringPlaysUptoCard

/-- THE SECOND FORM's CARD OF 'rudderlaw17.RingLast'. -/
def ringLastUptoCard : Claim7 := { stood := { row := ringLastUptoRow, standIns := [], harness := (true, "46ab450e9b970b20c49a107fac30ca6afe6eaaf075c142aa7489ac1f5123db6e"), looks := false }, kinds := [], alts := [], laidByText := true, laidKinds := [.data, .data, .data, .data, .data], laidTests := true, laidLooks := .later }
def RingLastUptoCardSaid : Prop := Claim7.holds Tryd.pinned (.plain (OpenSpec.upto ringLastSpec)) ringLastUptoCard
end Rows
end Go.Proofs.YtmfpoakefpephaaDoor
