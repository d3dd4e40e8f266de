/-
  NARROWER THAN 'FOR EVERY INPUT', by the rows' own cells (each row's printed sentence says how): FusionPlays: laid · FusionTells: laid · FusionBounded: laid.
  DERIVED. THE GIVEN ROWS OF THIS SEAT. 3 by the template 'for every input the law returns true; each argument reads behind the call as it read before'; 0 by the template 'total and deterministic' (their statements: YticidhbnljdidaaGreatDoorTotals.lean).
  GIVEN WITH THE SEED: the statements are not yours to turn. If you find one false, say at which input.
  Laid BY PROGRAM, IN A SANDBOX (cutbox-rows.mjs): the forced cells as the released guide's own fill.sh prints them over the translation d1a26ee7f2e730e7… (all of the seat's roots in one cut). By AI agents, Wed Nov 11 2026. No macro, syntax, notation, axiom, sorry.
-/
import Derived.Test.YticidhbnljdidaaGreatDoorChecked
import GoSem.Claim
import GoSem.ClaimJoined
import GoSem.ClaimMapViews
import Derived.JoinedTies
import Derived.KernelRfl
namespace Go.Proofs.YticidhbnljdidaaGreatDoor
/- THE CELL 'sum', in the pinned program and in every row, IS THE sha256 OF THE DUMP (.gsa) THAT YticidhbnljdidaaGreatDoorProg.lean LOADS. Nothing in Lean hashes anything: it is a label: what it is worth is what the hold of that sum in a sandbox is worth. -/
noncomputable def Tryz.pinned : Pinned := { name := "yticidhbnljdidaagreatdoor", sum := "d1a26ee7f2e730e7a4d57c47924d4f1f38947b9bc149ddd7c1be17b845ba77bb", checked := Tryz.checked }
namespace Rows
def none {H : Type} : Left H := { results := [], args := [] }

/- WHAT THE LISTED PACKAGE-LEVEL VARIABLES READ AS WHEN THE CALL BEGINS. Each datum BY PROGRAM (the guide's laid-datum.mjs) off the statement by which the dump's own 'gosem.cut.vars' lays the variable. In a bare row this is a premise. The card (YticidhbnljdidaaGreatDoorCards.lean) ties it to the program's text. -/
def laid_rudder_trip_trips {H : Type} : DataW H := .agg [.agg [.lit (.int .i64 1), .lit (.string [102, 114, 97, 109, 101])], .agg [.lit (.int .i64 2), .lit (.string [114, 97, 110, 103, 101])], .agg [.lit (.int .i64 4), .lit (.string [115, 112, 105, 107, 101])], .agg [.lit (.int .i64 8), .lit (.string [115, 116, 117, 99, 107])], .agg [.lit (.int .i64 16), .lit (.string [100, 114, 105, 102, 116])], .agg [.lit (.int .i64 32), .lit (.string [109, 105, 115])]]

/-- 'rudderlaw20.FusionPlays': WHATEVER THE INPUT: true; the input reads as it did. -/
def fusionPlaysSpec : ChangeSpec := { name := "fusionPlays", fn := fun _ => fun
  | [d1, d2] => { results := [.lit (.bool true)], args := [d1, d2] }
  | _ => none }
def fusionPlaysRow : OpenClaim := { program := "yticidhbnljdidaagreatdoor", sum := "d1a26ee7f2e730e7a4d57c47924d4f1f38947b9bc149ddd7c1be17b845ba77bb", func := "rudder/rudderlaw20.FusionPlays", spec := "fusionPlays", inPlace := ["internal/abi.NoEscape", "internal/bytealg.MakeNoZero"], unfollowed := true, recurses := true, named := ["rudder/trip.trips"], apart := false, laid := [("rudder/trip.trips", laid_rudder_trip_trips)] }
def FusionPlaysSaid : Prop := fusionPlaysRow.holds Tryz.pinned (OpenSpec.ofChange fusionPlaysSpec)

/-- ITS FALSE NEIGHBOUR: 'it returns false'. Refute it at one input. -/
def fusionPlaysWrong : ChangeSpec := { name := "fusionPlays", fn := fun _ => fun
  | [d1, d2] => { results := [.lit (.bool false)], args := [d1, d2] }
  | _ => none }
def FusionPlaysWrongFalsely : Prop := fusionPlaysRow.holds Tryz.pinned (OpenSpec.ofChange fusionPlaysWrong)

/-- 'rudderlaw20.FusionTells': WHATEVER THE INPUT: true; the input reads as it did. -/
def fusionTellsSpec : ChangeSpec := { name := "fusionTells", fn := fun _ => fun
  | [d1, d2] => { results := [.lit (.bool true)], args := [d1, d2] }
  | _ => none }
def fusionTellsRow : OpenClaim := { program := "yticidhbnljdidaagreatdoor", sum := "d1a26ee7f2e730e7a4d57c47924d4f1f38947b9bc149ddd7c1be17b845ba77bb", func := "rudder/rudderlaw20.FusionTells", spec := "fusionTells", inPlace := ["internal/abi.NoEscape", "internal/bytealg.MakeNoZero"], unfollowed := true, recurses := true, named := ["rudder/trip.trips"], apart := false, laid := [("rudder/trip.trips", laid_rudder_trip_trips)] }
def FusionTellsSaid : Prop := fusionTellsRow.holds Tryz.pinned (OpenSpec.ofChange fusionTellsSpec)

/-- ITS FALSE NEIGHBOUR: 'it returns false'. Refute it at one input. -/
def fusionTellsWrong : ChangeSpec := { name := "fusionTells", fn := fun _ => fun
  | [d1, d2] => { results := [.lit (.bool false)], args := [d1, d2] }
  | _ => none }
def FusionTellsWrongFalsely : Prop := fusionTellsRow.holds Tryz.pinned (OpenSpec.ofChange fusionTellsWrong)

/-- 'rudderlaw20.FusionBounded': WHATEVER THE INPUT: true; the input reads as it did. -/
def fusionBoundedSpec : ChangeSpec := { name := "fusionBounded", fn := fun _ => fun
  | [d1, d2] => { results := [.lit (.bool true)], args := [d1, d2] }
  | _ => none }
def fusionBoundedRow : OpenClaim := { program := "yticidhbnljdidaagreatdoor", sum := "d1a26ee7f2e730e7a4d57c47924d4f1f38947b9bc149ddd7c1be17b845ba77bb", func := "rudder/rudderlaw20.FusionBounded", spec := "fusionBounded", inPlace := ["internal/abi.NoEscape", "internal/bytealg.MakeNoZero"], unfollowed := true, recurses := true, named := ["rudder/trip.trips"], apart := false, laid := [("rudder/trip.trips", laid_rudder_trip_trips)] }
def FusionBoundedSaid : Prop := fusionBoundedRow.holds Tryz.pinned (OpenSpec.ofChange fusionBoundedSpec)

/-- ITS FALSE NEIGHBOUR: 'it returns false'. Refute it at one input. -/
def fusionBoundedWrong : ChangeSpec := { name := "fusionBounded", fn := fun _ => fun
  | [d1, d2] => { results := [.lit (.bool false)], args := [d1, d2] }
  | _ => none }
def FusionBoundedWrongFalsely : Prop := fusionBoundedRow.holds Tryz.pinned (OpenSpec.ofChange fusionBoundedWrong)

/- THE SECOND FORM. 'bulk': how many values and letters a reading holds, each counted each time it is reached (what is shared counts as often as it is met; a slice's spare places count too). A statement '..UptoSaid' is the law's where the arguments, and the package variables that the reading takes, are together of bulk at most 1048576: NARROWER than '..Said'. Prove '..Said' where nothing that the law and all that it calls make is longer than what came in: it says more and counts as full. Else prove '..UptoSaid'. A law counts once. -/
mutual
def uptoBulk {H : Type} : DataW H → Nat
  | .lit (.string bytes) => bytes.length + 1
  | .lit _ => 1
  | .nil => 1
  | .ptr d => uptoBulk d + 1
  | .slice elems spare => uptoBulkAll elems + uptoBulkAll spare + 1
  | .agg parts => uptoBulkAll parts + 1
  | .iface _ d => uptoBulk d + 1
  | .map entries => uptoBulkEntries entries + 1
  | .held _ => 1
def uptoBulkAll {H : Type} : List (DataW H) → Nat
  | [] => 0
  | d :: r => uptoBulk d + uptoBulkAll r
def uptoBulkEntries {H : Type} : List (Lit × DataW H) → Nat
  | [] => 0
  | x :: r => uptoBulkEntry x + uptoBulkEntries r
def uptoBulkEntry {H : Type} : Lit × DataW H → Nat
  | (.string bytes, d) => bytes.length + uptoBulk d + 1
  | (_, d) => uptoBulk d + 1
 end
def uptoSmall : (H : Type) → List (DataW H) → Bool := fun _ ds => decide (uptoBulkAll ds ≤ 1048576)
def OpenSpec.upto (s : _root_.Go.ChangeSpec) : _root_.Go.OpenSpec := { _root_.Go.OpenSpec.ofChange s with cond := some uptoSmall }

/-- 'rudderlaw20.FusionPlays', WHERE WHAT IT READS IS OF BULK AT MOST 1048576: true; the input reads as it did. -/
def fusionPlaysUptoRow : OpenClaim := { program := "yticidhbnljdidaagreatdoor", sum := "d1a26ee7f2e730e7a4d57c47924d4f1f38947b9bc149ddd7c1be17b845ba77bb", func := "rudder/rudderlaw20.FusionPlays", spec := "fusionPlays", inPlace := ["internal/abi.NoEscape", "internal/bytealg.MakeNoZero"], unfollowed := true, recurses := true, named := ["rudder/trip.trips"], apart := false, laid := [("rudder/trip.trips", laid_rudder_trip_trips)], narrowed := true }
def FusionPlaysUptoSaid : Prop := fusionPlaysUptoRow.holds Tryz.pinned (OpenSpec.upto fusionPlaysSpec)

/-- 'rudderlaw20.FusionTells', WHERE WHAT IT READS IS OF BULK AT MOST 1048576: true; the input reads as it did. -/
def fusionTellsUptoRow : OpenClaim := { program := "yticidhbnljdidaagreatdoor", sum := "d1a26ee7f2e730e7a4d57c47924d4f1f38947b9bc149ddd7c1be17b845ba77bb", func := "rudder/rudderlaw20.FusionTells", spec := "fusionTells", inPlace := ["internal/abi.NoEscape", "internal/bytealg.MakeNoZero"], unfollowed := true, recurses := true, named := ["rudder/trip.trips"], apart := false, laid := [("rudder/trip.trips", laid_rudder_trip_trips)], narrowed := true }
def FusionTellsUptoSaid : Prop := fusionTellsUptoRow.holds Tryz.pinned (OpenSpec.upto fusionTellsSpec)

/-- 'rudderlaw20.FusionBounded', WHERE WHAT IT READS IS OF BULK AT MOST 1048576: true; the input reads as it did. -/
def fusionBoundedUptoRow : OpenClaim := { program := "yticidhbnljdidaagreatdoor", sum := "d1a26ee7f2e730e7a4d57c47924d4f1f38947b9bc149ddd7c1be17b845ba77bb", func := "rudder/rudderlaw20.FusionBounded", spec := "fusionBounded", inPlace := ["internal/abi.NoEscape", "internal/bytealg.MakeNoZero"], unfollowed := true, recurses := true, named := ["rudder/trip.trips"], apart := false, laid := [("rudder/trip.trips", laid_rudder_trip_trips)], narrowed := true }
def FusionBoundedUptoSaid : Prop := fusionBoundedUptoRow.holds Tryz.pinned (OpenSpec.upto fusionBoundedSpec)

end Rows
end Go.Proofs.YticidhbnljdidaaGreatDoor
