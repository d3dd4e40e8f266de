/-
  No cell of these rows narrows 'for every input' (looked for: loops, veiled, ifaces, maps, wideKeys, modest, calm, conditions, laid).
  DERIVED. THE GIVEN ROWS OF THIS SEAT. 3 by the template 'for every input the law returns true; each argument reads behind the call as it read before'; 0 by the template 'total and deterministic' (their statements: YtlaffeadgdebhaaTotals.lean).
  GIVEN WITH THE SEED: the statements are not yours to turn. If you find one false, say at which input.
  Laid BY PROGRAM, IN A SANDBOX (cutbox-rows.mjs): the forced cells as the released guide's own fill.sh prints them over the translation 588eaa5e292e0828… (all of the seat's roots in one cut). By AI agents, Wed Nov 11 2026. No macro, syntax, notation, axiom, sorry.
-/
import Derived.Test.YtlaffeadgdebhaaChecked
import GoSem.Claim
import GoSem.ClaimJoined
import GoSem.ClaimMapViews
import Derived.JoinedTies
import Derived.KernelRfl
namespace Go.Proofs.Ytlaffeadgdebhaa
/- THE CELL 'sum', in the pinned program and in every row, IS THE sha256 OF THE DUMP (.gsa) THAT YtlaffeadgdebhaaProg.lean LOADS. Nothing in Lean hashes anything: it is a label: what it is worth is what the hold of that sum in a sandbox is worth. -/
noncomputable def Try.pinned : Pinned := { name := "ytlaffeadgdebhaa", sum := "588eaa5e292e08281e1e4e9c766233daf300bdf9385922670aabb29bd5da1dc6", checked := Try.checked }
namespace Rows
def none {H : Type} : Left H := { results := [], args := [] }

/-- 'rudderlaw12.VoteTells': WHATEVER THE INPUT: true; the input reads as it did. -/
def voteTellsSpec : ChangeSpec := { name := "voteTells", fn := fun _ => fun
  | [d1, d2, d3] => { results := [.lit (.bool true)], args := [d1, d2, d3] }
  | _ => none }
def voteTellsRow : OpenClaim := { program := "ytlaffeadgdebhaa", sum := "588eaa5e292e08281e1e4e9c766233daf300bdf9385922670aabb29bd5da1dc6", func := "rudder/rudderlaw12.VoteTells", spec := "voteTells", unfollowed := true, recurses := true, apart := false }
def VoteTellsSaid : Prop := voteTellsRow.holds Try.pinned (OpenSpec.ofChange voteTellsSpec)

/-- ITS FALSE NEIGHBOUR: 'it returns false'. Refute it at one input. -/
def voteTellsWrong : ChangeSpec := { name := "voteTells", fn := fun _ => fun
  | [d1, d2, d3] => { results := [.lit (.bool false)], args := [d1, d2, d3] }
  | _ => none }
def VoteTellsWrongFalsely : Prop := voteTellsRow.holds Try.pinned (OpenSpec.ofChange voteTellsWrong)

/-- 'rudderlaw12.VoteMid': WHATEVER THE INPUT: true; the input reads as it did. -/
def voteMidSpec : ChangeSpec := { name := "voteMid", fn := fun _ => fun
  | [d1, d2, d3] => { results := [.lit (.bool true)], args := [d1, d2, d3] }
  | _ => none }
def voteMidRow : OpenClaim := { program := "ytlaffeadgdebhaa", sum := "588eaa5e292e08281e1e4e9c766233daf300bdf9385922670aabb29bd5da1dc6", func := "rudder/rudderlaw12.VoteMid", spec := "voteMid", unfollowed := true, recurses := true, apart := false }
def VoteMidSaid : Prop := voteMidRow.holds Try.pinned (OpenSpec.ofChange voteMidSpec)

/-- ITS FALSE NEIGHBOUR: 'it returns false'. Refute it at one input. -/
def voteMidWrong : ChangeSpec := { name := "voteMid", fn := fun _ => fun
  | [d1, d2, d3] => { results := [.lit (.bool false)], args := [d1, d2, d3] }
  | _ => none }
def VoteMidWrongFalsely : Prop := voteMidRow.holds Try.pinned (OpenSpec.ofChange voteMidWrong)

/-- 'rudderlaw12.VoteBounded': WHATEVER THE INPUT: true; the input reads as it did. -/
def voteBoundedSpec : ChangeSpec := { name := "voteBounded", fn := fun _ => fun
  | [d1, d2] => { results := [.lit (.bool true)], args := [d1, d2] }
  | _ => none }
def voteBoundedRow : OpenClaim := { program := "ytlaffeadgdebhaa", sum := "588eaa5e292e08281e1e4e9c766233daf300bdf9385922670aabb29bd5da1dc6", func := "rudder/rudderlaw12.VoteBounded", spec := "voteBounded", unfollowed := true, recurses := true, apart := false }
def VoteBoundedSaid : Prop := voteBoundedRow.holds Try.pinned (OpenSpec.ofChange voteBoundedSpec)

/-- ITS FALSE NEIGHBOUR: 'it returns false'. Refute it at one input. -/
def voteBoundedWrong : ChangeSpec := { name := "voteBounded", fn := fun _ => fun
  | [d1, d2] => { results := [.lit (.bool false)], args := [d1, d2] }
  | _ => none }
def VoteBoundedWrongFalsely : Prop := voteBoundedRow.holds Try.pinned (OpenSpec.ofChange voteBoundedWrong)

/- THE SECOND FORM. 'bulk': how many values and letters a reading holds, each counted each time it is reached (what is shared counts as often as it is met; a slice's spare places count too). A statement '..UptoSaid' is the law's where the arguments, and the package variables that the reading takes, are together of bulk at most 1048576: NARROWER than '..Said'. Prove '..Said' where nothing that the law and all that it calls make is longer than what came in: it says more and counts as full. Else prove '..UptoSaid'. A law counts once. -/
mutual
def uptoBulk {H : Type} : DataW H → Nat
  | .lit (.string bytes) => bytes.length + 1
  | .lit _ => 1
  | .nil => 1
  | .ptr d => uptoBulk d + 1
  | .slice elems spare => uptoBulkAll elems + uptoBulkAll spare + 1
  | .agg parts => uptoBulkAll parts + 1
  | .iface _ d => uptoBulk d + 1
  | .map entries => uptoBulkEntries entries + 1
  | .held _ => 1
def uptoBulkAll {H : Type} : List (DataW H) → Nat
  | [] => 0
  | d :: r => uptoBulk d + uptoBulkAll r
def uptoBulkEntries {H : Type} : List (Lit × DataW H) → Nat
  | [] => 0
  | x :: r => uptoBulkEntry x + uptoBulkEntries r
def uptoBulkEntry {H : Type} : Lit × DataW H → Nat
  | (.string bytes, d) => bytes.length + uptoBulk d + 1
  | (_, d) => uptoBulk d + 1
 end
def uptoSmall : (H : Type) → List (DataW H) → Bool := fun _ ds => decide (uptoBulkAll ds ≤ 1048576)
def OpenSpec.upto (s : _root_.Go.ChangeSpec) : _root_.Go.OpenSpec := { _root_.Go.OpenSpec.ofChange s with cond := some uptoSmall }

/-- 'rudderlaw12.VoteTells', WHERE WHAT IT READS IS OF BULK AT MOST 1048576: true; the input reads as it did. -/
def voteTellsUptoRow : OpenClaim := { program := "ytlaffeadgdebhaa", sum := "588eaa5e292e08281e1e4e9c766233daf300bdf9385922670aabb29bd5da1dc6", func := "rudder/rudderlaw12.VoteTells", spec := "voteTells", unfollowed := true, recurses := true, apart := false, narrowed := true }
def VoteTellsUptoSaid : Prop := voteTellsUptoRow.holds Try.pinned (OpenSpec.upto voteTellsSpec)

/-- 'rudderlaw12.VoteMid', WHERE WHAT IT READS IS OF BULK AT MOST 1048576: true; the input reads as it did. -/
def voteMidUptoRow : OpenClaim := { program := "ytlaffeadgdebhaa", sum := "588eaa5e292e08281e1e4e9c766233daf300bdf9385922670aabb29bd5da1dc6", func := "rudder/rudderlaw12.VoteMid", spec := "voteMid", unfollowed := true, recurses := true, apart := false, narrowed := true }
def VoteMidUptoSaid : Prop := voteMidUptoRow.holds Try.pinned (OpenSpec.upto voteMidSpec)

/-- 'rudderlaw12.VoteBounded', WHERE WHAT IT READS IS OF BULK AT MOST 1048576: true; the input reads as it did. -/
def voteBoundedUptoRow : OpenClaim := { program := "ytlaffeadgdebhaa", sum := "588eaa5e292e08281e1e4e9c766233daf300bdf9385922670aabb29bd5da1dc6", func := "rudder/rudderlaw12.VoteBounded", spec := "voteBounded", unfollowed := true, recurses := true, apart := false, narrowed := true }
def VoteBoundedUptoSaid : Prop := voteBoundedUptoRow.holds Try.pinned (OpenSpec.upto voteBoundedSpec)

end Rows
end Go.Proofs.Ytlaffeadgdebhaa
