/-
  No cell of these rows narrows 'for every input' (looked for: loops, veiled, ifaces, maps, wideKeys, modest, calm, conditions, laid).
  DERIVED. THE GIVEN ROWS OF THIS SEAT. 2 by the template 'for every input the law returns true; each argument reads behind the call as it read before'; 0 by the template 'total and deterministic' (their statements: YtblhjjfnneihiaaTotals.lean).
  GIVEN WITH THE SEED: the statements are not yours to turn. If you find one false, say at which input.
  Laid BY PROGRAM, IN A SANDBOX (cutbox-rows.mjs): the forced cells as the released guide's own fill.sh prints them over the translation 138d7da4c0bec5a7… (all of the seat's roots in one cut). By AI agents, Wed Nov 11 2026. No macro, syntax, notation, axiom, sorry.
-/
import Derived.Test.YtblhjjfnneihiaaChecked
import GoSem.Claim
import GoSem.ClaimJoined
import GoSem.ClaimMapViews
import Derived.JoinedTies
import Derived.KernelRfl
namespace Go.Proofs.Ytblhjjfnneihiaa
/- THE CELL 'sum', in the pinned program and in every row, IS THE sha256 OF THE DUMP (.gsa) THAT YtblhjjfnneihiaaProg.lean LOADS. Nothing in Lean hashes anything: it is a label: what it is worth is what the hold of that sum in a sandbox is worth. -/
noncomputable def Try.pinned : Pinned := { name := "ytblhjjfnneihiaa", sum := "138d7da4c0bec5a7ed6d8dcf1f0dde9c9ac3761adbcde005d9e681b2d6b60fc6", checked := Try.checked }
namespace Rows
def none {H : Type} : Left H := { results := [], args := [] }

/-- 'rudderlaw11.EqualPlays': WHATEVER THE INPUT: true; the input reads as it did. -/
def equalPlaysSpec : ChangeSpec := { name := "equalPlays", fn := fun _ => fun
  | [d1, d2, d3] => { results := [.lit (.bool true)], args := [d1, d2, d3] }
  | _ => none }
def equalPlaysRow : OpenClaim := { program := "ytblhjjfnneihiaa", sum := "138d7da4c0bec5a7ed6d8dcf1f0dde9c9ac3761adbcde005d9e681b2d6b60fc6", func := "rudder/rudderlaw11.EqualPlays", spec := "equalPlays", unfollowed := true, recurses := true, apart := false }
def EqualPlaysSaid : Prop := equalPlaysRow.holds Try.pinned (OpenSpec.ofChange equalPlaysSpec)

/-- ITS FALSE NEIGHBOUR: 'it returns false'. Refute it at one input. -/
def equalPlaysWrong : ChangeSpec := { name := "equalPlays", fn := fun _ => fun
  | [d1, d2, d3] => { results := [.lit (.bool false)], args := [d1, d2, d3] }
  | _ => none }
def EqualPlaysWrongFalsely : Prop := equalPlaysRow.holds Try.pinned (OpenSpec.ofChange equalPlaysWrong)

/-- 'rudderlaw11.EqualWithin': WHATEVER THE INPUT: true; the input reads as it did. -/
def equalWithinSpec : ChangeSpec := { name := "equalWithin", fn := fun _ => fun
  | [d1, d2, d3] => { results := [.lit (.bool true)], args := [d1, d2, d3] }
  | _ => none }
def equalWithinRow : OpenClaim := { program := "ytblhjjfnneihiaa", sum := "138d7da4c0bec5a7ed6d8dcf1f0dde9c9ac3761adbcde005d9e681b2d6b60fc6", func := "rudder/rudderlaw11.EqualWithin", spec := "equalWithin", unfollowed := true, recurses := true, apart := false }
def EqualWithinSaid : Prop := equalWithinRow.holds Try.pinned (OpenSpec.ofChange equalWithinSpec)

/-- ITS FALSE NEIGHBOUR: 'it returns false'. Refute it at one input. -/
def equalWithinWrong : ChangeSpec := { name := "equalWithin", fn := fun _ => fun
  | [d1, d2, d3] => { results := [.lit (.bool false)], args := [d1, d2, d3] }
  | _ => none }
def EqualWithinWrongFalsely : Prop := equalWithinRow.holds Try.pinned (OpenSpec.ofChange equalWithinWrong)

/- THE SECOND FORM. 'bulk': how many values and letters a reading holds, each counted each time it is reached (what is shared counts as often as it is met; a slice's spare places count too). A statement '..UptoSaid' is the law's where the arguments, and the package variables that the reading takes, are together of bulk at most 1048576: NARROWER than '..Said'. Prove '..Said' where nothing that the law and all that it calls make is longer than what came in: it says more and counts as full. Else prove '..UptoSaid'. A law counts once. -/
mutual
def uptoBulk {H : Type} : DataW H → Nat
  | .lit (.string bytes) => bytes.length + 1
  | .lit _ => 1
  | .nil => 1
  | .ptr d => uptoBulk d + 1
  | .slice elems spare => uptoBulkAll elems + uptoBulkAll spare + 1
  | .agg parts => uptoBulkAll parts + 1
  | .iface _ d => uptoBulk d + 1
  | .map entries => uptoBulkEntries entries + 1
  | .held _ => 1
def uptoBulkAll {H : Type} : List (DataW H) → Nat
  | [] => 0
  | d :: r => uptoBulk d + uptoBulkAll r
def uptoBulkEntries {H : Type} : List (Lit × DataW H) → Nat
  | [] => 0
  | x :: r => uptoBulkEntry x + uptoBulkEntries r
def uptoBulkEntry {H : Type} : Lit × DataW H → Nat
  | (.string bytes, d) => bytes.length + uptoBulk d + 1
  | (_, d) => uptoBulk d + 1
 end
def uptoSmall : (H : Type) → List (DataW H) → Bool := fun _ ds => decide (uptoBulkAll ds ≤ 1048576)
def OpenSpec.upto (s : _root_.Go.ChangeSpec) : _root_.Go.OpenSpec := { _root_.Go.OpenSpec.ofChange s with cond := some uptoSmall }

/-- 'rudderlaw11.EqualPlays', WHERE WHAT IT READS IS OF BULK AT MOST 1048576: true; the input reads as it did. -/
def equalPlaysUptoRow : OpenClaim := { program := "ytblhjjfnneihiaa", sum := "138d7da4c0bec5a7ed6d8dcf1f0dde9c9ac3761adbcde005d9e681b2d6b60fc6", func := "rudder/rudderlaw11.EqualPlays", spec := "equalPlays", unfollowed := true, recurses := true, apart := false, narrowed := true }
def EqualPlaysUptoSaid : Prop := equalPlaysUptoRow.holds Try.pinned (OpenSpec.upto equalPlaysSpec)

/-- 'rudderlaw11.EqualWithin', WHERE WHAT IT READS IS OF BULK AT MOST 1048576: true; the input reads as it did. -/
def equalWithinUptoRow : OpenClaim := { program := "ytblhjjfnneihiaa", sum := "138d7da4c0bec5a7ed6d8dcf1f0dde9c9ac3761adbcde005d9e681b2d6b60fc6", func := "rudder/rudderlaw11.EqualWithin", spec := "equalWithin", unfollowed := true, recurses := true, apart := false, narrowed := true }
def EqualWithinUptoSaid : Prop := equalWithinUptoRow.holds Try.pinned (OpenSpec.upto equalWithinSpec)

end Rows
end Go.Proofs.Ytblhjjfnneihiaa
