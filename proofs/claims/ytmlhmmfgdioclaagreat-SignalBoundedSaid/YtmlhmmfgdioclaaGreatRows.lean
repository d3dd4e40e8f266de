/-
  No cell of these rows narrows 'for every input' (looked for: loops, veiled, ifaces, maps, wideKeys, modest, calm, conditions, laid).
  DERIVED. THE GIVEN ROWS OF THIS SEAT. 3 by the template 'for every input the law returns true; each argument reads behind the call as it read before'; 0 by the template 'total and deterministic' (their statements: YtmlhmmfgdioclaaGreatTotals.lean).
  GIVEN WITH THE SEED: the statements are not yours to turn. If you find one false, say at which input.
  Laid BY PROGRAM, IN A SANDBOX (cutbox-rows.mjs): the forced cells as the released guide's own fill.sh prints them over the translation 5fa902d03a3a3a39… (all of the seat's roots in one cut). By AI agents, Wed Nov 11 2026. No macro, syntax, notation, axiom, sorry.
-/
import Derived.Test.YtmlhmmfgdioclaaGreatChecked
import GoSem.Claim
import GoSem.ClaimJoined
import GoSem.ClaimMapViews
import Derived.JoinedTies
import Derived.KernelRfl
namespace Go.Proofs.YtmlhmmfgdioclaaGreat
/- THE CELL 'sum', in the pinned program and in every row, IS THE sha256 OF THE DUMP (.gsa) THAT YtmlhmmfgdioclaaGreatProg.lean LOADS. Nothing in Lean hashes anything: it is a label: what it is worth is what the hold of that sum in a sandbox is worth. -/
noncomputable def Tryz.pinned : Pinned := { name := "ytmlhmmfgdioclaagreat", sum := "5fa902d03a3a3a399a4cef99e719edabcf2bb379fd312955140dc3bd5f2caf4a", checked := Tryz.checked }
namespace Rows
def none {H : Type} : Left H := { results := [], args := [] }

/-- 'rudderlaw18.SignalPlays': WHATEVER THE INPUT: true; the input reads as it did. -/
def signalPlaysSpec : ChangeSpec := { name := "signalPlays", fn := fun _ => fun
  | [d1, d2] => { results := [.lit (.bool true)], args := [d1, d2] }
  | _ => none }
def signalPlaysRow : OpenClaim := { program := "ytmlhmmfgdioclaagreat", sum := "5fa902d03a3a3a399a4cef99e719edabcf2bb379fd312955140dc3bd5f2caf4a", func := "rudder/rudderlaw18.SignalPlays", spec := "signalPlays", unfollowed := true, recurses := true, apart := false }
def SignalPlaysSaid : Prop := signalPlaysRow.holds Tryz.pinned (OpenSpec.ofChange signalPlaysSpec)

/-- ITS FALSE NEIGHBOUR: 'it returns false'. Refute it at one input. -/
def signalPlaysWrong : ChangeSpec := { name := "signalPlays", fn := fun _ => fun
  | [d1, d2] => { results := [.lit (.bool false)], args := [d1, d2] }
  | _ => none }
def SignalPlaysWrongFalsely : Prop := signalPlaysRow.holds Tryz.pinned (OpenSpec.ofChange signalPlaysWrong)

/-- 'rudderlaw18.SignalBounded': WHATEVER THE INPUT: true; the input reads as it did. -/
def signalBoundedSpec : ChangeSpec := { name := "signalBounded", fn := fun _ => fun
  | [d1, d2] => { results := [.lit (.bool true)], args := [d1, d2] }
  | _ => none }
def signalBoundedRow : OpenClaim := { program := "ytmlhmmfgdioclaagreat", sum := "5fa902d03a3a3a399a4cef99e719edabcf2bb379fd312955140dc3bd5f2caf4a", func := "rudder/rudderlaw18.SignalBounded", spec := "signalBounded", unfollowed := true, recurses := true, apart := false }
def SignalBoundedSaid : Prop := signalBoundedRow.holds Tryz.pinned (OpenSpec.ofChange signalBoundedSpec)

/-- ITS FALSE NEIGHBOUR: 'it returns false'. Refute it at one input. -/
def signalBoundedWrong : ChangeSpec := { name := "signalBounded", fn := fun _ => fun
  | [d1, d2] => { results := [.lit (.bool false)], args := [d1, d2] }
  | _ => none }
def SignalBoundedWrongFalsely : Prop := signalBoundedRow.holds Tryz.pinned (OpenSpec.ofChange signalBoundedWrong)

/-- 'rudderlaw18.SignalFound': WHATEVER THE INPUT: true; the input reads as it did. -/
def signalFoundSpec : ChangeSpec := { name := "signalFound", fn := fun _ => fun
  | [d1, d2] => { results := [.lit (.bool true)], args := [d1, d2] }
  | _ => none }
def signalFoundRow : OpenClaim := { program := "ytmlhmmfgdioclaagreat", sum := "5fa902d03a3a3a399a4cef99e719edabcf2bb379fd312955140dc3bd5f2caf4a", func := "rudder/rudderlaw18.SignalFound", spec := "signalFound", unfollowed := true, recurses := true, apart := false }
def SignalFoundSaid : Prop := signalFoundRow.holds Tryz.pinned (OpenSpec.ofChange signalFoundSpec)

/-- ITS FALSE NEIGHBOUR: 'it returns false'. Refute it at one input. -/
def signalFoundWrong : ChangeSpec := { name := "signalFound", fn := fun _ => fun
  | [d1, d2] => { results := [.lit (.bool false)], args := [d1, d2] }
  | _ => none }
def SignalFoundWrongFalsely : Prop := signalFoundRow.holds Tryz.pinned (OpenSpec.ofChange signalFoundWrong)

/- THE SECOND FORM. 'bulk': how many values and letters a reading holds, each counted each time it is reached (what is shared counts as often as it is met; a slice's spare places count too). A statement '..UptoSaid' is the law's where the arguments, and the package variables that the reading takes, are together of bulk at most 1048576: NARROWER than '..Said'. Prove '..Said' where nothing that the law and all that it calls make is longer than what came in: it says more and counts as full. Else prove '..UptoSaid'. A law counts once. -/
mutual
def uptoBulk {H : Type} : DataW H → Nat
  | .lit (.string bytes) => bytes.length + 1
  | .lit _ => 1
  | .nil => 1
  | .ptr d => uptoBulk d + 1
  | .slice elems spare => uptoBulkAll elems + uptoBulkAll spare + 1
  | .agg parts => uptoBulkAll parts + 1
  | .iface _ d => uptoBulk d + 1
  | .map entries => uptoBulkEntries entries + 1
  | .held _ => 1
def uptoBulkAll {H : Type} : List (DataW H) → Nat
  | [] => 0
  | d :: r => uptoBulk d + uptoBulkAll r
def uptoBulkEntries {H : Type} : List (Lit × DataW H) → Nat
  | [] => 0
  | x :: r => uptoBulkEntry x + uptoBulkEntries r
def uptoBulkEntry {H : Type} : Lit × DataW H → Nat
  | (.string bytes, d) => bytes.length + uptoBulk d + 1
  | (_, d) => uptoBulk d + 1
 end
def uptoSmall : (H : Type) → List (DataW H) → Bool := fun _ ds => decide (uptoBulkAll ds ≤ 1048576)
def OpenSpec.upto (s : _root_.Go.ChangeSpec) : _root_.Go.OpenSpec := { _root_.Go.OpenSpec.ofChange s with cond := some uptoSmall }

/-- 'rudderlaw18.SignalPlays', WHERE WHAT IT READS IS OF BULK AT MOST 1048576: true; the input reads as it did. -/
def signalPlaysUptoRow : OpenClaim := { program := "ytmlhmmfgdioclaagreat", sum := "5fa902d03a3a3a399a4cef99e719edabcf2bb379fd312955140dc3bd5f2caf4a", func := "rudder/rudderlaw18.SignalPlays", spec := "signalPlays", unfollowed := true, recurses := true, apart := false, narrowed := true }
def SignalPlaysUptoSaid : Prop := signalPlaysUptoRow.holds Tryz.pinned (OpenSpec.upto signalPlaysSpec)

/-- 'rudderlaw18.SignalBounded', WHERE WHAT IT READS IS OF BULK AT MOST 1048576: true; the input reads as it did. -/
def signalBoundedUptoRow : OpenClaim := { program := "ytmlhmmfgdioclaagreat", sum := "5fa902d03a3a3a399a4cef99e719edabcf2bb379fd312955140dc3bd5f2caf4a", func := "rudder/rudderlaw18.SignalBounded", spec := "signalBounded", unfollowed := true, recurses := true, apart := false, narrowed := true }
def SignalBoundedUptoSaid : Prop := signalBoundedUptoRow.holds Tryz.pinned (OpenSpec.upto signalBoundedSpec)

/-- 'rudderlaw18.SignalFound', WHERE WHAT IT READS IS OF BULK AT MOST 1048576: true; the input reads as it did. -/
def signalFoundUptoRow : OpenClaim := { program := "ytmlhmmfgdioclaagreat", sum := "5fa902d03a3a3a399a4cef99e719edabcf2bb379fd312955140dc3bd5f2caf4a", func := "rudder/rudderlaw18.SignalFound", spec := "signalFound", unfollowed := true, recurses := true, apart := false, narrowed := true }
def SignalFoundUptoSaid : Prop := signalFoundUptoRow.holds Tryz.pinned (OpenSpec.upto signalFoundSpec)

end Rows
end Go.Proofs.YtmlhmmfgdioclaaGreat
