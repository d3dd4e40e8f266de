/-
  No cell of these rows narrows 'for every input' (looked for: loops, veiled, ifaces, maps, wideKeys, modest, calm, conditions, laid).
  DERIVED. THE GIVEN ROWS OF THIS SEAT. 4 by the template 'for every input the law returns true; each argument reads behind the call as it read before'; 0 by the template 'total and deterministic' (their statements: YtcpfdohodadcaaaTotals.lean).
  GIVEN WITH THE SEED: the statements are not yours to turn. If you find one false, say at which input.
  Laid BY PROGRAM, IN A SANDBOX (cutbox-rows.mjs): the forced cells as the released guide's own fill.sh prints them over the translation 26590724af4d78a0… (all of the seat's roots in one cut). By AI agents, Wed Nov 11 2026. No macro, syntax, notation, axiom, sorry.
-/
import Derived.Test.YtcpfdohodadcaaaChecked
import GoSem.Claim
import GoSem.ClaimJoined
import GoSem.ClaimMapViews
import Derived.JoinedTies
import Derived.KernelRfl
namespace Go.Proofs.Ytcpfdohodadcaaa
/- THE CELL 'sum', in the pinned program and in every row, IS THE sha256 OF THE DUMP (.gsa) THAT YtcpfdohodadcaaaProg.lean LOADS. Nothing in Lean hashes anything: it is a label: what it is worth is what the hold of that sum in a sandbox is worth. -/
noncomputable def Try.pinned : Pinned := { name := "ytcpfdohodadcaaa", sum := "26590724af4d78a0e0555fb7d49080fa29fd4d481753455bc3482d634eb1f827", checked := Try.checked }
namespace Rows
def none {H : Type} : Left H := { results := [], args := [] }

/-- 'rudderlaw15.LatchTells': WHATEVER THE INPUT: true; the input reads as it did. -/
def latchTellsSpec : ChangeSpec := { name := "latchTells", fn := fun _ => fun
  | [d1, d2, d3] => { results := [.lit (.bool true)], args := [d1, d2, d3] }
  | _ => none }
def latchTellsRow : OpenClaim := { program := "ytcpfdohodadcaaa", sum := "26590724af4d78a0e0555fb7d49080fa29fd4d481753455bc3482d634eb1f827", func := "rudder/rudderlaw15.LatchTells", spec := "latchTells", unfollowed := true, recurses := true, apart := false }
def LatchTellsSaid : Prop := latchTellsRow.holds Try.pinned (OpenSpec.ofChange latchTellsSpec)

/-- ITS FALSE NEIGHBOUR: 'it returns false'. Refute it at one input. -/
def latchTellsWrong : ChangeSpec := { name := "latchTells", fn := fun _ => fun
  | [d1, d2, d3] => { results := [.lit (.bool false)], args := [d1, d2, d3] }
  | _ => none }
def LatchTellsWrongFalsely : Prop := latchTellsRow.holds Try.pinned (OpenSpec.ofChange latchTellsWrong)

/-- 'rudderlaw15.LatchRuns': WHATEVER THE INPUT: true; the input reads as it did. -/
def latchRunsSpec : ChangeSpec := { name := "latchRuns", fn := fun _ => fun
  | [d1, d2] => { results := [.lit (.bool true)], args := [d1, d2] }
  | _ => none }
def latchRunsRow : OpenClaim := { program := "ytcpfdohodadcaaa", sum := "26590724af4d78a0e0555fb7d49080fa29fd4d481753455bc3482d634eb1f827", func := "rudder/rudderlaw15.LatchRuns", spec := "latchRuns", unfollowed := true, recurses := true, apart := false }
def LatchRunsSaid : Prop := latchRunsRow.holds Try.pinned (OpenSpec.ofChange latchRunsSpec)

/-- ITS FALSE NEIGHBOUR: 'it returns false'. Refute it at one input. -/
def latchRunsWrong : ChangeSpec := { name := "latchRuns", fn := fun _ => fun
  | [d1, d2] => { results := [.lit (.bool false)], args := [d1, d2] }
  | _ => none }
def LatchRunsWrongFalsely : Prop := latchRunsRow.holds Try.pinned (OpenSpec.ofChange latchRunsWrong)

/-- 'rudderlaw15.LatchRow': WHATEVER THE INPUT: true; the input reads as it did. -/
def latchRowSpec : ChangeSpec := { name := "latchRow", fn := fun _ => fun
  | [d1, d2] => { results := [.lit (.bool true)], args := [d1, d2] }
  | _ => none }
def latchRowRow : OpenClaim := { program := "ytcpfdohodadcaaa", sum := "26590724af4d78a0e0555fb7d49080fa29fd4d481753455bc3482d634eb1f827", func := "rudder/rudderlaw15.LatchRow", spec := "latchRow", unfollowed := true, recurses := true, apart := false }
def LatchRowSaid : Prop := latchRowRow.holds Try.pinned (OpenSpec.ofChange latchRowSpec)

/-- ITS FALSE NEIGHBOUR: 'it returns false'. Refute it at one input. -/
def latchRowWrong : ChangeSpec := { name := "latchRow", fn := fun _ => fun
  | [d1, d2] => { results := [.lit (.bool false)], args := [d1, d2] }
  | _ => none }
def LatchRowWrongFalsely : Prop := latchRowRow.holds Try.pinned (OpenSpec.ofChange latchRowWrong)

/-- 'rudderlaw15.LatchUnharmed': WHATEVER THE INPUT: true; the input reads as it did. -/
def latchUnharmedSpec : ChangeSpec := { name := "latchUnharmed", fn := fun _ => fun
  | [d1, d2, d3] => { results := [.lit (.bool true)], args := [d1, d2, d3] }
  | _ => none }
def latchUnharmedRow : OpenClaim := { program := "ytcpfdohodadcaaa", sum := "26590724af4d78a0e0555fb7d49080fa29fd4d481753455bc3482d634eb1f827", func := "rudder/rudderlaw15.LatchUnharmed", spec := "latchUnharmed", unfollowed := true, recurses := true, apart := false }
def LatchUnharmedSaid : Prop := latchUnharmedRow.holds Try.pinned (OpenSpec.ofChange latchUnharmedSpec)

/-- ITS FALSE NEIGHBOUR: 'it returns false'. Refute it at one input. -/
def latchUnharmedWrong : ChangeSpec := { name := "latchUnharmed", fn := fun _ => fun
  | [d1, d2, d3] => { results := [.lit (.bool false)], args := [d1, d2, d3] }
  | _ => none }
def LatchUnharmedWrongFalsely : Prop := latchUnharmedRow.holds Try.pinned (OpenSpec.ofChange latchUnharmedWrong)

/- THE SECOND FORM. 'bulk': how many values and letters a reading holds, each counted each time it is reached (what is shared counts as often as it is met; a slice's spare places count too). A statement '..UptoSaid' is the law's where the arguments, and the package variables that the reading takes, are together of bulk at most 1048576: NARROWER than '..Said'. Prove '..Said' where nothing that the law and all that it calls make is longer than what came in: it says more and counts as full. Else prove '..UptoSaid'. A law counts once. -/
mutual
def uptoBulk {H : Type} : DataW H → Nat
  | .lit (.string bytes) => bytes.length + 1
  | .lit _ => 1
  | .nil => 1
  | .ptr d => uptoBulk d + 1
  | .slice elems spare => uptoBulkAll elems + uptoBulkAll spare + 1
  | .agg parts => uptoBulkAll parts + 1
  | .iface _ d => uptoBulk d + 1
  | .map entries => uptoBulkEntries entries + 1
  | .held _ => 1
def uptoBulkAll {H : Type} : List (DataW H) → Nat
  | [] => 0
  | d :: r => uptoBulk d + uptoBulkAll r
def uptoBulkEntries {H : Type} : List (Lit × DataW H) → Nat
  | [] => 0
  | x :: r => uptoBulkEntry x + uptoBulkEntries r
def uptoBulkEntry {H : Type} : Lit × DataW H → Nat
  | (.string bytes, d) => bytes.length + uptoBulk d + 1
  | (_, d) => uptoBulk d + 1
 end
def uptoSmall : (H : Type) → List (DataW H) → Bool := fun _ ds => decide (uptoBulkAll ds ≤ 1048576)
def OpenSpec.upto (s : _root_.Go.ChangeSpec) : _root_.Go.OpenSpec := { _root_.Go.OpenSpec.ofChange s with cond := some uptoSmall }

/-- 'rudderlaw15.LatchTells', WHERE WHAT IT READS IS OF BULK AT MOST 1048576: true; the input reads as it did. -/
def latchTellsUptoRow : OpenClaim := { program := "ytcpfdohodadcaaa", sum := "26590724af4d78a0e0555fb7d49080fa29fd4d481753455bc3482d634eb1f827", func := "rudder/rudderlaw15.LatchTells", spec := "latchTells", unfollowed := true, recurses := true, apart := false, narrowed := true }
def LatchTellsUptoSaid : Prop := latchTellsUptoRow.holds Try.pinned (OpenSpec.upto latchTellsSpec)

/-- 'rudderlaw15.LatchRuns', WHERE WHAT IT READS IS OF BULK AT MOST 1048576: true; the input reads as it did. -/
def latchRunsUptoRow : OpenClaim := { program := "ytcpfdohodadcaaa", sum := "26590724af4d78a0e0555fb7d49080fa29fd4d481753455bc3482d634eb1f827", func := "rudder/rudderlaw15.LatchRuns", spec := "latchRuns", unfollowed := true, recurses := true, apart := false, narrowed := true }
def LatchRunsUptoSaid : Prop := latchRunsUptoRow.holds Try.pinned (OpenSpec.upto latchRunsSpec)

/-- 'rudderlaw15.LatchRow', WHERE WHAT IT READS IS OF BULK AT MOST 1048576: true; the input reads as it did. -/
def latchRowUptoRow : OpenClaim := { program := "ytcpfdohodadcaaa", sum := "26590724af4d78a0e0555fb7d49080fa29fd4d481753455bc3482d634eb1f827", func := "rudder/rudderlaw15.LatchRow", spec := "latchRow", unfollowed := true, recurses := true, apart := false, narrowed := true }
def LatchRowUptoSaid : Prop := latchRowUptoRow.holds Try.pinned (OpenSpec.upto latchRowSpec)

/-- 'rudderlaw15.LatchUnharmed', WHERE WHAT IT READS IS OF BULK AT MOST 1048576: true; the input reads as it did. -/
def latchUnharmedUptoRow : OpenClaim := { program := "ytcpfdohodadcaaa", sum := "26590724af4d78a0e0555fb7d49080fa29fd4d481753455bc3482d634eb1f827", func := "rudder/rudderlaw15.LatchUnharmed", spec := "latchUnharmed", unfollowed := true, recurses := true, apart := false, narrowed := true }
def LatchUnharmedUptoSaid : Prop := latchUnharmedUptoRow.holds Try.pinned (OpenSpec.upto latchUnharmedSpec)

end Rows
end Go.Proofs.Ytcpfdohodadcaaa
