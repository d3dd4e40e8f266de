/-
  NARROWER THAN 'FOR EVERY INPUT', by the rows' own cells (each row's printed sentence says how): FrameTells: laid · FrameBack: laid · FrameRejects: laid.
  DERIVED. THE GIVEN ROWS OF THIS SEAT. 3 by the template 'for every input the law returns true; each argument reads behind the call as it read before'; 0 by the template 'total and deterministic' (their statements: YthccllmfecgapaaDoorTotals.lean).
  GIVEN WITH THE SEED: the statements are not yours to turn. If you find one false, say at which input.
  Laid BY PROGRAM, IN A SANDBOX (cutbox-rows.mjs): the forced cells as the released guide's own fill.sh prints them over the translation 5905e92f05ac20eb… (all of the seat's roots in one cut). By AI agents, Wed Nov 11 2026. No macro, syntax, notation, axiom, sorry.
-/
import Derived.Test.YthccllmfecgapaaDoorChecked
import GoSem.Claim
import GoSem.ClaimJoined
import GoSem.ClaimMapViews
import Derived.JoinedTies
import Derived.KernelRfl
namespace Go.Proofs.YthccllmfecgapaaDoor
/- THE CELL 'sum', in the pinned program and in every row, IS THE sha256 OF THE DUMP (.gsa) THAT YthccllmfecgapaaDoorProg.lean LOADS. Nothing in Lean hashes anything: it is a label: what it is worth is what the hold of that sum in a sandbox is worth. -/
noncomputable def Tryd.pinned : Pinned := { name := "ythccllmfecgapaadoor", sum := "5905e92f05ac20ebff56c50b9a8f03ac0ce71a11c864064df126b978c02e8b58", checked := Tryd.checked }
namespace Rows
def none {H : Type} : Left H := { results := [], args := [] }

/- WHAT THE LISTED PACKAGE-LEVEL VARIABLES READ AS WHEN THE CALL BEGINS. Each datum BY PROGRAM (the guide's laid-datum.mjs) off the statement by which the dump's own 'gosem.cut.vars' lays the variable. In a bare row this is a premise. The card (YthccllmfecgapaaDoorCards.lean) ties it to the program's text. -/
def laid_rudder_frame_names {H : Type} : DataW H := .agg [.lit (.string [102, 105, 110, 101]), .lit (.string [97, 98, 115, 101, 110, 116]), .lit (.string [108, 101, 110, 103, 116, 104]), .lit (.string [115, 121, 110, 99]), .lit (.string [111, 116, 104, 101, 114]), .lit (.string [115, 117, 109]), .lit (.string [115, 116, 97, 108, 101])]

/-- 'rudderlaw05.FrameTells': WHATEVER THE INPUT: true; the input reads as it did. -/
def frameTellsSpec : ChangeSpec := { name := "frameTells", fn := fun _ => fun
  | [d1, d2, d3] => { results := [.lit (.bool true)], args := [d1, d2, d3] }
  | _ => none }
def frameTellsRow : OpenClaim := { program := "ythccllmfecgapaadoor", sum := "5905e92f05ac20ebff56c50b9a8f03ac0ce71a11c864064df126b978c02e8b58", func := "rudder/rudderlaw05.FrameTells", spec := "frameTells", unfollowed := true, recurses := true, named := ["rudder/frame.names"], apart := false, laid := [("rudder/frame.names", laid_rudder_frame_names)] }
def FrameTellsSaid : Prop := frameTellsRow.holds Tryd.pinned (OpenSpec.ofChange frameTellsSpec)

/-- ITS FALSE NEIGHBOUR: 'it returns false'. Refute it at one input. -/
def frameTellsWrong : ChangeSpec := { name := "frameTells", fn := fun _ => fun
  | [d1, d2, d3] => { results := [.lit (.bool false)], args := [d1, d2, d3] }
  | _ => none }
def FrameTellsWrongFalsely : Prop := frameTellsRow.holds Tryd.pinned (OpenSpec.ofChange frameTellsWrong)

/-- 'rudderlaw05.FrameBack': WHATEVER THE INPUT: true; the input reads as it did. -/
def frameBackSpec : ChangeSpec := { name := "frameBack", fn := fun _ => fun
  | [d1, d2, d3] => { results := [.lit (.bool true)], args := [d1, d2, d3] }
  | _ => none }
def frameBackRow : OpenClaim := { program := "ythccllmfecgapaadoor", sum := "5905e92f05ac20ebff56c50b9a8f03ac0ce71a11c864064df126b978c02e8b58", func := "rudder/rudderlaw05.FrameBack", spec := "frameBack", unfollowed := true, recurses := true, named := ["rudder/frame.names"], apart := false, laid := [("rudder/frame.names", laid_rudder_frame_names)] }
def FrameBackSaid : Prop := frameBackRow.holds Tryd.pinned (OpenSpec.ofChange frameBackSpec)

/-- ITS FALSE NEIGHBOUR: 'it returns false'. Refute it at one input. -/
def frameBackWrong : ChangeSpec := { name := "frameBack", fn := fun _ => fun
  | [d1, d2, d3] => { results := [.lit (.bool false)], args := [d1, d2, d3] }
  | _ => none }
def FrameBackWrongFalsely : Prop := frameBackRow.holds Tryd.pinned (OpenSpec.ofChange frameBackWrong)

/-- 'rudderlaw05.FrameRejects': WHATEVER THE INPUT: true; the input reads as it did. -/
def frameRejectsSpec : ChangeSpec := { name := "frameRejects", fn := fun _ => fun
  | [d1, d2, d3] => { results := [.lit (.bool true)], args := [d1, d2, d3] }
  | _ => none }
def frameRejectsRow : OpenClaim := { program := "ythccllmfecgapaadoor", sum := "5905e92f05ac20ebff56c50b9a8f03ac0ce71a11c864064df126b978c02e8b58", func := "rudder/rudderlaw05.FrameRejects", spec := "frameRejects", unfollowed := true, recurses := true, named := ["rudder/frame.names"], apart := false, laid := [("rudder/frame.names", laid_rudder_frame_names)] }
def FrameRejectsSaid : Prop := frameRejectsRow.holds Tryd.pinned (OpenSpec.ofChange frameRejectsSpec)

/-- ITS FALSE NEIGHBOUR: 'it returns false'. Refute it at one input. -/
def frameRejectsWrong : ChangeSpec := { name := "frameRejects", fn := fun _ => fun
  | [d1, d2, d3] => { results := [.lit (.bool false)], args := [d1, d2, d3] }
  | _ => none }
def FrameRejectsWrongFalsely : Prop := frameRejectsRow.holds Tryd.pinned (OpenSpec.ofChange frameRejectsWrong)

/- THE SECOND FORM. 'bulk': how many values and letters a reading holds, each counted each time it is reached (what is shared counts as often as it is met; a slice's spare places count too). A statement '..UptoSaid' is the law's where the arguments, and the package variables that the reading takes, are together of bulk at most 1048576: NARROWER than '..Said'. Prove '..Said' where nothing that the law and all that it calls make is longer than what came in: it says more and counts as full. Else prove '..UptoSaid'. A law counts once. -/
mutual
def uptoBulk {H : Type} : DataW H → Nat
  | .lit (.string bytes) => bytes.length + 1
  | .lit _ => 1
  | .nil => 1
  | .ptr d => uptoBulk d + 1
  | .slice elems spare => uptoBulkAll elems + uptoBulkAll spare + 1
  | .agg parts => uptoBulkAll parts + 1
  | .iface _ d => uptoBulk d + 1
  | .map entries => uptoBulkEntries entries + 1
  | .held _ => 1
def uptoBulkAll {H : Type} : List (DataW H) → Nat
  | [] => 0
  | d :: r => uptoBulk d + uptoBulkAll r
def uptoBulkEntries {H : Type} : List (Lit × DataW H) → Nat
  | [] => 0
  | x :: r => uptoBulkEntry x + uptoBulkEntries r
def uptoBulkEntry {H : Type} : Lit × DataW H → Nat
  | (.string bytes, d) => bytes.length + uptoBulk d + 1
  | (_, d) => uptoBulk d + 1
 end
def uptoSmall : (H : Type) → List (DataW H) → Bool := fun _ ds => decide (uptoBulkAll ds ≤ 1048576)
def OpenSpec.upto (s : _root_.Go.ChangeSpec) : _root_.Go.OpenSpec := { _root_.Go.OpenSpec.ofChange s with cond := some uptoSmall }

/-- 'rudderlaw05.FrameTells', WHERE WHAT IT READS IS OF BULK AT MOST 1048576: true; the input reads as it did. -/
def frameTellsUptoRow : OpenClaim := { program := "ythccllmfecgapaadoor", sum := "5905e92f05ac20ebff56c50b9a8f03ac0ce71a11c864064df126b978c02e8b58", func := "rudder/rudderlaw05.FrameTells", spec := "frameTells", unfollowed := true, recurses := true, named := ["rudder/frame.names"], apart := false, laid := [("rudder/frame.names", laid_rudder_frame_names)], narrowed := true }
def FrameTellsUptoSaid : Prop := frameTellsUptoRow.holds Tryd.pinned (OpenSpec.upto frameTellsSpec)

/-- 'rudderlaw05.FrameBack', WHERE WHAT IT READS IS OF BULK AT MOST 1048576: true; the input reads as it did. -/
def frameBackUptoRow : OpenClaim := { program := "ythccllmfecgapaadoor", sum := "5905e92f05ac20ebff56c50b9a8f03ac0ce71a11c864064df126b978c02e8b58", func := "rudder/rudderlaw05.FrameBack", spec := "frameBack", unfollowed := true, recurses := true, named := ["rudder/frame.names"], apart := false, laid := [("rudder/frame.names", laid_rudder_frame_names)], narrowed := true }
def FrameBackUptoSaid : Prop := frameBackUptoRow.holds Tryd.pinned (OpenSpec.upto frameBackSpec)

/-- 'rudderlaw05.FrameRejects', WHERE WHAT IT READS IS OF BULK AT MOST 1048576: true; the input reads as it did. -/
def frameRejectsUptoRow : OpenClaim := { program := "ythccllmfecgapaadoor", sum := "5905e92f05ac20ebff56c50b9a8f03ac0ce71a11c864064df126b978c02e8b58", func := "rudder/rudderlaw05.FrameRejects", spec := "frameRejects", unfollowed := true, recurses := true, named := ["rudder/frame.names"], apart := false, laid := [("rudder/frame.names", laid_rudder_frame_names)], narrowed := true }
def FrameRejectsUptoSaid : Prop := frameRejectsUptoRow.holds Tryd.pinned (OpenSpec.upto frameRejectsSpec)

end Rows
end Go.Proofs.YthccllmfecgapaaDoor
