/-
  What Has and Count of the document's answers for layer 1 (package rudderref01) return: contracts by walking the Go text (cut out of FixMasksWalk, for later layers). No conditions.
-/
import Derived.Test.YtpoededbmdffpaaGreatDoorFixWalks
namespace Go.Proofs.YtpoededbmdffpaaGreatDoor
set_option maxRecDepth 100000
open Go.ChangeShapes Go.WideShapes Go.ChangeAt Go.RowKit
namespace Fx
end Fx
end Go.Proofs.YtpoededbmdffpaaGreatDoor
