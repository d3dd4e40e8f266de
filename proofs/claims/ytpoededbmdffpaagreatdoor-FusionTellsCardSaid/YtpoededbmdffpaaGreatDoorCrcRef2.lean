/-
  What the document's own answers for layer 3 (package rudderref03: More, Sum, Same) return: contracts by walking the Go text. No conditions beyond where the bytes lie.
-/
import Derived.Test.YtpoededbmdffpaaGreatDoorCrcRef
namespace Go.Proofs.YtpoededbmdffpaaGreatDoor
set_option maxRecDepth 100000
open Go.ChangeShapes Go.WideShapes Go.ChangeAt Go.RowKit Go.Deep
namespace Cr
end Cr
end Go.Proofs.YtpoededbmdffpaaGreatDoor
