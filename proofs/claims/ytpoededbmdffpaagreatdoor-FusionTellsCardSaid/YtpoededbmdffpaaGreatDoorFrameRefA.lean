/-
  What Right of rudderref05 does: its contract by walking the Go text. No conditions.
-/
import Derived.Test.YtpoededbmdffpaaGreatDoorFrameEnc
namespace Go.Proofs.YtpoededbmdffpaaGreatDoor
set_option maxRecDepth 100000
open Go.ChangeShapes Go.WideShapes Go.ChangeAt Go.RowKit Go.Deep
namespace Fm
open Wd
open Cr (Bytes)
end Fm
end Go.Proofs.YtpoededbmdffpaaGreatDoor
