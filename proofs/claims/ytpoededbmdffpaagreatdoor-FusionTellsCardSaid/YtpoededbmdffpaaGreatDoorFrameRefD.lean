/-
  What Decode of rudderref05 does: its contract by walking the Go text. Conditions: where the bytes lie.
-/
import Derived.Test.YtpoededbmdffpaaGreatDoorFrameRefC
namespace Go.Proofs.YtpoededbmdffpaaGreatDoor
set_option maxRecDepth 100000
open Go.ChangeShapes Go.WideShapes Go.ChangeAt Go.RowKit Go.Deep
namespace Fm
open Wd
open Cr (Bytes opens opened opened_yes opened_no)
/-- The numbers of bytes, one more laid. -/
def part (q : List Int) (k : Nat) : List Int := nums (q.take (4 * k)) ++ List.replicate (8 - k) 0
section
variable (c : Int) (is : Bool) (a : Option Addr) (cap : Nat) (l : List Int) (w : World)
end
end Fm
end Go.Proofs.YtpoededbmdffpaaGreatDoor
