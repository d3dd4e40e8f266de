/-
  What Decode of rudderref05 does, where the head rejects: its contract by walking the Go text. Conditions: where the bytes lie.
-/
import Derived.Test.YtpoededbmdffpaaGreatDoorFrameDec
import Derived.Test.YtpoededbmdffpaaGreatDoorCrcRef3
import Derived.Test.YtpoededbmdffpaaGreatDoorWordRef
namespace Go.Proofs.YtpoededbmdffpaaGreatDoor
set_option maxRecDepth 100000
open Go.ChangeShapes Go.WideShapes Go.ChangeAt Go.RowKit Go.Deep
namespace Fm
open Wd
open Cr (Bytes opens opened opened_yes opened_no)
section
variable (c : Int) (is : Bool) (a : Option Addr) (cap : Nat) (l : List Int) (w : World)
end
end Fm
end Go.Proofs.YtpoededbmdffpaaGreatDoor
