/-
  The live question of layer 5 is answered with true: a contract by walking the Go text. Its condition: that the table of names holds the names.
-/
import Derived.Test.YtpoededbmdffpaaGreatDoorFrameDec
import Derived.Test.YtpoededbmdffpaaGreatDoorFrameEnc
namespace Go.Proofs.YtpoededbmdffpaaGreatDoor
set_option maxRecDepth 100000
open Go.ChangeShapes Go.WideShapes Go.ChangeAt Go.RowKit Go.Deep
namespace Fm
open Wd
open Cr (Bytes sealed)
theorem dec_form {w : World} {l : List Int} {r : Int} {vs : List Value} {e : Ending} {w' : World} (h : RetFR w l r e w') (hv : cellsI .i64 l = vs) : e = .returned (.tuple #[.agg vs.toArray, .int .i64 r]) ∧ Below w.heap.size w w' := by
  subst hv; exact h
end Fm
end Go.Proofs.YtpoededbmdffpaaGreatDoor
