/-
  What Right of rudderref05 does: its contract by walking the Go text. No conditions.
-/
import Derived.Test.YtngdaogcmgmmeaaFrameEnc
namespace Go.Proofs.Ytngdaogcmgmmeaa
open Go.ChangeShapes Go.WideShapes Go.ChangeAt Go.RowKit Go.Deep
namespace Fm
open Wd
open Cr (Bytes)

theorem right_end (s : Int) (vs : List Int) (h : vs.all in4 = true) : right s vs = (decide (0 ≤ s) && decide (s ≤ 65535)) := by unfold right in2; rw [h, Bool.true_and]
end Fm
end Go.Proofs.Ytngdaogcmgmmeaa
