/-
  What the document's own answers for layer 3 (package rudderref03: cross, More, Sum, Same) return: contracts by walking the Go text. No conditions beyond the numbers' kinds and where the bytes lie.
-/
import Derived.Test.YtpoededbmdffpaaGreatDoorCrcMath2
import Derived.Test.YtpoededbmdffpaaGreatDoorRow
import Derived.Deep.LoopGhost
import Derived.Deep.QuietTactic
import Derived.BigQuiet
import Derived.IntWalk
import Derived.WalkSmall
namespace Go.Proofs.YtpoededbmdffpaaGreatDoor
set_option maxRecDepth 100000
open Go.ChangeShapes Go.WideShapes Go.ChangeAt Go.RowKit Go.Deep
namespace Cr
theorem half (a k : Nat) : a / 2 ^ (k + 1) = a / 2 ^ k / 2 := by rw [Nat.pow_succ, Nat.div_div_eq_div_mul]
end Cr
end Go.Proofs.YtpoededbmdffpaaGreatDoor
