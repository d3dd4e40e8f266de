/-
  A range over a function whose iterator keeps what is still to come in a cell of its own, and writes it between two rounds. No function of the program is walked here. No conditions beyond those said.
-/
import Derived.RangeFuncNested
import Derived.RangeFuncWrites
import Derived.RangeFuncBound
import Derived.RangeFuncCalls
import Derived.RangeFuncLeaves
import Derived.Below
import Derived.Test.YtpoededbmdffpaaGreatDoorBlk
namespace Go.Proofs.YtpoededbmdffpaaGreatDoor
set_option maxRecDepth 100000
open Go.ChangeShapes Go.WideShapes Go.ChangeAt Go.RowKit Go.Deep
namespace Sq
variable {F : Fence} {n : Nat} {P : Program}
theorem turned {W : World} {k : Nat} {o o' : Obj} (h : W.heap[k]? = some o) : (W.putObj k o').heap[k]? = some o' := World.putObj_heap_same (Array.getElem?_eq_some_iff.1 h).1
end Sq
end Go.Proofs.YtpoededbmdffpaaGreatDoor
