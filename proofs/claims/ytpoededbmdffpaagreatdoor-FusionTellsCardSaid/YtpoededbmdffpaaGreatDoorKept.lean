/-
  An object that the call itself made, while the world goes on. No function of the program is walked here. No conditions.
-/
import Derived.Test.YtpoededbmdffpaaGreatDoorBlk
namespace Go.Proofs.YtpoededbmdffpaaGreatDoor
set_option maxRecDepth 100000
open Go.ChangeShapes Go.WideShapes Go.ChangeAt Go.RowKit Go.Deep
namespace Kp
/-- The block g holds these cells; it is new since w. -/
structure Kept (w W : World) (g : Nat) (t : TypeId) (cs : List Value) : Prop where
  below : Below w.heap.size w W
  row : VRow W g t cs
  ge : w.heap.size ≤ g
section
variable {w W W' : World} {g : Nat} {t : TypeId} {cs cs' : List Value}
theorem Kept.on (h : Kept w W g t cs) (b : Below W.heap.size W W') : Kept w W' g t cs := ⟨grow h.below b, h.row.below b h.row.lt, h.ge⟩
theorem Kept.alloc (h : Kept w W g t cs) (o : Obj) : Kept w (W.alloc o) g t cs := ⟨h.below.alloc h.below.size o, h.row.alloc o, h.ge⟩
theorem Kept.drewN (h : Kept w W g t cs) (n : Nat) : Kept w (W.drewN n) g t cs := ⟨below_drewN h.below n, h.row.drewN n, h.ge⟩
theorem Kept.take (h : Kept w W g t cs) (o : Only g W W') (k : VRow W' g t cs') : Kept w W' g t cs' := ⟨o.below h.below h.below.size h.ge, k, h.ge⟩
theorem kept_new (w W : World) (cs : List Value) (t : TypeId) (h : Below w.heap.size w W) : Kept w (W.alloc (.cells cs.toArray t)) W.heap.size t cs := ⟨h.alloc h.size _, VRow.new W cs t, h.size⟩
end
end Kp
end Go.Proofs.YtpoededbmdffpaaGreatDoor
