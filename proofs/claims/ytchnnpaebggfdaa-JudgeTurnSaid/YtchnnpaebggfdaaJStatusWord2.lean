/-
  What Word of package status, and Right and Word of rudderref16, tell: contracts by walking the Go text. No conditions.
  What Parse of package status, and that of rudderref16, tell: contracts by walking the Go text. No conditions beyond the number's kind.
-/
import Derived.Test.YtchnnpaebggfdaaJFixMaskRef3
namespace Go.Proofs.Ytchnnpaebggfdaa
set_option maxRecDepth 100000
open Go.ChangeShapes Go.WideShapes Go.ChangeAt Go.RowKit Go.Deep
namespace Ss
open Fx
end Ss
end Go.Proofs.Ytchnnpaebggfdaa

namespace Go.Proofs.Ytchnnpaebggfdaa
set_option maxRecDepth 100000
open Go.ChangeShapes Go.WideShapes Go.ChangeAt Go.RowKit Go.Deep
namespace Ss
open Fx
/-- A result's cell, and another status's. -/
structure Two (w W : World) (g : Nat) (a b : St) : Prop where
  below : Below w.heap.size w W
  ge : w.heap.size < g
  res : VRow W w.heap.size 54 (str a)
  box : VRow W g 54 (str b)
theorem Two.on {w W W' : World} {g : Nat} {a b : St} (h : Two w W g a b) (k : Below W.heap.size W W') : Two w W' g a b := ⟨grow h.below k, h.ge, onB h.res k, onB h.box k⟩
theorem i64_in {x : Int} (h : (Lit.int .i64 x).wf = true) : -9223372036854775808 ≤ x ∧ x ≤ 9223372036854775807 := by
  simp [Lit.wf] at h
  have hmin : IntKind.i64.min = -9223372036854775808 := rfl
  have hmax : IntKind.i64.max = 9223372036854775807 := rfl
  omega
end Ss
end Go.Proofs.Ytchnnpaebggfdaa
