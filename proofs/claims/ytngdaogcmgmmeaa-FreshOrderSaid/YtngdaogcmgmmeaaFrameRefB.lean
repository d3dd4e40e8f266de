/-
  What Encode of rudderref05 does: its contract by walking the Go text. No conditions.
-/
import Derived.Test.YtngdaogcmgmmeaaFrameRefA
import Derived.Test.YtngdaogcmgmmeaaCrcRef3
import Derived.Test.YtngdaogcmgmmeaaWordRef
namespace Go.Proofs.Ytngdaogcmgmmeaa
open Go.ChangeShapes Go.WideShapes Go.ChangeAt Go.RowKit Go.Deep
namespace Fm
open Wd
open Cr (Bytes)

/-- What the reference's Encode hands back. -/
def RetIE (w : World) (l : List Int) (x : Int) (e : Ending) (w' : World) : Prop :=
  ∃ a cap, e = .returned (.tuple #[.slice a l.length cap, .int .i64 x]) ∧ IntsAt .u8 w' a l ∧ Below w.heap.size w w'
theorem retIE_nil {w w' : World} {l : List Int} {x : Int} (he : l = []) (hx : x = 1) (h : Below w.heap.size w w') : RetIE w l x (.returned (.tuple #[.slice none 0 0, .int .i64 1])) w' := by
  subst he; subst hx; exact ⟨none, 0, rfl, Or.inl rfl, h⟩
theorem retIE_mk {w w' : World} {a : Option Addr} {l l' : List Int} {n cap : Nat} {x : Int} (he : l' = l) (hn : l'.length = n) (hx : x = 0) (hi : IntsAt .u8 w' a l') (hb : Below w.heap.size w w') :
    RetIE w l x (.returned (.tuple #[.slice a n cap, .int .i64 0])) w' := by subst he; subst hn; subst hx; exact ⟨a, cap, rfl, hi, hb⟩

end Fm
end Go.Proofs.Ytngdaogcmgmmeaa
