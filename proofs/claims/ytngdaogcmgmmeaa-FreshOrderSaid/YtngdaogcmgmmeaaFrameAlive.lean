/-
  The live question of layer 5 is answered with true: a contract by walking the Go text. Its condition: that the table of names holds the names.
-/
import Derived.Test.YtngdaogcmgmmeaaFrameDec
import Derived.Test.YtngdaogcmgmmeaaFrameEnc
namespace Go.Proofs.Ytngdaogcmgmmeaa
open Go.ChangeShapes Go.WideShapes Go.ChangeAt Go.RowKit Go.Deep
namespace Fm
open Wd
open Cr (Bytes sealed)

theorem enc_head {c s : Int} {vs : List Int} (h : right s vs = true) (k : chan c = true) (h8 : vs.length = 8) (i : Nat) (hi : i < 36) : (enc c s vs).getD i 0 = (head c s vs).getD i 0 := by
  rw [enc_yes h k]
  unfold sealed
  rw [List.getD_eq_getElem?_getD, List.getD_eq_getElem?_getD, List.getElem?_append_left (by rw [head_len h h8]; exact hi)]
theorem dec_form {w : World} {l : List Int} {r : Int} {vs : List Value} {e : Ending} {w' : World} (h : RetFR w l r e w') (hv : cellsI .i64 l = vs) : e = .returned (.tuple #[.agg vs.toArray, .int .i64 r]) ∧ Below w.heap.size w w' := by
  subst hv; exact h

end Fm
end Go.Proofs.Ytngdaogcmgmmeaa
