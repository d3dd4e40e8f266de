/-
  What rudderref08.Right returns: its contract by walking the Go text (later references call it too). No conditions.
-/
import Derived.Test.YtlaffeadgdebhaaJumpMath
import Derived.RegionTactic
import Derived.BigQuiet
import Derived.WalkKit
import Derived.ProofKit
import Derived.Handy
namespace Go.Proofs.Ytlaffeadgdebhaa
open Go.ChangeShapes Go.WideShapes Go.ChangeAt Go.RowKit Go.Deep
namespace Jp
open Fx (ret_bool)

theorem rright_any (n : Int) (w : World) :
    Calls Try.prog 19 #[.int .i64 n] w fun e w' => e = .returned (.bool (val n)) ∧ w = w' := by
  have HF := Lib.hid (show val n = (decide (-2147483648 ≤ n) && decide (n ≤ 2147483647)) from rfl)
  by_cases h1 : -2147483648 ≤ n
  · rw [show decide (-2147483648 ≤ n) = true by simpa using h1, Bool.true_and] at HF
    go_enter Try.func19, Try.ntmps19
    go_wp2
    go_ret
    exact ⟨ret_bool HF.out.symm, rfl⟩
  · have d1 : decide (-2147483648 ≤ n) = false := by simpa using h1
    rw [d1, Bool.false_and] at HF
    go_enter Try.func19, Try.ntmps19
    go_wp2
    go_ret
    exact ⟨ret_bool HF.out.symm, rfl⟩

end Jp
end Go.Proofs.Ytlaffeadgdebhaa
