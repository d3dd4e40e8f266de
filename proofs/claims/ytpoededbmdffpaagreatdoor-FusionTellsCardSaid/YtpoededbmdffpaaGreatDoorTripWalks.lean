/-
  What In and Mask of package trip return, for every argument: contracts by walking the Go text. Conditions: where the list lies.
-/
import Derived.Test.YtpoededbmdffpaaGreatDoorTripMath
import Derived.Test.YtpoededbmdffpaaGreatDoorFixWalks
namespace Go.Proofs.YtpoededbmdffpaaGreatDoor
set_option maxRecDepth 100000
open Go.ChangeShapes Go.WideShapes Go.ChangeAt Go.RowKit Go.Deep
namespace Tp
open Fx
set_option maxHeartbeats 400000 in
theorem in_any (m b : Int) (w : World) :
    Calls Tryz.prog 229 #[.int .i64 m, .int .i64 b] w fun e w' => e = .returned (.bool (inn m b)) ∧ w = w' := by
  by_cases h0 : 0 ≤ m
  · have d0 : decide (0 ≤ m) = true := by simpa using h0
    by_cases h1 : m ≤ 63
    · have d1 : decide (m ≤ 63) = true := by simpa using h1
      by_cases h2 : count b = 1
      · have HF := Lib.hid (in_eq h0 h1 h2)
        have C := count_any b w
        rw [h2] at C
        clear h0 h1 h2
        go_enter Tryz.func229, Tryz.ntmps229
        go_wp2_with (go_at_call 99; refine C.mono ?_; rintro e w' ⟨rfl, rfl⟩)
        go_ret
        exact ⟨ret_bool HF.out, rfl⟩
      · have HF := Lib.hid (in_no (m := m) h2)
        have d2 : (count b == 1) = false := by simpa using h2
        clear h0 h1 h2
        go_enter Tryz.func229, Tryz.ntmps229
        go_wp2_with (go_at_call 99; refine (count_any b w).mono ?_; rintro e w' ⟨rfl, rfl⟩)
        go_ret
        exact ⟨ret_bool HF.out.symm, rfl⟩
    · have HF := Lib.hid (in_out (m := m) (b := b) (by omega))
      have d1 : decide (m ≤ 63) = false := by simpa using h1
      clear h0 h1
      go_enter Tryz.func229, Tryz.ntmps229
      go_wp2
      go_ret
      exact ⟨ret_bool HF.out.symm, rfl⟩
  · have HF := Lib.hid (in_out (m := m) (b := b) (by omega))
    have d0 : decide (0 ≤ m) = false := by simpa using h0
    clear h0
    go_enter Tryz.func229, Tryz.ntmps229
    go_wp2
    go_ret
    exact ⟨ret_bool HF.out.symm, rfl⟩
end Tp
end Go.Proofs.YtpoededbmdffpaaGreatDoor
