/-
  The walk of the law FixTells: for all ints it returns true, and writes nothing that was there. No conditions.
-/
import Derived.Test.YtbdncfonmomchaaFixRef
namespace Go.Proofs.Ytbdncfonmomchaa.fixTells
open Go.ChangeShapes Go.WideShapes Go.ChangeAt Go.RowKit
open Fx

set_option maxHeartbeats 800000 in
theorem walk (a0 a1 a2 : Int) (w : World) (_w0 : (Lit.int .i64 a0).wf = true) (_w1 : (Lit.int .i64 a1).wf = true) (_w2 : (Lit.int .i64 a2).wf = true) :
    Calls Try.prog 3 #[.int .i64 a0, .int .i64 a1, .int .i64 a2] w fun e w' => e = .returned (.bool true) ∧ Below w.heap.size w w' := by
  go_enter Try.func3, Try.ntmps3
  go_wp2_with fail
  refine (clamp_any _ _ _ _).mono ?_; rintro e w' ⟨rfl, rfl⟩
  go_wp2_with fail
  refine (rclamp_any _ _ _ _).mono ?_; rintro e w1 ⟨rfl, b1⟩
  go_wp2_with fail
  refine (near_any _ _ _ _).mono ?_; rintro e w' ⟨rfl, rfl⟩
  go_wp2_with fail
  refine (rnear_any _ _ _ _).mono ?_; rintro e w2 ⟨rfl, b2⟩
  go_wp2_with fail
  refine (floor_any _ _ _).mono ?_; rintro e w' ⟨rfl, rfl⟩
  go_wp2_with fail
  refine (rfloor_any _ _ _).mono ?_; rintro e w3 ⟨rfl, b3⟩
  go_wp2_with fail
  refine (shift_any _ _ _).mono ?_; rintro e w' ⟨rfl, rfl⟩
  go_wp2_with fail
  refine (rshift_any _ _ _).mono ?_; rintro e w4 ⟨rfl, b4⟩
  go_wp2_with fail
  refine (alive_any _).mono ?_; rintro e w5 ⟨rfl, b5⟩
  go_wp2_with fail
  refine (apart_any _ _ _).mono ?_; rintro e w' ⟨rfl, rfl⟩
  go_wp2_with fail
  refine (rapart_any _ _ _).mono ?_; rintro e w6 ⟨rfl, b6⟩
  go_wp2_with fail
  go_ret
  exact ⟨rfl, grow (grow (grow (grow (grow b1 b2) b3) b4) b5) b6⟩
end Go.Proofs.Ytbdncfonmomchaa.fixTells
