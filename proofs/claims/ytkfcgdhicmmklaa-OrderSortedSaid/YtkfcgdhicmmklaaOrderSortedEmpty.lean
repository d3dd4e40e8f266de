/-
  The walk of the law OrderSorted at an empty list. No conditions.
-/
import Derived.Test.YtkfcgdhicmmklaaOrderAlive
import Derived.Deep.RegionHeld3
import Derived.Deep.RegionWith
import Derived.Deep.DeepCutAuto
namespace Go.Proofs.Ytkfcgdhicmmklaa
open Go.ChangeShapes Go.WideShapes Go.ChangeAt Go.RowKit Go.Deep
namespace orderSorted
open Fx Od

set_option maxHeartbeats 3200000 in
theorem walk_empty (a : Option Addr) (cap : Nat) (w : World) :
    Calls Try.prog 4 #[.slice a 0 cap] w fun e w' => e = .returned (.bool true) ∧ Below w.heap.size w w' := by
  have C1 := rright_any a cap [] w (by simp) (Or.inl rfl)
  have C2 := sort_any a cap [] w (by simp) (Or.inl rfl)
  rw [show ok [] = true by decide +kernel] at C1
  have e0 : osort [] = [] := by decide +kernel
  rw [e0] at C2
  go_enter Try.func4, Try.ntmps4
  go_wp2_with fail
  refine C1.mono ?_; rintro e w' ⟨rfl, rfl⟩
  go_wp2_with fail
  refine C2.mono ?_; rintro e w1 ⟨a1, k1, rfl, i1, b1⟩
  have C3 := sort_any a1 k1 [] w1 (by simp) (Or.inl rfl)
  rw [e0] at C3
  have g1 := Lib.hid b1; clear b1 i1 C1 C2 e0
  go_wp2_with fail
  go_loopg [5] 0 (fun g s5 wr => s5 = .int .i64 0 ∧ w1 = wr)
  case atStart => exact ⟨rfl, rfl⟩
  case round =>
    obtain ⟨rfl, rfl⟩ := hrel
    go_wp2_with fail
    refine C3.mono ?_; rintro e w3 ⟨a3, k3, rfl, i3, b3⟩
    have g3 := Lib.hid (grow g1.out b3); clear b3 i3 C3
    go_wp2_with fail
    refine (ints_any _ _ _ _ [] [] _ (by simp) (by simp) (Or.inl rfl) (Or.inl rfl)).mono ?_; rintro e w4 ⟨rfl, b4⟩
    rw [same_self]
    have g4 := Lib.hid (grow g3.out b4); clear b4 g3 g1
    go_wp2_with fail
    have cA := reg_call (w := w4) (fun W _ => alive_any W)
    refine wp_region_quiet_below (by kernel_rfl) (by kernel_rfl) ?_
    repeat (go_big_quiet_step (first | exact cA _ _))
    refine wpQuiet_nil ?_
    intro _ hw'
    obtain ⟨⟨dq, osq⟩, hw''⟩ := hw'
    subst hw''
    go_wp2
    go_ret
    exact ⟨rfl, grow g4.out (below_regrown w4 dq osq)⟩
end orderSorted
end Go.Proofs.Ytkfcgdhicmmklaa
