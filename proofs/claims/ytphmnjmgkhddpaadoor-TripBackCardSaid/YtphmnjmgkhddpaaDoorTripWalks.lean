/-
  What In and Mask of package trip return, for every argument: contracts by walking the Go text. Conditions: where the list lies.
-/
import Derived.Test.YtphmnjmgkhddpaaDoorTripMath
import Derived.Test.YtphmnjmgkhddpaaDoorFixWalks
namespace Go.Proofs.YtphmnjmgkhddpaaDoor
open Go.ChangeShapes Go.WideShapes Go.ChangeAt Go.RowKit Go.Deep
namespace Tp
open Fx

set_option maxHeartbeats 400000 in
theorem in_any (m b : Int) (w : World) :
    Calls Tryd.prog 12 #[.int .i64 m, .int .i64 b] w fun e w' => e = .returned (.bool (inn m b)) ∧ w = w' := by
  by_cases h0 : 0 ≤ m
  · have d0 : decide (0 ≤ m) = true := by simpa using h0
    by_cases h1 : m ≤ 63
    · have d1 : decide (m ≤ 63) = true := by simpa using h1
      by_cases h2 : count b = 1
      · have HF := Lib.hid (in_eq h0 h1 h2)
        have C := count_any b w
        rw [h2] at C
        clear h0 h1 h2
        go_enter Tryd.func12, Tryd.ntmps12
        go_wp2_with (go_at_call 20; refine C.mono ?_; rintro e w' ⟨rfl, rfl⟩)
        go_ret
        exact ⟨ret_bool HF.out, rfl⟩
      · have HF := Lib.hid (in_no (m := m) h2)
        have d2 : (count b == 1) = false := by simpa using h2
        clear h0 h1 h2
        go_enter Tryd.func12, Tryd.ntmps12
        go_wp2_with (go_at_call 20; refine (count_any b w).mono ?_; rintro e w' ⟨rfl, rfl⟩)
        go_ret
        exact ⟨ret_bool HF.out.symm, rfl⟩
    · have HF := Lib.hid (in_out (m := m) (b := b) (by omega))
      have d1 : decide (m ≤ 63) = false := by simpa using h1
      clear h0 h1
      go_enter Tryd.func12, Tryd.ntmps12
      go_wp2
      go_ret
      exact ⟨ret_bool HF.out.symm, rfl⟩
  · have HF := Lib.hid (in_out (m := m) (b := b) (by omega))
    have d0 : decide (0 ≤ m) = false := by simpa using h0
    clear h0
    go_enter Tryd.func12, Tryd.ntmps12
    go_wp2
    go_ret
    exact ⟨ret_bool HF.out.symm, rfl⟩

set_option maxHeartbeats 400000 in
theorem mask_any (a : Option Addr) (cap : Nat) (l : List Bool) (w : World) (hl : l.length ≤ 9223372036854775807) (hb : BoolsAt w a l) :
    Calls Tryd.prog 10 #[.slice a l.length cap] w fun e w' => e = .returned (.int .i64 (msk l)) ∧ w = w' := by
  by_cases h : l.length ≤ 6
  · have HF := Lib.hid (show msk l = Fx.bits l by unfold msk Fx.bits; rw [if_pos h, if_pos (by omega)])
    have d : decide (6 < (l.length : Int)) = false := by simp; omega
    go_enter Tryd.func10, Tryd.ntmps10
    go_wp2_with (go_at_call 18; refine (bits_any _ _ _ _ hl hb).mono ?_; rintro e w' ⟨rfl, rfl⟩)
    go_ret
    exact ⟨ret_int HF.out.symm, rfl⟩
  · have HF := Lib.hid (show msk l = 0 by unfold msk; rw [if_neg h])
    have d : decide (6 < (l.length : Int)) = true := by simp; omega
    go_enter Tryd.func10, Tryd.ntmps10
    go_wp2
    go_ret
    exact ⟨ret_int HF.out.symm, rfl⟩
end Tp
end Go.Proofs.YtphmnjmgkhddpaaDoor
