/-
  What the calls of package fix return, for every argument: contracts by walking the Go text. No conditions beyond the numbers' kinds.
-/
import Derived.Test.YtlaffeadgdebhaaChecked
import Derived.Test.YtlaffeadgdebhaaFixMath
import Derived.Test.YtlaffeadgdebhaaOpen
import Derived.WalkKit
import Derived.ProofKit
import Derived.OpenShut
import Derived.Lib.Hide
import Derived.Handy
namespace Go.Proofs.Ytlaffeadgdebhaa
open Go.ChangeShapes Go.WideShapes Go.ChangeAt Go.RowKit

namespace Fx

set_option maxHeartbeats 400000 in
theorem small_any (n : Int) (w : World) :
    Calls Try.prog 22 #[.int .i64 n] w fun e w' => e = .returned (.bool (sm n)) ∧ w = w' := by
  by_cases h1 : -1099511627776 ≤ n
  · by_cases h2 : n ≤ 1099511627776
    · have HF := Lib.hid ((sm_iff n).2 ⟨h1, h2⟩)
      go_enter Try.func22, Try.ntmps22
      go_wp2
      go_ret
      exact ⟨ret_bool HF.out.symm, rfl⟩
    · have HF := Lib.hid ((sm_false n).2 (by omega))
      have hd : decide (n ≤ 1099511627776) = false := by simpa using h2
      go_enter Try.func22, Try.ntmps22
      go_wp2
      go_ret
      exact ⟨ret_bool HF.out.symm, rfl⟩
  · have HF := Lib.hid ((sm_false n).2 (by omega))
    have hd : decide (-1099511627776 ≤ n) = false := by simpa using h1
    go_enter Try.func22, Try.ntmps22
    go_wp2
    go_ret
    exact ⟨ret_bool HF.out.symm, rfl⟩

set_option maxHeartbeats 400000 in
theorem within_any (n lo hi : Int) (w : World) :
    Calls Try.prog 23 #[.int .i64 n, .int .i64 lo, .int .i64 hi] w fun e w' => e = .returned (.int .i64 (within n lo hi)) ∧ w = w' := by
  by_cases h1 : hi < lo
  · have HF := Lib.hid (show within n lo hi = lo by unfold within; rw [if_pos (Or.inl h1)])
    go_enter Try.func23, Try.ntmps23
    go_wp2
    go_ret
    exact ⟨ret_int HF.out.symm, rfl⟩
  · have d1 : decide (hi < lo) = false := by simpa using h1
    by_cases h2 : n < lo
    · have HF := Lib.hid (show within n lo hi = lo by unfold within; rw [if_pos (Or.inr h2)])
      go_enter Try.func23, Try.ntmps23
      go_wp2
      go_ret
      exact ⟨ret_int HF.out.symm, rfl⟩
    · have d2 : decide (n < lo) = false := by simpa using h2
      by_cases h3 : hi < n
      · have HF := Lib.hid (show within n lo hi = hi by unfold within; rw [if_neg (by omega), if_pos h3])
        go_enter Try.func23, Try.ntmps23
        go_wp2
        go_ret
        exact ⟨ret_int HF.out.symm, rfl⟩
      · have HF := Lib.hid (show within n lo hi = n by unfold within; rw [if_neg (by omega), if_neg h3])
        have d3 : decide (hi < n) = false := by simpa using h3
        go_enter Try.func23, Try.ntmps23
        go_wp2
        go_ret
        exact ⟨ret_int HF.out.symm, rfl⟩

set_option maxHeartbeats 400000 in
theorem clamp_any (n lo hi : Int) (w : World) :
    Calls Try.prog 14 #[.int .i64 n, .int .i64 lo, .int .i64 hi] w fun e w' => e = .returned (.int .i64 (clamp n lo hi)) ∧ w = w' := by
  cases h1 : sm n <;> cases h2 : sm lo <;> cases h3 : sm hi
  all_goals
    have HF := Lib.hid (show clamp n lo hi = _ by unfold clamp; rw [h1, h2, h3])
    go_enter Try.func14, Try.ntmps14
    go_wp2_with (first | (go_at_call 22; refine (small_any _ _).mono ?_; rintro e w' ⟨rfl, rfl⟩) | (go_at_call 23; refine (within_any _ _ _ _).mono ?_; rintro e w' ⟨rfl, rfl⟩))
    go_ret
    exact ⟨ret_int (by rw [HF.out]; simp), rfl⟩

set_option maxHeartbeats 400000 in
theorem floor_any (n b : Int) (w : World) :
    Calls Try.prog 24 #[.int .i64 n, .int .i64 b] w fun e w' => e = .returned (.int .i64 (floor n b)) ∧ w = w' := by
  cases h1 : sm n <;> cases h2 : sm b
  case true.true =>
    have b1 := sm_bd h1
    have b2 := sm_bd h2
    by_cases h3 : 1 ≤ b
    · have HF := Lib.hid (show floor n b = n / b by unfold floor; rw [if_pos ⟨h1, h2, h3⟩])
      by_cases h4 : n < 0
      · have bd := tdiv_bd n b h3 h4
        by_cases h5 : n.tmod b < 0
        · have HD := Lib.hid (tdiv_low n b h3 h4 h5)
          go_enter Try.func24, Try.ntmps24
          go_wp2_with (first | (go_at_call 22; refine (small_any _ _).mono ?_; rintro e w' ⟨rfl, rfl⟩))
          go_ret
          exact ⟨ret_int (by rw [HF.out, HD.out]), rfl⟩
        · have HD := Lib.hid (tdiv_even n b h3 h4 (by omega))
          go_enter Try.func24, Try.ntmps24
          go_wp2_with (first | (go_at_call 22; refine (small_any _ _).mono ?_; rintro e w' ⟨rfl, rfl⟩))
          go_ret
          exact ⟨ret_int (by rw [HF.out, HD.out]), rfl⟩
      · have bd := div_bd n b h3 (by omega)
        have bm := Int.emod_nonneg n (show b ≠ 0 by omega)
        go_enter Try.func24, Try.ntmps24
        go_wp2_with (first | (go_at_call 22; refine (small_any _ _).mono ?_; rintro e w' ⟨rfl, rfl⟩))
        go_ret
        exact ⟨ret_int (by rw [HF.out]), rfl⟩
    · have HF := Lib.hid (show floor n b = 0 by unfold floor; rw [if_neg (by omega)])
      go_enter Try.func24, Try.ntmps24
      go_wp2_with (first | (go_at_call 22; refine (small_any _ _).mono ?_; rintro e w' ⟨rfl, rfl⟩))
      go_ret
      exact ⟨ret_int (by rw [HF.out]), rfl⟩
  all_goals
    have HF := Lib.hid (show floor n b = _ by unfold floor; rw [h1, h2])
    go_enter Try.func24, Try.ntmps24
    go_wp2_with (first | (go_at_call 22; refine (small_any _ _).mono ?_; rintro e w' ⟨rfl, rfl⟩))
    go_ret
    exact ⟨ret_int (by rw [HF.out]; simp), rfl⟩

end Fx
end Go.Proofs.Ytlaffeadgdebhaa
