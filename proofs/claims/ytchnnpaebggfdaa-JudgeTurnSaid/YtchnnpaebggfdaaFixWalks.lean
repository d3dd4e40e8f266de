/-
  What the calls of package fix return, for every argument: contracts by walking the Go text. No conditions beyond the numbers' kinds.
-/
import Derived.Test.YtchnnpaebggfdaaChecked
import Derived.Test.YtchnnpaebggfdaaJFixMath3
import Derived.Test.YtchnnpaebggfdaaJOpen2
import Derived.WalkKit
import Derived.ProofKit
import Derived.OpenShut
import Derived.Lib.Hide
import Derived.Handy
namespace Go.Proofs.Ytchnnpaebggfdaa
set_option maxRecDepth 100000
open Go.ChangeShapes Go.WideShapes Go.ChangeAt Go.RowKit
namespace Fx
set_option maxHeartbeats 400000 in
theorem small_any (n : Int) (w : World) :
    Calls Try.prog 53 #[.int .i64 n] w fun e w' => e = .returned (.bool (sm n)) ∧ w = w' := by
  by_cases h1 : -1099511627776 ≤ n
  · by_cases h2 : n ≤ 1099511627776
    · have HF := Lib.hid ((sm_iff n).2 ⟨h1, h2⟩)
      go_enter Try.func53, Try.ntmps53
      go_wp2
      go_ret
      exact ⟨ret_bool HF.out.symm, rfl⟩
    · have HF := Lib.hid ((sm_false n).2 (by omega))
      have hd : decide (n ≤ 1099511627776) = false := by simpa using h2
      go_enter Try.func53, Try.ntmps53
      go_wp2
      go_ret
      exact ⟨ret_bool HF.out.symm, rfl⟩
  · have HF := Lib.hid ((sm_false n).2 (by omega))
    have hd : decide (-1099511627776 ≤ n) = false := by simpa using h1
    go_enter Try.func53, Try.ntmps53
    go_wp2
    go_ret
    exact ⟨ret_bool HF.out.symm, rfl⟩
set_option maxHeartbeats 400000 in
theorem apart_any (a b : Int) (w : World) :
    Calls Try.prog 37 #[.int .i64 a, .int .i64 b] w fun e w' => e = .returned (.int .i64 (apart a b)) ∧ w = w' := by
  cases h1 : sm a <;> cases h2 : sm b
  case true.true =>
    have b1 := sm_bd h1
    have b2 := sm_bd h2
    by_cases h3 : a < b
    · have HF := Lib.hid (show apart a b = b - a by unfold apart; rw [if_pos ⟨h1, h2⟩, if_pos h3])
      go_enter Try.func37, Try.ntmps37
      go_wp2_with (first | (go_at_call 53; refine (small_any _ _).mono ?_; rintro e w' ⟨rfl, rfl⟩))
      go_ret
      exact ⟨ret_int (by rw [HF.out]), rfl⟩
    · have HF := Lib.hid (show apart a b = a - b by unfold apart; rw [if_pos ⟨h1, h2⟩, if_neg h3])
      go_enter Try.func37, Try.ntmps37
      go_wp2_with (first | (go_at_call 53; refine (small_any _ _).mono ?_; rintro e w' ⟨rfl, rfl⟩))
      go_ret
      exact ⟨ret_int (by rw [HF.out]), rfl⟩
  all_goals
    have HF := Lib.hid (show apart a b = _ by unfold apart; rw [h1, h2])
    go_enter Try.func37, Try.ntmps37
    go_wp2_with (first | (go_at_call 53; refine (small_any _ _).mono ?_; rintro e w' ⟨rfl, rfl⟩))
    go_ret
    exact ⟨ret_int (by rw [HF.out]; simp), rfl⟩
set_option maxHeartbeats 400000 in
theorem has_any (m i : Int) (w : World) :
    Calls Try.prog 49 #[.int .i64 m, .int .i64 i] w fun e w' => e = .returned (.bool (has m i)) ∧ w = w' := by
  by_cases h1 : m < 0
  · have HF := Lib.hid (has_out m i (by omega))
    go_enter Try.func49, Try.ntmps49
    go_wp2
    go_ret
    exact ⟨ret_bool (by rw [HF.out]), rfl⟩
  · have d1 : decide (m < 0) = false := by simpa using h1
    by_cases h2 : 65536 ≤ m
    · have HF := Lib.hid (has_out m i (by omega))
      go_enter Try.func49, Try.ntmps49
      go_wp2
      go_ret
      exact ⟨ret_bool (by rw [HF.out]), rfl⟩
    · have d2 : decide (65536 ≤ m) = false := by simpa using h2
      by_cases h3 : i < 0
      · have HF := Lib.hid (has_out m i (by omega))
        go_enter Try.func49, Try.ntmps49
        go_wp2
        go_ret
        exact ⟨ret_bool (by rw [HF.out]), rfl⟩
      · have d3 : decide (i < 0) = false := by simpa using h3
        by_cases h4 : 16 ≤ i
        · have HF := Lib.hid (has_out m i (by omega))
          go_enter Try.func49, Try.ntmps49
          go_wp2
          go_ret
          exact ⟨ret_bool (by rw [HF.out]), rfl⟩
        · have d4 : decide (16 ≤ i) = false := by simpa using h4
          have HF := Lib.hid (has_go m i (by omega))
          go_enter Try.func49, Try.ntmps49
          go_wp2
          go_ret
          exact ⟨ret_bool HF.out, rfl⟩
end Fx
end Go.Proofs.Ytchnnpaebggfdaa
