/-
  What the calls of package fix return, for every argument: contracts by walking the Go text. No conditions beyond the numbers' kinds.
-/
import Derived.Test.YtmfpoakefpephaaDoorChecked
import Derived.Test.YtmfpoakefpephaaDoorFixMath
import Derived.Test.YtmfpoakefpephaaDoorOpen
import Derived.WalkKit
import Derived.ProofKit
import Derived.OpenShut
import Derived.Lib.Hide
import Derived.Handy
namespace Go.Proofs.YtmfpoakefpephaaDoor
open Go.ChangeShapes Go.WideShapes Go.ChangeAt Go.RowKit

namespace Fx

set_option maxHeartbeats 400000 in
theorem has_any (m i : Int) (w : World) :
    Calls Tryd.prog 41 #[.int .i64 m, .int .i64 i] w fun e w' => e = .returned (.bool (has m i)) ∧ w = w' := by
  by_cases h1 : m < 0
  · have HF := Lib.hid (has_out m i (by omega))
    go_enter Tryd.func41, Tryd.ntmps41
    go_wp2
    go_ret
    exact ⟨ret_bool (by rw [HF.out]), rfl⟩
  · have d1 : decide (m < 0) = false := by simpa using h1
    by_cases h2 : 65536 ≤ m
    · have HF := Lib.hid (has_out m i (by omega))
      go_enter Tryd.func41, Tryd.ntmps41
      go_wp2
      go_ret
      exact ⟨ret_bool (by rw [HF.out]), rfl⟩
    · have d2 : decide (65536 ≤ m) = false := by simpa using h2
      by_cases h3 : i < 0
      · have HF := Lib.hid (has_out m i (by omega))
        go_enter Tryd.func41, Tryd.ntmps41
        go_wp2
        go_ret
        exact ⟨ret_bool (by rw [HF.out]), rfl⟩
      · have d3 : decide (i < 0) = false := by simpa using h3
        by_cases h4 : 16 ≤ i
        · have HF := Lib.hid (has_out m i (by omega))
          go_enter Tryd.func41, Tryd.ntmps41
          go_wp2
          go_ret
          exact ⟨ret_bool (by rw [HF.out]), rfl⟩
        · have d4 : decide (16 ≤ i) = false := by simpa using h4
          have HF := Lib.hid (has_go m i (by omega))
          go_enter Tryd.func41, Tryd.ntmps41
          go_wp2
          go_ret
          exact ⟨ret_bool HF.out, rfl⟩

set_option maxHeartbeats 400000 in
theorem count_any (m : Int) (w : World) :
    Calls Tryd.prog 34 #[.int .i64 m] w fun e w' => e = .returned (.int .i64 (count m)) ∧ w = w' := by
  go_enter Tryd.func34, Tryd.ntmps34
  go_wp2
  go_loop [3, 5] (fun n i => ∃ k : Nat, k ≤ 16 ∧ i = .int .i64 k ∧ n = .int .i64 (countTo m k)) (fun _ i => 16 - (intOf i).toNat)
  case atStart => exact ⟨0, by omega, rfl, rfl⟩
  case round =>
    obtain ⟨k, hk, rfl, rfl⟩ := hrel
    have hd := countTo_le m k
    by_cases hlt : k < 16
    · cases hh : has m (k : Int)
      · have HS := Lib.hid (show countTo m (k + 1) = countTo m k by rw [countTo, hh]; rfl)
        go_wp2_with (first | (go_at_call 41; refine (has_any _ _ _).mono ?_; rintro e w' ⟨rfl, rfl⟩))
        go_round
        case rel => exact ⟨k + 1, by omega, by go_num, by rw [HS.out]⟩
        case measure => simp [intOf]; omega
      · have HS := Lib.hid (show countTo m (k + 1) = countTo m k + 1 by rw [countTo, hh]; rfl)
        go_wp2_with (first | (go_at_call 41; refine (has_any _ _ _).mono ?_; rintro e w' ⟨rfl, rfl⟩))
        go_round
        case rel => exact ⟨k + 1, by omega, by go_num, by rw [HS.out]; go_num⟩
        case measure => simp [intOf]; omega
    · have : k = 16 := by omega
      subst this
      go_wp2
      go_ret
      exact ⟨rfl, rfl⟩

end Fx
end Go.Proofs.YtmfpoakefpephaaDoor
