/-
  What Has and Count of the document's answers for layer 1 (package rudderref01) return: contracts by walking the Go text (cut out of FixMasksWalk, for later layers). No conditions.
-/
import Derived.Test.YtdicmpniinjbpaaDoorFixWalks
namespace Go.Proofs.YtdicmpniinjbpaaDoor
open Go.ChangeShapes Go.WideShapes Go.ChangeAt Go.RowKit
namespace Fx

theorem half_pow (m : Int) (k : Nat) : m / 2 ^ (k + 1) = m / 2 ^ k / 2 := by
  rw [pow_succ2, Int.mul_comm, div_div m (2 ^ k) 2 (by have := pow_pos2 k; omega)]

set_option maxHeartbeats 400000 in
theorem rhas_any (m i : Int) (w : World) :
    Calls Tryd.prog 21 #[.int .i64 m, .int .i64 i] w fun e w' => e = .returned (.bool (has m i)) ∧ w = w' := by
  by_cases h1 : m < 0
  · have HF := Lib.hid (has_out m i (by omega))
    go_enter Tryd.func21, Tryd.ntmps21
    go_wp2
    go_ret
    exact ⟨ret_bool (by rw [HF.out]), rfl⟩
  · have d1 : decide (m < 0) = false := by simpa using h1
    by_cases h2 : 65535 < m
    · have HF := Lib.hid (has_out m i (by omega))
      go_enter Tryd.func21, Tryd.ntmps21
      go_wp2
      go_ret
      exact ⟨ret_bool (by rw [HF.out]), rfl⟩
    · have d2 : decide (65535 < m) = false := by simpa using h2
      by_cases h3 : i < 0
      · have HF := Lib.hid (has_out m i (by omega))
        go_enter Tryd.func21, Tryd.ntmps21
        go_wp2
        go_ret
        exact ⟨ret_bool (by rw [HF.out]), rfl⟩
      · have d3 : decide (i < 0) = false := by simpa using h3
        by_cases h4 : 15 < i
        · have HF := Lib.hid (has_out m i (by omega))
          go_enter Tryd.func21, Tryd.ntmps21
          go_wp2
          go_ret
          exact ⟨ret_bool (by rw [HF.out]), rfl⟩
        · have HF := Lib.hid (has_in m i (by omega))
          obtain ⟨j, rfl⟩ := Int.eq_ofNat_of_zero_le (show 0 ≤ i by omega)
          have d4 : decide (15 < (j : Int)) = false := by simpa using h4
          have hj : j ≤ 15 := by omega
          clear h3 h4
          go_enter Tryd.func21, Tryd.ntmps21
          go_wp2
          go_loop [5, 6] (fun n k => ∃ t : Nat, t ≤ j ∧ k = .int .i64 t ∧ n = .int .i64 (m / 2 ^ t)) (fun _ k => j - (intOf k).toNat)
          case atStart => exact ⟨0, by omega, rfl, by simp⟩
          case round =>
            obtain ⟨t, ht, rfl, rfl⟩ := hrel
            have hb := div_pow_lt m t (by omega) (by omega)
            have HP := Lib.hid (half_pow m t)
            by_cases hlt : t < j
            · generalize m / 2 ^ t = x at *
              go_wp2
              go_round
              case rel => exact ⟨t + 1, by omega, by go_num, by rw [HP.out]⟩
              case measure => simp [intOf]; omega
            · obtain rfl : t = j := by omega
              rw [Int.toNat_natCast] at HF
              generalize m / 2 ^ t = x at *
              go_wp2
              go_ret
              exact ⟨ret_bool (by rw [HF.out]), rfl⟩

set_option maxHeartbeats 400000 in
theorem rcount_any (m : Int) (w : World) :
    Calls Tryd.prog 22 #[.int .i64 m] w fun e w' => e = .returned (.int .i64 (count m)) ∧ w = w' := by
  go_enter Tryd.func22, Tryd.ntmps22
  go_wp2
  go_loop [3, 4] (fun n i => ∃ k : Nat, k ≤ 16 ∧ i = .int .i64 k ∧ n = .int .i64 (countTo m k)) (fun _ i => 16 - (intOf i).toNat)
  case atStart => exact ⟨0, by omega, rfl, rfl⟩
  case round =>
    obtain ⟨k, hk, rfl, rfl⟩ := hrel
    have hd := countTo_le m k
    by_cases hlt : k < 16
    · cases hh : has m (k : Int)
      · have HS := Lib.hid (show countTo m (k + 1) = countTo m k by rw [countTo, hh]; rfl)
        go_wp2_with (first | (go_at_call 21; refine (rhas_any _ _ _).mono ?_; rintro e w' ⟨rfl, rfl⟩))
        go_round
        case rel => exact ⟨k + 1, by omega, by go_num, by rw [HS.out]⟩
        case measure => simp [intOf]; omega
      · have HS := Lib.hid (show countTo m (k + 1) = countTo m k + 1 by rw [countTo, hh]; rfl)
        go_wp2_with (first | (go_at_call 21; refine (rhas_any _ _ _).mono ?_; rintro e w' ⟨rfl, rfl⟩))
        go_round
        case rel => exact ⟨k + 1, by omega, by go_num, by rw [HS.out]; go_num⟩
        case measure => simp [intOf]; omega
    · have : k = 16 := by omega
      subst this
      go_wp2
      go_ret
      exact ⟨rfl, rfl⟩

end Fx
end Go.Proofs.YtdicmpniinjbpaaDoor
