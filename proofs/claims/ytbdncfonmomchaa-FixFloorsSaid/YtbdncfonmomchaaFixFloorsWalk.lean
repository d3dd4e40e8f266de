/-
  The walk of the law FixFloors: for all numbers of its kinds it returns true, and writes nothing that was there. No conditions.
-/
import Derived.Test.YtbdncfonmomchaaFixRef
namespace Go.Proofs.Ytbdncfonmomchaa.fixFloors
open Go.ChangeShapes Go.WideShapes Go.ChangeAt Go.RowKit
open Fx

theorem floor_le (n d : Int) (hd : 1 ≤ d) : n / d * d ≤ n ∧ n - n / d * d < d := by
  have e := Int.mul_ediv_add_emod n d
  have l := Int.emod_lt_of_pos n (show 0 < d by omega)
  have l2 := Int.emod_nonneg n (show d ≠ 0 by omega)
  rw [Int.mul_comm]
  omega
theorem floor_ok (n d : Int) (hn : sm n = true) (h1 : 1 ≤ d) (h2 : d ≤ 1099511627776) : floor n d = n / d := by
  unfold floor; rw [if_pos ⟨hn, (sm_iff _).2 ⟨by omega, h2⟩, h1⟩]
theorem div_small (n d : Int) (hn : -1099511627776 ≤ n ∧ n ≤ 1099511627776) (h1 : 1 ≤ d) : -1099511627776 ≤ n / d ∧ n / d ≤ 1099511627776 := by
  have h := floor_le n d h1
  by_cases h0 : 0 ≤ n
  · have := div_bd n d h1 h0; omega
  · have h3 : n / d ≤ 0 := by
      have : n / d < 1 := (Int.ediv_lt_iff_lt_mul (by omega)).2 (by omega)
      omega
    have h4 : n ≤ n / d := (Int.le_ediv_iff_mul_le (by omega)).2 (by
      have : n * d ≤ n * 1 := Int.mul_le_mul_of_nonpos_left (by omega) h1
      omega)
    omega
theorem mul_bd (d p : Int) (h1 : 1 ≤ d) (h2 : d ≤ 1048576) (h3 : 1 ≤ p) (h4 : p ≤ 524288) : 1 ≤ d * p ∧ d * p ≤ 1099511627776 := by
  constructor
  · have : 1 * 1 ≤ d * p := Int.mul_le_mul h1 h3 (by omega) (by omega)
    omega
  · have : d * p ≤ 1048576 * 524288 := Int.mul_le_mul h2 h4 (by omega) (by omega)
    omega

set_option maxHeartbeats 800000 in
theorem walk (a0 a1 a2 : Int) (w : World) (_w0 : (Lit.int .i64 a0).wf = true) (w1 : (Lit.int .u32 a1).wf = true) (w2 : (Lit.int .u8 a2).wf = true) :
    Calls Try.prog 5 #[.int .i64 a0, .int .u32 a1, .int .u8 a2] w fun e w' => e = .returned (.bool true) ∧ Below w.heap.size w w' := by
  have u1 := bounds_u32 w1
  have u2 := bounds_u8 w2
  clear w1 w2
  cases hn : sm a0
  · have := (sm_false _).1 hn
    clear hn
    by_cases h1 : a0 < -1099511627776
    · go_enter Try.func5, Try.ntmps5
      go_wp2_with fail
      refine (alive_any _).mono ?_; rintro e w5 ⟨rfl, b5⟩
      go_wp2_with fail
      go_ret
      exact ⟨rfl, b5⟩
    · have d1 : decide (a0 < -1099511627776) = false := by simpa using h1
      have h2 : 1099511627776 < a0 := by omega
      go_enter Try.func5, Try.ntmps5
      go_wp2_with fail
      refine (alive_any _).mono ?_; rintro e w5 ⟨rfl, b5⟩
      go_wp2_with fail
      go_ret
      exact ⟨rfl, b5⟩
  · have bn := sm_bd hn
    have HN := Lib.hid hn
    clear hn
    have d1 : decide (a0 < -1099511627776) = false := by simp; omega
    have d2 : decide (1099511627776 < a0) = false := by simp; omega
    go_enter Try.func5, Try.ntmps5
    go_wp2_with fail
    have hd1 : 1 ≤ a1 % 1048576 + 1 := by omega
    have hd2 : a1 % 1048576 + 1 ≤ 1048576 := by omega
    generalize a1 % 1048576 + 1 = d at *
    refine (floor_any _ _ _).mono ?_; rintro e w' ⟨rfl, rfl⟩
    rw [floor_ok a0 d HN.out hd1 (by omega)]
    have hq := floor_le a0 d hd1
    have hqs := div_small a0 d bn hd1
    have HQ := Lib.hid (fun p hp => div_div a0 d p (show 0 ≤ d by omega) : ∀ p : Int, 1 ≤ p → a0 / d / p = a0 / (d * p))
    generalize a0 / d = q at *
    have e1 : decide (a0 < q * d) = false := by simp; omega
    have e2 : decide (d ≤ a0 - q * d) = false := by simp; omega
    have hs0 : 0 ≤ a2 % 20 := by omega
    have hs1 : a2 % 20 ≤ 19 := by omega
    go_wp2_with fail
    obtain ⟨m, hm⟩ := Int.eq_ofNat_of_zero_le hs0
    have hm19 : m ≤ 19 := by omega
    simp only [hm]
    clear hm hs0 hs1
    go_loop [10, 11] (fun p i => ∃ k : Nat, k ≤ m ∧ i = .int .i64 k ∧ p = .int .i64 (2 ^ k)) (fun _ i => m - (intOf i).toNat)
    case atStart => exact ⟨0, by omega, rfl, rfl⟩
    case round =>
      obtain ⟨k, hk, rfl, rfl⟩ := hrel
      have p1 := pow_le19 k (by omega)
      have p2 := pow_pos2 k
      by_cases hlt : k < m
      · have HS := Lib.hid (pow_succ2 k)
        go_wp2_with fail
        go_round
        case rel => exact ⟨k + 1, by omega, by go_num, by rw [HS.out]⟩
        case measure => simp [intOf]; omega
      · obtain rfl : k = m := by omega
        have HSh := Lib.hid (show shift a0 (k : Int) = a0 / 2 ^ k by unfold shift; rw [if_pos ⟨HN.out, by omega, by omega⟩]; simp)
        generalize (2 : Int) ^ k = p at *
        have hm2 := mul_bd d p hd1 hd2 p2 p1
        go_wp2_with fail
        refine (shift_any _ _ _).mono ?_; rintro e w' ⟨rfl, rfl⟩
        rw [HSh.out]
        go_wp2_with fail
        refine (floor_any _ _ _).mono ?_; rintro e w' ⟨rfl, rfl⟩
        rw [floor_ok a0 p HN.out p2 (by omega)]
        go_wp2_with fail
        refine (alive_any _).mono ?_; rintro e w5 ⟨rfl, b5⟩
        go_wp2_with fail
        refine (floor_any _ _ _).mono ?_; rintro e w' ⟨rfl, rfl⟩
        rw [floor_ok q p ((sm_iff _).2 hqs) p2 (by omega), HQ.out p p2]
        go_wp2_with fail
        refine (floor_any _ _ _).mono ?_; rintro e w' ⟨rfl, rfl⟩
        rw [floor_ok a0 (d * p) HN.out hm2.1 hm2.2]
        go_wp2_with fail
        go_ret
        exact ⟨rfl, b5⟩
end Go.Proofs.Ytbdncfonmomchaa.fixFloors
