/-
  The walk of the law FixMasks: for every list of bools and all ints it returns true, and writes nothing that was there. No conditions.
-/
import Derived.Test.YtbdncfonmomchaaFixRef
import Derived.Deep.QuietTactic
import Derived.BigQuiet
import Derived.WalkSmall
namespace Go.Proofs.Ytbdncfonmomchaa
open Go.ChangeShapes Go.WideShapes Go.ChangeAt Go.RowKit
namespace Fx

theorem half_pow (m : Int) (k : Nat) : m / 2 ^ (k + 1) = m / 2 ^ k / 2 := by
  rw [pow_succ2, Int.mul_comm, div_div m (2 ^ k) 2 (by have := pow_pos2 k; omega)]

set_option maxHeartbeats 400000 in
theorem rhas_any (m i : Int) (w : World) :
    Calls Try.prog 21 #[.int .i64 m, .int .i64 i] w fun e w' => e = .returned (.bool (has m i)) ∧ w = w' := by
  by_cases h1 : m < 0
  · have HF := Lib.hid (has_out m i (by omega))
    go_enter Try.func21, Try.ntmps21
    go_wp2
    go_ret
    exact ⟨ret_bool (by rw [HF.out]), rfl⟩
  · have d1 : decide (m < 0) = false := by simpa using h1
    by_cases h2 : 65535 < m
    · have HF := Lib.hid (has_out m i (by omega))
      go_enter Try.func21, Try.ntmps21
      go_wp2
      go_ret
      exact ⟨ret_bool (by rw [HF.out]), rfl⟩
    · have d2 : decide (65535 < m) = false := by simpa using h2
      by_cases h3 : i < 0
      · have HF := Lib.hid (has_out m i (by omega))
        go_enter Try.func21, Try.ntmps21
        go_wp2
        go_ret
        exact ⟨ret_bool (by rw [HF.out]), rfl⟩
      · have d3 : decide (i < 0) = false := by simpa using h3
        by_cases h4 : 15 < i
        · have HF := Lib.hid (has_out m i (by omega))
          go_enter Try.func21, Try.ntmps21
          go_wp2
          go_ret
          exact ⟨ret_bool (by rw [HF.out]), rfl⟩
        · have HF := Lib.hid (has_in m i (by omega))
          obtain ⟨j, rfl⟩ := Int.eq_ofNat_of_zero_le (show 0 ≤ i by omega)
          have d4 : decide (15 < (j : Int)) = false := by simpa using h4
          have hj : j ≤ 15 := by omega
          clear h3 h4
          go_enter Try.func21, Try.ntmps21
          go_wp2
          go_loop [5, 6] (fun n k => ∃ t : Nat, t ≤ j ∧ k = .int .i64 t ∧ n = .int .i64 (m / 2 ^ t)) (fun _ k => j - (intOf k).toNat)
          case atStart => exact ⟨0, by omega, rfl, by simp⟩
          case round =>
            obtain ⟨t, ht, rfl, rfl⟩ := hrel
            have hb := div_pow_lt m t (by omega) (by omega)
            have HP := Lib.hid (half_pow m t)
            by_cases hlt : t < j
            · generalize m / 2 ^ t = x at *
              go_wp2
              go_round
              case rel => exact ⟨t + 1, by omega, by go_num, by rw [HP.out]⟩
              case measure => simp [intOf]; omega
            · obtain rfl : t = j := by omega
              rw [Int.toNat_natCast] at HF
              generalize m / 2 ^ t = x at *
              go_wp2
              go_ret
              exact ⟨ret_bool (by rw [HF.out]), rfl⟩

set_option maxHeartbeats 400000 in
theorem rcount_any (m : Int) (w : World) :
    Calls Try.prog 23 #[.int .i64 m] w fun e w' => e = .returned (.int .i64 (count m)) ∧ w = w' := by
  go_enter Try.func23, Try.ntmps23
  go_wp2
  go_loop [3, 4] (fun n i => ∃ k : Nat, k ≤ 16 ∧ i = .int .i64 k ∧ n = .int .i64 (countTo m k)) (fun _ i => 16 - (intOf i).toNat)
  case atStart => exact ⟨0, by omega, rfl, rfl⟩
  case round =>
    obtain ⟨k, hk, rfl, rfl⟩ := hrel
    have hd := countTo_le m k
    by_cases hlt : k < 16
    · cases hh : has m (k : Int)
      · have HS := Lib.hid (show countTo m (k + 1) = countTo m k by rw [countTo, hh]; rfl)
        go_wp2_with (first | (go_at_call 21; refine (rhas_any _ _ _).mono ?_; rintro e w' ⟨rfl, rfl⟩))
        go_round
        case rel => exact ⟨k + 1, by omega, by go_num, by rw [HS.out]⟩
        case measure => simp [intOf]; omega
      · have HS := Lib.hid (show countTo m (k + 1) = countTo m k + 1 by rw [countTo, hh]; rfl)
        go_wp2_with (first | (go_at_call 21; refine (rhas_any _ _ _).mono ?_; rintro e w' ⟨rfl, rfl⟩))
        go_round
        case rel => exact ⟨k + 1, by omega, by go_num, by rw [HS.out]; go_num⟩
        case measure => simp [intOf]; omega
    · have : k = 16 := by omega
      subst this
      go_wp2
      go_ret
      exact ⟨rfl, rfl⟩

theorem bitsN_take_lt (l : List Bool) (k : Nat) (hk : k ≤ l.length) (h : l.length ≤ 16) : bitsN (l.take k) < 65536 := by
  refine bitsN_lt16 _ ?_; rw [List.length_take]; omega

set_option maxHeartbeats 400000 in
theorem rbits_any (a : Option Addr) (cap : Nat) (l : List Bool) (w : World) (hl : l.length ≤ 9223372036854775807) (hb : BoolsAt w a l) :
    Calls Try.prog 19 #[.slice a l.length cap] w fun e w' => e = .returned (.int .i64 (bits l)) ∧ w = w' := by
  by_cases h1 : l.length ≤ 16
  · have HF := Lib.hid (show bits l = (bitsN l : Int) by unfold bits; rw [if_pos h1])
    rcases hb with rfl | ⟨b, off, rfl, hc⟩
    · go_enter Try.func19, Try.ntmps19
      go_wp2
      go_rounds 1
      go_ret
      exact ⟨ret_int (by rw [HF.out]; rfl), rfl⟩
    · have HC := Lib.hid hc
      clear hc
      go_enter Try.func19, Try.ntmps19
      go_wp2
      go_loop [3, 4, 5] (fun n p i => ∃ k : Nat, k ≤ l.length ∧ i = .int .i64 k ∧ p = .int .i64 (2 ^ k) ∧ n = .int .i64 (bitsN (l.take k))) (fun _ _ i => l.length - (intOf i).toNat)
      case atStart => exact ⟨0, by omega, rfl, rfl, rfl⟩
      case round =>
        obtain ⟨k, hk, rfl, rfl, rfl⟩ := hrel
        have hlt2 := bitsN_take_lt l k hk h1
        by_cases hlt : k < l.length
        · have hcell := HC.out k hlt
          have p1 := pow_lt16 k (by omega)
          have p2 := pow_pos2 k
          have HP := Lib.hid (pow_succ2 k)
          cases hh : l.getD k false
          · rw [hh] at hcell
            have HS := Lib.hid (bitsN_take_false l k hlt hh)
            clear hh
            go_wp2
            go_round
            case rel => exact ⟨k + 1, by omega, by go_num, by rw [HP.out], by rw [HS.out]⟩
            case measure => simp [intOf]; omega
          · rw [hh] at hcell
            have HS := Lib.hid (bitsN_take_true l k hlt hh)
            clear hh
            go_wp2
            go_round
            case rel => exact ⟨k + 1, by omega, by go_num, by rw [HP.out], by rw [HS.out]; simp⟩
            case measure => simp [intOf]; omega
        · have : k = l.length := by omega
          subst this
          go_wp2
          go_ret
          exact ⟨ret_int (by rw [HF.out]), rfl⟩
  · have HF := Lib.hid (show bits l = 0 by unfold bits; rw [if_neg h1])
    go_enter Try.func19, Try.ntmps19
    go_wp2
    go_ret
    exact ⟨ret_int (by rw [HF.out]), rfl⟩
end Fx

namespace fixMasks
open Fx

theorem trues_take (l : List Bool) (k : Nat) (h : k < l.length) : trues (l.take (k + 1)) = trues (l.take k) + (l.getD k false).toNat := by
  rw [take_snoc l k h, trues_snoc]
theorem trues_take_le (l : List Bool) (k : Nat) : trues (l.take k) ≤ l.length := by
  have := trues_le (l.take k); rw [List.length_take] at this; omega

set_option maxHeartbeats 1600000 in
theorem walk (a : Option Addr) (cap : Nat) (l : List Bool) (a1 a2 : Int) (w : World) (hl : l.length ≤ maxLen) (hb : BoolsAt w a l) (_w1 : (Lit.int .i64 a1).wf = true) (_w2 : (Lit.int .i64 a2).wf = true) :
    Calls Try.prog 4 #[.slice a l.length cap, .int .i64 a1, .int .i64 a2] w fun e w' => e = .returned (.bool true) ∧ Below w.heap.size w w' := by
  unfold maxLen at hl
  by_cases h40 : 40 < l.length
  · go_enter Try.func4, Try.ntmps4
    go_wp2_with fail
    refine (alive_any _).mono ?_; rintro e w5 ⟨rfl, b5⟩
    go_wp2_with fail
    go_ret
    exact ⟨rfl, b5⟩
  · have d0 : decide (40 < (l.length : Int)) = false := by simp; omega
    go_enter Try.func4, Try.ntmps4
    go_wp2_with fail
    refine (bits_any _ _ _ _ (by omega) hb).mono ?_; rintro e w' ⟨rfl, rfl⟩
    go_wp2_with fail
    refine (rbits_any _ _ _ _ (by omega) hb).mono ?_; rintro e w' ⟨rfl, rfl⟩
    go_wp2_with fail
    refine (has_any _ _ _).mono ?_; rintro e w' ⟨rfl, rfl⟩
    go_wp2_with fail
    refine (rhas_any _ _ _).mono ?_; rintro e w' ⟨rfl, rfl⟩
    go_wp2_with fail
    refine (count_any _ _).mono ?_; rintro e w' ⟨rfl, rfl⟩
    go_wp2_with fail
    refine (rcount_any _ _).mono ?_; rintro e w' ⟨rfl, rfl⟩
    go_wp2_with fail
    have HB := Lib.hid hb
    clear hb
    have HB2 := Lib.hid (fun h k hk => by unfold Fx.bits; rw [if_pos h]; exact has_bitsN l h k hk : l.length ≤ 16 → ∀ k : Nat, k < 16 → has (Fx.bits l) (k : Int) = l.getD k false)
    have HB3 := Lib.hid (fun h => by unfold Fx.bits; rw [if_pos h]; exact count_bitsN l h : l.length ≤ 16 → count (Fx.bits l) = (trues l : Int))
    generalize Fx.bits l = mask at *
    go_loopw [8, 9] (fun n i wx => ∃ k : Nat, k ≤ l.length ∧ i = .int .i64 k ∧ n = .int .i64 (trues (l.take k)) ∧ Below w.heap.size w wx) (fun _ i _ => l.length - (intOf i).toNat)
    case atStart => exact ⟨0, by omega, rfl, rfl, Below.refl _ _⟩
    case round =>
      obtain ⟨k, hk, rfl, rfl, hbel⟩ := hrel
      have ht := trues_take_le l k
      by_cases hlt : k < l.length
      · rcases HB.out with hnil | ⟨b, off, rfl, hc⟩
        · rw [hnil] at hlt; simp at hlt
        have hc1 := hc k hlt
        have hcell : wr.cell? ⟨b, off + k, none⟩ = some (.bool (l.getD k false)) := by
          rw [hbel.cell (p := ⟨b, off + k, none⟩) (cell_lt hc1)]; exact hc1
        clear hc hc1
        have HS := Lib.hid (trues_take l k hlt)
        have hki : (k : Int) < (l.length : Int) := by omega
        by_cases h16 : l.length ≤ 16
        · have hq := HB2.out h16 k (by omega)
          generalize l.getD k false = x at *
          have d5 : decide ((l.length : Int) ≤ 16) = true := by simp; omega
          cases x
          · go_wp2_with fail
            go_quiet ((go_at_call 20; exact still_quiet (fun W => has_any _ _ W)))
            go_wp2_with fail
            go_roundw
            case rel => exact ⟨k + 1, by omega, by go_num, by rw [HS.out]; simp, below_drewN hbel _⟩
            case measure => simp [intOf]; omega
          · go_wp2_with fail
            go_quiet ((go_at_call 20; exact still_quiet (fun W => has_any _ _ W)))
            go_wp2_with fail
            go_roundw
            case rel => exact ⟨k + 1, by omega, by go_num, by rw [HS.out]; simp, below_drewN hbel _⟩
            case measure => simp [intOf]; omega
        · generalize l.getD k false = x at *
          have d5 : decide ((l.length : Int) ≤ 16) = false := by simp; omega
          cases x
          · go_wp2_with fail
            go_quiet (fail)
            go_wp2_with fail
            go_roundw
            case rel => exact ⟨k + 1, by omega, by go_num, by rw [HS.out]; simp, below_drewN hbel _⟩
            case measure => simp [intOf]; omega
          · go_wp2_with fail
            go_quiet (fail)
            go_wp2_with fail
            go_roundw
            case rel => exact ⟨k + 1, by omega, by go_num, by rw [HS.out]; simp, below_drewN hbel _⟩
            case measure => simp [intOf]; omega
      · have hk2 : k = l.length := by omega
        subst hk2
        rw [List.take_of_length_le (Nat.le_refl _)]
        by_cases h16 : l.length ≤ 16
        · have d5 : decide (16 < (l.length : Int)) = false := by simp; omega
          have hq := HB3.out h16
          go_wp2_with fail
          refine (alive_any _).mono ?_; rintro e w5 ⟨rfl, b5⟩
          go_wp2_with fail
          refine (count_any _ _).mono ?_; rintro e w' ⟨rfl, rfl⟩
          go_wp2_with fail
          go_ret
          exact ⟨rfl, grow hbel b5⟩
        · have d5 : decide (16 < (l.length : Int)) = true := by simp; omega
          go_wp2_with fail
          refine (alive_any _).mono ?_; rintro e w5 ⟨rfl, b5⟩
          go_wp2_with fail
          go_ret
          exact ⟨rfl, grow hbel b5⟩
end fixMasks
end Go.Proofs.Ytbdncfonmomchaa
