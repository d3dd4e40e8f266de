/-
  What the calls of package fix return, for every argument: contracts by walking the Go text. No conditions beyond the numbers' kinds.
  What Has and Count of the document's answers for layer 1 (package rudderref01) return: contracts by walking the Go text (cut out of FixMasksWalk, for later layers). No conditions.
  The mask of at most six booleans, as rudderref01.Bits tells it: a contract by walking the Go text (that of stage 14, in a text of its own). Conditions: where the list lies.
-/
import Derived.Test.YtacclmfbkiadbaaGreatChecked
import Derived.Test.YtacclmfbkiadbaaGreatJFixMath3
import Derived.WalkKit
import Derived.ProofKit
import Derived.OpenShut
import Derived.Lib.Hide
import Derived.Handy
import Derived.Deep.LoopGhost
namespace Go.Proofs.YtacclmfbkiadbaaGreat
set_option maxRecDepth 100000
open Go.ChangeShapes Go.WideShapes Go.ChangeAt Go.RowKit
namespace Fx
set_option maxHeartbeats 400000 in
theorem small_any (n : Int) (w : World) :
    Calls Tryz.prog 105 #[.int .i64 n] w fun e w' => e = .returned (.bool (sm n)) ∧ w = w' := by
  by_cases h1 : -1099511627776 ≤ n
  · by_cases h2 : n ≤ 1099511627776
    · have HF := Lib.hid ((sm_iff n).2 ⟨h1, h2⟩)
      go_enter Tryz.func105, Tryz.ntmps105
      go_wp2
      go_ret
      exact ⟨ret_bool HF.out.symm, rfl⟩
    · have HF := Lib.hid ((sm_false n).2 (by omega))
      have hd : decide (n ≤ 1099511627776) = false := by simpa using h2
      go_enter Tryz.func105, Tryz.ntmps105
      go_wp2
      go_ret
      exact ⟨ret_bool HF.out.symm, rfl⟩
  · have HF := Lib.hid ((sm_false n).2 (by omega))
    have hd : decide (-1099511627776 ≤ n) = false := by simpa using h1
    go_enter Tryz.func105, Tryz.ntmps105
    go_wp2
    go_ret
    exact ⟨ret_bool HF.out.symm, rfl⟩
set_option maxHeartbeats 400000 in
theorem within_any (n lo hi : Int) (w : World) :
    Calls Tryz.prog 127 #[.int .i64 n, .int .i64 lo, .int .i64 hi] w fun e w' => e = .returned (.int .i64 (within n lo hi)) ∧ w = w' := by
  by_cases h1 : hi < lo
  · have HF := Lib.hid (show within n lo hi = lo by unfold within; rw [if_pos (Or.inl h1)])
    go_enter Tryz.func127, Tryz.ntmps127
    go_wp2
    go_ret
    exact ⟨ret_int HF.out.symm, rfl⟩
  · have d1 : decide (hi < lo) = false := by simpa using h1
    by_cases h2 : n < lo
    · have HF := Lib.hid (show within n lo hi = lo by unfold within; rw [if_pos (Or.inr h2)])
      go_enter Tryz.func127, Tryz.ntmps127
      go_wp2
      go_ret
      exact ⟨ret_int HF.out.symm, rfl⟩
    · have d2 : decide (n < lo) = false := by simpa using h2
      by_cases h3 : hi < n
      · have HF := Lib.hid (show within n lo hi = hi by unfold within; rw [if_neg (by omega), if_pos h3])
        go_enter Tryz.func127, Tryz.ntmps127
        go_wp2
        go_ret
        exact ⟨ret_int HF.out.symm, rfl⟩
      · have HF := Lib.hid (show within n lo hi = n by unfold within; rw [if_neg (by omega), if_neg h3])
        have d3 : decide (hi < n) = false := by simpa using h3
        go_enter Tryz.func127, Tryz.ntmps127
        go_wp2
        go_ret
        exact ⟨ret_int HF.out.symm, rfl⟩
set_option maxHeartbeats 400000 in
theorem clamp_any (n lo hi : Int) (w : World) :
    Calls Tryz.prog 102 #[.int .i64 n, .int .i64 lo, .int .i64 hi] w fun e w' => e = .returned (.int .i64 (clamp n lo hi)) ∧ w = w' := by
  cases h1 : sm n <;> cases h2 : sm lo <;> cases h3 : sm hi
  all_goals
    have HF := Lib.hid (show clamp n lo hi = _ by unfold clamp; rw [h1, h2, h3])
    go_enter Tryz.func102, Tryz.ntmps102
    go_wp2_with (first | (go_at_call 105; refine (small_any _ _).mono ?_; rintro e w' ⟨rfl, rfl⟩) | (go_at_call 127; refine (within_any _ _ _ _).mono ?_; rintro e w' ⟨rfl, rfl⟩))
    go_ret
    exact ⟨ret_int (by rw [HF.out]; simp), rfl⟩
set_option maxHeartbeats 400000 in
theorem apart_any (a b : Int) (w : World) :
    Calls Tryz.prog 64 #[.int .i64 a, .int .i64 b] w fun e w' => e = .returned (.int .i64 (apart a b)) ∧ w = w' := by
  cases h1 : sm a <;> cases h2 : sm b
  case true.true =>
    have b1 := sm_bd h1
    have b2 := sm_bd h2
    by_cases h3 : a < b
    · have HF := Lib.hid (show apart a b = b - a by unfold apart; rw [if_pos ⟨h1, h2⟩, if_pos h3])
      go_enter Tryz.func64, Tryz.ntmps64
      go_wp2_with (first | (go_at_call 105; refine (small_any _ _).mono ?_; rintro e w' ⟨rfl, rfl⟩))
      go_ret
      exact ⟨ret_int (by rw [HF.out]), rfl⟩
    · have HF := Lib.hid (show apart a b = a - b by unfold apart; rw [if_pos ⟨h1, h2⟩, if_neg h3])
      go_enter Tryz.func64, Tryz.ntmps64
      go_wp2_with (first | (go_at_call 105; refine (small_any _ _).mono ?_; rintro e w' ⟨rfl, rfl⟩))
      go_ret
      exact ⟨ret_int (by rw [HF.out]), rfl⟩
  all_goals
    have HF := Lib.hid (show apart a b = _ by unfold apart; rw [h1, h2])
    go_enter Tryz.func64, Tryz.ntmps64
    go_wp2_with (first | (go_at_call 105; refine (small_any _ _).mono ?_; rintro e w' ⟨rfl, rfl⟩))
    go_ret
    exact ⟨ret_int (by rw [HF.out]; simp), rfl⟩
set_option maxHeartbeats 400000 in
theorem floor_any (n b : Int) (w : World) :
    Calls Tryz.prog 128 #[.int .i64 n, .int .i64 b] w fun e w' => e = .returned (.int .i64 (floor n b)) ∧ w = w' := by
  cases h1 : sm n <;> cases h2 : sm b
  case true.true =>
    have b1 := sm_bd h1
    have b2 := sm_bd h2
    by_cases h3 : 1 ≤ b
    · have HF := Lib.hid (show floor n b = n / b by unfold floor; rw [if_pos ⟨h1, h2, h3⟩])
      by_cases h4 : n < 0
      · have bd := tdiv_bd n b h3 h4
        by_cases h5 : n.tmod b < 0
        · have HD := Lib.hid (tdiv_low n b h3 h4 h5)
          go_enter Tryz.func128, Tryz.ntmps128
          go_wp2_with (first | (go_at_call 105; refine (small_any _ _).mono ?_; rintro e w' ⟨rfl, rfl⟩))
          go_ret
          exact ⟨ret_int (by rw [HF.out, HD.out]), rfl⟩
        · have HD := Lib.hid (tdiv_even n b h3 h4 (by omega))
          go_enter Tryz.func128, Tryz.ntmps128
          go_wp2_with (first | (go_at_call 105; refine (small_any _ _).mono ?_; rintro e w' ⟨rfl, rfl⟩))
          go_ret
          exact ⟨ret_int (by rw [HF.out, HD.out]), rfl⟩
      · have bd := div_bd n b h3 (by omega)
        have bm := Int.emod_nonneg n (show b ≠ 0 by omega)
        go_enter Tryz.func128, Tryz.ntmps128
        go_wp2_with (first | (go_at_call 105; refine (small_any _ _).mono ?_; rintro e w' ⟨rfl, rfl⟩))
        go_ret
        exact ⟨ret_int (by rw [HF.out]), rfl⟩
    · have HF := Lib.hid (show floor n b = 0 by unfold floor; rw [if_neg (by omega)])
      go_enter Tryz.func128, Tryz.ntmps128
      go_wp2_with (first | (go_at_call 105; refine (small_any _ _).mono ?_; rintro e w' ⟨rfl, rfl⟩))
      go_ret
      exact ⟨ret_int (by rw [HF.out]), rfl⟩
  all_goals
    have HF := Lib.hid (show floor n b = _ by unfold floor; rw [h1, h2])
    go_enter Tryz.func128, Tryz.ntmps128
    go_wp2_with (first | (go_at_call 105; refine (small_any _ _).mono ?_; rintro e w' ⟨rfl, rfl⟩))
    go_ret
    exact ⟨ret_int (by rw [HF.out]; simp), rfl⟩
set_option maxHeartbeats 400000 in
theorem shift_any (n b : Int) (w : World) :
    Calls Tryz.prog 98 #[.int .i64 n, .int .i64 b] w fun e w' => e = .returned (.int .i64 (shift n b)) ∧ w = w' := by
  cases h1 : sm n
  case true =>
    have b1 := sm_bd h1
    by_cases h3 : 0 ≤ b
    · by_cases h4 : b ≤ 40
      · have HF := Lib.hid (show shift n b = n / 2 ^ b.toNat by unfold shift; rw [if_pos ⟨h1, h3, h4⟩])
        go_enter Tryz.func98, Tryz.ntmps98
        go_wp2_with (first | (go_at_call 105; refine (small_any _ _).mono ?_; rintro e w' ⟨rfl, rfl⟩))
        go_ret
        exact ⟨ret_int (by rw [HF.out]), rfl⟩
      · have HF := Lib.hid (show shift n b = 0 by unfold shift; rw [if_neg (by omega)])
        go_enter Tryz.func98, Tryz.ntmps98
        go_wp2_with (first | (go_at_call 105; refine (small_any _ _).mono ?_; rintro e w' ⟨rfl, rfl⟩))
        go_ret
        exact ⟨ret_int (by rw [HF.out]), rfl⟩
    · have HF := Lib.hid (show shift n b = 0 by unfold shift; rw [if_neg (by omega)])
      have d1 : decide (b < 0) = true := by simp; omega
      go_enter Tryz.func98, Tryz.ntmps98
      go_wp2_with (first | (go_at_call 105; refine (small_any _ _).mono ?_; rintro e w' ⟨rfl, rfl⟩))
      go_ret
      exact ⟨ret_int (by rw [HF.out]), rfl⟩
  case false =>
    have HF := Lib.hid (show shift n b = 0 by unfold shift; rw [h1]; simp)
    go_enter Tryz.func98, Tryz.ntmps98
    go_wp2_with (first | (go_at_call 105; refine (small_any _ _).mono ?_; rintro e w' ⟨rfl, rfl⟩))
    go_ret
    exact ⟨ret_int (by rw [HF.out]), rfl⟩
set_option maxHeartbeats 400000 in
theorem has_any (m i : Int) (w : World) :
    Calls Tryz.prog 57 #[.int .i64 m, .int .i64 i] w fun e w' => e = .returned (.bool (has m i)) ∧ w = w' := by
  by_cases h1 : m < 0
  · have HF := Lib.hid (has_out m i (by omega))
    go_enter Tryz.func57, Tryz.ntmps57
    go_wp2
    go_ret
    exact ⟨ret_bool (by rw [HF.out]), rfl⟩
  · have d1 : decide (m < 0) = false := by simpa using h1
    by_cases h2 : 65536 ≤ m
    · have HF := Lib.hid (has_out m i (by omega))
      go_enter Tryz.func57, Tryz.ntmps57
      go_wp2
      go_ret
      exact ⟨ret_bool (by rw [HF.out]), rfl⟩
    · have d2 : decide (65536 ≤ m) = false := by simpa using h2
      by_cases h3 : i < 0
      · have HF := Lib.hid (has_out m i (by omega))
        go_enter Tryz.func57, Tryz.ntmps57
        go_wp2
        go_ret
        exact ⟨ret_bool (by rw [HF.out]), rfl⟩
      · have d3 : decide (i < 0) = false := by simpa using h3
        by_cases h4 : 16 ≤ i
        · have HF := Lib.hid (has_out m i (by omega))
          go_enter Tryz.func57, Tryz.ntmps57
          go_wp2
          go_ret
          exact ⟨ret_bool (by rw [HF.out]), rfl⟩
        · have d4 : decide (16 ≤ i) = false := by simpa using h4
          have HF := Lib.hid (has_go m i (by omega))
          go_enter Tryz.func57, Tryz.ntmps57
          go_wp2
          go_ret
          exact ⟨ret_bool HF.out, rfl⟩
set_option maxHeartbeats 400000 in
theorem bits_any (a : Option Addr) (cap : Nat) (l : List Bool) (w : World) (hl : l.length ≤ 9223372036854775807) (hb : BoolsAt w a l) :
    Calls Tryz.prog 41 #[.slice a l.length cap] w fun e w' => e = .returned (.int .i64 (bits l)) ∧ w = w' := by
  by_cases h1 : l.length ≤ 16
  · have HF := Lib.hid (show bits l = (bitsN l : Int) by unfold bits; rw [if_pos h1])
    rcases hb with rfl | ⟨b, off, rfl, hc⟩
    · go_enter Tryz.func41, Tryz.ntmps41
      go_wp2
      go_rounds 1
      go_ret
      exact ⟨ret_int (by rw [HF.out]; rfl), rfl⟩
    · have HC := Lib.hid hc
      clear hc
      go_enter Tryz.func41, Tryz.ntmps41
      go_wp2
      go_loop [3, 10] (fun n i => ∃ k : Nat, k ≤ l.length ∧ i = .int .i64 k ∧ n = .int .i64 (bitsN (l.take k))) (fun _ i => l.length - (intOf i).toNat)
      case atStart => exact ⟨0, by omega, rfl, rfl⟩
      case round =>
        obtain ⟨k, hk, rfl, rfl⟩ := hrel
        have hlt2 := bitsN_lt (l.take k)
        rw [List.length_take, Nat.min_eq_left hk] at hlt2
        have HL := Lib.hid hlt2
        clear hlt2
        by_cases hlt : k < l.length
        · have hcell := HC.out k hlt
          cases hh : l.getD k false
          · rw [hh] at hcell
            have HS := Lib.hid (bitsN_take_false l k hlt hh)
            clear hh
            go_wp2
            go_round
            case rel => exact ⟨k + 1, by omega, by go_num, by rw [HS.out]⟩
            case measure => simp [intOf]; omega
          · rw [hh] at hcell
            have HS := Lib.hid (bitsN_take_true l k hlt hh)
            have HO := Lib.hid (or_high _ k HL.out (by omega))
            clear hh
            go_wp2
            go_round
            case rel => exact ⟨k + 1, by omega, by go_num, by rw [HS.out, wrap_pow k (by omega), HO.out]; simp⟩
            case measure => simp [intOf]; omega
        · have : k = l.length := by omega
          subst this
          go_wp2
          go_ret
          exact ⟨ret_int (by rw [HF.out]), rfl⟩
  · have HF := Lib.hid (show bits l = 0 by unfold bits; rw [if_neg h1])
    go_enter Tryz.func41, Tryz.ntmps41
    go_wp2
    go_ret
    exact ⟨ret_int (by rw [HF.out]), rfl⟩
end Fx
end Go.Proofs.YtacclmfbkiadbaaGreat

namespace Go.Proofs.YtacclmfbkiadbaaGreat
set_option maxRecDepth 100000
open Go.ChangeShapes Go.WideShapes Go.ChangeAt Go.RowKit
namespace Fx
theorem half_pow (m : Int) (k : Nat) : m / 2 ^ (k + 1) = m / 2 ^ k / 2 := by
  rw [pow_succ2, Int.mul_comm, div_div m (2 ^ k) 2 (by have := pow_pos2 k; omega)]
set_option maxHeartbeats 400000 in
theorem rhas_any (m i : Int) (w : World) :
    Calls Tryz.prog 74 #[.int .i64 m, .int .i64 i] w fun e w' => e = .returned (.bool (has m i)) ∧ w = w' := by
  by_cases h1 : m < 0
  · have HF := Lib.hid (has_out m i (by omega))
    go_enter Tryz.func74, Tryz.ntmps74
    go_wp2
    go_ret
    exact ⟨ret_bool (by rw [HF.out]), rfl⟩
  · have d1 : decide (m < 0) = false := by simpa using h1
    by_cases h2 : 65535 < m
    · have HF := Lib.hid (has_out m i (by omega))
      go_enter Tryz.func74, Tryz.ntmps74
      go_wp2
      go_ret
      exact ⟨ret_bool (by rw [HF.out]), rfl⟩
    · have d2 : decide (65535 < m) = false := by simpa using h2
      by_cases h3 : i < 0
      · have HF := Lib.hid (has_out m i (by omega))
        go_enter Tryz.func74, Tryz.ntmps74
        go_wp2
        go_ret
        exact ⟨ret_bool (by rw [HF.out]), rfl⟩
      · have d3 : decide (i < 0) = false := by simpa using h3
        by_cases h4 : 15 < i
        · have HF := Lib.hid (has_out m i (by omega))
          go_enter Tryz.func74, Tryz.ntmps74
          go_wp2
          go_ret
          exact ⟨ret_bool (by rw [HF.out]), rfl⟩
        · have HF := Lib.hid (has_in m i (by omega))
          obtain ⟨j, rfl⟩ := Int.eq_ofNat_of_zero_le (show 0 ≤ i by omega)
          have d4 : decide (15 < (j : Int)) = false := by simpa using h4
          have hj : j ≤ 15 := by omega
          clear h3 h4
          go_enter Tryz.func74, Tryz.ntmps74
          go_wp2
          go_loop [5, 6] (fun n k => ∃ t : Nat, t ≤ j ∧ k = .int .i64 t ∧ n = .int .i64 (m / 2 ^ t)) (fun _ k => j - (intOf k).toNat)
          case atStart => exact ⟨0, by omega, rfl, by simp⟩
          case round =>
            obtain ⟨t, ht, rfl, rfl⟩ := hrel
            have hb := div_pow_lt m t (by omega) (by omega)
            have HP := Lib.hid (half_pow m t)
            by_cases hlt : t < j
            · generalize m / 2 ^ t = x at *
              go_wp2
              go_round
              case rel => exact ⟨t + 1, by omega, by go_num, by rw [HP.out]⟩
              case measure => simp [intOf]; omega
            · obtain rfl : t = j := by omega
              rw [Int.toNat_natCast] at HF
              generalize m / 2 ^ t = x at *
              go_wp2
              go_ret
              exact ⟨ret_bool (by rw [HF.out]), rfl⟩
end Fx
end Go.Proofs.YtacclmfbkiadbaaGreat

namespace Go.Proofs.YtacclmfbkiadbaaGreat
set_option maxRecDepth 100000
open Go.ChangeShapes Go.WideShapes Go.ChangeAt Go.RowKit Go.Deep
namespace Fx
theorem two_mono {i j : Nat} (h : i ≤ j) : 2 ^ i ≤ 2 ^ j := Nat.pow_le_pow_right (by decide) h
set_option maxHeartbeats 400000 in
theorem rbits_small (a : Option Addr) (cap : Nat) (l : List Bool) (w : World) (hl : l.length ≤ 6) (hb : BoolsAt w a l) :
    Calls Tryz.prog 42 #[.slice a l.length cap] w fun e w' => e = .returned (.int .i64 (bitsN l : Nat)) ∧ w = w' := by
  have d1 : decide (16 < (l.length : Int)) = false := by simp; omega
  have HB := Lib.hid hb
  clear hb
  go_enter Tryz.func42, Tryz.ntmps42
  go_wp2
  go_loopg [3, 4, 5] l.length (fun gg s3 s4 s5 wr => ∃ k : Nat, k + gg = l.length ∧ s5 = .int .i64 k ∧ s4 = .int .i64 ((2 ^ k : Nat) : Int) ∧ s3 = .int .i64 (bitsN (l.take k) : Nat) ∧ w = wr)
  case atStart => exact ⟨0, by omega, rfl, rfl, rfl, rfl⟩
  case round =>
    obtain ⟨k, hkg, rfl, rfl, rfl, rfl⟩ := hrel
    by_cases hk : k < l.length
    · have hki : (k : Int) < (l.length : Int) := by omega
      have HT := Lib.hid (bitsN_take_true l k hk)
      have HN := Lib.hid (bitsN_take_false l k hk)
      have hlt := bitsN_lt (l.take k)
      have hle : (l.take k).length ≤ 5 := by rw [List.length_take]; omega
      have h64 : bitsN (l.take k) < 64 := Nat.lt_of_lt_of_le hlt (two_mono (j := 6) (by omega))
      have h32 : 2 ^ k ≤ 32 := two_mono (j := 5) (by omega)
      have HP := Lib.hid (Nat.pow_succ (m := k) (n := 2))
      obtain ⟨b, off, rfl, hc⟩ : ∃ b off, a = some ⟨b, off, none⟩ ∧ ∀ i, i < l.length → w.cell? ⟨b, off + i, none⟩ = some (.bool (l.getD i false)) := by
        rcases HB.out with h | h
        · rw [h] at hk; simp at hk
        · exact h
      have hck := hc k hk
      clear hlt hle hc
      obtain ⟨q, hq⟩ : ∃ q, q = bitsN (l.take (k + 1)) := ⟨_, rfl⟩
      rw [← hq] at HT HN
      have HX := Lib.hid hq
      clear hq
      generalize bitsN (l.take k) = n at *
      obtain ⟨p, hp⟩ : ∃ p, p = 2 ^ k := ⟨_, rfl⟩
      rw [← hp] at HT h32
      have HPP := Lib.hid hp
      rw [← hp]
      clear hp
      cases hx : l.getD k false
      · have HE := Lib.hid (HN.out hx)
        clear HT HN
        rw [hx] at hck
        go_wp2
        go_roundg (gk - 1)
        case rel => exact ⟨k + 1, by omega, by go_num, by rw [HP.out, ← HPP.out]; go_num, by rw [← HX.out, HE.out], rfl⟩
        case measure => omega
      · have HE := Lib.hid (HT.out hx)
        clear HT HN
        rw [hx] at hck
        go_wp2
        go_roundg (gk - 1)
        case rel => exact ⟨k + 1, by omega, by go_num, by rw [HP.out, ← HPP.out]; go_num, by rw [← HX.out, HE.out]; go_num, rfl⟩
        case measure => omega
    · obtain rfl : k = l.length := by omega
      have HE := Lib.hid (show bitsN (l.take l.length) = bitsN l by rw [List.take_length])
      generalize bitsN (l.take l.length) = n at *
      go_wp2
      go_ret
      exact ⟨ret_int (by rw [HE.out]), rfl⟩
end Fx
end Go.Proofs.YtacclmfbkiadbaaGreat
