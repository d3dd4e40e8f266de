/-
  What Clamp, Near, Apart, Floor and Shift of the document's answers for layer 1 (package rudderref01) return: contracts by walking the Go text (cut out of FixRef, over Ref01, for later layers). No conditions beyond the numbers' kinds.
-/
import Derived.Test.YtblhjjfnneihiaaFixWalks
import Derived.Test.YtblhjjfnneihiaaRef01
namespace Go.Proofs.Ytblhjjfnneihiaa
open Go.ChangeShapes Go.WideShapes Go.ChangeAt Go.RowKit
namespace Fx

/-- ref.All over three, just laid in memory. -/
theorem rall3 (w : World) (t : TypeId) (x y z : Int) :
    Calls Try.prog 25 #[.slice (some ⟨w.heap.size, 0, none⟩) 3 3] (w.alloc (.cells #[.int .i64 x, .int .i64 y, .int .i64 z] t))
      fun e w' => e = .returned (.bool (sm x && sm y && sm z)) ∧ (w.alloc (.cells #[.int .i64 x, .int .i64 y, .int .i64 z] t)) = w' :=
  (rall_any _ 3 [x, y, z] _ (by simp) (ints3 w t x y z)).mono fun e w' ⟨h, h'⟩ => ⟨by rw [h]; simp [Bool.and_assoc], h'⟩
theorem rall2 (w : World) (t : TypeId) (x y : Int) :
    Calls Try.prog 25 #[.slice (some ⟨w.heap.size, 0, none⟩) 2 2] (w.alloc (.cells #[.int .i64 x, .int .i64 y] t))
      fun e w' => e = .returned (.bool (sm x && sm y)) ∧ (w.alloc (.cells #[.int .i64 x, .int .i64 y] t)) = w' :=
  (rall_any _ 2 [x, y] _ (by simp) (ints2 w t x y)).mono fun e w' ⟨h, h'⟩ => ⟨by rw [h]; simp, h'⟩

set_option maxHeartbeats 400000 in
theorem rfloor_any (n b : Int) (w : World) :
    Calls Try.prog 23 #[.int .i64 n, .int .i64 b] w fun e w' => e = .returned (.int .i64 (floor n b)) ∧ Below w.heap.size w w' := by
  cases hs : (sm n && sm b)
  · have HF := Lib.hid (show floor n b = 0 by unfold floor; rw [if_neg (by intro h; simp [h] at hs)])
    go_enter Try.func23, Try.ntmps23
    go_wp2_with (first | (go_at_call 25; refine (rall2 _ _ _ _).mono ?_; rintro e w' ⟨rfl, rfl⟩))
    go_ret
    exact ⟨ret_int (by rw [HF.out]), by go_grown⟩
  · have hs' : sm n = true ∧ sm b = true := by simpa [and_assoc] using hs
    have b1 := sm_bd hs'.1
    have b2 := sm_bd hs'.2
    by_cases h1 : 1 ≤ b
    · have HF := Lib.hid (show floor n b = n / b by unfold floor; rw [if_pos ⟨hs'.1, hs'.2, h1⟩])
      clear hs'
      by_cases h2 : 0 ≤ n
      · have bd := div_bd n b h1 h2
        go_enter Try.func23, Try.ntmps23
        go_wp2_with (first | (go_at_call 25; refine (rall2 _ _ _ _).mono ?_; rintro e w' ⟨rfl, rfl⟩))
        go_ret
        exact ⟨ret_int (by rw [HF.out]), by go_grown⟩
      · have bd := div_bd (b - 1 - n) b h1 (by omega)
        have HD := Lib.hid (div_up n b h1)
        go_enter Try.func23, Try.ntmps23
        go_wp2_with (first | (go_at_call 25; refine (rall2 _ _ _ _).mono ?_; rintro e w' ⟨rfl, rfl⟩))
        go_ret
        exact ⟨ret_int (by rw [HF.out, HD.out]), by go_grown⟩
    · have HF := Lib.hid (show floor n b = 0 by unfold floor; rw [if_neg (by omega)])
      clear hs'
      go_enter Try.func23, Try.ntmps23
      go_wp2_with (first | (go_at_call 25; refine (rall2 _ _ _ _).mono ?_; rintro e w' ⟨rfl, rfl⟩))
      go_ret
      exact ⟨ret_int (by rw [HF.out]), by go_grown⟩

theorem floor_pow (n : Int) (k : Nat) (h : k ≤ 40) (hn : sm n = true) : floor n (2 ^ k) = n / 2 ^ k := by
  have h1 := pow_le40 k h
  have h2 := pow_pos2 k
  unfold floor; rw [if_pos ⟨hn, (sm_iff _).2 ⟨by omega, by omega⟩, h2⟩]

set_option maxHeartbeats 400000 in
theorem rshift_any (n b : Int) (w : World) :
    Calls Try.prog 17 #[.int .i64 n, .int .i64 b] w fun e w' => e = .returned (.int .i64 (shift n b)) ∧ Below w.heap.size w w' := by
  cases h1 : sm n
  case true =>
    by_cases h3 : 0 ≤ b
    · by_cases h4 : b ≤ 40
      · have HF := Lib.hid (show shift n b = n / 2 ^ b.toNat by unfold shift; rw [if_pos ⟨h1, h3, h4⟩])
        obtain ⟨m, rfl⟩ := Int.eq_ofNat_of_zero_le h3
        have HP := Lib.hid (floor_pow n m (by omega) h1)
        have d1 : decide ((m : Int) < 0) = false := by simp
        have d2 : decide (40 < (m : Int)) = false := by simp; omega
        go_enter Try.func17, Try.ntmps17
        go_wp2_with (first | (go_at_call 22; refine (rsmall_any _ _).mono ?_; rintro e w' ⟨rfl, rfl⟩))
        go_loop [6, 7] (fun p i => ∃ k : Nat, k ≤ m ∧ i = .int .i64 k ∧ p = .int .i64 (2 ^ k)) (fun _ i => m - (intOf i).toNat)
        case atStart => exact ⟨0, by omega, rfl, rfl⟩
        case round =>
          obtain ⟨k, hk, rfl, rfl⟩ := hrel
          have p1 := pow_le40 k (by omega)
          have p2 := pow_pos2 k
          by_cases hlt : k < m
          · have HS := Lib.hid (pow_succ2 k)
            go_wp2_with fail
            go_round
            case rel => exact ⟨k + 1, by omega, by go_num, by rw [HS.out]⟩
            case measure => simp [intOf]; omega
          · have : k = m := by omega
            subst this
            go_wp2_with (first | (go_at_call 23; refine (rfloor_any _ _ _).mono ?_; rintro e w' ⟨rfl, hb⟩))
            go_ret
            exact ⟨ret_int (by rw [HF.out, HP.out]; simp), hb⟩
      · have HF := Lib.hid (show shift n b = 0 by unfold shift; rw [if_neg (by omega)])
        have d1 : decide (b < 0) = false := by simp; omega
        have d2 : decide (40 < b) = true := by simp; omega
        go_enter Try.func17, Try.ntmps17
        go_wp2_with (first | (go_at_call 22; refine (rsmall_any _ _).mono ?_; rintro e w' ⟨rfl, rfl⟩))
        go_ret
        exact ⟨ret_int (by rw [HF.out]), Below.refl _ _⟩
    · have HF := Lib.hid (show shift n b = 0 by unfold shift; rw [if_neg (by omega)])
      have d1 : decide (b < 0) = true := by simp; omega
      go_enter Try.func17, Try.ntmps17
      go_wp2_with (first | (go_at_call 22; refine (rsmall_any _ _).mono ?_; rintro e w' ⟨rfl, rfl⟩))
      go_ret
      exact ⟨ret_int (by rw [HF.out]), Below.refl _ _⟩
  case false =>
    have HF := Lib.hid (show shift n b = 0 by unfold shift; rw [h1]; simp)
    go_enter Try.func17, Try.ntmps17
    go_wp2_with (first | (go_at_call 22; refine (rsmall_any _ _).mono ?_; rintro e w' ⟨rfl, rfl⟩))
    go_ret
    exact ⟨ret_int (by rw [HF.out]), Below.refl _ _⟩

end Fx
end Go.Proofs.Ytblhjjfnneihiaa
