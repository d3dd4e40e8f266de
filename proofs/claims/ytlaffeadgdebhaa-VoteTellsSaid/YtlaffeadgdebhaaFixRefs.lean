/-
  What Clamp, Near, Apart, Floor and Shift of the document's answers for layer 1 (package rudderref01) return: contracts by walking the Go text (cut out of FixRef, over Ref01, for later layers). No conditions beyond the numbers' kinds.
-/
import Derived.Test.YtlaffeadgdebhaaFixWalks
import Derived.Test.YtlaffeadgdebhaaRef01
namespace Go.Proofs.Ytlaffeadgdebhaa
open Go.ChangeShapes Go.WideShapes Go.ChangeAt Go.RowKit
namespace Fx

/-- ref.All over three, just laid in memory. -/
theorem rall3 (w : World) (t : TypeId) (x y z : Int) :
    Calls Try.prog 28 #[.slice (some ⟨w.heap.size, 0, none⟩) 3 3] (w.alloc (.cells #[.int .i64 x, .int .i64 y, .int .i64 z] t))
      fun e w' => e = .returned (.bool (sm x && sm y && sm z)) ∧ (w.alloc (.cells #[.int .i64 x, .int .i64 y, .int .i64 z] t)) = w' :=
  (rall_any _ 3 [x, y, z] _ (by simp) (ints3 w t x y z)).mono fun e w' ⟨h, h'⟩ => ⟨by rw [h]; simp [Bool.and_assoc], h'⟩
theorem rall2 (w : World) (t : TypeId) (x y : Int) :
    Calls Try.prog 28 #[.slice (some ⟨w.heap.size, 0, none⟩) 2 2] (w.alloc (.cells #[.int .i64 x, .int .i64 y] t))
      fun e w' => e = .returned (.bool (sm x && sm y)) ∧ (w.alloc (.cells #[.int .i64 x, .int .i64 y] t)) = w' :=
  (rall_any _ 2 [x, y] _ (by simp) (ints2 w t x y)).mono fun e w' ⟨h, h'⟩ => ⟨by rw [h]; simp, h'⟩

set_option maxHeartbeats 400000 in
theorem rfloor_any (n b : Int) (w : World) :
    Calls Try.prog 17 #[.int .i64 n, .int .i64 b] w fun e w' => e = .returned (.int .i64 (floor n b)) ∧ Below w.heap.size w w' := by
  cases hs : (sm n && sm b)
  · have HF := Lib.hid (show floor n b = 0 by unfold floor; rw [if_neg (by intro h; simp [h] at hs)])
    go_enter Try.func17, Try.ntmps17
    go_wp2_with (first | (go_at_call 28; refine (rall2 _ _ _ _).mono ?_; rintro e w' ⟨rfl, rfl⟩))
    go_ret
    exact ⟨ret_int (by rw [HF.out]), by go_grown⟩
  · have hs' : sm n = true ∧ sm b = true := by simpa [and_assoc] using hs
    have b1 := sm_bd hs'.1
    have b2 := sm_bd hs'.2
    by_cases h1 : 1 ≤ b
    · have HF := Lib.hid (show floor n b = n / b by unfold floor; rw [if_pos ⟨hs'.1, hs'.2, h1⟩])
      clear hs'
      by_cases h2 : 0 ≤ n
      · have bd := div_bd n b h1 h2
        go_enter Try.func17, Try.ntmps17
        go_wp2_with (first | (go_at_call 28; refine (rall2 _ _ _ _).mono ?_; rintro e w' ⟨rfl, rfl⟩))
        go_ret
        exact ⟨ret_int (by rw [HF.out]), by go_grown⟩
      · have bd := div_bd (b - 1 - n) b h1 (by omega)
        have HD := Lib.hid (div_up n b h1)
        go_enter Try.func17, Try.ntmps17
        go_wp2_with (first | (go_at_call 28; refine (rall2 _ _ _ _).mono ?_; rintro e w' ⟨rfl, rfl⟩))
        go_ret
        exact ⟨ret_int (by rw [HF.out, HD.out]), by go_grown⟩
    · have HF := Lib.hid (show floor n b = 0 by unfold floor; rw [if_neg (by omega)])
      clear hs'
      go_enter Try.func17, Try.ntmps17
      go_wp2_with (first | (go_at_call 28; refine (rall2 _ _ _ _).mono ?_; rintro e w' ⟨rfl, rfl⟩))
      go_ret
      exact ⟨ret_int (by rw [HF.out]), by go_grown⟩

theorem floor_pow (n : Int) (k : Nat) (h : k ≤ 40) (hn : sm n = true) : floor n (2 ^ k) = n / 2 ^ k := by
  have h1 := pow_le40 k h
  have h2 := pow_pos2 k
  unfold floor; rw [if_pos ⟨hn, (sm_iff _).2 ⟨by omega, by omega⟩, h2⟩]

end Fx
end Go.Proofs.Ytlaffeadgdebhaa
