/-
  What the document's own answers for layer 3 (package rudderref03: cross, More, Sum, Same) return: contracts by walking the Go text. No conditions beyond the numbers' kinds and where the bytes lie.
-/
import Derived.Test.YtngdaogcmgmmeaaCrcMath2
import Derived.Test.YtngdaogcmgmmeaaRow
import Derived.Deep.LoopGhost
import Derived.Deep.QuietTactic
import Derived.BigQuiet
import Derived.IntWalk
import Derived.WalkSmall
namespace Go.Proofs.Ytngdaogcmgmmeaa
open Go.ChangeShapes Go.WideShapes Go.ChangeAt Go.RowKit Go.Deep
namespace Cr

theorem rret_int {k : IntKind} {n m : Int} (h : n = m) : Ending.returned (.int k n) = .returned (.int k m) := by rw [h]
theorem xor_two (x y : Nat) : (x ^^^ y) % 2 = (x + y) % 2 := by
  have h := Nat.xor_mod_two_pow (a := x) (b := y) (n := 1)
  simp only [Nat.pow_one] at h
  rw [h, Nat.add_mod]
  rcases Nat.mod_two_eq_zero_or_one x with e | e <;> rcases Nat.mod_two_eq_zero_or_one y with f | f <;> rw [e, f] <;> rfl
theorem cross_next (a b k : Nat) : (a ^^^ b) % 2 ^ (k + 1) = (a ^^^ b) % 2 ^ k + 2 ^ k * ((a / 2 ^ k + b / 2 ^ k) % 2) := by
  rw [Nat.mod_pow_succ, Nat.xor_div_two_pow, xor_two]
theorem cross_same {a b k : Nat} (h : a / 2 ^ k % 2 = b / 2 ^ k % 2) : (a ^^^ b) % 2 ^ (k + 1) = (a ^^^ b) % 2 ^ k := by
  rw [cross_next, show (a / 2 ^ k + b / 2 ^ k) % 2 = 0 by omega, Nat.mul_zero, Nat.add_zero]
theorem cross_diff {a b k : Nat} (h : ¬ a / 2 ^ k % 2 = b / 2 ^ k % 2) : (a ^^^ b) % 2 ^ (k + 1) = (a ^^^ b) % 2 ^ k + 2 ^ k := by
  rw [cross_next, show (a / 2 ^ k + b / 2 ^ k) % 2 = 1 by omega, Nat.mul_one]
theorem half (a k : Nat) : a / 2 ^ (k + 1) = a / 2 ^ k / 2 := by rw [Nat.pow_succ, Nat.div_div_eq_div_mul]
theorem cross_all {a b : Nat} (ha : a < 65536) (hb : b < 65536) : (a ^^^ b) % 2 ^ 16 = a ^^^ b := Nat.mod_eq_of_lt (xor_lt ha hb)

set_option maxHeartbeats 800000 in
theorem rcross_any (a b : Nat) (w : World) (ha : a < 65536) (hb : b < 65536) :
    Calls Try.prog 44 #[.int .i64 a, .int .i64 b] w fun e w' => e = .returned (.int .i64 ((a ^^^ b : Nat) : Int)) ∧ w = w' := by
  have HE := Lib.hid (cross_all ha hb)
  go_enter Try.func44, Try.ntmps44
  go_wp2
  go_loopg [5, 6, 7, 8, 9] 16 (fun gg s5 s6 s7 s8 s9 wr => ∃ k : Nat, k + gg = 16 ∧ s9 = .int .i64 k ∧ s5 = .int .i64 (((a ^^^ b) % 2 ^ k : Nat) : Int) ∧ s6 = .int .i64 ((2 ^ k : Nat) : Int) ∧ s7 = .int .i64 ((a / 2 ^ k : Nat) : Int) ∧ s8 = .int .i64 ((b / 2 ^ k : Nat) : Int) ∧ w = wr)
  case atStart => exact ⟨0, by omega, rfl, by simp [Nat.mod_one], rfl, by simp, by simp, rfl⟩
  case round =>
    obtain ⟨k, hkg, rfl, rfl, rfl, rfl, rfl, rfl⟩ := hrel
    by_cases hk : k < 16
    · have hP : 2 ^ k ≤ 32768 := Nat.le_trans (Nat.pow_le_pow_right (by omega) (show k ≤ 15 by omega)) (by decide)
      have hN : (a ^^^ b) % 2 ^ k < 2 ^ k := Nat.mod_lt _ (Nat.pow_pos (by omega))
      have hA : a / 2 ^ k ≤ a := Nat.div_le_self ..
      have hB : b / 2 ^ k ≤ b := Nat.div_le_self ..
      have H1 := Lib.hid (half a k)
      have H2 := Lib.hid (half b k)
      have H3 := Lib.hid (Nat.pow_succ 2 k)
      by_cases hq : a / 2 ^ k % 2 = b / 2 ^ k % 2
      · have H4 := Lib.hid (cross_same hq)
        generalize (a ^^^ b) % 2 ^ k = N at *
        generalize a / 2 ^ k = A at *
        generalize b / 2 ^ k = B at *
        generalize 2 ^ k = P at *
        have d : ((A : Int) % 2 != (B : Int) % 2) = false := by simp; omega
        clear hq
        go_wp2
        go_roundg (gk - 1)
        case rel => exact ⟨k + 1, by omega, by go_num, by rw [H4.out], by rw [H3.out]; go_num, by rw [H1.out]; go_num, by rw [H2.out]; go_num, rfl⟩
        case measure => omega
      · have H4 := Lib.hid (cross_diff hq)
        generalize (a ^^^ b) % 2 ^ k = N at *
        generalize a / 2 ^ k = A at *
        generalize b / 2 ^ k = B at *
        generalize 2 ^ k = P at *
        have d : ((A : Int) % 2 != (B : Int) % 2) = true := by simp; omega
        clear hq
        go_wp2
        go_roundg (gk - 1)
        case rel => exact ⟨k + 1, by omega, by go_num, by rw [H4.out]; go_num, by rw [H3.out]; go_num, by rw [H1.out]; go_num, by rw [H2.out]; go_num, rfl⟩
        case measure => omega
    · obtain rfl : k = 16 := by omega
      go_wp2
      go_ret
      exact ⟨rret_int (by rw [HE.out]), rfl⟩
end Cr
end Go.Proofs.Ytngdaogcmgmmeaa
