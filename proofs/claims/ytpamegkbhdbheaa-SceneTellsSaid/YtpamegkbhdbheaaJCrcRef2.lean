/-
  What the document's own answers for layer 3 (package rudderref03: cross, More, Sum, Same) return: contracts by walking the Go text. No conditions beyond the numbers' kinds and where the bytes lie.
  What the document's own answers for layer 3 (package rudderref03: More, Sum, Same) return: contracts by walking the Go text. No conditions beyond where the bytes lie.
-/
import Derived.Test.YtpamegkbhdbheaaCrcMath2
import Derived.Test.YtpamegkbhdbheaaJOpen2
import Derived.Deep.LoopGhost
import Derived.Deep.QuietTactic
import Derived.BigQuiet
import Derived.IntWalk
import Derived.WalkSmall
namespace Go.Proofs.Ytpamegkbhdbheaa
set_option maxRecDepth 100000
open Go.ChangeShapes Go.WideShapes Go.ChangeAt Go.RowKit Go.Deep
namespace Cr

theorem rret_int {k : IntKind} {n m : Int} (h : n = m) : Ending.returned (.int k n) = .returned (.int k m) := by rw [h]
theorem xor_two (x y : Nat) : (x ^^^ y) % 2 = (x + y) % 2 := by
  have h := Nat.xor_mod_two_pow (a := x) (b := y) (n := 1)
  simp only [Nat.pow_one] at h
  rw [h, Nat.add_mod]
  rcases Nat.mod_two_eq_zero_or_one x with e | e <;> rcases Nat.mod_two_eq_zero_or_one y with f | f <;> rw [e, f] <;> rfl
theorem cross_next (a b k : Nat) : (a ^^^ b) % 2 ^ (k + 1) = (a ^^^ b) % 2 ^ k + 2 ^ k * ((a / 2 ^ k + b / 2 ^ k) % 2) := by
  rw [Nat.mod_pow_succ, Nat.xor_div_two_pow, xor_two]
theorem cross_same {a b k : Nat} (h : a / 2 ^ k % 2 = b / 2 ^ k % 2) : (a ^^^ b) % 2 ^ (k + 1) = (a ^^^ b) % 2 ^ k := by
  rw [cross_next, show (a / 2 ^ k + b / 2 ^ k) % 2 = 0 by omega, Nat.mul_zero, Nat.add_zero]
theorem cross_diff {a b k : Nat} (h : ¬ a / 2 ^ k % 2 = b / 2 ^ k % 2) : (a ^^^ b) % 2 ^ (k + 1) = (a ^^^ b) % 2 ^ k + 2 ^ k := by
  rw [cross_next, show (a / 2 ^ k + b / 2 ^ k) % 2 = 1 by omega, Nat.mul_one]
theorem half (a k : Nat) : a / 2 ^ (k + 1) = a / 2 ^ k / 2 := by rw [Nat.pow_succ, Nat.div_div_eq_div_mul]
theorem cross_all {a b : Nat} (ha : a < 65536) (hb : b < 65536) : (a ^^^ b) % 2 ^ 16 = a ^^^ b := Nat.mod_eq_of_lt (xor_lt ha hb)

set_option maxHeartbeats 800000 in
theorem rcross_any (a b : Nat) (w : World) (ha : a < 65536) (hb : b < 65536) :
    Calls Try.prog 77 #[.int .i64 a, .int .i64 b] w fun e w' => e = .returned (.int .i64 ((a ^^^ b : Nat) : Int)) ∧ w = w' := by
  have HE := Lib.hid (cross_all ha hb)
  go_enter Try.func77, Try.ntmps77
  go_wp2
  go_loopg [5, 6, 7, 8, 9] 16 (fun gg s5 s6 s7 s8 s9 wr => ∃ k : Nat, k + gg = 16 ∧ s9 = .int .i64 k ∧ s5 = .int .i64 (((a ^^^ b) % 2 ^ k : Nat) : Int) ∧ s6 = .int .i64 ((2 ^ k : Nat) : Int) ∧ s7 = .int .i64 ((a / 2 ^ k : Nat) : Int) ∧ s8 = .int .i64 ((b / 2 ^ k : Nat) : Int) ∧ w = wr)
  case atStart => exact ⟨0, by omega, rfl, by simp [Nat.mod_one], rfl, by simp, by simp, rfl⟩
  case round =>
    obtain ⟨k, hkg, rfl, rfl, rfl, rfl, rfl, rfl⟩ := hrel
    by_cases hk : k < 16
    · have hP : 2 ^ k ≤ 32768 := Nat.le_trans (Nat.pow_le_pow_right (by omega) (show k ≤ 15 by omega)) (by decide)
      have hN : (a ^^^ b) % 2 ^ k < 2 ^ k := Nat.mod_lt _ (Nat.pow_pos (by omega))
      have hA : a / 2 ^ k ≤ a := Nat.div_le_self ..
      have hB : b / 2 ^ k ≤ b := Nat.div_le_self ..
      have H1 := Lib.hid (half a k)
      have H2 := Lib.hid (half b k)
      have H3 := Lib.hid (Nat.pow_succ 2 k)
      by_cases hq : a / 2 ^ k % 2 = b / 2 ^ k % 2
      · have H4 := Lib.hid (cross_same hq)
        generalize (a ^^^ b) % 2 ^ k = N at *
        generalize a / 2 ^ k = A at *
        generalize b / 2 ^ k = B at *
        generalize 2 ^ k = P at *
        have d : ((A : Int) % 2 != (B : Int) % 2) = false := by simp; omega
        clear hq
        go_wp2
        go_roundg (gk - 1)
        case rel => exact ⟨k + 1, by omega, by go_num, by rw [H4.out], by rw [H3.out]; go_num, by rw [H1.out]; go_num, by rw [H2.out]; go_num, rfl⟩
        case measure => omega
      · have H4 := Lib.hid (cross_diff hq)
        generalize (a ^^^ b) % 2 ^ k = N at *
        generalize a / 2 ^ k = A at *
        generalize b / 2 ^ k = B at *
        generalize 2 ^ k = P at *
        have d : ((A : Int) % 2 != (B : Int) % 2) = true := by simp; omega
        clear hq
        go_wp2
        go_roundg (gk - 1)
        case rel => exact ⟨k + 1, by omega, by go_num, by rw [H4.out]; go_num, by rw [H3.out]; go_num, by rw [H1.out]; go_num, by rw [H2.out]; go_num, rfl⟩
        case measure => omega
    · obtain rfl : k = 16 := by omega
      go_wp2
      go_ret
      exact ⟨rret_int (by rw [HE.out]), rfl⟩
end Cr
end Go.Proofs.Ytpamegkbhdbheaa

namespace Go.Proofs.Ytpamegkbhdbheaa
set_option maxRecDepth 100000
open Go.ChangeShapes Go.WideShapes Go.ChangeAt Go.RowKit Go.Deep
namespace Cr

theorem rret_bool {a b : Bool} (h : a = b) : Ending.returned (.bool a) = .returned (.bool b) := by rw [h]
theorem rbit1_yes {x : Nat} (k : 32768 ≤ x) : (2 * x % 65536) ^^^ 4129 = bit1 x := by unfold bit1; rw [if_pos k]
theorem rbit1_no {x : Nat} (k : ¬ 32768 ≤ x) : 2 * x % 65536 = bit1 x := by unfold bit1; rw [if_neg k]

set_option maxHeartbeats 1600000 in
theorem rmore_any (a : Option Addr) (cap : Nat) (l : List Int) (s : Int) (w : World) (hl : l.length ≤ 9223372036854775807) (hy : Bytes l) (hb : IntsAt .u8 w a l) :
    Calls Try.prog 72 #[.int .i64 s, .slice a l.length cap] w fun e w' => e = .returned (.int .i64 (moreI s l)) ∧ w = w' := by
  by_cases hin : 0 ≤ s ∧ s ≤ 65535
  · obtain ⟨n, rfl⟩ := Int.eq_ofNat_of_zero_le hin.1
    have hn : n < 65536 := by omega
    have HM := Lib.hid (moreI_in n l hn)
    have HY := Lib.hid hy
    have HB := Lib.hid hb
    clear hy hb
    have d1 : decide ((n : Int) < 0) = false := by simp
    have d2 : decide (65535 < (n : Int)) = false := by simp; omega
    go_enter Try.func72, Try.ntmps72
    go_wp2
    go_loopg [5, 6] l.length (fun gg s5 s6 wr => ∃ k : Nat, k + gg = l.length ∧ s6 = .int .i64 k ∧ s5 = .int .i64 ((upto n l k : Nat) : Int) ∧ w = wr)
    case atStart => exact ⟨0, by omega, rfl, by rw [upto_0], rfl⟩
    case round =>
      obtain ⟨k, hkg, rfl, rfl, rfl⟩ := hrel
      by_cases hk : k < l.length
      · rcases HB.out with hnil | ⟨b, off, rfl, hc⟩
        · rw [hnil] at hk; simp at hk
        have hki : (k : Int) < (l.length : Int) := by omega
        have hcx := hc k hk
        have hg := HY.out.getD k
        have HU := Lib.hid (upto_succ n l k hk)
        obtain ⟨c, hcc⟩ := Int.eq_ofNat_of_zero_le hg.1
        rw [hcc] at hcx hg HU
        have hX := upto_lt n l k hn
        have HE := Lib.hid (feed_def (upto n l k) c)
        have C := rcross_any (upto n l k) (256 * c) w hX (by omega)
        rw [show ((256 * c : Nat) : Int) = 256 * (c : Int) by omega] at C
        have hY := xor_lt hX (show 256 * c < 65536 by omega)
        clear hc hcc
        generalize (upto n l k) = X at *
        generalize X ^^^ (256 * c) = Y at *
        go_wp2_with (go_at_call 77; refine C.mono ?_; rintro e w2 ⟨rfl, rfl⟩)
        clear C
        go_loopg [5, 7] 8 (fun g2 s5 s7 wx => ∃ m : Nat, m + g2 = 8 ∧ s7 = .int .i64 m ∧ s5 = .int .i64 ((bits m Y : Nat) : Int) ∧ w = wx)
        case atStart => exact ⟨0, by omega, rfl, rfl, rfl⟩
        case round =>
          obtain ⟨m, hmg, rfl, rfl, rfl⟩ := hrel
          have hZ := bits_lt m Y hY
          have HS := Lib.hid (bits_succ m Y)
          by_cases hm : m < 8
          · generalize bits m Y = Z at *
            have e0 : 2 * (Z : Int) % 65536 = ((2 * Z % 65536 : Nat) : Int) := by omega
            have e1 : (2 * Z % 65536 : Nat) < 65536 := Nat.mod_lt _ (by omega)
            by_cases ht : 32768 ≤ Z
            · have C2 := rcross_any (2 * Z % 65536) 4129 w e1 (by omega)
              rw [rbit1_yes ht, ← e0] at C2
              have ht2 : (32768 : Int) ≤ (Z : Int) := by omega
              clear e0
              go_wp2_with (go_at_call 77; refine C2.mono ?_; rintro e w2 ⟨rfl, rfl⟩)
              go_roundg (gk - 1)
              case rel => exact ⟨m + 1, by omega, by go_num, by rw [HS.out], rfl⟩
              case measure => omega
            · have HT := Lib.hid (rbit1_no ht)
              have ht2 : ¬ (32768 : Int) ≤ (Z : Int) := by omega
              have E0 := Lib.hid e0
              clear e0
              go_wp2
              go_roundg (gk - 1)
              case rel => exact ⟨m + 1, by omega, by go_num, by rw [HS.out, ← HT.out, ← E0.out], rfl⟩
              case measure => omega
          · obtain rfl : m = 8 := by omega
            go_wp2
            go_roundg (l.length - (k + 1))
            case rel => exact ⟨k + 1, by omega, by go_num, by rw [HU.out, Int.toNat_natCast, HE.out], rfl⟩
            case measure => omega
      · obtain rfl : k = l.length := by omega
        go_wp2
        go_ret
        exact ⟨rret_int (by rw [HM.out, ← upto_all]), rfl⟩
  · have HM := Lib.hid (moreI_out s l hin)
    clear hy hb
    by_cases h0 : s < 0
    · have d1 : decide (s < 0) = true := by simpa using h0
      go_enter Try.func72, Try.ntmps72
      go_wp2
      go_ret
      exact ⟨rret_int HM.out.symm, rfl⟩
    · have d1 : decide (s < 0) = false := by simpa using h0
      have d2 : decide (65535 < s) = true := by simp; omega
      go_enter Try.func72, Try.ntmps72
      go_wp2
      go_ret
      exact ⟨rret_int HM.out.symm, rfl⟩

theorem rmoreI_sum (l : List Int) : moreI 65535 l = (sum l : Nat) := moreI_in 65535 l (by omega)
theorem rsum_any (a : Option Addr) (cap : Nat) (l : List Int) (w : World) (hl : l.length ≤ 9223372036854775807) (hy : Bytes l) (hb : IntsAt .u8 w a l) :
    Calls Try.prog 61 #[.slice a l.length cap] w fun e w' => e = .returned (.int .i64 ((sum l : Nat) : Int)) ∧ w = w' := by
  have C := rmore_any a cap l 65535 w hl hy hb
  rw [rmoreI_sum] at C
  go_enter Try.func61, Try.ntmps61
  go_wp2_with fail
  refine C.mono ?_; rintro e w1 ⟨rfl, rfl⟩
  go_wp2
  go_ret
  exact ⟨rfl, rfl⟩

/-- A list is the same as itself. -/
theorem rsame_self (a b : Option Addr) (cap cap' : Nat) (l : List Int) (w : World) (hl : l.length ≤ 9223372036854775807) (ha : IntsAt .u8 w a l) (hb : IntsAt .u8 w b l) :
    Calls Try.prog 30 #[.slice a l.length cap, .slice b l.length cap'] w fun e w' => e = .returned (.bool true) ∧ Below w.heap.size w w' := by
  have HA := Lib.hid ha
  have HB := Lib.hid hb
  clear ha hb
  go_enter Try.func30, Try.ntmps30
  go_wp2
  go_loopg [5] l.length (fun gg s5 wr => ∃ k : Nat, k + gg = l.length ∧ s5 = .int .i64 k ∧ ∃ d, wr = w.drewN d)
  case atStart => exact ⟨0, by omega, rfl, 0, rfl⟩
  case round =>
    obtain ⟨k, hkg, rfl, dd, rfl⟩ := hrel
    by_cases hk : k < l.length
    · rcases HA.out with hnil | ⟨b1, off1, rfl, hc1⟩
      · rw [hnil] at hk; simp at hk
      rcases HB.out with hnil | ⟨b2, off2, rfl, hc2⟩
      · rw [hnil] at hk; simp at hk
      have hki : (k : Int) < (l.length : Int) := by omega
      have q1 := hc1 k hk
      have q2 := hc2 k hk
      clear hc1 hc2
      generalize l.getD k 0 = x at *
      go_wp2
      go_quiet (fail)
      go_wp2
      go_roundg (gk - 1)
      case rel => exact ⟨k + 1, by omega, by go_num, _, rfl⟩
      case measure => omega
    · go_wp2
      go_ret
      exact ⟨rfl, below_drewN (Below.refl _ w) _⟩
end Cr
end Go.Proofs.Ytpamegkbhdbheaa
