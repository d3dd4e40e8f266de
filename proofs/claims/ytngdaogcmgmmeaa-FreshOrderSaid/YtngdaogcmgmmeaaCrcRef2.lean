/-
  What the document's own answers for layer 3 (package rudderref03: More, Sum, Same) return: contracts by walking the Go text. No conditions beyond where the bytes lie.
-/
import Derived.Test.YtngdaogcmgmmeaaCrcRef
namespace Go.Proofs.Ytngdaogcmgmmeaa
open Go.ChangeShapes Go.WideShapes Go.ChangeAt Go.RowKit Go.Deep
namespace Cr

theorem rret_bool {a b : Bool} (h : a = b) : Ending.returned (.bool a) = .returned (.bool b) := by rw [h]
theorem rbit1_yes {x : Nat} (k : 32768 ≤ x) : (2 * x % 65536) ^^^ 4129 = bit1 x := by unfold bit1; rw [if_pos k]
theorem rbit1_no {x : Nat} (k : ¬ 32768 ≤ x) : 2 * x % 65536 = bit1 x := by unfold bit1; rw [if_neg k]

set_option maxHeartbeats 1600000 in
theorem rmore_any (a : Option Addr) (cap : Nat) (l : List Int) (s : Int) (w : World) (hl : l.length ≤ 9223372036854775807) (hy : Bytes l) (hb : IntsAt .u8 w a l) :
    Calls Try.prog 40 #[.int .i64 s, .slice a l.length cap] w fun e w' => e = .returned (.int .i64 (moreI s l)) ∧ w = w' := by
  by_cases hin : 0 ≤ s ∧ s ≤ 65535
  · obtain ⟨n, rfl⟩ := Int.eq_ofNat_of_zero_le hin.1
    have hn : n < 65536 := by omega
    have HM := Lib.hid (moreI_in n l hn)
    have HY := Lib.hid hy
    have HB := Lib.hid hb
    clear hy hb
    have d1 : decide ((n : Int) < 0) = false := by simp
    have d2 : decide (65535 < (n : Int)) = false := by simp; omega
    go_enter Try.func40, Try.ntmps40
    go_wp2
    go_loopg [5, 6] l.length (fun gg s5 s6 wr => ∃ k : Nat, k + gg = l.length ∧ s6 = .int .i64 k ∧ s5 = .int .i64 ((upto n l k : Nat) : Int) ∧ w = wr)
    case atStart => exact ⟨0, by omega, rfl, by rw [upto_0], rfl⟩
    case round =>
      obtain ⟨k, hkg, rfl, rfl, rfl⟩ := hrel
      by_cases hk : k < l.length
      · rcases HB.out with hnil | ⟨b, off, rfl, hc⟩
        · rw [hnil] at hk; simp at hk
        have hki : (k : Int) < (l.length : Int) := by omega
        have hcx := hc k hk
        have hg := HY.out.getD k
        have HU := Lib.hid (upto_succ n l k hk)
        obtain ⟨c, hcc⟩ := Int.eq_ofNat_of_zero_le hg.1
        rw [hcc] at hcx hg HU
        have hX := upto_lt n l k hn
        have HE := Lib.hid (feed_def (upto n l k) c)
        have C := rcross_any (upto n l k) (256 * c) w hX (by omega)
        rw [show ((256 * c : Nat) : Int) = 256 * (c : Int) by omega] at C
        have hY := xor_lt hX (show 256 * c < 65536 by omega)
        clear hc hcc
        generalize (upto n l k) = X at *
        generalize X ^^^ (256 * c) = Y at *
        go_wp2_with (go_at_call 44; refine C.mono ?_; rintro e w2 ⟨rfl, rfl⟩)
        clear C
        go_loopg [5, 7] 8 (fun g2 s5 s7 wx => ∃ m : Nat, m + g2 = 8 ∧ s7 = .int .i64 m ∧ s5 = .int .i64 ((bits m Y : Nat) : Int) ∧ w = wx)
        case atStart => exact ⟨0, by omega, rfl, rfl, rfl⟩
        case round =>
          obtain ⟨m, hmg, rfl, rfl, rfl⟩ := hrel
          have hZ := bits_lt m Y hY
          have HS := Lib.hid (bits_succ m Y)
          by_cases hm : m < 8
          · generalize bits m Y = Z at *
            have e0 : 2 * (Z : Int) % 65536 = ((2 * Z % 65536 : Nat) : Int) := by omega
            have e1 : (2 * Z % 65536 : Nat) < 65536 := Nat.mod_lt _ (by omega)
            by_cases ht : 32768 ≤ Z
            · have C2 := rcross_any (2 * Z % 65536) 4129 w e1 (by omega)
              rw [rbit1_yes ht, ← e0] at C2
              have ht2 : (32768 : Int) ≤ (Z : Int) := by omega
              clear e0
              go_wp2_with (go_at_call 44; refine C2.mono ?_; rintro e w2 ⟨rfl, rfl⟩)
              go_roundg (gk - 1)
              case rel => exact ⟨m + 1, by omega, by go_num, by rw [HS.out], rfl⟩
              case measure => omega
            · have HT := Lib.hid (rbit1_no ht)
              have ht2 : ¬ (32768 : Int) ≤ (Z : Int) := by omega
              have E0 := Lib.hid e0
              clear e0
              go_wp2
              go_roundg (gk - 1)
              case rel => exact ⟨m + 1, by omega, by go_num, by rw [HS.out, ← HT.out, ← E0.out], rfl⟩
              case measure => omega
          · obtain rfl : m = 8 := by omega
            go_wp2
            go_roundg (l.length - (k + 1))
            case rel => exact ⟨k + 1, by omega, by go_num, by rw [HU.out, Int.toNat_natCast, HE.out], rfl⟩
            case measure => omega
      · obtain rfl : k = l.length := by omega
        go_wp2
        go_ret
        exact ⟨rret_int (by rw [HM.out, ← upto_all]), rfl⟩
  · have HM := Lib.hid (moreI_out s l hin)
    clear hy hb
    by_cases h0 : s < 0
    · have d1 : decide (s < 0) = true := by simpa using h0
      go_enter Try.func40, Try.ntmps40
      go_wp2
      go_ret
      exact ⟨rret_int HM.out.symm, rfl⟩
    · have d1 : decide (s < 0) = false := by simpa using h0
      have d2 : decide (65535 < s) = true := by simp; omega
      go_enter Try.func40, Try.ntmps40
      go_wp2
      go_ret
      exact ⟨rret_int HM.out.symm, rfl⟩

theorem rmoreI_sum (l : List Int) : moreI 65535 l = (sum l : Nat) := moreI_in 65535 l (by omega)
theorem rsum_any (a : Option Addr) (cap : Nat) (l : List Int) (w : World) (hl : l.length ≤ 9223372036854775807) (hy : Bytes l) (hb : IntsAt .u8 w a l) :
    Calls Try.prog 34 #[.slice a l.length cap] w fun e w' => e = .returned (.int .i64 ((sum l : Nat) : Int)) ∧ w = w' := by
  have C := rmore_any a cap l 65535 w hl hy hb
  rw [rmoreI_sum] at C
  go_enter Try.func34, Try.ntmps34
  go_wp2_with fail
  refine C.mono ?_; rintro e w1 ⟨rfl, rfl⟩
  go_wp2
  go_ret
  exact ⟨rfl, rfl⟩

end Cr
end Go.Proofs.Ytngdaogcmgmmeaa
