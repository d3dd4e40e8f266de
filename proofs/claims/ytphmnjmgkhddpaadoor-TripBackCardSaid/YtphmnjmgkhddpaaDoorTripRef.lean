/-
  What the functions of rudderref14 return: contracts by walking the Go text. Conditions: where the list lies.
-/
import Derived.Test.YtphmnjmgkhddpaaDoorTripIter
import Derived.Test.YtphmnjmgkhddpaaDoorTripText
import Derived.Test.YtphmnjmgkhddpaaDoorFixWalks
import Derived.Deep.LoopGhost
namespace Go.Proofs.YtphmnjmgkhddpaaDoor
open Go.ChangeShapes Go.WideShapes Go.ChangeAt Go.RowKit Go.Deep
namespace Tp
open Fx

/-! rudderref01's Has and Bits, as they are called here. -/
theorem half_pow (m k : Nat) : ((m / 2 ^ k : Nat) : Int).tdiv 2 = ((m / 2 ^ (k + 1) : Nat) : Int) := by
  rw [Nat.pow_succ, ← Nat.div_div_eq_div_mul]
  exact (Int.ofNat_tdiv _ 2).symm
set_option maxHeartbeats 400000 in
theorem rhas_any (m i : Nat) (w : World) (hm : m < 64) (hi : i < 6) :
    Calls Tryd.prog 17 #[.int .i64 m, .int .i64 i] w fun e w' => e = .returned (.bool (bitOf m i)) ∧ w = w' := by
  have d1 : decide ((m : Int) < 0) = false := by simp
  have d2 : decide (65535 < (m : Int)) = false := by simp; omega
  have d3 : decide ((i : Int) < 0) = false := by simp
  have d4 : decide (15 < (i : Int)) = false := by simp; omega
  go_enter Tryd.func17, Tryd.ntmps17
  go_wp2
  go_loopg [5, 6] i (fun gg s5 s6 wr => ∃ k : Nat, k + gg = i ∧ s6 = .int .i64 k ∧ s5 = .int .i64 ((m / 2 ^ k : Nat) : Int) ∧ w = wr)
  case atStart => exact ⟨0, by omega, rfl, by simp, rfl⟩
  case round =>
    obtain ⟨k, hkg, rfl, rfl, rfl⟩ := hrel
    by_cases hk : k < i
    · have hki : (k : Int) < (i : Int) := by omega
      have hh := half_pow m k
      have hb : m / 2 ^ k ≤ m := Nat.div_le_self _ _
      have hb2 : m / 2 ^ (k + 1) ≤ m := Nat.div_le_self _ _
      have HQ := Lib.hid hh
      obtain ⟨q', hq'⟩ : ∃ q', q' = m / 2 ^ (k + 1) := ⟨_, rfl⟩
      rw [← hq'] at hh hb2
      have HX := Lib.hid hq'
      clear hq' HQ
      generalize m / 2 ^ k = q at *
      go_wp2
      go_roundg (gk - 1)
      case rel => exact ⟨k + 1, by omega, by go_num, by rw [← HX.out], rfl⟩
      case measure => omega
    · obtain rfl : k = i := by omega
      have HE := Lib.hid (show bitOf m k = (((m / 2 ^ k : Nat) : Int).tmod 2 == 1) by
        unfold bitOf
        rw [show (((m / 2 ^ k : Nat) : Int).tmod 2) = ((m / 2 ^ k % 2 : Nat) : Int) from rfl, Bool.eq_iff_iff]
        generalize m / 2 ^ k % 2 = r
        simp; omega)
      generalize m / 2 ^ k = q at *
      go_wp2
      go_ret
      exact ⟨ret_bool HE.out.symm, rfl⟩

set_option maxHeartbeats 400000 in
theorem rbits_any (a : Option Addr) (cap : Nat) (l : List Bool) (w : World) (hl : l.length ≤ 6) (hb : BoolsAt w a l) :
    Calls Tryd.prog 19 #[.slice a l.length cap] w fun e w' => e = .returned (.int .i64 (bitsN l : Nat)) ∧ w = w' := by
  have d1 : decide (16 < (l.length : Int)) = false := by simp; omega
  have HB := Lib.hid hb
  clear hb
  go_enter Tryd.func19, Tryd.ntmps19
  go_wp2
  go_loopg [3, 4, 5] l.length (fun gg s3 s4 s5 wr => ∃ k : Nat, k + gg = l.length ∧ s5 = .int .i64 k ∧ s4 = .int .i64 ((2 ^ k : Nat) : Int) ∧ s3 = .int .i64 (bitsN (l.take k) : Nat) ∧ w = wr)
  case atStart => exact ⟨0, by omega, rfl, rfl, rfl, rfl⟩
  case round =>
    obtain ⟨k, hkg, rfl, rfl, rfl, rfl⟩ := hrel
    by_cases hk : k < l.length
    · have hki : (k : Int) < (l.length : Int) := by omega
      have HT := Lib.hid (bitsN_take_true l k hk)
      have HN := Lib.hid (bitsN_take_false l k hk)
      have hlt := bitsN_lt (l.take k)
      have hle : (l.take k).length ≤ 5 := by rw [List.length_take]; omega
      have h64 : bitsN (l.take k) < 64 := Nat.lt_of_lt_of_le hlt (two_mono (j := 6) (by omega))
      have h32 : 2 ^ k ≤ 32 := two_mono (j := 5) (by omega)
      have HP := Lib.hid (Nat.pow_succ (m := k) (n := 2))
      obtain ⟨b, off, rfl, hc⟩ : ∃ b off, a = some ⟨b, off, none⟩ ∧ ∀ i, i < l.length → w.cell? ⟨b, off + i, none⟩ = some (.bool (l.getD i false)) := by
        rcases HB.out with h | h
        · rw [h] at hk; simp at hk
        · exact h
      have hck := hc k hk
      clear hlt hle hc
      obtain ⟨q, hq⟩ : ∃ q, q = bitsN (l.take (k + 1)) := ⟨_, rfl⟩
      rw [← hq] at HT HN
      have HX := Lib.hid hq
      clear hq
      generalize bitsN (l.take k) = n at *
      obtain ⟨p, hp⟩ : ∃ p, p = 2 ^ k := ⟨_, rfl⟩
      rw [← hp] at HT h32
      have HPP := Lib.hid hp
      rw [← hp]
      clear hp
      cases hx : l.getD k false
      · have HE := Lib.hid (HN.out hx)
        clear HT HN
        rw [hx] at hck
        go_wp2
        go_roundg (gk - 1)
        case rel => exact ⟨k + 1, by omega, by go_num, by rw [HP.out, ← HPP.out]; go_num, by rw [← HX.out, HE.out], rfl⟩
        case measure => omega
      · have HE := Lib.hid (HT.out hx)
        clear HT HN
        rw [hx] at hck
        go_wp2
        go_roundg (gk - 1)
        case rel => exact ⟨k + 1, by omega, by go_num, by rw [HP.out, ← HPP.out]; go_num, by rw [← HX.out, HE.out]; go_num, rfl⟩
        case measure => omega
    · obtain rfl : k = l.length := by omega
      have HE := Lib.hid (show bitsN (l.take l.length) = bitsN l by rw [List.take_length])
      generalize bitsN (l.take l.length) = n at *
      go_wp2
      go_ret
      exact ⟨ret_int (by rw [HE.out]), rfl⟩

set_option maxHeartbeats 400000 in
theorem rnames_any (w : World) :
    Calls Tryd.prog 16 #[] w fun e w' => e = .returned (.slice (some ⟨w.heap.size, 0, none⟩) 6 6) ∧ w' = w.alloc (.cells (strs nms).toArray 9) := by
  go_enter Tryd.func16, Tryd.ntmps16
  go_wp2
  go_ret
  exact ⟨rfl, rfl⟩

set_option maxHeartbeats 400000 in
theorem rmask_any (a : Option Addr) (cap : Nat) (l : List Bool) (w : World) (hb : BoolsAt w a l) :
    Calls Tryd.prog 11 #[.slice a l.length cap] w fun e w' => e = .returned (.int .i64 (msk l)) ∧ w = w' := by
  by_cases h : l.length ≤ 6
  · have HF := Lib.hid (show msk l = (bitsN l : Nat) by unfold msk; rw [if_pos h])
    have d : decide (6 < (l.length : Int)) = false := by simp; omega
    go_enter Tryd.func11, Tryd.ntmps11
    go_wp2_with (go_at_call 19; refine (rbits_any _ _ _ _ h hb).mono ?_; rintro e w' ⟨rfl, rfl⟩)
    go_ret
    exact ⟨ret_int HF.out.symm, rfl⟩
  · have HF := Lib.hid (show msk l = 0 by unfold msk; rw [if_neg h])
    have d : decide (6 < (l.length : Int)) = true := by simp; omega
    go_enter Tryd.func11, Tryd.ntmps11
    go_wp2
    go_ret
    exact ⟨ret_int HF.out.symm, rfl⟩

theorem inn_at {m : Nat} {b : Int} {k : Nat} (hm : m < 64) (hk : k < 6) (hb : b = 2 ^ k) : inn (m : Int) b = bitOf m k := by rw [hb]; exact in_pow hm hk
theorem inn_none {m b : Int} (h : ∀ k : Nat, k < 6 → b ≠ 2 ^ k) : inn m b = false := by
  unfold inn
  rw [Bool.and_eq_false_iff]
  right
  rw [List.any_eq_false]
  intro k hk
  have hk' : k < 6 := by simpa using hk
  simp [h k hk']
theorem int_pow (k : Nat) : ((2 ^ k : Nat) : Int) = 2 ^ k := by simp
set_option maxHeartbeats 400000 in
theorem rin_any (m b : Int) (w : World) :
    Calls Tryd.prog 13 #[.int .i64 m, .int .i64 b] w fun e w' => e = .returned (.bool (inn m b)) ∧ w = w' := by
  by_cases h0 : 0 ≤ m
  · have d0 : decide (m < 0) = false := by simpa using h0
    by_cases h1 : m ≤ 63
    · have d1 : decide (63 < m) = false := by simpa using h1
      obtain ⟨n, rfl⟩ : ∃ n : Nat, m = n := ⟨m.toNat, by omega⟩
      have hn : n < 64 := by omega
      go_enter Tryd.func13, Tryd.ntmps13
      go_wp2
      go_loopg [5, 6] 6 (fun gg s5 s6 wr => ∃ k : Nat, k + gg = 6 ∧ s6 = .int .i64 k ∧ s5 = .int .i64 ((2 ^ k : Nat) : Int) ∧ Hid (∀ j : Nat, j < k → b ≠ 2 ^ j) ∧ w = wr)
      case atStart => exact ⟨0, by omega, rfl, rfl, Lib.hid (fun j hj => absurd hj (by omega)), rfl⟩
      case round =>
        obtain ⟨k, hkg, rfl, rfl, HNO, rfl⟩ := hrel
        by_cases hk : k < 6
        · have hki : (k : Int) < 6 := by omega
          have h32 : 2 ^ k ≤ 32 := two_mono (j := 5) (by omega)
          have HP := Lib.hid (Nat.pow_succ (m := k) (n := 2))
          have HI := Lib.hid (fun h : b = ((2 ^ k : Nat) : Int) => inn_at hn hk (h.trans (int_pow k)))
          have HN := Lib.hid (fun h : b ≠ ((2 ^ k : Nat) : Int) => (show ∀ j : Nat, j < k + 1 → b ≠ 2 ^ j from fun j hj => by
            rcases Nat.lt_or_ge j k with h3 | h3
            · exact HNO.out j h3
            · obtain rfl : j = k := by omega
              rw [← int_pow]; exact h))
          obtain ⟨p, hp⟩ : ∃ p, p = 2 ^ k := ⟨_, rfl⟩
          rw [← hp] at h32 HI HN ⊢
          have HPP := Lib.hid hp
          clear hp
          by_cases hb : b = (p : Int)
          · have HF := Lib.hid (HI.out hb)
            have d : (b == (p : Int)) = true := by simpa using hb
            clear hb HI HN
            have CH := rhas_any n k w hn hk
            go_wp2_with (go_at_call 17; refine CH.mono ?_; rintro e w' ⟨rfl, rfl⟩)
            go_ret
            exact ⟨ret_bool HF.out.symm, rfl⟩
          · have HF := Lib.hid (HN.out hb)
            have d : (b == (p : Int)) = false := by simpa using hb
            clear hb HI HN
            go_wp2
            go_roundg (gk - 1)
            case rel => exact ⟨k + 1, by omega, by go_num, by rw [HP.out, ← HPP.out]; go_num, HF, rfl⟩
            case measure => omega
        · obtain rfl : k = 6 := by omega
          have HF := Lib.hid (inn_none (m := (n : Int)) HNO.out)
          go_wp2
          go_ret
          exact ⟨ret_bool HF.out.symm, rfl⟩
    · have d1 : decide (63 < m) = true := by simp; omega
      have HF := Lib.hid (in_out (m := m) (b := b) (by omega))
      clear h0 h1
      go_enter Tryd.func13, Tryd.ntmps13
      go_wp2
      go_ret
      exact ⟨ret_bool HF.out.symm, rfl⟩
  · have d0 : decide (m < 0) = true := by simp; omega
    have HF := Lib.hid (in_out (m := m) (b := b) (by omega))
    clear h0
    go_enter Tryd.func13, Tryd.ntmps13
    go_wp2
    go_ret
    exact ⟨ret_bool HF.out.symm, rfl⟩
end Tp
end Go.Proofs.YtphmnjmgkhddpaaDoor
