/-
  What the functions of rudderref14 return: contracts by walking the Go text. Conditions: where the list lies.
-/
import Derived.Test.YtmfpoakefpephaaDoorTripIter
import Derived.Test.YtmfpoakefpephaaDoorTripText
import Derived.Test.YtmfpoakefpephaaDoorFixWalks
import Derived.Deep.LoopGhost
namespace Go.Proofs.YtmfpoakefpephaaDoor
open Go.ChangeShapes Go.WideShapes Go.ChangeAt Go.RowKit Go.Deep
namespace Tp
open Fx

/-! rudderref01's Has and Bits, as they are called here. -/
theorem half_pow (m k : Nat) : ((m / 2 ^ k : Nat) : Int).tdiv 2 = ((m / 2 ^ (k + 1) : Nat) : Int) := by
  rw [Nat.pow_succ, ← Nat.div_div_eq_div_mul]
  exact (Int.ofNat_tdiv _ 2).symm
set_option maxHeartbeats 400000 in
theorem rhas_any (m i : Nat) (w : World) (hm : m < 64) (hi : i < 6) :
    Calls Tryd.prog 30 #[.int .i64 m, .int .i64 i] w fun e w' => e = .returned (.bool (bitOf m i)) ∧ w = w' := by
  have d1 : decide ((m : Int) < 0) = false := by simp
  have d2 : decide (65535 < (m : Int)) = false := by simp; omega
  have d3 : decide ((i : Int) < 0) = false := by simp
  have d4 : decide (15 < (i : Int)) = false := by simp; omega
  go_enter Tryd.func30, Tryd.ntmps30
  go_wp2
  go_loopg [5, 6] i (fun gg s5 s6 wr => ∃ k : Nat, k + gg = i ∧ s6 = .int .i64 k ∧ s5 = .int .i64 ((m / 2 ^ k : Nat) : Int) ∧ w = wr)
  case atStart => exact ⟨0, by omega, rfl, by simp, rfl⟩
  case round =>
    obtain ⟨k, hkg, rfl, rfl, rfl⟩ := hrel
    by_cases hk : k < i
    · have hki : (k : Int) < (i : Int) := by omega
      have hh := half_pow m k
      have hb : m / 2 ^ k ≤ m := Nat.div_le_self _ _
      have hb2 : m / 2 ^ (k + 1) ≤ m := Nat.div_le_self _ _
      have HQ := Lib.hid hh
      obtain ⟨q', hq'⟩ : ∃ q', q' = m / 2 ^ (k + 1) := ⟨_, rfl⟩
      rw [← hq'] at hh hb2
      have HX := Lib.hid hq'
      clear hq' HQ
      generalize m / 2 ^ k = q at *
      go_wp2
      go_roundg (gk - 1)
      case rel => exact ⟨k + 1, by omega, by go_num, by rw [← HX.out], rfl⟩
      case measure => omega
    · obtain rfl : k = i := by omega
      have HE := Lib.hid (show bitOf m k = (((m / 2 ^ k : Nat) : Int).tmod 2 == 1) by
        unfold bitOf
        rw [show (((m / 2 ^ k : Nat) : Int).tmod 2) = ((m / 2 ^ k % 2 : Nat) : Int) from rfl, Bool.eq_iff_iff]
        generalize m / 2 ^ k % 2 = r
        simp; omega)
      generalize m / 2 ^ k = q at *
      go_wp2
      go_ret
      exact ⟨ret_bool HE.out.symm, rfl⟩

set_option maxHeartbeats 400000 in
theorem rnames_any (w : World) :
    Calls Tryd.prog 29 #[] w fun e w' => e = .returned (.slice (some ⟨w.heap.size, 0, none⟩) 6 6) ∧ w' = w.alloc (.cells (strs nms).toArray 9) := by
  go_enter Tryd.func29, Tryd.ntmps29
  go_wp2
  go_ret
  exact ⟨rfl, rfl⟩

theorem inn_at {m : Nat} {b : Int} {k : Nat} (hm : m < 64) (hk : k < 6) (hb : b = 2 ^ k) : inn (m : Int) b = bitOf m k := by rw [hb]; exact in_pow hm hk
theorem inn_none {m b : Int} (h : ∀ k : Nat, k < 6 → b ≠ 2 ^ k) : inn m b = false := by
  unfold inn
  rw [Bool.and_eq_false_iff]
  right
  rw [List.any_eq_false]
  intro k hk
  have hk' : k < 6 := by simpa using hk
  simp [h k hk']
theorem int_pow (k : Nat) : ((2 ^ k : Nat) : Int) = 2 ^ k := by simp
end Tp
end Go.Proofs.YtmfpoakefpephaaDoor
