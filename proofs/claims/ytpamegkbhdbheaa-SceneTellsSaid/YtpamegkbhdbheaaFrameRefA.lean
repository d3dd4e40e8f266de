/-
  What Right of rudderref05 does: its contract by walking the Go text. No conditions.
-/
import Derived.Test.YtpamegkbhdbheaaJFrameRead3
namespace Go.Proofs.Ytpamegkbhdbheaa
set_option maxRecDepth 100000
open Go.ChangeShapes Go.WideShapes Go.ChangeAt Go.RowKit Go.Deep
namespace Fm
open Wd
open Cr (Bytes)

theorem right_end (s : Int) (vs : List Int) (h : vs.all in4 = true) : right s vs = (decide (0 ≤ s) && decide (s ≤ 65535)) := by unfold right in2; rw [h, Bool.true_and]
set_option maxHeartbeats 800000 in
theorem rright_any (s v0 v1 v2 v3 v4 v5 v6 v7 : Int) (w : World) :
    Calls Try.prog 44 #[.agg #[.int .i64 s, .int .i64 v0, .int .i64 v1, .int .i64 v2, .int .i64 v3, .int .i64 v4, .int .i64 v5, .int .i64 v6, .int .i64 v7]] w fun e w' => e = .returned (.bool (right s [v0, v1, v2, v3, v4, v5, v6, v7])) ∧ Below w.heap.size w w' := by
  have BA := Lib.hid ((Below.refl w.heap.size w).alloc (Nat.le_refl _) (.cells #[.int .i64 s, .int .i64 v0, .int .i64 v1, .int .i64 v2, .int .i64 v3, .int .i64 v4, .int .i64 v5, .int .i64 v6, .int .i64 v7] 52))
  have HX := Lib.hid (box_row s v0 v1 v2 v3 v4 v5 v6 v7 w)
  have hs0 := HX.out.cell 0 (by simp)
  have hs0 : (w.alloc (.cells #[.int .i64 s, .int .i64 v0, .int .i64 v1, .int .i64 v2, .int .i64 v3, .int .i64 v4, .int .i64 v5, .int .i64 v6, .int .i64 v7] 52)).cell? ⟨w.heap.size, 0, none⟩ = some (.int .i64 s) := hs0
  go_enter Try.func44, Try.ntmps44
  go_wp2
  go_loopg [3] 8 (fun gg s3 wr => ∃ k : Nat, k + gg = 8 ∧ s3 = .int .i64 k ∧ Hid (([v0, v1, v2, v3, v4, v5, v6, v7].take k).all in4 = true) ∧ w.alloc (.cells #[.int .i64 s, .int .i64 v0, .int .i64 v1, .int .i64 v2, .int .i64 v3, .int .i64 v4, .int .i64 v5, .int .i64 v6, .int .i64 v7] 52) = wr)
  case atStart => exact ⟨0, by omega, rfl, Lib.hid rfl, rfl⟩
  case round =>
    obtain ⟨k, hkg, rfl, HA, rfl⟩ := hrel
    by_cases hk : k < 8
    · have hx : (w.alloc (.cells #[.int .i64 s, .int .i64 v0, .int .i64 v1, .int .i64 v2, .int .i64 v3, .int .i64 v4, .int .i64 v5, .int .i64 v6, .int .i64 v7] 52)).cell? ⟨w.heap.size, 1 + k, none⟩ = some (.int .i64 ([v0, v1, v2, v3, v4, v5, v6, v7].getD k 0)) := by
        rw [HX.out.cell (1 + k) (by simp; omega), Nat.add_comm]; rfl
      have hki : (k : Int) < 8 := by omega
      have HN := Lib.hid (fun h1 => all_next (vs := [v0, v1, v2, v3, v4, v5, v6, v7]) k (by simpa using hk) HA.out h1)
      have HV := Lib.hid (fun h1 => right_val (s := s) (vs := [v0, v1, v2, v3, v4, v5, v6, v7]) k (by simpa using hk) h1)
      generalize [v0, v1, v2, v3, v4, v5, v6, v7].getD k 0 = c at *
      by_cases c1 : -2147483648 ≤ c
      · by_cases c2 : c ≤ 2147483647
        · have e1 : decide (c < -2147483648) = false := by simp; omega
          have e2 : decide (2147483647 < c) = false := by simp; omega
          have H4 := Lib.hid ((in4_iff c).2 ⟨c1, c2⟩)
          go_wp2
          go_roundg (gk - 1)
          case rel => exact ⟨k + 1, by omega, by go_num, Lib.hid (HN.out H4.out), rfl⟩
          case measure => omega
        · have e1 : decide (c < -2147483648) = false := by simp; omega
          have e2 : decide (2147483647 < c) = true := by simp; omega
          have H4 := Lib.hid (in4_no (n := c) (by omega))
          go_wp2
          go_ret
          exact ⟨ret_bool (HV.out H4.out).symm, BA.out⟩
      · have e1 : decide (c < -2147483648) = true := by simp; omega
        have H4 := Lib.hid (in4_no (n := c) (by omega))
        go_wp2
        go_ret
        exact ⟨ret_bool (HV.out H4.out).symm, BA.out⟩
    · obtain rfl : k = 8 := by omega
      have HE := Lib.hid (right_end s [v0, v1, v2, v3, v4, v5, v6, v7] HA.out)
      by_cases h1 : 0 ≤ s
      · have d1 : decide (0 ≤ s) = true := by simpa using h1
        by_cases h2 : s ≤ 65535
        · have d2 : decide (s ≤ 65535) = true := by simpa using h2
          have HF := Lib.hid (show right s [v0, v1, v2, v3, v4, v5, v6, v7] = true by rw [HE.out, d1, d2]; rfl)
          go_wp2
          go_ret
          exact ⟨ret_bool HF.out.symm, BA.out⟩
        · have d2 : decide (s ≤ 65535) = false := by simpa using h2
          have HF := Lib.hid (show right s [v0, v1, v2, v3, v4, v5, v6, v7] = false by rw [HE.out, d1, d2]; rfl)
          go_wp2
          go_ret
          exact ⟨ret_bool HF.out.symm, BA.out⟩
      · have d1 : decide (0 ≤ s) = false := by simpa using h1
        have HF := Lib.hid (show right s [v0, v1, v2, v3, v4, v5, v6, v7] = false by rw [HE.out, d1, Bool.false_and])
        go_wp2
        go_ret
        exact ⟨ret_bool HF.out.symm, BA.out⟩
end Fm
end Go.Proofs.Ytpamegkbhdbheaa
