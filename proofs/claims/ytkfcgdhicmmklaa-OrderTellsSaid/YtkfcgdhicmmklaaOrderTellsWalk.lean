/-
  The walk of the law OrderTells: for every list and every int it returns true, and writes nothing that was there. No conditions.
-/
import Derived.Test.YtkfcgdhicmmklaaOrderAlive
namespace Go.Proofs.Ytkfcgdhicmmklaa
open Go.ChangeShapes Go.WideShapes Go.ChangeAt Go.RowKit Go.Deep
namespace orderTells
open Fx Od

theorem osort_le (l : List Int) : (osort l).length ≤ l.length := by unfold osort; split; rw [srt_len]; exact Nat.le_refl _; simp
theorem without_le (l : List Int) (i : Int) : (without l i).length ≤ l.length := by unfold without; split; exact wo_le l i; simp

set_option maxHeartbeats 1600000 in
theorem walk (a : Option Addr) (cap : Nat) (l : List Int) (i : Int) (w : World) (m0 : l.length ≤ maxLen) (c0 : l.length ≤ cap ∧ cap ≤ maxLen) (_z : cap * 8 ≤ 140737488351232) (_f : ∀ n ∈ l, (Lit.int .i64 n).wf = true) (hb : IntsAt .i64 w a l) (_w1 : (Lit.int .i64 i).wf = true) :
    Calls Try.prog 3 #[.slice a l.length cap, .int .i64 i] w fun e w' => e = .returned (.bool true) ∧ Below w.heap.size w w' := by
  unfold maxLen at m0 c0
  obtain ⟨c1, c2⟩ := c0
  by_cases h40 : 40 < l.length
  · go_enter Try.func3, Try.ntmps3
    go_wp2_with fail
    refine (alive_any _).mono ?_; rintro e w5 ⟨rfl, b5⟩
    go_wp2
    go_ret
    exact ⟨rfl, b5⟩
  · have d0 : decide (40 < (l.length : Int)) = false := by simp; omega
    have HB := Lib.hid hb
    have L1 := osort_le l
    have L2 := without_le l i
    clear hb
    go_enter Try.func3, Try.ntmps3
    go_wp2_with fail
    refine (mid_any _ _ _ _ (by omega) HB.out).mono ?_; rintro e w1 ⟨rfl, b1⟩
    have g1 := Lib.hid b1; clear b1
    go_wp2_with fail
    refine (rmid_any _ _ _ _ (by omega) (HB.out.below g1.out)).mono ?_; rintro e w2 ⟨rfl, b2⟩
    have g2 := Lib.hid (grow g1.out b2); clear b2 g1
    go_wp2_with fail
    refine (sort_any _ _ _ _ (by omega) (HB.out.below g2.out)).mono ?_; rintro e w3 ⟨a3, k3, rfl, i3, b3⟩
    have g3 := Lib.hid (grow g2.out b3); have I3 := Lib.hid i3; clear b3 g2 i3
    go_wp2_with fail
    refine (rsort_any _ _ _ _ (by omega) (HB.out.below g3.out)).mono ?_; rintro e w4 ⟨a4, k4, rfl, i4, b4⟩
    have g4 := Lib.hid (grow g3.out b4); have I4 := Lib.hid i4; have I3' := Lib.hid (I3.out.below b4); clear b4 g3 i4
    go_wp2_with fail
    refine (ints_any _ _ _ _ _ _ _ (by omega) (by omega) I3'.out I4.out).mono ?_; rintro e w5 ⟨rfl, b5⟩
    rw [same_self]
    have g5 := Lib.hid (grow g4.out b5); clear b5 g4 I3 I4 I3'
    go_wp2_with fail
    refine (without_any _ _ _ _ _ (by omega) c1 c2 (HB.out.below g5.out)).mono ?_; rintro e w6 ⟨a6, k6, rfl, i6, b6⟩
    have g6 := Lib.hid (grow g5.out b6); have I6 := Lib.hid i6; clear b6 g5 i6
    go_wp2_with fail
    refine (rwithout_any _ _ _ _ _ (by omega) (HB.out.below g6.out)).mono ?_; rintro e w7 ⟨a7, k7, rfl, i7, b7⟩
    have g7 := Lib.hid (grow g6.out b7); have I7 := Lib.hid i7; have I6' := Lib.hid (I6.out.below b7); clear b7 g6 i7
    go_wp2_with fail
    refine (ints_any _ _ _ _ _ _ _ (by omega) (by omega) I6'.out I7.out).mono ?_; rintro e w8 ⟨rfl, b8⟩
    rw [same_self]
    have g8 := Lib.hid (grow g7.out b8); clear b8 g7 I6 I7 I6'
    go_wp2_with fail
    refine (alive_any _).mono ?_; rintro e w9 ⟨rfl, b9⟩
    have g9 := Lib.hid (grow g8.out b9); clear b9 g8
    go_wp2_with fail
    refine (spread_any _ _ _ _ (by omega) (HB.out.below g9.out)).mono ?_; rintro e w10 ⟨rfl, b10⟩
    have g10 := Lib.hid (grow g9.out b10); clear b10 g9
    go_wp2_with fail
    refine (rspread_any _ _ _ _ (by omega) (HB.out.below g10.out)).mono ?_; rintro e w11 ⟨rfl, b11⟩
    have g11 := Lib.hid (grow g10.out b11); clear b11 g10
    go_wp2
    go_ret
    exact ⟨rfl, g11.out⟩
end orderTells
end Go.Proofs.Ytkfcgdhicmmklaa
