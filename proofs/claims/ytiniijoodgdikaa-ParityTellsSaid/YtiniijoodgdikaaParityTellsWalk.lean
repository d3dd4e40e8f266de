/-
  The walk of the law ParityTells: for every list and every int it returns true, and writes nothing that was there. No conditions.
-/
import Derived.Test.YtiniijoodgdikaaParityAlive
import Derived.Test.YtiniijoodgdikaaMany
namespace Go.Proofs.Ytiniijoodgdikaa
open Go.ChangeShapes Go.WideShapes Go.ChangeAt Go.RowKit Go.Deep
namespace parityTells
open Fx Od Pa

set_option maxHeartbeats 1600000 in
theorem walk (a : Option Addr) (cap : Nat) (l : List Int) (b : Int) (w : World) (m0 : l.length ≤ maxLen) (c0 : l.length ≤ cap ∧ cap ≤ maxLen) (_z : cap * 8 ≤ 140737488351232) (_f : ∀ n ∈ l, (Lit.int .i64 n).wf = true) (hb : IntsAt .i64 w a l) (hw : (Lit.int .i64 b).wf = true) :
    Calls Try.prog 3 #[.slice a l.length cap, .int .i64 b] w fun e w' => e = .returned (.bool true) ∧ Below w.heap.size w w' := by
  have hbd := Mn.i64_in hw
  unfold maxLen at m0 c0
  obtain ⟨c1, c2⟩ := c0
  by_cases h40 : 40 < l.length
  · go_enter Try.func3, Try.ntmps3
    go_wp2_with fail
    refine (alive_any _).mono ?_; rintro e w5 ⟨rfl, b5⟩
    go_wp2
    go_ret
    exact ⟨rfl, b5⟩
  · have d0 : decide (40 < (l.length : Int)) = false := by simp; omega
    have HB := Lib.hid hb
    have L1 := res_le l
    clear hb
    go_enter Try.func3, Try.ntmps3
    go_wp2_with fail
    refine (res_any _ _ _ _ (by omega) c1 c2 HB.out).mono ?_; rintro e w1 ⟨a1, k1, rfl, i1, b1⟩
    have g1 := Lib.hid b1; have I1 := Lib.hid i1; clear b1 i1
    go_wp2_with fail
    refine (rres_any _ _ _ _ (by omega) (HB.out.below g1.out)).mono ?_; rintro e w2 ⟨a2, k2, rfl, i2, b2⟩
    have g2 := Lib.hid (grow g1.out b2); have I2 := Lib.hid i2; have I1' := Lib.hid (I1.out.below b2); clear b2 g1 i2 I1
    go_wp2_with fail
    refine (ints_any _ _ _ _ _ _ _ (by omega) (by omega) I1'.out I2.out).mono ?_; rintro e w3 ⟨rfl, b3⟩
    rw [same_self]
    have g3 := Lib.hid (grow g2.out b3); clear b3 g2 I2 I1'
    go_wp2_with fail
    refine (alive_any _).mono ?_; rintro e w4 ⟨rfl, b4⟩
    have g4 := Lib.hid (grow g3.out b4); clear b4 g3
    go_wp2_with fail
    refine (sus_any _ _ _ _ _ (by omega) c1 c2 (HB.out.below g4.out)).mono ?_; rintro e w5 ⟨rfl, b5⟩
    have g5 := Lib.hid (grow g4.out b5); clear b5 g4
    go_wp2_with fail
    refine (rsus_any _ _ _ _ _ (by omega) (HB.out.below g5.out) hbd).mono ?_; rintro e w6 ⟨rfl, b6⟩
    have g6 := Lib.hid (grow g5.out b6); clear b6 g5
    generalize sus l b = q at *
    go_wp2
    go_ret
    exact ⟨rfl, g6.out⟩
end parityTells
end Go.Proofs.Ytiniijoodgdikaa
