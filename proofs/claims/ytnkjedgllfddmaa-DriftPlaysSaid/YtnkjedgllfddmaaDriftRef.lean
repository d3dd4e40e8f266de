/-
  What the document's answers for layer 10 (package rudderref10) return: contracts by walking the Go text. Conditions: that the level may be one.
-/
import Derived.Test.YtnkjedgllfddmaaDriftMath
import Derived.Test.YtnkjedgllfddmaaFixRefs
namespace Go.Proofs.Ytnkjedgllfddmaa
open Go.ChangeShapes Go.WideShapes Go.ChangeAt Go.RowKit Go.Deep
namespace Dr
open Fx (ret_bool)

set_option maxHeartbeats 800000 in
theorem rmay_any (lag bound : Int) (w : World) :
    Calls Try.prog 7 #[.int .i64 lag, .int .i64 bound] w fun e w' => e = .returned (.bool (may lag bound)) ∧ w = w' := by
  have HF := Lib.hid (show may lag bound = (decide (0 ≤ lag) && decide (lag ≤ 8) && decide (0 ≤ bound) && decide (bound ≤ 2147483647)) from rfl)
  generalize may lag bound = M at *
  cases d1 : decide (0 ≤ lag)
  · rw [d1] at HF
    go_enter Try.func7, Try.ntmps7
    go_wp2
    go_ret
    exact ⟨ret_bool (by rw [HF.out]; rfl), rfl⟩
  · cases d2 : decide (lag ≤ 8)
    · rw [d1, d2] at HF
      go_enter Try.func7, Try.ntmps7
      go_wp2
      go_ret
      exact ⟨ret_bool (by rw [HF.out]; rfl), rfl⟩
    · cases d3 : decide (0 ≤ bound)
      · rw [d1, d2, d3] at HF
        go_enter Try.func7, Try.ntmps7
        go_wp2
        go_ret
        exact ⟨ret_bool (by rw [HF.out]; rfl), rfl⟩
      · rw [d1, d2, d3] at HF
        go_enter Try.func7, Try.ntmps7
        go_wp2
        go_ret
        exact ⟨ret_bool (by rw [HF.out]; rfl), rfl⟩

set_option maxHeartbeats 800000 in
theorem rcome_any (lag level d : Int) (w : World) (hl : -4294967296 ≤ level ∧ level ≤ 4294967296) (h0 : 0 ≤ lag) (h8 : lag ≤ 8) :
    Calls Try.prog 10 #[.int .i64 lag, .int .i64 level, .int .i64 d] w fun e w' => e = .returned (.tuple #[.int .i64 (nx lag level d), .int .i64 (ce d)]) ∧ Below w.heap.size w w' := by
  cases hd : dif d
  · rw [ce_no hd, nx_no hd]
    unfold dif at hd
    clear hl h0 h8
    cases d1 : decide (d < -4294967296)
    · have d2 : decide (4294967296 < d) = true := by simp at d1 hd ⊢; omega
      clear hd
      go_enter Try.func10, Try.ntmps10
      go_wp2
      go_ret2
      exact ⟨rfl, Below.refl _ _⟩
    · clear hd
      go_enter Try.func10, Try.ntmps10
      go_wp2
      go_ret2
      exact ⟨rfl, Below.refl _ _⟩
  · have hn := nx_level (d := d) hl h0 h8
    have hd' := (dif_iff d).1 hd
    have HX := Lib.hid (nx_yes (lag := lag) (level := level) hd)
    rw [ce_yes hd]
    generalize nx lag level d = x at *
    have d1 : decide (d < -4294967296) = false := by simp; omega
    have d2 : decide (4294967296 < d) = false := by simp; omega
    have CS := fun W => Fx.rshift_any (d - level) lag W
    generalize Fx.shift (d - level) lag = s at *
    obtain rfl : s = x - level := by have := HX.out; omega
    have n1 : -9223372036854775808 ≤ d - level := by omega
    have n2 : d - level ≤ 9223372036854775807 := by omega
    have n3 : level + (x - level) = x := by omega
    clear hd hd' HX h0 h8
    go_enter Try.func10, Try.ntmps10
    go_wp2_with fail
    refine (CS _).mono ?_; rintro e w1 ⟨rfl, b1⟩
    go_wp2
    go_ret2
    exact ⟨rfl, b1⟩
end Dr
end Go.Proofs.Ytnkjedgllfddmaa
