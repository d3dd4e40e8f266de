/-
  What the document's answers for layer 11 (package rudderref11) return: contracts by walking the Go text. Conditions: that the offset may be one.
-/
import Derived.Test.YtblhjjfnneihiaaEqualMath
import Derived.Test.YtblhjjfnneihiaaFixRefs
import Derived.Test.YtblhjjfnneihiaaJumpRight
namespace Go.Proofs.Ytblhjjfnneihiaa
open Go.ChangeShapes Go.WideShapes Go.ChangeAt Go.RowKit Go.Deep
namespace Ql
open Fx (ret_bool)
open Jp (val val_iff val_no)

set_option maxHeartbeats 800000 in
theorem rmay_any (auth gain : Int) (w : World) :
    Calls Try.prog 7 #[.int .i64 auth, .int .i64 gain] w fun e w' => e = .returned (.bool (may auth gain)) ∧ w = w' := by
  have HF := Lib.hid (show may auth gain = (decide (0 ≤ auth) && decide (auth ≤ 2147483647) && decide (0 ≤ gain) && decide (gain ≤ 8)) from rfl)
  generalize may auth gain = M at *
  cases d1 : decide (0 ≤ auth)
  · rw [d1] at HF
    go_enter Try.func7, Try.ntmps7
    go_wp2
    go_ret
    exact ⟨ret_bool (by rw [HF.out]; rfl), rfl⟩
  · cases d2 : decide (auth ≤ 2147483647)
    · rw [d1, d2] at HF
      go_enter Try.func7, Try.ntmps7
      go_wp2
      go_ret
      exact ⟨ret_bool (by rw [HF.out]; rfl), rfl⟩
    · cases d3 : decide (0 ≤ gain)
      · rw [d1, d2, d3] at HF
        go_enter Try.func7, Try.ntmps7
        go_wp2
        go_ret
        exact ⟨ret_bool (by rw [HF.out]; rfl), rfl⟩
      · rw [d1, d2, d3] at HF
        go_enter Try.func7, Try.ntmps7
        go_wp2
        go_ret
        exact ⟨ret_bool (by rw [HF.out]; rfl), rfl⟩

theorem reven_any (offset n : Int) (w : World) (ho : -2147483647 ≤ offset ∧ offset ≤ 2147483647) :
    Calls Try.prog 11 #[.int .i64 offset, .int .i64 n] w fun e w' => e = .returned (.tuple #[.int .i64 (ev offset n), .int .i64 (ee n)]) ∧ w = w' := by
  have CV := fun W => Jp.rright_any n W
  cases hn : val n
  · rw [ev_no hn, ee_no hn]
    rw [hn] at CV
    clear hn ho
    go_enter Try.func11, Try.ntmps11
    go_wp2_with (go_at_call 16; refine (CV _).mono ?_; rintro e w' ⟨rfl, rfl⟩)
    go_ret2
    exact ⟨rfl, rfl⟩
  · rw [ev_yes hn, ee_yes hn]
    rw [hn] at CV
    have hv := (val_iff n).1 hn
    have n1 : -9223372036854775808 ≤ n - offset := by omega
    have n2 : n - offset ≤ 9223372036854775807 := by omega
    clear hn ho hv
    go_enter Try.func11, Try.ntmps11
    go_wp2_with (go_at_call 16; refine (CV _).mono ?_; rintro e w' ⟨rfl, rfl⟩)
    go_ret2
    exact ⟨rfl, rfl⟩

set_option maxHeartbeats 1600000 in
theorem rlearn_no (auth gain offset n vote : Int) (w : World) (hb : both n vote = false) :
    Calls Try.prog 9 #[.int .i64 auth, .int .i64 gain, .int .i64 offset, .int .i64 n, .int .i64 vote] w fun e w' => e = .returned (.tuple #[.int .i64 offset, .int .i64 1]) ∧ w = w' := by
  have CV := fun W => Jp.rright_any n W
  have CW := fun W => Jp.rright_any vote W
  unfold both at hb
  cases hn : val n
  · rw [hn] at CV
    clear hb hn
    generalize val vote = Y at *
    go_enter Try.func9, Try.ntmps9
    go_wp2_with fail
    refine (CV _).mono ?_; rintro e w' ⟨rfl, rfl⟩
    go_wp2_with fail
    refine (CW _).mono ?_; rintro e w' ⟨rfl, rfl⟩
    go_wp2_with fail
    go_ret2
    exact ⟨rfl, rfl⟩
  · have hv : val vote = false := by rw [hn] at hb; simpa using hb
    rw [hn] at CV
    rw [hv] at CW
    clear hb hn hv
    go_enter Try.func9, Try.ntmps9
    go_wp2_with fail
    refine (CV _).mono ?_; rintro e w' ⟨rfl, rfl⟩
    go_wp2_with fail
    refine (CW _).mono ?_; rintro e w' ⟨rfl, rfl⟩
    go_wp2_with fail
    go_ret2
    exact ⟨rfl, rfl⟩

set_option maxHeartbeats 3200000 in
theorem rlearn_yes (auth gain offset n vote : Int) (w : World) (hm : may auth gain = true) (ho : -auth ≤ offset ∧ offset ≤ auth) (hb : both n vote = true) :
    Calls Try.prog 9 #[.int .i64 auth, .int .i64 gain, .int .i64 offset, .int .i64 n, .int .i64 vote] w fun e w' => e = .returned (.tuple #[.int .i64 (nx auth gain offset n vote), .int .i64 0]) ∧ Below w.heap.size w w' := by
  obtain ⟨m1, m2, m3, m4⟩ := (may_iff _ _).1 hm
  obtain ⟨v1, v2⟩ := (both_iff _ _).1 hb
  have CV := fun W => Jp.rright_any n W
  have CW := fun W => Jp.rright_any vote W
  rw [v1] at CV
  rw [v2] at CW
  have hv1 := (val_iff _).1 v1
  have hv2 := (val_iff _).1 v2
  have hst := step_bd ⟨m3, m4⟩ (show -2147483647 ≤ offset ∧ offset ≤ 2147483647 by omega) hb
  have hx := nx_yes (auth := auth) (gain := gain) (offset := offset) hb
  have CS := fun W => Fx.rshift_any (n - vote - offset) gain W
  generalize nx auth gain offset n vote = x at *
  generalize Fx.shift (n - vote - offset) gain = s at *
  have n1 : -9223372036854775808 ≤ n - vote := by omega
  have n2 : n - vote ≤ 9223372036854775807 := by omega
  have n3 : -9223372036854775808 ≤ n - vote - offset := by omega
  have n4 : n - vote - offset ≤ 9223372036854775807 := by omega
  have n5 : -9223372036854775808 ≤ offset + s := by omega
  have n6 : offset + s ≤ 9223372036854775807 := by omega
  have n7 : -9223372036854775808 ≤ -auth := by omega
  have n8 : -auth ≤ 9223372036854775807 := by omega
  unfold lim at hx
  clear hm ho hb v1 v2 hv1 hv2 hst m1 m2 m3 m4
  by_cases q1 : auth < offset + s
  · rw [if_pos q1] at hx
    subst hx
    go_enter Try.func9, Try.ntmps9
    go_wp2_with fail
    refine (CV _).mono ?_; rintro e w' ⟨rfl, rfl⟩
    go_wp2_with fail
    refine (CW _).mono ?_; rintro e w' ⟨rfl, rfl⟩
    go_wp2_with fail
    refine (CS _).mono ?_; rintro e w' ⟨rfl, b1⟩
    go_wp2_with fail
    go_ret2
    exact ⟨rfl, b1⟩
  · have e1 : decide (auth < offset + s) = false := by simpa using q1
    rw [if_neg q1] at hx
    clear q1
    by_cases q2 : offset + s < -auth
    · rw [if_pos q2] at hx
      subst hx
      go_enter Try.func9, Try.ntmps9
      go_wp2_with fail
      refine (CV _).mono ?_; rintro e w' ⟨rfl, rfl⟩
      go_wp2_with fail
      refine (CW _).mono ?_; rintro e w' ⟨rfl, rfl⟩
      go_wp2_with fail
      refine (CS _).mono ?_; rintro e w' ⟨rfl, b1⟩
      go_wp2_with fail
      go_ret2
      exact ⟨rfl, b1⟩
    · have e2 : decide (offset + s < -auth) = false := by simpa using q2
      rw [if_neg q2] at hx
      subst hx
      clear q2
      go_enter Try.func9, Try.ntmps9
      go_wp2_with fail
      refine (CV _).mono ?_; rintro e w' ⟨rfl, rfl⟩
      go_wp2_with fail
      refine (CW _).mono ?_; rintro e w' ⟨rfl, rfl⟩
      go_wp2_with fail
      refine (CS _).mono ?_; rintro e w' ⟨rfl, b1⟩
      go_wp2_with fail
      go_ret2
      exact ⟨rfl, b1⟩
theorem rlearn_any (auth gain offset n vote : Int) (w : World) (hm : may auth gain = true) (ho : -auth ≤ offset ∧ offset ≤ auth) :
    Calls Try.prog 9 #[.int .i64 auth, .int .i64 gain, .int .i64 offset, .int .i64 n, .int .i64 vote] w fun e w' => e = .returned (.tuple #[.int .i64 (nx auth gain offset n vote), .int .i64 (ce n vote)]) ∧ Below w.heap.size w w' := by
  cases hb : both n vote
  · rw [ce_no hb, nx_no hb]
    refine (rlearn_no auth gain offset n vote w hb).mono ?_
    rintro e w' ⟨rfl, rfl⟩
    exact ⟨rfl, Below.refl _ _⟩
  · rw [ce_yes hb]
    exact rlearn_yes auth gain offset n vote w hm ho hb
end Ql
end Go.Proofs.Ytblhjjfnneihiaa
