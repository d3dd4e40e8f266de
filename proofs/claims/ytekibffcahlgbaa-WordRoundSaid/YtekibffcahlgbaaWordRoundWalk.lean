/-
  The walk of the law WordRound: from every number of 16 bits, so many steps as a byte tells, it returns true, and writes nothing that was there. No conditions.
-/
import Derived.Test.YtekibffcahlgbaaWordAlive
namespace Go.Proofs.Ytekibffcahlgbaa
open Go.ChangeShapes Go.WideShapes Go.ChangeAt Go.RowKit Go.Deep
namespace wordRound
open Wd

theorem u8_in {x : Int} (h : (Lit.int .u8 x).wf = true) : 0 ≤ x ∧ x < 256 := by
  simp only [Lit.wf, Bool.and_eq_true, decide_eq_true_eq] at h
  have hmin : IntKind.u8.min = 0 := rfl
  have hmax : IntKind.u8.max = 255 := rfl
  omega
theorem u16_in {x : Int} (h : (Lit.int .u16 x).wf = true) : 0 ≤ x ∧ x ≤ 65535 := by
  simp only [Lit.wf, Bool.and_eq_true, decide_eq_true_eq] at h
  have hmin : IntKind.u16.min = 0 := rfl
  have hmax : IntKind.u16.max = 65535 := rfl
  omega

set_option maxHeartbeats 1600000 in
theorem walk (a by_ : Int) (w : World) (w0 : (Lit.int .u16 a).wf = true) (w1 : (Lit.int .u8 by_).wf = true) :
    Calls Try.prog 5 #[.int .u16 a, .int .u8 by_] w fun e w' => e = .returned (.bool true) ∧ Below w.heap.size w w' := by
  have ha := u16_in w0
  have hb := u8_in w1
  obtain ⟨B, rfl⟩ := Int.eq_ofNat_of_zero_le hb.1
  have hB : B ≤ 255 := by omega
  clear w0 w1
  go_enter Try.func5, Try.ntmps5
  go_wp2
  go_loopg [5, 6] B (fun gg s5 s6 wr => ∃ k : Nat, k + gg = B ∧ s6 = .int .i64 k ∧ s5 = .int .i64 (far a k) ∧ w = wr)
  case atStart => exact ⟨0, by omega, rfl, by rw [far_0 ha], rfl⟩
  case round =>
    obtain ⟨k, hkg, rfl, rfl, rfl⟩ := hrel
    by_cases hk : k < B
    · have hki : (k : Int) < (B : Int) := by omega
      have C := next_any (far a k) w
      rw [far_next] at C
      have hin := far_in a (k + 1)
      have hin0 := far_in a k
      have f := far_one a k
      have D := after_any (far a k) (far a (k + 1)) w
      rw [f.1] at D
      have E := after_any (far a (k + 1)) (far a k) w
      rw [f.2] at E
      have HX := Lib.hid (show far a (k + 1) = far a (k + 1) from rfl)
      clear f
      generalize far a k = x at *
      generalize hy : far a (k + 1) = y at *
      have d1 : decide (y < 0) = false := by simp; omega
      have d2 : decide (65535 < y) = false := by simp; omega
      go_wp2_with fail
      refine C.mono ?_; rintro e w1 ⟨rfl, rfl⟩
      go_wp2_with fail
      refine D.mono ?_; rintro e w1 ⟨rfl, rfl⟩
      go_wp2_with fail
      refine E.mono ?_; rintro e w1 ⟨rfl, rfl⟩
      go_wp2
      go_roundg (gk - 1)
      case rel => exact ⟨k + 1, by omega, by go_num, by rw [hy], rfl⟩
      case measure => omega
    · obtain rfl : k = B := by omega
      obtain ⟨f1, f2, f3⟩ := far_all ha k hB
      have D := fun W => after_any a (far a k) W
      rw [f1] at D
      have E := fun W => after_any (far a k) (far a k) W
      rw [f2] at E
      have F := fun W => after_any (far a k) a W
      clear f1 f2
      generalize after (far a k) a = z at *
      generalize far a k = x at *
      go_wp2_with fail
      refine (alive_any _).mono ?_; rintro e w1 ⟨rfl, b1⟩
      have B1 := Lib.hid b1; clear b1
      go_wp2_with fail
      refine (D _).mono ?_; rintro e w2 ⟨rfl, rfl⟩
      go_wp2_with fail
      refine (E _).mono ?_; rintro e w2 ⟨rfl, rfl⟩
      go_wp2_with fail
      refine (F _).mono ?_; rintro e w2 ⟨rfl, rfl⟩
      by_cases hz : z = 65536 - (k : Int)
      · have dz : (z == 65536 - (k : Int)) = true := by simpa using hz
        clear f3 hz
        go_wp2
        go_ret
        exact ⟨rfl, B1.out⟩
      · have dz : (z == 65536 - (k : Int)) = false := by simpa using hz
        have hk0 : k = 0 := by rcases f3 with h | h; exact absurd h hz; exact h
        subst hk0
        have dy : (z == 65536) = false := by simpa using hz
        clear f3 hz
        go_wp2
        go_ret
        exact ⟨rfl, B1.out⟩
end wordRound
end Go.Proofs.Ytekibffcahlgbaa
