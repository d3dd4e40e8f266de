/-
  What Word of package status, and Right and Word of rudderref16, tell: contracts by walking the Go text. No conditions.
-/
import Derived.Test.YtpoededbmdffpaaGreatDoorStatusWalks
namespace Go.Proofs.YtpoededbmdffpaaGreatDoor
set_option maxRecDepth 100000
open Go.ChangeShapes Go.WideShapes Go.ChangeAt Go.RowKit Go.Deep
namespace Ss
open Fx
set_option maxHeartbeats 1600000 in
theorem word_any (s : St) (w : World) :
    Calls Tryz.prog 84 #[stv s] w fun e w' => e = .returned (.tuple #[.int .i64 (wdv s), .int .i64 (wde s)]) ∧ Below w.heap.size w w' := by
  have C := fun W => right_any s W
  have V := Lib.hid (box_new w s 37)
  have B0 := Lib.hid ((Below.refl w.heap.size w).alloc (Nat.le_refl _) (.cells #[.int .i64 s.i, .int .i64 s.l, .int .i64 s.s, .bool s.f] 37))
  cases h : rgt s
  · have HF := Lib.hid (show wdv s = 0 ∧ wde s = 1 by unfold wdv wde; rw [h]; exact ⟨rfl, rfl⟩)
    rw [h] at C
    clear h
    unfold stv at *
    go_enter Tryz.func84, Tryz.ntmps84
    go_wp2_with (go_at_call 69; refine (C _).mono ?_; rintro e w1 ⟨rfl, b1⟩; have B1 := Lib.hid (grow B0.out b1); clear b1)
    go_returns
    exact ⟨by rw [HF.out.1, HF.out.2]; rfl, B1.out⟩
  · have HF := Lib.hid (show wdv s = s.i + s.l * 16 + sw s.s * 256 + fw s.f ∧ wde s = 0 by unfold wdv wde wrd; rw [h]; exact ⟨rfl, rfl⟩)
    obtain ⟨a, b, c, -, -⟩ := rgt_bd h
    rw [h] at C
    clear h
    unfold stv at *
    obtain ⟨i, l, q, f⟩ := s
    dsimp only at *
    by_cases e1 : q = -1
    · subst e1
      cases f
      all_goals
        go_enter Tryz.func84, Tryz.ntmps84
        go_wp2_with (go_at_call 69; refine (C _).mono ?_; rintro e w1 ⟨rfl, b1⟩; have B1 := Lib.hid (grow B0.out b1); have V1 := Lib.hid (onB V.out b1); obtain ⟨c0, c1, c2, c3⟩ := st_cells V1.out; clear b1)
        go_returns
        exact ⟨by rw [HF.out.1, HF.out.2]; simp [fw, sw], B1.out⟩
    · have HS := Lib.hid (show sw q = q by unfold sw; rw [if_neg e1])
      have d1 : (q == -1) = false := by simpa using e1
      have d2 : decide (q < 0) = false := by simp; omega
      clear e1
      cases f
      all_goals
        go_enter Tryz.func84, Tryz.ntmps84
        go_wp2_with (go_at_call 69; refine (C _).mono ?_; rintro e w1 ⟨rfl, b1⟩; have B1 := Lib.hid (grow B0.out b1); have V1 := Lib.hid (onB V.out b1); obtain ⟨c0, c1, c2, c3⟩ := st_cells V1.out; clear b1)
        go_returns
        exact ⟨by rw [HF.out.1, HF.out.2, HS.out]; simp [fw], B1.out⟩
end Ss
end Go.Proofs.YtpoededbmdffpaaGreatDoor
