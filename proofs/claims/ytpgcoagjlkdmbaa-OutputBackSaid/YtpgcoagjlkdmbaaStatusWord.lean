/-
  What Word of package status, and Right and Word of rudderref16, tell: contracts by walking the Go text. No conditions.
-/
import Derived.Test.YtpgcoagjlkdmbaaJKept3
namespace Go.Proofs.Ytpgcoagjlkdmbaa
set_option maxRecDepth 100000
open Go.ChangeShapes Go.WideShapes Go.ChangeAt Go.RowKit Go.Deep
namespace Ss
open Fx

theorem rgt_no {s : St} (h : ¬ ((0 ≤ s.i ∧ s.i < 16) ∧ (0 ≤ s.l ∧ s.l < 16) ∧ (-1 ≤ s.s ∧ s.s < 4) ∧ s.f = (s.i == 0))) : rgt s = false := by
  cases e : rgt s
  · rfl
  · obtain ⟨a, b, c, d, _⟩ := rgt_bd e
    exact absurd ⟨a, b, c, d⟩ h
theorem rgt_yes {s : St} (h : (0 ≤ s.i ∧ s.i < 16) ∧ (0 ≤ s.l ∧ s.l < 16) ∧ (-1 ≤ s.s ∧ s.s < 4) ∧ s.f = (s.i == 0)) : rgt s = (s.s == -1 || has s.i s.s) := by
  obtain ⟨a, b, _, d⟩ := h
  unfold rgt
  rw [(mk_iff _).2 a, (mk_iff _).2 b, d]
  simp

set_option maxHeartbeats 3200000 in
theorem rright_any (s : St) (w : World) :
    Calls Try.prog 32 #[stv s] w fun e w' => e = .returned (.bool (rgt s)) ∧ Below w.heap.size w w' := by
  have HN := Lib.hid (fun h => rgt_no (s := s) h)
  have HY := Lib.hid (fun h => rgt_yes (s := s) h)
  obtain ⟨i, l, q, f⟩ := s
  dsimp only at HN HY
  have BB := Lib.hid ((Below.refl w.heap.size w).alloc (Nat.le_refl _) (.cells #[.int .i64 i, .int .i64 l, .int .i64 q, .bool f] 24))
  have CH := fun W => rhas_any i q W
  unfold stv
  generalize rgt ⟨i, l, q, f⟩ = r at *
  generalize has i q = h at *
  by_cases h1 : i < 0
  · have HF := Lib.hid (HN.out (by omega))
    clear HN HY
    go_enter Try.func32, Try.ntmps32
    go_wp2
    go_ret
    exact ⟨ret_bool HF.out.symm, BB.out⟩
  have d1 : decide (i < 0) = false := by simpa using h1
  by_cases h2 : 15 < i
  · have HF := Lib.hid (HN.out (by omega))
    clear HN HY
    go_enter Try.func32, Try.ntmps32
    go_wp2
    go_ret
    exact ⟨ret_bool HF.out.symm, BB.out⟩
  have d2 : decide (15 < i) = false := by simpa using h2
  by_cases h3 : l < 0
  · have HF := Lib.hid (HN.out (by omega))
    clear HN HY
    go_enter Try.func32, Try.ntmps32
    go_wp2
    go_ret
    exact ⟨ret_bool HF.out.symm, BB.out⟩
  have d3 : decide (l < 0) = false := by simpa using h3
  by_cases h4 : 15 < l
  · have HF := Lib.hid (HN.out (by omega))
    clear HN HY
    go_enter Try.func32, Try.ntmps32
    go_wp2
    go_ret
    exact ⟨ret_bool HF.out.symm, BB.out⟩
  have d4 : decide (15 < l) = false := by simpa using h4
  cases e5 : (i == 0) <;> cases f
  case true.false =>
    have HF := Lib.hid (HN.out (by rw [e5]; simp))
    clear HN HY
    go_enter Try.func32, Try.ntmps32
    go_wp2
    go_ret
    exact ⟨ret_bool HF.out.symm, BB.out⟩
  case false.true =>
    have HF := Lib.hid (HN.out (by rw [e5]; simp))
    clear HN HY
    go_enter Try.func32, Try.ntmps32
    go_wp2
    go_ret
    exact ⟨ret_bool HF.out.symm, BB.out⟩
  all_goals
    by_cases h6 : q < -1
    · have HF := Lib.hid (HN.out (by omega))
      clear HN HY
      go_enter Try.func32, Try.ntmps32
      go_wp2
      go_ret
      exact ⟨ret_bool HF.out.symm, BB.out⟩
    have d6 : decide (q < -1) = false := by simpa using h6
    by_cases h7 : 3 < q
    · have HF := Lib.hid (HN.out (by omega))
      clear HN HY
      go_enter Try.func32, Try.ntmps32
      go_wp2
      go_ret
      exact ⟨ret_bool HF.out.symm, BB.out⟩
    have d7 : decide (3 < q) = false := by simpa using h7
    have HF := Lib.hid (HY.out ⟨by omega, by omega, by omega, by rw [e5]⟩)
    clear HN HY h1 h2 h3 h4 h6 h7
    cases e8 : (q == -1)
    all_goals
      rw [e8] at HF
      go_enter Try.func32, Try.ntmps32
      go_wp2_with (go_at_call 46; refine (CH _).mono ?_; rintro e w' ⟨rfl, rfl⟩)
      go_ret
      exact ⟨ret_bool (by rw [HF.out]; first | rfl | simp), BB.out⟩

set_option maxHeartbeats 1600000 in
theorem word_any (s : St) (w : World) :
    Calls Try.prog 19 #[stv s] w fun e w' => e = .returned (.tuple #[.int .i64 (wdv s), .int .i64 (wde s)]) ∧ Below w.heap.size w w' := by
  have C := fun W => right_any s W
  have V := Lib.hid (box_new w s 24)
  have B0 := Lib.hid ((Below.refl w.heap.size w).alloc (Nat.le_refl _) (.cells #[.int .i64 s.i, .int .i64 s.l, .int .i64 s.s, .bool s.f] 24))
  cases h : rgt s
  · have HF := Lib.hid (show wdv s = 0 ∧ wde s = 1 by unfold wdv wde; rw [h]; exact ⟨rfl, rfl⟩)
    rw [h] at C
    clear h
    unfold stv at *
    go_enter Try.func19, Try.ntmps19
    go_wp2_with (go_at_call 31; refine (C _).mono ?_; rintro e w1 ⟨rfl, b1⟩; have B1 := Lib.hid (grow B0.out b1); clear b1)
    go_returns
    exact ⟨by rw [HF.out.1, HF.out.2]; rfl, B1.out⟩
  · have HF := Lib.hid (show wdv s = s.i + s.l * 16 + sw s.s * 256 + fw s.f ∧ wde s = 0 by unfold wdv wde wrd; rw [h]; exact ⟨rfl, rfl⟩)
    obtain ⟨a, b, c, -, -⟩ := rgt_bd h
    rw [h] at C
    clear h
    unfold stv at *
    obtain ⟨i, l, q, f⟩ := s
    dsimp only at *
    by_cases e1 : q = -1
    · subst e1
      cases f
      all_goals
        go_enter Try.func19, Try.ntmps19
        go_wp2_with (go_at_call 31; refine (C _).mono ?_; rintro e w1 ⟨rfl, b1⟩; have B1 := Lib.hid (grow B0.out b1); have V1 := Lib.hid (onB V.out b1); obtain ⟨c0, c1, c2, c3⟩ := st_cells V1.out; clear b1)
        go_returns
        exact ⟨by rw [HF.out.1, HF.out.2]; simp [fw, sw], B1.out⟩
    · have HS := Lib.hid (show sw q = q by unfold sw; rw [if_neg e1])
      have d1 : (q == -1) = false := by simpa using e1
      have d2 : decide (q < 0) = false := by simp; omega
      clear e1
      cases f
      all_goals
        go_enter Try.func19, Try.ntmps19
        go_wp2_with (go_at_call 31; refine (C _).mono ?_; rintro e w1 ⟨rfl, b1⟩; have B1 := Lib.hid (grow B0.out b1); have V1 := Lib.hid (onB V.out b1); obtain ⟨c0, c1, c2, c3⟩ := st_cells V1.out; clear b1)
        go_returns
        exact ⟨by rw [HF.out.1, HF.out.2, HS.out]; simp [fw], B1.out⟩

set_option maxHeartbeats 1600000 in
theorem rword_any (s : St) (w : World) :
    Calls Try.prog 23 #[stv s] w fun e w' => e = .returned (.tuple #[.int .i64 (wdv s), .int .i64 (wde s)]) ∧ Below w.heap.size w w' := by
  have C := fun W => rright_any s W
  have V := Lib.hid (box_new w s 24)
  have B0 := Lib.hid ((Below.refl w.heap.size w).alloc (Nat.le_refl _) (.cells #[.int .i64 s.i, .int .i64 s.l, .int .i64 s.s, .bool s.f] 24))
  cases h : rgt s
  · have HF := Lib.hid (show wdv s = 0 ∧ wde s = 1 by unfold wdv wde; rw [h]; exact ⟨rfl, rfl⟩)
    rw [h] at C
    clear h
    unfold stv at *
    go_enter Try.func23, Try.ntmps23
    go_wp2_with (go_at_call 32; refine (C _).mono ?_; rintro e w1 ⟨rfl, b1⟩; have B1 := Lib.hid (grow B0.out b1); clear b1)
    go_returns
    exact ⟨by rw [HF.out.1, HF.out.2]; rfl, B1.out⟩
  · have HF := Lib.hid (show wdv s = s.i + s.l * 16 + sw s.s * 256 + fw s.f ∧ wde s = 0 by unfold wdv wde wrd; rw [h]; exact ⟨rfl, rfl⟩)
    obtain ⟨a, b, c, -, -⟩ := rgt_bd h
    rw [h] at C
    clear h
    unfold stv at *
    obtain ⟨i, l, q, f⟩ := s
    dsimp only at *
    by_cases e1 : q = -1
    · subst e1
      cases f
      all_goals
        go_enter Try.func23, Try.ntmps23
        go_wp2_with (go_at_call 32; refine (C _).mono ?_; rintro e w1 ⟨rfl, b1⟩; have B1 := Lib.hid (grow B0.out b1); have V1 := Lib.hid (onB V.out b1); obtain ⟨c0, c1, c2, c3⟩ := st_cells V1.out; clear b1)
        go_returns
        exact ⟨by rw [HF.out.1, HF.out.2]; simp [fw, sw]; try omega, B1.out⟩
    · have HS := Lib.hid (show sw q = q by unfold sw; rw [if_neg e1])
      have d1 : (q == -1) = false := by simpa using e1
      have d2 : decide (q < 0) = false := by simp; omega
      clear e1
      cases f
      all_goals
        go_enter Try.func23, Try.ntmps23
        go_wp2_with (go_at_call 32; refine (C _).mono ?_; rintro e w1 ⟨rfl, b1⟩; have B1 := Lib.hid (grow B0.out b1); have V1 := Lib.hid (onB V.out b1); obtain ⟨c0, c1, c2, c3⟩ := st_cells V1.out; clear b1)
        go_returns
        exact ⟨by rw [HF.out.1, HF.out.2, HS.out]; simp [fw]; try omega, B1.out⟩

end Ss
end Go.Proofs.Ytpgcoagjlkdmbaa
