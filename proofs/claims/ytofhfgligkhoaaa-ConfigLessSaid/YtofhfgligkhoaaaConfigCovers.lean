/-
  What Covers of package config does: its contract by walking the Go text. Conditions: the numbers' kinds.
-/
import Derived.Test.YtofhfgligkhoaaaConfigFault
namespace Go.Proofs.Ytofhfgligkhoaaa
open Go.ChangeShapes Go.WideShapes Go.ChangeAt Go.RowKit Go.Deep
namespace Cf

theorem ret_bool {a b : Bool} (h : a = b) : Ending.returned (.bool a) = .returned (.bool b) := by rw [h]
theorem wp_loadC {o : Oper} {a : Act} {w : World} {K : Act → World → Prop} {Q : Exit → Act → World → Prop} (x : Operand) (ho : o.op = .load 24 x)
    (b : Nat) (c : List Int) (hx : a.eval x = .pointer (some ⟨b, 0, none⟩)) (hb : Box w b c) (hc : c.length = 21)
    (h : K (a.put o.dst (.agg (CA c))) w) : o.wp Try.prog a w K Q :=
  wp_load_row 24 x ho b hx 24 (CA c) (0, 0) _ hb Try.underlying24 rfl (by rw [CA_size, hc]; exact sizeC) h

/-- A whole configuration loaded, where the operation is wanted. -/
theorem wpList_loadW {ops : Array Oper} {rest : List Oper} {o : Oper} {a : Act} {w : World} {Q : Exit → Act → World → Prop} (hw : Region.wanted o (yielded ops a.tmps) = true) (x : Operand) (ho : o.op = .load 24 x)
    (b : Nat) (c : List Int) (hx : a.eval x = .pointer (some ⟨b, 0, none⟩)) (hb : Box w b c) (hc : c.length = 21)
    (h : wpList Try.prog ops Q rest (a.put o.dst (.agg (CA c))) w) : wpList Try.prog ops Q (o :: rest) a w := by
  unfold wpList
  rw [if_pos hw]
  exact .inl (wp_loadC x ho b c hx hb hc h)
theorem cov_far (c : List Int) (e r : Int) (h : ¬ (0 ≤ e ∧ e ≤ 1073741824 ∧ 0 ≤ r ∧ r ≤ 1073741824)) : cov c e r = false := by
  unfold cov; rw [decide_eq_false_iff_not]; exact fun q => h q.1
theorem cov_wrong (c : List Int) (e r : Int) (h : rt c = false) : cov c e r = false := by
  unfold cov; rw [decide_eq_false_iff_not]; exact fun q => (of_decide_eq_false h) q.2.1
theorem cov_right (c : List Int) (e r : Int) (h : 0 ≤ e ∧ e ≤ 1073741824 ∧ 0 ≤ r ∧ r ≤ 1073741824) (hr : rt c = true) :
    cov c e r = (decide (2 * e + 2 * G c 10 + G c 12 ≤ G c 9) && (decide (r + 2 * e ≤ G c 4) && (decide (2 * e ≤ G c 7) && (decide (4 * e + 2 * G c 10 + 2 * G c 12 ≤ G c 5) && decide (2 * e ≤ G c 2 - G c 1))))) := by
  have hR : Right c := of_decide_eq_true hr
  unfold cov
  simp only [h, hR, true_and, Bool.decide_and, and_self]
theorem right_small (c : List Int) (hr : rt c = true) : (-2147483648 ≤ G c 1 ∧ G c 1 ≤ 2147483647) ∧ (-2147483648 ≤ G c 2 ∧ G c 2 ≤ 2147483647) ∧ (0 ≤ G c 4 ∧ G c 4 ≤ 2147483647) ∧ (0 ≤ G c 5 ∧ G c 5 ≤ 2147483647) ∧ (0 ≤ G c 7 ∧ G c 7 ≤ 2147483647) ∧ (0 ≤ G c 9 ∧ G c 9 ≤ 2147483647) ∧ (0 ≤ G c 10 ∧ G c 10 ≤ 2147483647) ∧ (0 ≤ G c 12 ∧ G c 12 ≤ 2147483647) := by
  have hR : Right c := of_decide_eq_true hr
  unfold Right at hR
  omega

set_option maxHeartbeats 6400000 in
theorem covers_any (c : List Int) (e r : Int) (w : World) (hc : c.length = 21) :
    Calls Try.prog 13 #[.agg (CA c), .int .i64 e, .int .i64 r] w fun en w' => en = .returned (.bool (cov c e r)) ∧ Below w.heap.size w w' := by
  have B0 := Lib.hid (Box.new w c)
  have b0 := Lib.hid ((Below.refl w.heap.size w).alloc (Nat.le_refl _) (.cells (CA c) 24))
  have RI := fun W => right_any c W hc
  by_cases hin : 0 ≤ e ∧ e ≤ 1073741824 ∧ 0 ≤ r ∧ r ≤ 1073741824
  · have HIN := Lib.hid hin
    obtain ⟨h1, h2, h3, h4⟩ := hin
    have d1 : decide (e < 0) = false := by simpa using h1
    have d2 : decide (1073741824 < e) = false := by simpa using h2
    have d3 : decide (r < 0) = false := by simpa using h3
    have d4 : decide (1073741824 < r) = false := by simpa using h4
    cases hR : rt c
    · have HF := Lib.hid (cov_wrong c e r hR)
      rw [hR] at RI
      clear hR
      go_enter Try.func13, Try.ntmps13
      go_wp2_with (with_reducible show wpList _ _ _ (⟨some 22, _, _, _, _, _⟩ :: _) _ _; refine wpList_loadW rfl _ rfl w.heap.size c rfl B0.out hc ?_)
      refine (RI _).mono ?_; rintro en w1 ⟨rfl, b1⟩
      go_wp2_with fail
      go_ret
      exact ⟨ret_bool (by rw [HF.out]), grow b0.out b1⟩
    · have HC := Lib.hid (cov_right c e r HIN.out hR)
      have HS := Lib.hid (right_small c hR)
      rw [hR] at RI
      clear hR
      go_enter Try.func13, Try.ntmps13
      go_wp2_with (with_reducible show wpList _ _ _ (⟨some 22, _, _, _, _, _⟩ :: _) _ _; refine wpList_loadW rfl _ rfl w.heap.size c rfl B0.out hc ?_)
      refine (RI _).mono ?_; rintro en w1 ⟨rfl, b1⟩
      have B1 := B0.out.on b1
      have y1 := B1.at hc 1 (by omega)
      have y2 := B1.at hc 2 (by omega)
      have y4 := B1.at hc 4 (by omega)
      have y5 := B1.at hc 5 (by omega)
      have y7 := B1.at hc 7 (by omega)
      have y9 := B1.at hc 9 (by omega)
      have y10 := B1.at hc 10 (by omega)
      have y12 := B1.at hc 12 (by omega)
      clear B1
      obtain ⟨⟨g1, g1'⟩, ⟨g2, g2'⟩, ⟨g4, g4'⟩, ⟨g5, g5'⟩, ⟨g7, g7'⟩, ⟨g9, g9'⟩, ⟨g10, g10'⟩, ⟨g12, g12'⟩⟩ := HS.out
      generalize G c 1 = x1 at *
      generalize G c 2 = x2 at *
      generalize G c 4 = x4 at *
      generalize G c 5 = x5 at *
      generalize G c 7 = x7 at *
      generalize G c 9 = x9 at *
      generalize G c 10 = x10 at *
      generalize G c 12 = x12 at *
      cases q0 : decide (2 * e + 2 * x10 + x12 ≤ x9)
      · have HC := Lib.hid (show cov c e r = false by rw [HC.out]; simp [q0])
        go_wp2_with fail
        go_ret
        exact ⟨ret_bool (by rw [HC.out]), grow b0.out b1⟩
      cases q1 : decide (r + 2 * e ≤ x4)
      · have HC := Lib.hid (show cov c e r = false by rw [HC.out]; simp [q0, q1])
        go_wp2_with fail
        go_ret
        exact ⟨ret_bool (by rw [HC.out]), grow b0.out b1⟩
      cases q2 : decide (2 * e ≤ x7)
      · have HC := Lib.hid (show cov c e r = false by rw [HC.out]; simp [q0, q1, q2])
        go_wp2_with fail
        go_ret
        exact ⟨ret_bool (by rw [HC.out]), grow b0.out b1⟩
      cases q3 : decide (4 * e + 2 * x10 + 2 * x12 ≤ x5)
      · have HC := Lib.hid (show cov c e r = false by rw [HC.out]; simp [q0, q1, q2, q3])
        go_wp2_with fail
        go_ret
        exact ⟨ret_bool (by rw [HC.out]), grow b0.out b1⟩
      cases q4 : decide (2 * e ≤ x2 - x1)
      · have HC := Lib.hid (show cov c e r = false by rw [HC.out]; simp [q0, q1, q2, q3, q4])
        go_wp2_with fail
        go_ret
        exact ⟨ret_bool (by rw [HC.out]), grow b0.out b1⟩
      · have HC := Lib.hid (show cov c e r = true by rw [HC.out]; simp [q0, q1, q2, q3, q4])
        go_wp2_with fail
        go_ret
        exact ⟨ret_bool (by rw [HC.out]), grow b0.out b1⟩
  · have HF := Lib.hid (cov_far c e r hin)
    cases d1 : decide (e < 0)
    · cases d2 : decide (1073741824 < e)
      · cases d3 : decide (r < 0)
        · have d4 : decide (1073741824 < r) = true := by simp at d1 d2 d3 ⊢; omega
          clear hin
          go_enter Try.func13, Try.ntmps13
          go_wp2_with fail
          go_ret
          exact ⟨ret_bool HF.out.symm, b0.out⟩
        · clear hin
          go_enter Try.func13, Try.ntmps13
          go_wp2_with fail
          go_ret
          exact ⟨ret_bool HF.out.symm, b0.out⟩
      · clear hin
        go_enter Try.func13, Try.ntmps13
        go_wp2_with fail
        go_ret
        exact ⟨ret_bool HF.out.symm, b0.out⟩
    · clear hin
      go_enter Try.func13, Try.ntmps13
      go_wp2_with fail
      go_ret
      exact ⟨ret_bool HF.out.symm, b0.out⟩
end Cf
end Go.Proofs.Ytofhfgligkhoaaa
