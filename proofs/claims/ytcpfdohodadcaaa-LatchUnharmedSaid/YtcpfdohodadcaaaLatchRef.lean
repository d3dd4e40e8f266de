/-
  What Right, Fine and Next of rudderref15 tell: contracts by walking the Go text. No conditions.
-/
import Derived.Test.YtcpfdohodadcaaaLatchNext
namespace Go.Proofs.Ytcpfdohodadcaaa
open Go.ChangeShapes Go.WideShapes Go.ChangeAt Go.RowKit Go.Deep
namespace Lc

theorem rgt_ways (L C B : Int) :
    (decide (1 ≤ L) = false ∧ rgt L C B = false) ∨ (decide (1 ≤ L) = true ∧ decide (L ≤ 100) = false ∧ rgt L C B = false) ∨
    (decide (1 ≤ L) = true ∧ decide (L ≤ 100) = true ∧ decide (1 ≤ C) = false ∧ rgt L C B = false) ∨ (decide (1 ≤ L) = true ∧ decide (L ≤ 100) = true ∧ decide (1 ≤ C) = true ∧ decide (C ≤ 1000) = false ∧ rgt L C B = false) ∨
    (decide (1 ≤ L) = true ∧ decide (L ≤ 100) = true ∧ decide (1 ≤ C) = true ∧ decide (C ≤ 1000) = true ∧ decide (0 ≤ B) = false ∧ rgt L C B = false) ∨
    (decide (1 ≤ L) = true ∧ decide (L ≤ 100) = true ∧ decide (1 ≤ C) = true ∧ decide (C ≤ 1000) = true ∧ decide (0 ≤ B) = true ∧ decide (B ≤ 10) = false ∧ rgt L C B = false) ∨
    (decide (1 ≤ L) = true ∧ decide (L ≤ 100) = true ∧ decide (1 ≤ C) = true ∧ decide (C ≤ 1000) = true ∧ decide (0 ≤ B) = true ∧ decide (B ≤ 10) = true ∧ rgt L C B = true) := by
  unfold rgt inb
  cases decide (1 ≤ L) <;> cases decide (L ≤ 100) <;> cases decide (1 ≤ C) <;> cases decide (C ≤ 1000) <;> cases decide (0 ≤ B) <;> cases decide (B ≤ 10) <;> simp

set_option maxHeartbeats 800000 in
theorem rright_any (L C B : Int) (w : World) :
    Calls Try.prog 13 #[rlv L C B] w fun e w' => e = .returned (.bool (rgt L C B)) ∧ Below w.heap.size w w' := by
  have BB := Lib.hid ((Below.refl w.heap.size w).alloc (Nat.le_refl _) (.cells #[.int .i64 L, .int .i64 C, .int .i64 B] 32))
  unfold rlv
  rcases rgt_ways L C B with ⟨d1, hz⟩ | ⟨d1, d2, hz⟩ | ⟨d1, d2, d3, hz⟩ | ⟨d1, d2, d3, d4, hz⟩ | ⟨d1, d2, d3, d4, d5, hz⟩ | ⟨d1, d2, d3, d4, d5, d6, hz⟩ | ⟨d1, d2, d3, d4, d5, d6, hz⟩
  all_goals
    have HF := Lib.hid hz
    clear hz
    go_enter Try.func13, Try.ntmps13
    go_wp2
    go_ret
    exact ⟨ret_bool HF.out.symm, BB.out⟩

/-- A state that may not be, by its numbers alone; else what is left to be asked. -/
theorem fin_early {L C B : Int} (h : Rt L C B) {s : St} (e : s.bk < 0 ∨ B < s.bk ∨ s.cl < 0 ∨ s.st < 0) : fin L C B s = false := by
  obtain ⟨h1, h2, h3, h4, h5, h6⟩ := h
  cases q : fin L C B s with
  | false => rfl
  | true =>
    exfalso
    cases fin_iff.1 q <;> dsimp only at e <;> omega
theorem fin_late {L C B : Int} {s : St} (e1 : ¬ s.bk < 0) (e2 : ¬ B < s.bk) (e3 : ¬ s.cl < 0) (e4 : ¬ s.st < 0) :
    fin L C B s = if s.ou then s.la && s.st == L && s.cl == 0 && s.bk == B else if s.la then s.st == L && decide (s.cl < C) && decide (s.bk < B) else decide (s.st < L) && s.cl == 0 := by
  unfold fin inb
  by_cases ho : s.ou = true
  · rw [if_pos ho, if_pos ho]
  · rw [if_neg ho, if_neg ho]
    by_cases hl : s.la = true
    · rw [if_pos hl, if_pos hl]
      rw [show decide (0 ≤ s.cl) = true by simpa using e3, show decide (0 ≤ s.bk) = true by simpa using e1, show decide (s.cl ≤ C - 1) = decide (s.cl < C) from decide_eq_decide.2 ⟨fun _ => by omega, fun _ => by omega⟩, show decide (s.bk ≤ B - 1) = decide (s.bk < B) from decide_eq_decide.2 ⟨fun _ => by omega, fun _ => by omega⟩]
      simp
    · rw [if_neg hl, if_neg hl]
      rw [show decide (0 ≤ s.st) = true by simpa using e4, show decide (0 ≤ s.bk) = true by simpa using e1, show decide (s.st ≤ L - 1) = decide (s.st < L) from decide_eq_decide.2 ⟨fun _ => by omega, fun _ => by omega⟩, show decide (s.bk ≤ B) = true by simpa using e2]
      simp

theorem Two.on {w W W' : World} {t u : TypeId} {L C B : Int} {s : St} (h : Two w W t u L C B s) (b : Below W.heap.size W W') : Two w W' t u L C B s := ⟨grow h.below b, h.rule.below b h.rule.lt, h.state.below b h.state.lt⟩

set_option maxHeartbeats 3200000 in
theorem rfine_any (L C B : Int) (s : St) (w : World) :
    Calls Try.prog 15 #[rlv L C B, stv s] w fun e w' => e = .returned (.bool (fne L C B s)) ∧ Below w.heap.size w w' := by
  have C1 := fun W => rright_any L C B W
  have TH := Lib.hid (two_new w L C B s 32 29)
  obtain ⟨la, ou, st, cl, bk⟩ := s
  have key : ∃ x, fne L C B ⟨la, ou, st, cl, bk⟩ = x ∧
      ((rgt L C B = false ∧ x = false) ∨ (rgt L C B = true ∧ ((decide (bk < 0) = true ∧ x = false) ∨ (decide (bk < 0) = false ∧ decide (B < bk) = true ∧ x = false) ∨ (decide (bk < 0) = false ∧ decide (B < bk) = false ∧ decide (cl < 0) = true ∧ x = false) ∨
        (decide (bk < 0) = false ∧ decide (B < bk) = false ∧ decide (cl < 0) = false ∧ decide (st < 0) = true ∧ x = false) ∨
        (decide (bk < 0) = false ∧ decide (B < bk) = false ∧ decide (cl < 0) = false ∧ decide (st < 0) = false ∧ ((ou = true ∧ la = false ∧ x = false) ∨ (ou = true ∧ la = true ∧ (st == L) = false ∧ x = false) ∨ (ou = true ∧ la = true ∧ (st == L) = true ∧ (cl == 0) = false ∧ x = false) ∨ (ou = true ∧ la = true ∧ (st == L) = true ∧ (cl == 0) = true ∧ x = (bk == B)) ∨
          (ou = false ∧ la = true ∧ (st == L) = false ∧ x = false) ∨ (ou = false ∧ la = true ∧ (st == L) = true ∧ decide (cl < C) = false ∧ x = false) ∨ (ou = false ∧ la = true ∧ (st == L) = true ∧ decide (cl < C) = true ∧ x = decide (bk < B)) ∨
          (ou = false ∧ la = false ∧ decide (st < L) = false ∧ x = false) ∨ (ou = false ∧ la = false ∧ decide (st < L) = true ∧ x = (cl == 0))))))) := by
    refine ⟨_, rfl, ?_⟩
    unfold fne
    cases hr : rgt L C B
    · exact .inl ⟨rfl, rfl⟩
    · refine .inr ⟨rfl, ?_⟩
      rw [Bool.true_and]
      have hR := rgt_iff.1 hr
      by_cases e1 : bk < 0
      · exact .inl ⟨by simpa using e1, fin_early hR (.inl e1)⟩
      · by_cases e2 : B < bk
        · exact .inr (.inl ⟨by simpa using e1, by simpa using e2, fin_early hR (.inr (.inl e2))⟩)
        · by_cases e3 : cl < 0
          · exact .inr (.inr (.inl ⟨by simpa using e1, by simpa using e2, by simpa using e3, fin_early hR (.inr (.inr (.inl e3)))⟩))
          · by_cases e4 : st < 0
            · exact .inr (.inr (.inr (.inl ⟨by simpa using e1, by simpa using e2, by simpa using e3, by simpa using e4, fin_early hR (.inr (.inr (.inr e4)))⟩)))
            · refine .inr (.inr (.inr (.inr ⟨by simpa using e1, by simpa using e2, by simpa using e3, by simpa using e4, ?_⟩)))
              rw [fin_late e1 e2 e3 e4]
              dsimp only
              cases ou <;> cases la <;> cases (st == L) <;> cases (cl == 0) <;> cases decide (cl < C) <;> cases decide (st < L) <;> simp
  obtain ⟨x, hx, key⟩ := key
  rw [hx]
  clear hx
  unfold rlv stv
  unfold rlv at C1
  dsimp only at *
  rcases key with ⟨hr, rfl⟩ | ⟨hr, ⟨d1, rfl⟩ | ⟨d1, d2, rfl⟩ | ⟨d1, d2, d3, rfl⟩ | ⟨d1, d2, d3, d4, rfl⟩ | ⟨d1, d2, d3, d4, ⟨rfl, rfl, rfl⟩ | ⟨rfl, rfl, d5, rfl⟩ | ⟨rfl, rfl, d5, d6, rfl⟩ | ⟨rfl, rfl, d5, d6, rfl⟩ | ⟨rfl, rfl, d5, rfl⟩ | ⟨rfl, rfl, d5, d6, rfl⟩ | ⟨rfl, rfl, d5, d6, rfl⟩ | ⟨rfl, rfl, d5, rfl⟩ | ⟨rfl, rfl, d5, rfl⟩⟩⟩
  all_goals
    rw [hr] at C1
    clear hr
    go_enter Try.func15, Try.ntmps15
    go_wp2_with (go_at_call 13; refine (C1 _).mono ?_; rintro e w1 ⟨rfl, b1⟩; have T1 := Lib.hid (TH.out.on b1); clear b1; obtain ⟨c0, c1, c2⟩ := rl_cells T1.out.rule; obtain ⟨q0, q1, q2, q3, q4⟩ := st_cells T1.out.state)
    go_ret
    exact ⟨rfl, T1.out.below⟩
end Lc
end Go.Proofs.Ytcpfdohodadcaaa
