/-
  What Parse of rudderref16 tells: a contract by walking the Go text. No conditions beyond the number's kind.
-/
import Derived.Test.YtpgcoagjlkdmbaaStatusParse
namespace Go.Proofs.Ytpgcoagjlkdmbaa
set_option maxRecDepth 100000
open Go.ChangeShapes Go.WideShapes Go.ChangeAt Go.RowKit Go.Deep
namespace Ss
open Fx

theorem res_new (w : World) : Below w.heap.size w ((w.alloc zob).setRow w.heap.size (str zer).toArray) ∧ VRow ((w.alloc zob).setRow w.heap.size (str zer).toArray) w.heap.size 24 (str zer) :=
  ⟨Below.put ((Below.refl _ w).alloc (Nat.le_refl _) _) (Nat.le_refl _) _, (VRow.new w (str zer) _).put (str zer)⟩
theorem far_no {n : Int} (h : n < 0 ∨ 4095 < n) : isw n = false := by
  cases e : isw n
  · rfl
  · have := isw_bd e; omega

set_option maxHeartbeats 3200000 in
theorem rparse_any (n : Int) (w : World) :
    Calls Try.prog 30 #[.int .i64 n] w (RetP w n) := by
  by_cases h1 : n < 0
  · rw [retP_no (far_no (Or.inl h1))]
    have R := Lib.hid (res_new w)
    unfold stv
    go_enter Try.func30, Try.ntmps30
    go_wp2_with (((with_reducible show wpList _ _ _ (⟨none, .store _ (.tmp 2) _, _, _, _, _⟩ :: _) _ _); refine VB.store rfl _ _ rfl w.heap.size (str zer) rfl rfl (VRow.new w (str zer) _) sizeS rfl (str_one _) ?_))
    refine bodyPost_ret (v := .tuple #[.agg (str zer).toArray, .int .i64 3]) ?_ rfl ⟨rfl, R.out.1⟩
    exact (VB.ret2 (cs := str zer) rfl rfl (aggS _) sizeS R.out.2).trans rfl
  have d1 : decide (n < 0) = false := by simpa using h1
  by_cases h2 : 4095 < n
  · rw [retP_no (far_no (Or.inr h2))]
    have R := Lib.hid (res_new w)
    unfold stv
    go_enter Try.func30, Try.ntmps30
    go_wp2_with (((with_reducible show wpList _ _ _ (⟨none, .store _ (.tmp 2) _, _, _, _, _⟩ :: _) _ _); refine VB.store rfl _ _ rfl w.heap.size (str zer) rfl rfl (VRow.new w (str zer) _) sizeS rfl (str_one _) ?_))
    refine bodyPost_ret (v := .tuple #[.agg (str zer).toArray, .int .i64 3]) ?_ rfl ⟨rfl, R.out.1⟩
    exact (VB.ret2 (cs := str zer) rfl rfl (aggS _) sizeS R.out.2).trans rfl
  have d2 : decide (4095 < n) = false := by simpa using h2
  have CW := fun W => rword_any (parts n) W
  have T := Lib.hid (two_first w)
  have hb : 0 ≤ n ∧ n < 4096 := by omega
  have q1 : 0 ≤ n.tdiv 16 ∧ n.tdiv 16 < 4096 := by rw [Int.tdiv_eq_ediv_of_nonneg hb.1]; omega
  have q2 : 0 ≤ n.tdiv 256 ∧ n.tdiv 256 < 4096 := by rw [Int.tdiv_eq_ediv_of_nonneg hb.1]; omega
  obtain ⟨x, e1⟩ : ∃ x, n.tdiv 16 = x := ⟨_, rfl⟩
  obtain ⟨y, e2⟩ : ∃ y, n.tdiv 256 = y := ⟨_, rfl⟩
  obtain ⟨a, e3⟩ : ∃ a, n.tmod 16 = a := ⟨_, rfl⟩
  obtain ⟨b, e4⟩ : ∃ b, x.tmod 16 = b := ⟨_, rfl⟩
  obtain ⟨c, e5⟩ : ∃ c, y.tmod 8 = c := ⟨_, rfl⟩
  obtain ⟨d, e6⟩ : ∃ d, decide (2048 ≤ n) = d := ⟨_, rfl⟩
  have HP := Lib.hid (show parts n = ⟨a, b, sp c, d⟩ by rw [← parts_eq hb.1 hb.2, ← e6, ← e5, ← e4, ← e3, ← e2, ← e1]; rfl)
  rw [e1] at q1
  rw [e2] at q2
  rcases ways n with ⟨h0, h1', h2'⟩ | ⟨h0, h1', h2'⟩ | ⟨h0, h1'⟩
  case inl =>
    rw [retP_yes h0]
    rw [h1', h2'] at CW
    clear h0 h1' h2' h1 h2
    generalize parts n = p at *
    by_cases h7 : c = 7
    · subst h7
      have HQ := Lib.hid (show p = ⟨a, b, -1, d⟩ from HP.out)
      rw [HQ.out] at CW ⊢
      clear HP HQ
      unfold stv at *
      dsimp only at *
      go_enter Try.func30, Try.ntmps30
      go_wp2_with (first
        | ((with_reducible show wpList _ _ _ (⟨none, .store _ (.tmp 4) _, _, _, _, _⟩ :: _) _ _); refine VB.store rfl _ _ rfl (w.heap.size + 1) (str ⟨a, b, 7, d⟩) rfl rfl T.out.box sizeS rfl (str_one _) ?_; have T1 := Lib.hid (T.out.putBox ⟨a, b, 7, d⟩); generalize ((w.alloc zob).alloc zob).setRow (w.heap.size + 1) (str ⟨a, b, 7, d⟩).toArray = W1 at *; obtain ⟨c0, c1, c2, c3⟩ := st_cells T1.out.box; have f2 := T1.out.box.frozen 2; have T2 := Lib.hid (T1.out.setBox 2 (.int .i64 (-1)) ⟨a, b, -1, d⟩ rfl))
        | (go_at_call 23; refine (CW _).mono ?_; rintro e w2 ⟨rfl, b2⟩; have T3 := Lib.hid (T2.out.on b2); clear b2; obtain ⟨x0, x1, x2, x3⟩ := st_cells T3.out.box)
        | ((with_reducible show wpList _ _ _ (⟨none, .store _ (.tmp 2) _, _, _, _, _⟩ :: _) _ _); refine VB.store rfl _ _ rfl w.heap.size (str ⟨a, b, -1, d⟩) rfl rfl T3.out.res sizeS rfl (str_one _) ?_))
      refine bodyPost_ret (v := .tuple #[.agg (str ⟨a, b, -1, d⟩).toArray, .int .i64 0]) ?_ rfl ⟨rfl, (T3.out.putRes _).below⟩
      exact (VB.ret2 (cs := str ⟨a, b, -1, d⟩) rfl rfl (aggS _) sizeS (T3.out.putRes _).res).trans rfl
    · have d7 : (c == 7) = false := by simpa using h7
      have HQ := Lib.hid (show p = ⟨a, b, c, d⟩ by rw [HP.out]; unfold sp; rw [if_neg h7])
      rw [HQ.out] at CW ⊢
      clear HP HQ h7
      unfold stv at *
      dsimp only at *
      go_enter Try.func30, Try.ntmps30
      go_wp2_with (first
        | ((with_reducible show wpList _ _ _ (⟨none, .store _ (.tmp 4) _, _, _, _, _⟩ :: _) _ _); refine VB.store rfl _ _ rfl (w.heap.size + 1) (str ⟨a, b, c, d⟩) rfl rfl T.out.box sizeS rfl (str_one _) ?_; have T2 := Lib.hid (T.out.putBox ⟨a, b, c, d⟩); generalize ((w.alloc zob).alloc zob).setRow (w.heap.size + 1) (str ⟨a, b, c, d⟩).toArray = W1 at *; obtain ⟨c0, c1, c2, c3⟩ := st_cells T2.out.box)
        | (go_at_call 23; refine (CW _).mono ?_; rintro e w2 ⟨rfl, b2⟩; have T3 := Lib.hid (T2.out.on b2); clear b2; obtain ⟨x0, x1, x2, x3⟩ := st_cells T3.out.box)
        | ((with_reducible show wpList _ _ _ (⟨none, .store _ (.tmp 2) _, _, _, _, _⟩ :: _) _ _); refine VB.store rfl _ _ rfl w.heap.size (str ⟨a, b, c, d⟩) rfl rfl T3.out.res sizeS rfl (str_one _) ?_))
      refine bodyPost_ret (v := .tuple #[.agg (str ⟨a, b, c, d⟩).toArray, .int .i64 0]) ?_ rfl ⟨rfl, (T3.out.putRes _).below⟩
      exact (VB.ret2 (cs := str ⟨a, b, c, d⟩) rfl rfl (aggS _) sizeS (T3.out.putRes _).res).trans rfl
  all_goals
    rw [retP_no h0]
    rw [h1'] at CW
    clear h0 h1' h1 h2
    generalize wdv (parts n) = v at *
    generalize parts n = p at *
    by_cases h7 : c = 7
    · subst h7
      have HQ := Lib.hid (show p = ⟨a, b, -1, d⟩ from HP.out)
      rw [HQ.out] at CW
      clear HP HQ
      unfold stv at *
      dsimp only at *
      go_enter Try.func30, Try.ntmps30
      go_wp2_with (first
        | ((with_reducible show wpList _ _ _ (⟨none, .store _ (.tmp 4) _, _, _, _, _⟩ :: _) _ _); refine VB.store rfl _ _ rfl (w.heap.size + 1) (str ⟨a, b, 7, d⟩) rfl rfl T.out.box sizeS rfl (str_one _) ?_; have T1 := Lib.hid (T.out.putBox ⟨a, b, 7, d⟩); generalize ((w.alloc zob).alloc zob).setRow (w.heap.size + 1) (str ⟨a, b, 7, d⟩).toArray = W1 at *; obtain ⟨c0, c1, c2, c3⟩ := st_cells T1.out.box; have f2 := T1.out.box.frozen 2; have T2 := Lib.hid (T1.out.setBox 2 (.int .i64 (-1)) ⟨a, b, -1, d⟩ rfl))
        | (go_at_call 23; refine (CW _).mono ?_; rintro e w2 ⟨rfl, b2⟩; have T3 := Lib.hid (T2.out.on b2); clear b2)
        | ((with_reducible show wpList _ _ _ (⟨none, .store _ (.tmp 2) _, _, _, _, _⟩ :: _) _ _); refine VB.store rfl _ _ rfl w.heap.size (str zer) rfl rfl T3.out.res sizeS rfl (str_one _) ?_))
      refine bodyPost_ret (v := .tuple #[.agg (str zer).toArray, .int .i64 3]) ?_ rfl ⟨rfl, (T3.out.putRes _).below⟩
      exact (VB.ret2 (cs := str zer) rfl rfl (aggS _) sizeS (T3.out.putRes _).res).trans rfl
    · have d7 : (c == 7) = false := by simpa using h7
      have HQ := Lib.hid (show p = ⟨a, b, c, d⟩ by rw [HP.out]; unfold sp; rw [if_neg h7])
      rw [HQ.out] at CW
      clear HP HQ h7
      unfold stv at *
      dsimp only at *
      go_enter Try.func30, Try.ntmps30
      go_wp2_with (first
        | ((with_reducible show wpList _ _ _ (⟨none, .store _ (.tmp 4) _, _, _, _, _⟩ :: _) _ _); refine VB.store rfl _ _ rfl (w.heap.size + 1) (str ⟨a, b, c, d⟩) rfl rfl T.out.box sizeS rfl (str_one _) ?_; have T2 := Lib.hid (T.out.putBox ⟨a, b, c, d⟩); generalize ((w.alloc zob).alloc zob).setRow (w.heap.size + 1) (str ⟨a, b, c, d⟩).toArray = W1 at *; obtain ⟨c0, c1, c2, c3⟩ := st_cells T2.out.box)
        | (go_at_call 23; refine (CW _).mono ?_; rintro e w2 ⟨rfl, b2⟩; have T3 := Lib.hid (T2.out.on b2); clear b2)
        | ((with_reducible show wpList _ _ _ (⟨none, .store _ (.tmp 2) _, _, _, _, _⟩ :: _) _ _); refine VB.store rfl _ _ rfl w.heap.size (str zer) rfl rfl T3.out.res sizeS rfl (str_one _) ?_))
      refine bodyPost_ret (v := .tuple #[.agg (str zer).toArray, .int .i64 3]) ?_ rfl ⟨rfl, (T3.out.putRes _).below⟩
      exact (VB.ret2 (cs := str zer) rfl rfl (aggS _) sizeS (T3.out.putRes _).res).trans rfl
end Ss
end Go.Proofs.Ytpgcoagjlkdmbaa
