/-
  The live question of layer 12's statements: it is answered true. No conditions.
-/
import Derived.Test.YtlaffeadgdebhaaVoteVote
namespace Go.Proofs.Ytlaffeadgdebhaa
open Go.ChangeShapes Go.WideShapes Go.ChangeAt Go.RowKit Go.Deep
namespace Vo
open Fx Od

theorem two_laid (w : World) (t : TypeId) (l m : List Int) (cs ds : Array Value) (h1 : cs = (cellsI .i64 l).toArray) (h2 : ds = (cellsI .i64 m).toArray) :
    IntsAt .i64 ((w.alloc (.cells cs t)).alloc (.cells ds t)) (some ⟨w.heap.size, 0, none⟩) l ∧ IntsAt .i64 ((w.alloc (.cells cs t)).alloc (.cells ds t)) (some ⟨w.heap.size + 1, 0, none⟩) m := by
  subst h1; subst h2
  refine ⟨(IRow.alloc (t := t) (heap_alloc_new w _) _).ints, ?_⟩
  have h : IRow .i64 ((w.alloc (.cells (cellsI .i64 l).toArray t)).alloc (.cells (cellsI .i64 m).toArray t)) (w.alloc (.cells (cellsI .i64 l).toArray t)).heap.size t m := heap_alloc_new _ _
  rw [World.size_alloc] at h
  exact h.ints

/-- A vote of two lists that have just been laid. -/
theorem vote_two (lo hi clip : Int) (V U : List Int) (n : Int) (b : Bool) (f1 : votv lo hi clip V U = n) (f2 : votb lo hi clip V U = b) (W : World) (t : TypeId) (p q lv lu : Nat) (cs ds : Array Value) (hp : p = W.heap.size) (hq : q = W.heap.size + 1) (hl : V.length ≤ 100)
    (h1 : cs = (cellsI .i64 V).toArray) (h2 : ds = (cellsI .i64 U).toArray) (hv : lv = V.length) (hu : lu = U.length) :
    Calls Try.prog 7 #[.agg #[.int .i64 lo, .int .i64 hi, .int .i64 clip], .slice (some ⟨p, 0, none⟩) lv lv, .slice (some ⟨q, 0, none⟩) lu lu] ((W.alloc (.cells cs t)).alloc (.cells ds t)) fun e w' =>
      e = .returned (.tuple #[.int .i64 n, .bool b]) ∧ Below W.heap.size W w' := by
  subst hp; subst hq; subst hv; subst hu
  have T := two_laid W t V U cs ds h1 h2
  refine (vote_any lo hi clip _ _ _ _ V U _ (by omega) T.1 T.2).mono ?_
  rintro e w' ⟨rfl, h⟩
  rw [f1, f2]
  exact ⟨rfl, ((Below.refl W.heap.size W).alloc (Nat.le_refl _) _).trans (((Below.refl _ _).alloc (by simp) _).trans (h.mono (by simp; omega)))⟩

theorem alive_facts : votv (-100) 100 10 [0, 3, 1000] [1, 1, 2] = 7 ∧ votb (-100) 100 10 [0, 3, 1000] [1, 1, 2] = true ∧ votv (-100) 100 10 [-500] [16] = -100 ∧ votb (-100) 100 10 [-500] [16] = true ∧
    votb (-100) 100 10 [] [] = false ∧ votb (-100) 100 10 [1] [17] = false ∧ votb 1 0 0 [1] [1] = false ∧ rmay (-100) 100 10 = true ∧ rmay 0 0 (-1) = false := by
  refine ⟨?_, ?_, ?_, ?_, ?_, ?_, ?_, ?_, ?_⟩ <;> decide +kernel

set_option maxHeartbeats 1600000 in
theorem alive_any (w : World) :
    Calls Try.prog 6 #[] w fun e w' => e = .returned (.bool true) ∧ Below w.heap.size w w' := by
  obtain ⟨f1, f2, f3, f4, f5, f6, f7, f8, f9⟩ := alive_facts
  have c3 := fun W => vote_any (-100) 100 10 none none 0 0 [] [] W (by simp) (Or.inl rfl) (Or.inl rfl)
  rw [f5] at c3
  have c6 := fun W => vright_any (-100) 100 10 W
  rw [f8] at c6
  have c7 := fun W => vright_any 0 0 (-1) W
  rw [f9] at c7
  have g0 := Lib.hid ((Below.refl w.heap.size w).alloc (Nat.le_refl _) (.cells #[.int .i64 (-100), .int .i64 100, .int .i64 10] 23))
  have r0 := Lib.hid (rul_new w (-100) 100 10 23)
  have F1 := Lib.hid f1
  have F2 := Lib.hid f2
  have F3 := Lib.hid f3
  have F4 := Lib.hid f4
  have F6 := Lib.hid f6
  have F7 := Lib.hid f7
  clear f1 f2 f3 f4 f5 f6 f7 f8 f9
  go_enter Try.func6, Try.ntmps6
  go_wp2_with fail
  refine (vote_two _ _ _ [0, 3, 1000] [1, 1, 2] _ _ F1.out F2.out _ _ _ _ _ _ _ _ (by simp) (by simp) (by simp) rfl rfl rfl rfl).mono ?_; rintro e w1 ⟨rfl, b1⟩
  have g1 := Lib.hid (grow g0.out b1); have r1 := Lib.hid (r0.out.below b1 r0.out.lt); have cc := rul_cells r1.out; clear b1 g0 r0 F1 F2
  go_wp2_with fail
  refine (vote_two _ _ _ [-500] [16] _ _ F3.out F4.out _ _ _ _ _ _ _ _ (by simp) (by simp) (by simp) rfl rfl rfl rfl).mono ?_; rintro e w2 ⟨rfl, b2⟩
  have g2 := Lib.hid (grow g1.out b2); have r2 := Lib.hid (r1.out.below b2 r1.out.lt); clear cc; have cc := rul_cells r2.out; clear b2 g1 r1 F3 F4
  go_wp2_with fail
  refine (c3 _).mono ?_; rintro e w3 ⟨rfl, b3⟩
  have g3 := Lib.hid (grow g2.out b3); have r3 := Lib.hid (r2.out.below b3 r2.out.lt); clear cc; have cc := rul_cells r3.out; clear b3 g2 r2 c3
  go_wp2_with fail
  refine (vote_two _ _ _ [1] [17] _ _ rfl F6.out _ _ _ _ _ _ _ _ (by simp) (by simp) (by simp) rfl rfl rfl rfl).mono ?_; rintro e w4 ⟨rfl, b4⟩
  have g4 := Lib.hid (grow g3.out b4); have r4 := Lib.hid (r3.out.below b4 r3.out.lt); clear cc; have cc := rul_cells r4.out; clear b4 g3 r3 F6
  go_wp2_with fail
  refine (vote_two _ _ _ [1] [1] _ _ rfl F7.out _ _ _ _ _ _ _ _ (by simp) (by simp) (by simp) rfl rfl rfl rfl).mono ?_; rintro e w5 ⟨rfl, b5⟩
  have g5 := Lib.hid (grow g4.out b5); have r5 := Lib.hid (r4.out.below b5 r4.out.lt); clear cc; have cc := rul_cells r5.out; clear b5 g4 r4 F7
  go_wp2_with fail
  refine (c6 _).mono ?_; rintro e w6 ⟨rfl, b6⟩
  have g6 := Lib.hid (grow g5.out b6); clear b6 g5 c6 cc
  go_wp2_with fail
  refine (c7 _).mono ?_; rintro e w7 ⟨rfl, b7⟩
  have g7 := Lib.hid (grow g6.out b7); clear b7 g6 c7
  go_wp2_with fail
  go_ret
  exact ⟨rfl, g7.out⟩
end Vo
end Go.Proofs.Ytlaffeadgdebhaa
