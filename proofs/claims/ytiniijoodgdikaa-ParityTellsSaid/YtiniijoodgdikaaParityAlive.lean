/-
  The live question of layer 13's statements: it is answered true. No conditions.
-/
import Derived.Test.YtiniijoodgdikaaParityWalks
import Derived.Test.YtiniijoodgdikaaParityRef
namespace Go.Proofs.Ytiniijoodgdikaa
open Go.ChangeShapes Go.WideShapes Go.ChangeAt Go.RowKit Go.Deep
namespace Pa
open Fx Od

/-- A list that has just been laid in memory. -/
theorem laid (w : World) (t : TypeId) (l : List Int) (cs : Array Value) (h : cs = (cellsI .i64 l).toArray) : IntsAt .i64 (w.alloc (.cells cs t)) (some ⟨w.heap.size, 0, none⟩) l := by
  subst h; exact IRow.ints (t := t) (heap_alloc_new w _)

theorem alive_facts : res [1, 4, 100] = [-51, -46, 98] ∧ sus [1, 4, 100] 60 = 2 ∧ sus [1, 4, 100] 47 = -1 ∧ sus [5, 90, 7, 6] 10 = 1 ∧ sus [1, 2] (-1) = -1 ∧ res [1] = [] := by
  refine ⟨?_, ?_, ?_, ?_, ?_, ?_⟩ <;> decide +kernel

set_option maxHeartbeats 1600000 in
theorem alive_any (w : World) :
    Calls Try.prog 5 #[] w fun e w' => e = .returned (.bool true) ∧ Below w.heap.size w w' := by
  obtain ⟨f1, f2, f3, f4, f5, f6⟩ := alive_facts
  have c1 := fun W t => res_any _ 3 [1, 4, 100] _ (by simp) (by simp) (by simp) (laid W t _ _ rfl)
  rw [f1] at c1
  have c2 := fun W t => sus_any _ 3 [1, 4, 100] 60 _ (by simp) (by simp) (by simp) (laid W t _ _ rfl)
  rw [f2] at c2
  have c3 := fun W t => sus_any _ 3 [1, 4, 100] 47 _ (by simp) (by simp) (by simp) (laid W t _ _ rfl)
  rw [f3] at c3
  have c4 := fun W t => sus_any _ 4 [5, 90, 7, 6] 10 _ (by simp) (by simp) (by simp) (laid W t _ _ rfl)
  rw [f4] at c4
  have c5 := fun W t => sus_any _ 2 [1, 2] (-1) _ (by simp) (by simp) (by simp) (laid W t _ _ rfl)
  rw [f5] at c5
  have c6 := fun W t => res_any _ 1 [1] _ (by simp) (by simp) (by simp) (laid W t _ _ rfl)
  rw [f6] at c6
  clear f1 f2 f3 f4 f5 f6
  have g0 := Lib.hid (Below.refl w.heap.size w)
  go_enter Try.func5, Try.ntmps5
  go_wp2_with fail
  refine (c1 _ _).mono ?_; rintro e w1 ⟨a1, k1, rfl, i1, b1⟩
  have g1 := Lib.hid (grow_alloc g0.out b1); clear b1 c1
  go_wp2_with fail
  refine (ints_any _ _ _ 3 [-51, -46, 98] [-51, -46, 98] _ (by simp) (by simp) (i1.below ((Below.refl _ _).alloc (Nat.le_refl _) _)) (laid _ _ _ _ rfl)).mono ?_; rintro e w2 ⟨rfl, b2⟩
  rw [same_self]
  have g2 := Lib.hid (grow_alloc g1.out b2); clear b2
  go_wp2_with fail
  refine (c2 _ _).mono ?_; rintro e w3 ⟨rfl, b3⟩
  have g3 := Lib.hid (grow_alloc g2.out b3); clear b3 c2
  go_wp2_with fail
  refine (c3 _ _).mono ?_; rintro e w4 ⟨rfl, b4⟩
  have g4 := Lib.hid (grow_alloc g3.out b4); clear b4 c3
  go_wp2_with fail
  refine (c4 _ _).mono ?_; rintro e w5 ⟨rfl, b5⟩
  have g5 := Lib.hid (grow_alloc g4.out b5); clear b5 c4
  go_wp2_with fail
  refine (c5 _ _).mono ?_; rintro e w6 ⟨rfl, b6⟩
  have g6 := Lib.hid (grow_alloc g5.out b6); clear b6 c5
  go_wp2_with fail
  refine (c6 _ _).mono ?_; rintro e w7 ⟨a7, k7, rfl, i7, b7⟩
  have g7 := Lib.hid (grow_alloc g6.out b7); clear b7 c6
  go_wp2_with fail
  go_ret
  exact ⟨rfl, g7.out⟩
end Pa
end Go.Proofs.Ytiniijoodgdikaa
