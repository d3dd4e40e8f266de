/-
  The live question of layer 2's statements: it is answered true. No conditions.
-/
import Derived.Test.YtkfcgdhicmmklaaOrderWithout
import Derived.Test.YtkfcgdhicmmklaaOrderRef2
namespace Go.Proofs.Ytkfcgdhicmmklaa
open Go.ChangeShapes Go.WideShapes Go.ChangeAt Go.RowKit Go.Deep
namespace Od
open Fx

/-- A list that has just been laid in memory. -/
theorem laid (w : World) (t : TypeId) (l : List Int) (cs : Array Value) (h : cs = (cellsI .i64 l).toArray) : IntsAt .i64 (w.alloc (.cells cs t)) (some ⟨w.heap.size, 0, none⟩) l := by
  subst h; exact IRow.ints (t := t) (heap_alloc_new w _)

theorem alive_facts : midv [5, -8] = -2 ∧ midb [5, -8] = true ∧ midv [9, 1, 4] = 4 ∧ midb [9, 1, 4] = true ∧ midv [9, 1, 4, 100] = 6 ∧ midb [9, 1, 4, 100] = true ∧ midb [] = false ∧ midb [1, 2, 3, 4, 5] = false ∧ osort [3, 1, 3, 2] = [1, 2, 3, 3] ∧ without [7, 8, 9] 1 = [7, 9] ∧ spread [5, -2, 1] = 7 := by
  refine ⟨?_, ?_, ?_, ?_, ?_, ?_, ?_, ?_, ?_, ?_, ?_⟩ <;> decide +kernel

set_option maxHeartbeats 1600000 in
theorem alive_any (w : World) :
    Calls Try.prog 6 #[] w fun e w' => e = .returned (.bool true) ∧ Below w.heap.size w w' := by
  obtain ⟨f1, f2, f3, f4, f5, f6, f7, f8, f9, f10, f11⟩ := alive_facts
  have c1 := fun W t => mid_any _ 2 [5, -8] _ (by simp) (laid W t _ _ rfl)
  rw [f1, f2] at c1
  have c2 := fun W t => mid_any _ 3 [9, 1, 4] _ (by simp) (laid W t _ _ rfl)
  rw [f3, f4] at c2
  have c3 := fun W t => mid_any _ 4 [9, 1, 4, 100] _ (by simp) (laid W t _ _ rfl)
  rw [f5, f6] at c3
  have c4 := fun W => mid_any none 0 [] W (by simp) (Or.inl rfl)
  rw [f7] at c4
  have c5 := fun W t => mid_any _ 5 [1, 2, 3, 4, 5] _ (by simp) (laid W t _ _ rfl)
  rw [f8] at c5
  have c6 := fun W t => sort_any _ 4 [3, 1, 3, 2] _ (by simp) (laid W t _ _ rfl)
  rw [f9] at c6
  have c7 := fun W t => without_any _ 3 [7, 8, 9] 1 _ (by simp) (by simp) (by simp) (laid W t _ _ rfl)
  rw [f10] at c7
  have c8 := fun W t => spread_any _ 3 [5, -2, 1] _ (by simp) (laid W t _ _ rfl)
  rw [f11] at c8
  clear f1 f2 f3 f4 f5 f6 f7 f8 f9 f10 f11
  have g0 := Lib.hid (Below.refl w.heap.size w)
  go_enter Try.func6, Try.ntmps6
  go_wp2_with fail
  refine (c1 _ _).mono ?_; rintro e w1 ⟨rfl, b1⟩
  have g1 := Lib.hid (grow_alloc g0.out b1); clear b1 c1
  go_wp2_with fail
  refine (c2 _ _).mono ?_; rintro e w2 ⟨rfl, b2⟩
  have g2 := Lib.hid (grow_alloc g1.out b2); clear b2 c2
  go_wp2_with fail
  refine (c3 _ _).mono ?_; rintro e w3 ⟨rfl, b3⟩
  have g3 := Lib.hid (grow_alloc g2.out b3); clear b3 c3
  go_wp2_with fail
  refine (c4 _).mono ?_; rintro e w4 ⟨rfl, b4⟩
  have g4 := Lib.hid (grow g3.out b4); clear b4 c4
  go_wp2_with fail
  refine (c5 _ _).mono ?_; rintro e w5 ⟨rfl, b5⟩
  have g5 := Lib.hid (grow_alloc g4.out b5); clear b5 c5
  go_wp2_with fail
  refine (c6 _ _).mono ?_; rintro e w6 ⟨a6, k6, rfl, i6, b6⟩
  have g6 := Lib.hid (grow_alloc g5.out b6); clear b6 c6
  go_wp2_with fail
  refine (ints_any _ _ _ 4 [1, 2, 3, 3] [1, 2, 3, 3] _ (by simp) (by simp) (i6.below ((Below.refl _ _).alloc (Nat.le_refl _) _)) (laid _ _ _ _ rfl)).mono ?_; rintro e w7 ⟨rfl, b7⟩
  rw [same_self]
  have g7 := Lib.hid (grow_alloc g6.out b7); clear b7
  go_wp2_with fail
  refine (c7 _ _).mono ?_; rintro e w8 ⟨a8, k8, rfl, i8, b8⟩
  have g8 := Lib.hid (grow_alloc g7.out b8); clear b8 c7
  go_wp2_with fail
  refine (ints_any _ _ _ 2 [7, 9] [7, 9] _ (by simp) (by simp) (i8.below ((Below.refl _ _).alloc (Nat.le_refl _) _)) (laid _ _ _ _ rfl)).mono ?_; rintro e w9 ⟨rfl, b9⟩
  rw [same_self]
  have g9 := Lib.hid (grow_alloc g8.out b9); clear b9
  go_wp2_with fail
  refine (c8 _ _).mono ?_; rintro e w10 ⟨rfl, b10⟩
  have g10 := Lib.hid (grow_alloc g9.out b10); clear b10 c8
  go_wp2
  go_ret
  exact ⟨rfl, g10.out⟩
end Od
end Go.Proofs.Ytkfcgdhicmmklaa
