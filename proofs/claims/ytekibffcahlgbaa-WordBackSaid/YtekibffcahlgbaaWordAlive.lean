/-
  The live question of layer 4's statements: it is answered true. No conditions.
-/
import Derived.Test.YtekibffcahlgbaaWordPutAll
import Derived.Test.YtekibffcahlgbaaWordRef
import Derived.Test.YtekibffcahlgbaaSame
namespace Go.Proofs.Ytekibffcahlgbaa
open Go.ChangeShapes Go.WideShapes Go.ChangeAt Go.RowKit Go.Deep
namespace Wd
open Cr (Bytes)

/-- Numbers that have just been laid in memory. -/
theorem laidK {k : IntKind} (w : World) (t : TypeId) (l : List Int) (cs : Array Value) (h : cs = (cellsI k l).toArray) : IntsAt k (w.alloc (.cells cs t)) (some ⟨w.heap.size, 0, none⟩) l := by
  subst h; exact IRow.ints (t := t) (heap_alloc_new w _)

/-- What leaves a world as it is writes nothing that was there. -/
theorem stays {P : Program} {f : FuncId} {args : Array Value} {w : World} {v : Value} (h : Calls P f args w fun e w' => e = .returned v ∧ w = w') : Calls P f args w fun e w' => e = .returned v ∧ Below w.heap.size w w' :=
  h.mono fun _ _ q => ⟨q.1, q.2 ▸ Below.refl _ _⟩

theorem alive_facts : get4v [255, 255, 255, 254] = -2 ∧ get4b [255, 255, 255, 254] = true ∧ get2v [1, 2] = 258 ∧ get2b [1, 2] = true ∧ getAll [0, 0, 0, 1, 128, 0, 0, 0] = [1, -2147483648] ∧ getAllb [0, 0, 0, 1, 128, 0, 0, 0] = true ∧ getAll [1, 2, 3] = [] ∧ getAllb [1, 2, 3] = false ∧
    put4 (-2) = [255, 255, 255, 254] ∧ put2 258 = [1, 2] ∧ put2 65536 = [] ∧ put4 2147483648 = [] ∧ putAll [1] = [0, 0, 0, 1] ∧ next 65535 = 0 ∧ next 7 = 8 ∧ after 65535 2 = 3 ∧ after (-1) 5 = 0 := by
  refine ⟨?_, ?_, ?_, ?_, ?_, ?_, ?_, ?_, ?_, ?_, ?_, ?_, ?_, ?_, ?_, ?_, ?_⟩ <;> decide +kernel

set_option maxHeartbeats 1600000 in
theorem alive_any (w : World) :
    Calls Try.prog 6 #[] w fun e w' => e = .returned (.bool true) ∧ Below w.heap.size w w' := by
  obtain ⟨f1, f2, f3, f4, f5, f6, f7, f8, f9, f10, f11, f12, f13, f14, f15, f16, f17⟩ := alive_facts
  have c1 := fun W t => stays (get4_any _ 4 [255, 255, 255, 254] _ (by decide) (by unfold Bytes; decide) (laidK W t _ _ rfl))
  rw [f1, f2] at c1
  have c2 := fun W t => stays (get2_any _ 2 [1, 2] _ (by decide) (by unfold Bytes; decide) (laidK W t _ _ rfl))
  rw [f3, f4] at c2
  have c3 := fun W t => getAll_any _ 8 [0, 0, 0, 1, 128, 0, 0, 0] _ (by decide) (by decide) (by unfold Bytes; decide) (laidK W t _ _ rfl)
  rw [f5, f6] at c3
  have c4 := fun W t => getAll_any _ 3 [1, 2, 3] _ (by decide) (by decide) (by unfold Bytes; decide) (laidK W t _ _ rfl)
  rw [f7, f8] at c4
  have c5 := fun W t a cap (h : IntsAt .i64 (W.alloc (.cells (cellsI .i64 [1, -2147483648]).toArray t)) a [1, -2147483648]) => Sm.ints_any a _ cap 2 [1, -2147483648] [1, -2147483648] _ (by decide) (by decide) h (laidK W t _ _ rfl)
  rw [Sm.same_self] at c5
  have c6 := fun W => put4_any (-2) W
  rw [f9] at c6
  have c7 := fun W t a cap (h : IntsAt .u8 (W.alloc (.cells (cellsI .u8 [255, 255, 255, 254]).toArray t)) a [255, 255, 255, 254]) => Sm.rsame_any a _ cap 4 [255, 255, 255, 254] [255, 255, 255, 254] _ (by decide) (by decide) h (laidK W t _ _ rfl)
  rw [Sm.same_self] at c7
  have c8 := fun W => put2_any 258 W
  rw [f10] at c8
  have c9 := fun W t a cap (h : IntsAt .u8 (W.alloc (.cells (cellsI .u8 [1, 2]).toArray t)) a [1, 2]) => Sm.rsame_any a _ cap 2 [1, 2] [1, 2] _ (by decide) (by decide) h (laidK W t _ _ rfl)
  rw [Sm.same_self] at c9
  have c10 := fun W => put2_any 65536 W
  rw [f11] at c10
  have c11 := fun W => put4_any 2147483648 W
  rw [f12] at c11
  have c12 := fun W t => putAll_any _ 1 [1] _ (by decide) (laidK W t _ _ rfl)
  rw [f13] at c12
  have c13 := fun W t a cap (h : IntsAt .u8 (W.alloc (.cells (cellsI .u8 [0, 0, 0, 1]).toArray t)) a [0, 0, 0, 1]) => Sm.rsame_any a _ cap 4 [0, 0, 0, 1] [0, 0, 0, 1] _ (by decide) (by decide) h (laidK W t _ _ rfl)
  rw [Sm.same_self] at c13
  have c14 := fun W => next_any 65535 W
  rw [f14] at c14
  have c15 := fun W => next_any 7 W
  rw [f15] at c15
  have c16 := fun W => after_any 65535 2 W
  rw [f16] at c16
  have c17 := fun W => after_any (-1) 5 W
  rw [f17] at c17
  clear f1 f2 f3 f4 f5 f6 f7 f8 f9 f10 f11 f12 f13 f14 f15 f16 f17
  have g0 := Lib.hid (Below.refl w.heap.size w)
  go_enter Try.func6, Try.ntmps6
  go_wp2_with fail
  refine (c1 _ _).mono ?_; rintro e w1 ⟨rfl, b1⟩
  have g1 := Lib.hid (grow_alloc g0.out b1); clear b1 c1
  go_wp2_with fail
  refine (c2 _ _).mono ?_; rintro e w2 ⟨rfl, b2⟩
  have g2 := Lib.hid (grow_alloc g1.out b2); clear b2 c2
  go_wp2_with fail
  refine (c3 _ _).mono ?_; rintro e w3 ⟨a3, k3, rfl, i3, b3⟩
  have I3 := Lib.hid i3
  have g3 := Lib.hid (grow_alloc g2.out b3); clear b3 i3 c3
  go_wp2_with fail
  refine (c4 _ _).mono ?_; rintro e w4 ⟨a4, k4, rfl, -, b4⟩
  have I4 := Lib.hid (I3.out.below (((Below.refl _ _).alloc (Nat.le_refl _) _).trans (b4.mono (by simp))))
  have g4 := Lib.hid (grow_alloc g3.out b4); clear b4 c4 I3 g3
  go_wp2_with fail
  refine (c5 _ _ _ _ (I4.out.below ((Below.refl _ _).alloc (Nat.le_refl _) _))).mono ?_; rintro e w5 ⟨rfl, b5⟩
  have g5 := Lib.hid (grow_alloc g4.out b5); clear b5 c5 I4 g4
  go_wp2_with fail
  refine (c6 _).mono ?_; rintro e w6 ⟨a6, k6, rfl, i6, b6⟩
  have I6 := Lib.hid i6; have g6 := Lib.hid (grow g5.out b6); clear b6 c6 i6 g5
  go_wp2_with fail
  refine (c7 _ _ _ _ (I6.out.below ((Below.refl _ _).alloc (Nat.le_refl _) _))).mono ?_; rintro e w7 ⟨rfl, b7⟩
  have g7 := Lib.hid (grow_alloc g6.out b7); clear b7 c7 I6 g6
  go_wp2_with fail
  refine (c8 _).mono ?_; rintro e w8 ⟨a8, k8, rfl, i8, b8⟩
  have I8 := Lib.hid i8; have g8 := Lib.hid (grow g7.out b8); clear b8 c8 i8 g7
  go_wp2_with fail
  refine (c9 _ _ _ _ (I8.out.below ((Below.refl _ _).alloc (Nat.le_refl _) _))).mono ?_; rintro e w9 ⟨rfl, b9⟩
  have g9 := Lib.hid (grow_alloc g8.out b9); clear b9 c9 I8 g8
  go_wp2_with fail
  refine (c10 _).mono ?_; rintro e w10 ⟨a10, k10, rfl, -, b10⟩
  have g10 := Lib.hid (grow g9.out b10); clear b10 c10 g9
  go_wp2_with fail
  refine (c11 _).mono ?_; rintro e w11 ⟨a11, k11, rfl, -, b11⟩
  have g11 := Lib.hid (grow g10.out b11); clear b11 c11 g10
  go_wp2_with fail
  refine (c12 _ _).mono ?_; rintro e w12 ⟨a12, k12, rfl, i12, -, b12⟩
  have I12 := Lib.hid i12; have g12 := Lib.hid (grow_alloc g11.out b12); clear b12 c12 i12 g11
  go_wp2_with fail
  refine (c13 _ _ _ _ (I12.out.below ((Below.refl _ _).alloc (Nat.le_refl _) _))).mono ?_; rintro e w13 ⟨rfl, b13⟩
  have g13 := Lib.hid (grow_alloc g12.out b13); clear b13 c13 I12 g12
  go_wp2_with fail
  refine (c14 _).mono ?_; rintro e w14 ⟨rfl, rfl⟩
  go_wp2_with fail
  refine (c15 _).mono ?_; rintro e w14 ⟨rfl, rfl⟩
  go_wp2_with fail
  refine (c16 _).mono ?_; rintro e w14 ⟨rfl, rfl⟩
  go_wp2_with fail
  refine (c17 _).mono ?_; rintro e w14 ⟨rfl, rfl⟩
  go_wp2
  go_ret
  exact ⟨rfl, g13.out⟩
end Wd
end Go.Proofs.Ytekibffcahlgbaa
