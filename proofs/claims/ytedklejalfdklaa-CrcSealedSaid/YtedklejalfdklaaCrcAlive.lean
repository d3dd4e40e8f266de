/-
  The live question of layer 3's statements: it is answered true. No conditions.
-/
import Derived.Test.YtedklejalfdklaaCrcRef3
import Derived.Lib.SlBytesConst
namespace Go.Proofs.Ytedklejalfdklaa
open Go.ChangeShapes Go.WideShapes Go.ChangeAt Go.RowKit Go.Deep
namespace Cr

/-- Bytes that have just been laid in memory. -/
theorem laid8 (w : World) (t : TypeId) (l : List Int) (cs : Array Value) (h : cs = (cellsI .u8 l).toArray) : IntsAt .u8 (w.alloc (.cells cs t)) (some ⟨w.heap.size, 0, none⟩) l := by
  subst h; exact IRow.ints (t := t) (heap_alloc_new w _)
/-- Bytes of a constant string, that have just been laid in memory (their block bears a mark). -/
theorem laidM (w : World) (t : TypeId) (l : List Int) (cs : Array Value) (m : Nat × Nat) (h : cs = (cellsI .u8 l).toArray) : IntsAt .u8 (w.alloc (.cells cs t m)) (some ⟨w.heap.size, 0, none⟩) l := by
  subst h
  refine Or.inr ⟨_, 0, rfl, fun i hi => ?_⟩
  rw [Nat.zero_add, cell_of_row _ _ i _ t m (heap_alloc_new w _)]; simpa using cellsI_get .u8 l i hi

def digits : List Int := [49, 50, 51, 52, 53, 54, 55, 56, 57]
theorem digits_bytes : Bytes digits := by unfold Bytes digits; decide
theorem alive_facts : sum digits = 10673 ∧ sealed digits = [49, 50, 51, 52, 53, 54, 55, 56, 57, 41, 177] ∧ opens (sealed digits) = true ∧ opened (sealed digits) = [49, 50, 51, 52, 53, 54, 55, 56, 57] ∧ opens [1] = false ∧ opens [255, 254] = false ∧ opened [1] = [] ∧ opened [255, 254] = [] ∧ sum [] = 65535 ∧ moreI (-1) [] = 0 ∧ moreI 7 [] = 7 := by
  refine ⟨?_, ?_, ?_, ?_, ?_, ?_, ?_, ?_, ?_, ?_, ?_⟩ <;> decide +kernel

set_option maxHeartbeats 1600000 in
theorem alive_any (w : World) :
    Calls Try.prog 6 #[] w fun e w' => e = .returned (.bool true) ∧ Below w.heap.size w w' := by
  obtain ⟨f1, f2, f3, f4, f5, f6, f7, f8, f9, f10, f11⟩ := alive_facts
  have c1 := fun W t m => seal_cap _ 9 digits _ (by decide) digits_bytes (laidM W t _ _ m rfl)
  have c2 := fun W a cap (hc : 11 ≤ cap) (hi : IntsAt .u8 W a (sealed digits)) => open_any a cap (sealed digits) W (by rw [sealed_len]; decide) (by rw [sealed_len]; exact hc) (sealed_bytes digits_bytes) hi
  rw [f3, f4] at c2
  rw [f2] at c1 c2
  have c3 := fun W t => open_any _ 1 [1] _ (by decide) (by decide) (by unfold Bytes; decide) (laid8 W t _ _ rfl)
  rw [f5, f7] at c3
  have c4 := fun W t => open_any _ 2 [255, 254] _ (by decide) (by decide) (by unfold Bytes; decide) (laid8 W t _ _ rfl)
  rw [f6, f8] at c4
  have c5 := fun W t m => sum_any _ 9 digits _ (by decide) digits_bytes (laidM W t _ _ m rfl)
  rw [f1] at c5
  have c6 := fun W => sum_any none 0 [] W (by decide) (by unfold Bytes; decide) (Or.inl rfl)
  rw [f9] at c6
  have c7 := fun W => more_any none 0 [] (-1) W (by decide) (by unfold Bytes; decide) (Or.inl rfl)
  rw [f10] at c7
  have c8 := fun W => more_any none 0 [] 7 W (by decide) (by unfold Bytes; decide) (Or.inl rfl)
  rw [f11] at c8
  have kc := fun (w : World) (C : Array Value) (n c : Nat) => Lib.run_convert_bytes_const (P := Try.prog) w 22 5 C n c Try.underlying22 Try.underlying5
  clear f1 f2 f3 f4 f5 f6 f7 f8 f9 f10 f11
  have g0 := Lib.hid (Below.refl w.heap.size w)
  go_enter Try.func6, Try.ntmps6
  go_wp2_with fail
  refine (c1 _ _ _).mono ?_; rintro e w1 ⟨a1, k1, rfl, i1, kb1, b1⟩
  have g1 := Lib.hid (grow_alloc g0.out b1); clear b1 c1
  go_wp2_with fail
  refine (c2 _ _ _ kb1 i1).mono ?_; rintro e w2 ⟨a2, k2, rfl, i2, b2⟩
  have g2 := Lib.hid (grow g1.out b2); clear b2 c2 i1
  have I2 := Lib.hid i2; clear i2
  go_wp2_with fail
  refine (c3 _ _).mono ?_; rintro e w3 ⟨a3, k3, rfl, -, b3⟩
  have I3 := Lib.hid (I2.out.below (((Below.refl _ _).alloc (Nat.le_refl _) _).trans (b3.mono (by simp))))
  have g3 := Lib.hid (grow_alloc g2.out b3); clear b3 c3 I2 g2
  go_wp2_with fail
  refine (c4 _ _).mono ?_; rintro e w4 ⟨a4, k4, rfl, -, b4⟩
  have I4 := Lib.hid (I3.out.below (((Below.refl _ _).alloc (Nat.le_refl _) _).trans (b4.mono (by simp))))
  have g4 := Lib.hid (grow_alloc g3.out b4); clear b4 c4 I3 g3
  go_wp2_with fail
  refine (c5 _ _ _).mono ?_; rintro e w5 ⟨rfl, b5⟩
  have I5 := Lib.hid (I4.out.below (((Below.refl _ _).alloc (Nat.le_refl _) _).trans (b5.mono (by simp))))
  have g5 := Lib.hid (grow_alloc g4.out b5); clear b5 c5 I4 g4
  go_wp2_with fail
  refine (c6 _).mono ?_; rintro e w6 ⟨rfl, b6⟩
  have I6 := Lib.hid (I5.out.below b6)
  have g6 := Lib.hid (grow g5.out b6); clear b6 c6 I5 g5
  rcases I6.out with hno | ⟨b, off, rfl, hc⟩
  · cases hno
  have hst : (convert 22 9 (.slice (some ⟨b, off, none⟩) 9 k2)).run Try.prog w6 = .ok (.string ⟨#[49, 50, 51, 52, 53, 54, 55, 56, 57]⟩) w6 := run_convert_bytes_back (P := Try.prog) w6 22 9 5 ⟨b, off, none⟩ k2 [49, 50, 51, 52, 53, 54, 55, 56, 57] Try.underlying22 Try.underlying5 Try.underlying9 (fun j hj => by
    rw [add_plain, hc j hj]
    simp at hj
    rcases j with _ | _ | _ | _ | _ | _ | _ | _ | _ | j <;> first | rfl | omega)
  clear hc
  go_wp2_with fail
  refine (c7 _).mono ?_; rintro e w7 ⟨rfl, b7⟩
  have g7 := Lib.hid (grow g6.out b7); clear b7 c7 hst
  go_wp2_with fail
  refine (c8 _).mono ?_; rintro e w8 ⟨rfl, b8⟩
  have g8 := Lib.hid (grow g7.out b8); clear b8 c8
  go_wp2
  go_ret
  exact ⟨rfl, g8.out⟩
end Cr
end Go.Proofs.Ytedklejalfdklaa
