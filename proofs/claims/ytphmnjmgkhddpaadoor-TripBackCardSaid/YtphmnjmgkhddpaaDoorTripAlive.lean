/-
  The live question of layer 14's statements: it is answered true. Condition: the table of trips lies in memory as the text lays it.
-/
import Derived.Test.YtphmnjmgkhddpaaDoorTripParse
import Derived.Test.YtphmnjmgkhddpaaDoorTripRefText
namespace Go.Proofs.YtphmnjmgkhddpaaDoor
open Go.ChangeShapes Go.WideShapes Go.ChangeAt Go.RowKit Go.Deep
namespace Tp
open Fx

theorem alive_facts : prs (tl ⟨#[114, 97, 110, 103, 101, 43, 109, 105, 115]⟩) = some 34 ∧ prs (tl ⟨#[109, 105, 115, 43, 114, 97, 110, 103, 101]⟩) = none ∧ prs (tl ⟨#[45]⟩) = some 0 ∧ txt 34 = [114, 97, 110, 103, 101, 43, 109, 105, 115] ∧ txt 0 = [45] ∧ txt 64 = [] ∧ msk [true, false, true] = 5 ∧ inn 34 32 = true ∧ inn 34 3 = false ∧ inn 34 1 = false := by
  refine ⟨?_, ?_, ?_, ?_, ?_, ?_, ?_, ?_, ?_, ?_⟩ <;> decide +kernel

theorem grow_tab {w w1 w2 : World} (h : Below w.heap.size w w1) (k : Below w1.heap.size w1 w2) : Below w.heap.size w w2 := h.trans (k.mono h.size)
set_option maxRecDepth 100000 in
set_option maxHeartbeats 1600000 in
theorem alive_any (w : World) (hT : TabAt w) :
    Calls Tryd.prog 5 #[] w fun e w' => e = .returned (.bool true) ∧ Below w.heap.size w w' := by
  obtain ⟨f1, f2, f3, f4, f5, f6, f7, f8, f9, f10⟩ := alive_facts
  have c1 := fun W (h : TabAt W) => parse_any ⟨#[114, 97, 110, 103, 101, 43, 109, 105, 115]⟩ (by decide) W h
  rw [f1] at c1
  have c2 := fun W (h : TabAt W) => parse_any ⟨#[109, 105, 115, 43, 114, 97, 110, 103, 101]⟩ (by decide) W h
  rw [f2] at c2
  have c3 := fun W (h : TabAt W) => parse_any ⟨#[45]⟩ (by decide) W h
  rw [f3] at c3
  have c4 := fun W (h : TabAt W) => text_any 34 W h
  rw [f4] at c4
  have c5 := fun W (h : TabAt W) => text_any 0 W h
  rw [f5] at c5
  have c6 := fun W (h : TabAt W) => text_any 64 W h
  rw [f6] at c6
  have c7 := fun W t => mask_any _ 3 [true, false, true] _ (by simp) (bools3 W t true false true)
  rw [f7] at c7
  have c8 := fun W => in_any 34 32 W
  rw [f8] at c8
  have c9 := fun W => in_any 34 3 W
  rw [f9] at c9
  have c10 := fun W => in_any 34 1 W
  rw [f10] at c10
  dsimp only [num, err] at c1 c2 c3
  clear f1 f2 f3 f4 f5 f6 f7 f8 f9 f10
  have HT := Lib.hid hT
  clear hT
  go_enter Tryd.func5, Tryd.ntmps5
  go_wp2_with fail
  refine (c1 _ HT.out).mono ?_; rintro e w1 ⟨rfl, b1⟩
  have g1 := Lib.hid b1; clear b1 c1
  go_wp2_with fail
  refine (c2 _ (HT.out.below g1.out)).mono ?_; rintro e w2 ⟨rfl, b2⟩
  have g2 := Lib.hid (grow g1.out b2); clear b2 c2
  go_wp2_with fail
  refine (c3 _ (HT.out.below g2.out)).mono ?_; rintro e w3 ⟨rfl, b3⟩
  have g3 := Lib.hid (grow g2.out b3); clear b3 c3
  go_wp2_with fail
  refine (c4 _ (HT.out.below g3.out)).mono ?_; rintro e w4 ⟨rfl, b4⟩
  have g4 := Lib.hid (grow g3.out b4); clear b4 c4
  go_wp2_with fail
  refine (c5 _ (HT.out.below g4.out)).mono ?_; rintro e w5 ⟨rfl, b5⟩
  have g5 := Lib.hid (grow g4.out b5); clear b5 c5
  go_wp2_with fail
  refine (c6 _ (HT.out.below g5.out)).mono ?_; rintro e w6 ⟨rfl, b6⟩
  have g6 := Lib.hid (grow g5.out b6); clear b6 c6
  go_wp2_with fail
  refine (c7 _ _).mono ?_; rintro e w7 ⟨rfl, rfl⟩
  have g7 := Lib.hid (g6.out.alloc g6.out.size (.cells #[.bool true, .bool false, .bool true] 4)); clear c7
  go_wp2_with fail
  refine (c8 _).mono ?_; rintro e w8 ⟨rfl, rfl⟩
  go_wp2_with fail
  refine (c9 _).mono ?_; rintro e w9 ⟨rfl, rfl⟩
  go_wp2_with fail
  refine (c10 _).mono ?_; rintro e w10 ⟨rfl, rfl⟩
  go_wp2
  go_ret
  exact ⟨rfl, g7.out⟩
end Tp
end Go.Proofs.YtphmnjmgkhddpaaDoor
