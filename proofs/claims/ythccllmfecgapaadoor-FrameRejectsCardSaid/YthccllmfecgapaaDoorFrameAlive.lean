/-
  The live question of layer 5 is answered with true: a contract by walking the Go text. Its condition: that the table of names holds the names.
-/
import Derived.Test.YthccllmfecgapaaDoorFrameDec
import Derived.Test.YthccllmfecgapaaDoorFrameEnc
namespace Go.Proofs.YthccllmfecgapaaDoor
open Go.ChangeShapes Go.WideShapes Go.ChangeAt Go.RowKit Go.Deep
namespace Fm
open Wd
open Cr (Bytes sealed)

theorem enc_head {c s : Int} {vs : List Int} (h : right s vs = true) (k : chan c = true) (h8 : vs.length = 8) (i : Nat) (hi : i < 36) : (enc c s vs).getD i 0 = (head c s vs).getD i 0 := by
  rw [enc_yes h k]
  unfold sealed
  rw [List.getD_eq_getElem?_getD, List.getD_eq_getElem?_getD, List.getElem?_append_left (by rw [head_len h h8]; exact hi)]
theorem dec_form {w : World} {l : List Int} {r : Int} {vs : List Value} {e : Ending} {w' : World} (h : RetFR w l r e w') (hv : cellsI .i64 l = vs) : e = .returned (.tuple #[.agg vs.toArray, .int .i64 r]) ∧ Below w.heap.size w w' := by
  subst hv; exact h

set_option maxHeartbeats 3200000 in
theorem alive_any (w : World) (hN : NamesAt w) :
    Calls Tryd.prog 6 #[] w fun e w' => e = .returned (.bool true) ∧ Below w.heap.size w w' := by
  have hr : right 258 [-1, 0, 0, 0, 0, 0, 0, 5] = true := by decide
  have hk : chan 2 = true := by decide
  have hlen := enc_len hr hk rfl
  have x0 := (enc_head hr hk rfl 0 (by omega)).trans (show _ = 165 by decide)
  have x1 := (enc_head hr hk rfl 1 (by omega)).trans (show _ = 2 by decide)
  have x2 := (enc_head hr hk rfl 2 (by omega)).trans (show _ = 1 by decide)
  have x3 := (enc_head hr hk rfl 3 (by omega)).trans (show _ = 2 by decide)
  have x4 := (enc_head hr hk rfl 4 (by omega)).trans (show _ = 255 by decide)
  have x35 := (enc_head hr hk rfl 35 (by omega)).trans (show _ = 5 by decide)
  have hy : Bytes (enc 2 258 [-1, 0, 0, 0, 0, 0, 0, 5]) := enc_bytes
  have C1 := enc_any 2 258 (-1) 0 0 0 0 0 0 5 w
  rw [encE_yes hr hk] at C1
  have D1 := fun W a cap (hc : 38 ≤ cap) h => (dec_any 2 true a cap (enc 2 258 [-1, 0, 0, 0, 0, 0, 0, 5]) W (by omega) hy h).mono fun e w' q => dec_form (vs := [.int .i64 258, .int .i64 (-1), .int .i64 0, .int .i64 0, .int .i64 0, .int .i64 0, .int .i64 0, .int .i64 0, .int .i64 5]) q (by rw [enc_dec hr hk rfl]; rfl)
  have D2 := fun W a cap (hc : 38 ≤ cap) h => (dec_any 1 true a cap (enc 2 258 [-1, 0, 0, 0, 0, 0, 0, 5]) W (by omega) hy h).mono fun e w' q => dec_form (vs := [.int .i64 0, .int .i64 0, .int .i64 0, .int .i64 0, .int .i64 0, .int .i64 0, .int .i64 0, .int .i64 0, .int .i64 0]) q (by rw [dec_no (by rw [enc_rej hr hk rfl]; decide)]; rfl)
  have D3 := fun W a cap (hc : 38 ≤ cap) h => (dec_any 2 false a cap (enc 2 258 [-1, 0, 0, 0, 0, 0, 0, 5]) W (by omega) hy h).mono fun e w' q => dec_form (vs := [.int .i64 0, .int .i64 0, .int .i64 0, .int .i64 0, .int .i64 0, .int .i64 0, .int .i64 0, .int .i64 0, .int .i64 0]) q (by rw [dec_no (by rw [rej_absent]; decide)]; rfl)
  rw [enc_rej hr hk rfl, if_pos rfl, hlen] at D1
  rw [enc_rej hr hk rfl, if_neg (by decide), hlen] at D2
  rw [rej_absent, hlen] at D3
  have D4 := fun W => (dec_any 2 true none 0 [] W (Nat.le_refl _) (fun x h => by cases h) (Or.inl rfl)).mono fun e w' q => dec_form (vs := [.int .i64 0, .int .i64 0, .int .i64 0, .int .i64 0, .int .i64 0, .int .i64 0, .int .i64 0, .int .i64 0, .int .i64 0]) q (by rw [dec_no (by rw [rej_length (by decide)]; decide)]; rfl)
  rw [rej_length (by decide)] at D4
  have C2 := fun W => enc_any 4 0 0 0 0 0 0 0 0 0 W
  rw [enc_no (by decide), encE_no (by decide)] at C2
  have C3 := fun W => enc_any 0 65536 0 0 0 0 0 0 0 0 W
  rw [enc_no (by decide), encE_no (by decide)] at C3
  have N6 := fun W h => name_any 6 W h
  rw [show nameOf 6 = ⟨#[115, 116, 97, 108, 101]⟩ from rfl] at N6
  have N7 := fun W h => name_any 7 W h
  rw [nameOf_no (by omega)] at N7
  have CR := fun W => right_any 258 (-1) 0 0 0 0 0 0 5 W
  rw [hr] at CR
  have HN := Lib.hid hN
  clear hr hk hN
  generalize enc 2 258 [-1, 0, 0, 0, 0, 0, 0, 5] = L at *
  have K := Lib.hid (show True ∧ L.length = 38 ∧ L.getD 0 0 = 165 ∧ L.getD 1 0 = 2 ∧ L.getD 2 0 = 1 ∧ L.getD 3 0 = 2 ∧ L.getD 4 0 = 255 ∧ L.getD 35 0 = 5 from ⟨trivial, hlen, x0, x1, x2, x3, x4, x35⟩)
  clear x0 x1 x2 x3 x4 x35 hy
  go_enter Tryd.func6, Tryd.ntmps6
  go_wp2_with fail
  refine C1.mono ?_; rintro e w1 ⟨a1, k1, rfl, i1, m1, b1⟩
  rw [hlen] at m1 ⊢
  have I1 := Lib.hid i1; have g1 := Lib.hid b1; clear i1 b1 C1
  go_wp2_with fail
  refine (D1 _ _ _ m1 I1.out).mono ?_; rintro e w2 ⟨rfl, b2⟩
  have g2 := Lib.hid (grow g1.out b2)
  have I2 := Lib.hid ((I1.out.below b2).below ((Below.refl _ _).alloc (Nat.le_refl _) (.cells #[.int .i64 258, .int .i64 (-1), .int .i64 0, .int .i64 0, .int .i64 0, .int .i64 0, .int .i64 0, .int .i64 0, .int .i64 5] 24))); clear b2 D1 I1 g1
  have R2 := Lib.hid (show IRow .i64 (w2.alloc (.cells #[.int .i64 258, .int .i64 (-1), .int .i64 0, .int .i64 0, .int .i64 0, .int .i64 0, .int .i64 0, .int .i64 0, .int .i64 5] 24)) w2.heap.size 24 [258, -1, 0, 0, 0, 0, 0, 0, 5] from heap_alloc_new w2 _)
  go_wp2_with fail
  refine (D2 _ _ _ m1 I2.out).mono ?_; rintro e w3 ⟨rfl, b3⟩
  have g3 := Lib.hid (grow_alloc g2.out b3)
  have I3 := Lib.hid ((I2.out.below b3).below ((Below.refl _ _).alloc (Nat.le_refl _) (.cells #[.int .i64 0, .int .i64 0, .int .i64 0, .int .i64 0, .int .i64 0, .int .i64 0, .int .i64 0, .int .i64 0, .int .i64 0] 24)))
  have R3 := Lib.hid ((R2.out.below b3 R2.out.lt).alloc (.cells #[.int .i64 0, .int .i64 0, .int .i64 0, .int .i64 0, .int .i64 0, .int .i64 0, .int .i64 0, .int .i64 0, .int .i64 0] 24)); clear b3 D2 I2 g2 R2
  go_wp2_with fail
  refine (D3 _ _ _ m1 I3.out).mono ?_; rintro e w4 ⟨rfl, b4⟩
  have g4 := Lib.hid (grow_alloc g3.out b4)
  have I4 := Lib.hid ((I3.out.below b4).below ((Below.refl _ _).alloc (Nat.le_refl _) (.cells #[.int .i64 0, .int .i64 0, .int .i64 0, .int .i64 0, .int .i64 0, .int .i64 0, .int .i64 0, .int .i64 0, .int .i64 0] 24)))
  have R4 := Lib.hid ((R3.out.below b4 R3.out.lt).alloc (.cells #[.int .i64 0, .int .i64 0, .int .i64 0, .int .i64 0, .int .i64 0, .int .i64 0, .int .i64 0, .int .i64 0, .int .i64 0] 24)); clear b4 D3 I3 g3 R3
  go_wp2_with fail
  refine (D4 _).mono ?_; rintro e w5 ⟨rfl, b5⟩
  have g5 := Lib.hid (grow_alloc g4.out b5)
  have I5 := Lib.hid ((I4.out.below b5).below ((Below.refl _ _).alloc (Nat.le_refl _) (.cells #[.int .i64 0, .int .i64 0, .int .i64 0, .int .i64 0, .int .i64 0, .int .i64 0, .int .i64 0, .int .i64 0, .int .i64 0] 24)))
  have R5 := Lib.hid ((R4.out.below b5 R4.out.lt).alloc (.cells #[.int .i64 0, .int .i64 0, .int .i64 0, .int .i64 0, .int .i64 0, .int .i64 0, .int .i64 0, .int .i64 0, .int .i64 0] 24)); clear b5 D4 I4 g4 R4
  go_wp2_with fail
  refine (C2 _).mono ?_; rintro e w6 ⟨a6, k6, rfl, -, -, b6⟩
  have g6 := Lib.hid (grow_alloc g5.out b6)
  have I6 := Lib.hid (I5.out.below b6)
  have R6 := Lib.hid (R5.out.below b6 R5.out.lt); clear b6 C2 I5 g5 R5
  go_wp2_with fail
  refine (C3 _).mono ?_; rintro e w7 ⟨a7, k7, rfl, -, -, b7⟩
  have g7 := Lib.hid (grow g6.out b7)
  have I7 := Lib.hid (I6.out.below b7)
  have R7 := Lib.hid (R6.out.below b7 R6.out.lt); clear b7 C3 I6 g6 R6
  obtain ⟨bb, off, rfl, i8⟩ := intsAt_some I7.out (by rw [hlen]; omega)
  obtain ⟨-, -, x0, x1, x2, x3, x4, x35⟩ := K.out
  have t0 := ints_cell i8 0 (by omega)
  have t1 := ints_cell i8 1 (by omega)
  have t2 := ints_cell i8 2 (by omega)
  have t3 := ints_cell i8 3 (by omega)
  have t4 := ints_cell i8 4 (by omega)
  have t35 := ints_cell i8 35 (by omega)
  rw [x0, Nat.add_zero] at t0
  rw [x1] at t1
  rw [x2] at t2
  rw [x3] at t3
  rw [x4] at t4
  rw [x35] at t35
  obtain ⟨y0, y1, y2, y3, y4, y5, y6, y7, y8⟩ := row9 R7.out
  have HN7 := Lib.hid (HN.out.below g7.out)
  clear x0 x1 x2 x3 x4 x35 i8 I7 R7 K HN
  go_wp2_with fail
  refine (N6 _ HN7.out).mono ?_; rintro e w8 ⟨rfl, rfl⟩
  go_wp2_with fail
  refine (N7 _ HN7.out).mono ?_; rintro e w8 ⟨rfl, rfl⟩
  go_wp2_with fail
  refine (CR _).mono ?_; rintro e w8 ⟨rfl, b8⟩
  have g8 := Lib.hid (grow g7.out b8); clear b8
  go_wp2
  go_ret
  exact ⟨rfl, g8.out⟩
end Fm
end Go.Proofs.YthccllmfecgapaaDoor
