/-
  The live question of layer 16's statements: it is answered true. Condition: the table of modes lies in memory as the text lays it.
-/
import Derived.Test.YtdicmpniinjbpaaDoorStatusRefParse
import Derived.Test.YtdicmpniinjbpaaDoorStatusText
import Derived.Test.YtdicmpniinjbpaaDoorStatusRefText
namespace Go.Proofs.YtdicmpniinjbpaaDoor
open Go.ChangeShapes Go.WideShapes Go.ChangeAt Go.RowKit Go.Deep
namespace Ss
open Fx

/-! A status's variable, made and stored. -/
theorem lay_new (W : World) (c : St) : VRow ((W.alloc zob).setRow W.heap.size (str c).toArray) W.heap.size 23 (str c) := (VRow.new W (str zer) _).put (str c)
theorem lay_keep {W : World} {g : Nat} {t : TypeId} {cs : List Value} (h : VRow W g t cs) (c : St) : VRow ((W.alloc zob).setRow W.heap.size (str c).toArray) g t cs := (h.alloc zob).putOther (by have := h.lt; omega) _
theorem lay_below {w W : World} (h : Below w.heap.size w W) (c : St) : Below w.heap.size w ((W.alloc zob).setRow W.heap.size (str c).toArray) := Below.put (h.alloc h.size zob) h.size _

def s0 : St := ⟨13, 2, 3, false⟩
def s8 : St := ⟨0, 15, -1, true⟩
theorem parse_s0 (W : World) : Calls Tryd.prog 7 #[.int .i64 813] W fun e w' => e = .returned (.tuple #[stv s0, .int .i64 0]) ∧ Below W.heap.size W w' := by
  have h : rgt s0 = true := by decide +kernel
  have e : wrd s0 = 813 := by decide +kernel
  refine (parse_any 813 W (by decide)).mono ?_
  rintro r w' ⟨a, b⟩
  exact ⟨by rw [a, show prs 813 = s0 from e ▸ prs_wrd h, show pre 813 = 0 from e ▸ pre_wrd h], b⟩
theorem parse_s8 (W : World) : Calls Tryd.prog 7 #[.int .i64 4080] W fun e w' => e = .returned (.tuple #[stv s8, .int .i64 0]) ∧ Below W.heap.size W w' := by
  have h : rgt s8 = true := by decide +kernel
  have e : wrd s8 = 4080 := by decide +kernel
  refine (parse_any 4080 W (by decide)).mono ?_
  rintro r w' ⟨a, b⟩
  exact ⟨by rw [a, show prs 4080 = s8 from e ▸ prs_wrd h, show pre 4080 = 0 from e ▸ pre_wrd h], b⟩
theorem parse_dead (W : World) : Calls Tryd.prog 7 #[.int .i64 2049] W fun e w' => e = .returned (.tuple #[stv zer, .int .i64 3]) ∧ Below W.heap.size W w' := by
  have h : isw 2049 = false := by decide +kernel
  have := parse_any 2049 W (by decide)
  rwa [retP_no h] at this
theorem word_s0 (W : World) : Calls Tryd.prog 5 #[stv s0] W fun e w' => e = .returned (.tuple #[.int .i64 813, .int .i64 0]) ∧ Below W.heap.size W w' := by
  have := word_any s0 W
  rwa [show wdv s0 = 813 by decide +kernel, show wde s0 = 0 by decide +kernel] at this
theorem word_dead (W : World) : Calls Tryd.prog 5 #[stv ⟨1, 0, 1, false⟩] W fun e w' => e = .returned (.tuple #[.int .i64 0, .int .i64 1]) ∧ Below W.heap.size W w' := by
  have := word_any ⟨1, 0, 1, false⟩ W
  rwa [show wdv ⟨1, 0, 1, false⟩ = 0 by decide +kernel, show wde ⟨1, 0, 1, false⟩ = 1 by decide +kernel] at this
theorem text_s0 (W : World) (h : TabAt W) : Calls Tryd.prog 14 #[stv s0] W fun e w' => e = .returned (.string ⟨#[105, 110, 32, 48, 50, 51, 32, 108, 97, 116, 99, 104, 101, 100, 32, 49, 32, 115, 117, 115, 112, 101, 99, 116, 32, 51, 32, 116, 114, 105, 112, 108, 101]⟩) ∧ Below W.heap.size W w' := by
  have := text_any s0 W h
  rwa [show txs s0 = [105, 110, 32, 48, 50, 51, 32, 108, 97, 116, 99, 104, 101, 100, 32, 49, 32, 115, 117, 115, 112, 101, 99, 116, 32, 51, 32, 116, 114, 105, 112, 108, 101] by decide +kernel] at this
theorem text_s8 (W : World) (h : TabAt W) : Calls Tryd.prog 14 #[stv s8] W fun e w' => e = .returned (.string ⟨#[105, 110, 32, 45, 32, 108, 97, 116, 99, 104, 101, 100, 32, 48, 49, 50, 51, 32, 115, 117, 115, 112, 101, 99, 116, 32, 45, 32, 104, 111, 108, 100]⟩) ∧ Below W.heap.size W w' := by
  have := text_any s8 W h
  rwa [show txs s8 = [105, 110, 32, 45, 32, 108, 97, 116, 99, 104, 101, 100, 32, 48, 49, 50, 51, 32, 115, 117, 115, 112, 101, 99, 116, 32, 45, 32, 104, 111, 108, 100] by decide +kernel] at this
theorem mode_s0 (W : World) (h : TabAt W) : Calls Tryd.prog 12 #[stv s0] W fun e w' => e = .returned (.string ⟨#[116, 114, 105, 112, 108, 101]⟩) ∧ Below W.heap.size W w' := by
  have := mode_any s0 W h
  rwa [show mds s0 = [116, 114, 105, 112, 108, 101] by decide +kernel] at this
theorem right_s0 (W : World) : Calls Tryd.prog 10 #[stv s0] W fun e w' => e = .returned (.bool true) ∧ Below W.heap.size W w' := by
  have := right_any s0 W
  rwa [show rgt s0 = true by decide +kernel] at this

set_option maxHeartbeats 3200000 in
theorem alive_any (w : World) (hT : TabAt w) : Calls Tryd.prog 9 #[] w fun e w' => e = .returned (.bool true) ∧ Below w.heap.size w w' := by
  have C1 := word_s0
  have C2 := parse_s0
  have C3 := parse_dead
  have C4 := parse_s8
  have C5 := word_dead
  have D1 := text_s0
  have D2 := text_s8
  have D3 := mode_s0
  have D4 := right_s0
  have HT := Lib.hid hT
  clear hT
  dsimp only [stv, s0, s8, zer] at C1 C2 C3 C4 C5 D1 D2 D3 D4
  go_enter Tryd.func9, Tryd.ntmps9
  go_wp2_with (((with_reducible show wpList _ _ _ (⟨none, .store _ (.tmp 1) _, _, _, _, _⟩ :: _) _ _); refine VB.store rfl _ _ rfl w.heap.size (str s0) rfl rfl (VRow.new w (str zer) _) sizeS rfl (str_one s0) ?_; have B1 := Lib.hid (lay_below (Below.refl w.heap.size w) s0); have R1 := Lib.hid (lay_new w s0); generalize (w.alloc zob).setRow w.heap.size (str s0).toArray = W1 at *; obtain ⟨c0, c1, c2, c3⟩ := st_cells R1.out))
  refine (C1 _).mono ?_; rintro e w2 ⟨rfl, b⟩
  have B2 := Lib.hid (grow B1.out b)
  have R2 := Lib.hid (onB R1.out b)
  clear b c0 c1 c2 c3 C1 B1 R1
  go_wp2_with fail
  refine (C2 _).mono ?_; rintro e w3 ⟨rfl, b⟩
  have B3 := Lib.hid (grow B2.out b)
  have R3 := Lib.hid (onB R2.out b)
  clear b C2 B2 R2
  go_wp2_with (((with_reducible show wpList _ _ _ (⟨none, .store _ (.tmp 4) _, _, _, _, _⟩ :: _) _ _); refine VB.store rfl _ _ rfl w3.heap.size (str s0) rfl rfl (VRow.new w3 (str zer) _) sizeS rfl (str_one s0) ?_; have B4 := Lib.hid (lay_below B3.out s0); have R4 := Lib.hid (lay_keep R3.out s0); have S4 := Lib.hid (lay_new w3 s0); generalize (w3.alloc zob).setRow w3.heap.size (str s0).toArray = W4 at *; clear B3 R3))
  refine (C3 _).mono ?_; rintro e w5 ⟨rfl, b⟩
  have B5 := Lib.hid (grow B4.out b)
  have R5 := Lib.hid (onB R4.out b)
  have S5 := Lib.hid (onB S4.out b)
  clear b C3 B4 R4 S4
  go_wp2_with (((with_reducible show wpList _ _ _ (⟨none, .store _ (.tmp 6) _, _, _, _, _⟩ :: _) _ _); refine VB.store rfl _ _ rfl w5.heap.size (str zer) rfl rfl (VRow.new w5 (str zer) _) sizeS rfl (str_one zer) ?_; have B6 := Lib.hid (lay_below B5.out zer); have R6 := Lib.hid (lay_keep R5.out zer); have S6 := Lib.hid (lay_keep S5.out zer); generalize (w5.alloc zob).setRow w5.heap.size (str zer).toArray = W6 at *; clear B5 R5 S5))
  refine (C4 _).mono ?_; rintro e w7 ⟨rfl, b⟩
  have B7 := Lib.hid (grow B6.out b)
  have R7 := Lib.hid (onB R6.out b)
  have S7 := Lib.hid (onB S6.out b)
  clear b C4 B6 R6 S6
  go_wp2_with (((with_reducible show wpList _ _ _ (⟨none, .store _ (.tmp 8) _, _, _, _, _⟩ :: _) _ _); refine VB.store rfl _ _ rfl w7.heap.size (str s8) rfl rfl (VRow.new w7 (str zer) _) sizeS rfl (str_one s8) ?_; have B8 := Lib.hid (lay_below B7.out s8); have R8 := Lib.hid (lay_keep R7.out s8); have S8 := Lib.hid (lay_keep S7.out s8); have T8 := Lib.hid (lay_new w7 s8); generalize (w7.alloc zob).setRow w7.heap.size (str s8).toArray = W8 at *; clear B7 R7 S7))
  refine (C5 _).mono ?_; rintro e w9 ⟨rfl, b⟩
  have B9 := Lib.hid (grow B8.out b)
  have R9 := Lib.hid (onB R8.out b)
  have S9 := Lib.hid (onB S8.out b)
  have T9 := Lib.hid (onB T8.out b)
  clear b C5 B8 R8 S8 T8
  obtain ⟨c0, c1, c2, c3⟩ := st_cells R9.out
  obtain ⟨p0, p1, p2, p3⟩ := st_cells S9.out
  obtain ⟨q0, q1, q2, q3⟩ := st_cells T9.out
  unfold s0 at c0 c1 c2 c3 p0 p1 p2 p3
  unfold s8 at q0 q1 q2 q3
  dsimp only at c0 c1 c2 c3 p0 p1 p2 p3 q0 q1 q2 q3
  go_wp2_with fail
  refine (D1 _ (HT.out.below B9.out)).mono ?_; rintro e v1 ⟨rfl, b⟩
  have B10 := Lib.hid (grow B9.out b)
  have R10 := Lib.hid (onB R9.out b)
  have T10 := Lib.hid (onB T9.out b)
  clear b D1 B9 R9 S9 T9 c0 c1 c2 c3 p0 p1 p2 p3 q0 q1 q2 q3
  obtain ⟨q0, q1, q2, q3⟩ := st_cells T10.out
  unfold s8 at q0 q1 q2 q3
  dsimp only at q0 q1 q2 q3
  go_wp2_with fail
  refine (D2 _ (HT.out.below B10.out)).mono ?_; rintro e v2 ⟨rfl, b⟩
  have B11 := Lib.hid (grow B10.out b)
  have R11 := Lib.hid (onB R10.out b)
  clear b D2 B10 R10 T10 q0 q1 q2 q3
  obtain ⟨c0, c1, c2, c3⟩ := st_cells R11.out
  unfold s0 at c0 c1 c2 c3
  dsimp only at c0 c1 c2 c3
  go_wp2_with fail
  refine (D3 _ (HT.out.below B11.out)).mono ?_; rintro e v3 ⟨rfl, b⟩
  have B12 := Lib.hid (grow B11.out b)
  have R12 := Lib.hid (onB R11.out b)
  clear b D3 B11 R11 c0 c1 c2 c3
  obtain ⟨c0, c1, c2, c3⟩ := st_cells R12.out
  unfold s0 at c0 c1 c2 c3
  dsimp only at c0 c1 c2 c3
  go_wp2_with fail
  refine (D4 _).mono ?_; rintro e v4 ⟨rfl, b⟩
  have B13 := Lib.hid (grow B12.out b)
  clear b D4 B12 R12 c0 c1 c2 c3
  go_wp2
  go_ret
  exact ⟨rfl, B13.out⟩
end Ss
end Go.Proofs.YtdicmpniinjbpaaDoor
