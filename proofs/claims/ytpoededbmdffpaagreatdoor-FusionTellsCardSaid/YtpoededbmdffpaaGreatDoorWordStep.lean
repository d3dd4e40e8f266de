/-
  What the small functions of package word do (counted, told, read, readFour, Next, After, Get2, Get4): contracts by walking the Go text. Their conditions: where the bytes lie.
-/
import Derived.Test.YtpoededbmdffpaaGreatDoorWordMath2
import Derived.Test.YtpoededbmdffpaaGreatDoorAppend
import Derived.Deep.LoopGhost
import Derived.IntWalk
import Derived.WalkSmall
import Derived.Laws.BitsAll
namespace Go.Proofs.YtpoededbmdffpaaGreatDoor
set_option maxRecDepth 100000
open Go.ChangeShapes Go.WideShapes Go.ChangeAt Go.RowKit Go.Deep
namespace Wd
open Cr (Bytes)
theorem ret_int {k : IntKind} {n m : Int} (h : n = m) : Ending.returned (.int k n) = .returned (.int k m) := by rw [h]
theorem ret_bool {a b : Bool} (h : a = b) : Ending.returned (.bool a) = .returned (.bool b) := by rw [h]
theorem ret_ib {n m : Int} {a b : Bool} (h : n = m) (k : a = b) : Ending.returned (.tuple #[.int .i64 n, .bool a]) = .returned (.tuple #[.int .i64 m, .bool b]) := by rw [h, k]
theorem counted_any (n : Int) (w : World) :
    Calls Tryz.prog 71 #[.int .i64 n] w fun e w' => e = .returned (.bool (in2 n)) ∧ w = w' := by
  by_cases h1 : 0 ≤ n
  · by_cases h2 : n ≤ 65535
    · have HF := Lib.hid ((in2_iff n).2 ⟨h1, h2⟩)
      have d : decide (n < 65536) = true := by simp; omega
      go_enter Tryz.func71, Tryz.ntmps71
      go_wp2
      go_ret
      exact ⟨ret_bool HF.out.symm, rfl⟩
    · have HF := Lib.hid (in2_no (n := n) (by omega))
      have d : decide (n < 65536) = false := by simp; omega
      go_enter Tryz.func71, Tryz.ntmps71
      go_wp2
      go_ret
      exact ⟨ret_bool HF.out.symm, rfl⟩
  · have HF := Lib.hid (in2_no (n := n) (by omega))
    have d : decide (0 ≤ n) = false := by simpa using h1
    go_enter Tryz.func71, Tryz.ntmps71
    go_wp2
    go_ret
    exact ⟨ret_bool HF.out.symm, rfl⟩
theorem told_any (n : Int) (w : World) :
    Calls Tryz.prog 126 #[.int .i64 n] w fun e w' => e = .returned (.bool (in4 n)) ∧ w = w' := by
  by_cases h1 : -2147483648 ≤ n
  · by_cases h2 : n ≤ 2147483647
    · have HF := Lib.hid ((in4_iff n).2 ⟨h1, h2⟩)
      go_enter Tryz.func126, Tryz.ntmps126
      go_wp2
      go_ret
      exact ⟨ret_bool HF.out.symm, rfl⟩
    · have HF := Lib.hid (in4_no (n := n) (by omega))
      have d : decide (n ≤ 2147483647) = false := by simpa using h2
      go_enter Tryz.func126, Tryz.ntmps126
      go_wp2
      go_ret
      exact ⟨ret_bool HF.out.symm, rfl⟩
  · have HF := Lib.hid (in4_no (n := n) (by omega))
    have d : decide (-2147483648 ≤ n) = false := by simpa using h1
    go_enter Tryz.func126, Tryz.ntmps126
    go_wp2
    go_ret
    exact ⟨ret_bool HF.out.symm, rfl⟩
theorem next_any (n : Int) (w : World) :
    Calls Tryz.prog 28 #[.int .i64 n] w fun e w' => e = .returned (.int .i64 (next n)) ∧ w = w' := by
  have C := counted_any n w
  cases h : in2 n
  · rw [h] at C
    have HF := Lib.hid (show next n = 0 by
      unfold next
      rw [if_neg (fun q => by rw [(in2_iff n).2 ⟨q.1, by omega⟩] at h; cases h)])
    go_enter Tryz.func28, Tryz.ntmps28
    go_wp2_with fail
    refine C.mono ?_; rintro e w1 ⟨rfl, rfl⟩
    go_wp2
    go_ret
    exact ⟨ret_int HF.out.symm, rfl⟩
  · rw [h] at C
    have hn := (in2_iff n).1 h
    have HF := Lib.hid (next_mod hn)
    go_enter Tryz.func28, Tryz.ntmps28
    go_wp2_with fail
    refine C.mono ?_; rintro e w1 ⟨rfl, rfl⟩
    go_wp2
    go_ret
    exact ⟨ret_int HF.out.symm, rfl⟩
set_option maxHeartbeats 800000 in
theorem read_any (a : Option Addr) (cap : Nat) (l : List Int) (w : World) (hl : l.length ≤ 4) (hy : Bytes l) (hb : IntsAt .u8 w a l) :
    Calls Tryz.prog 150 #[.slice a l.length cap] w fun e w' => e = .returned (.int .i64 (val l)) ∧ w = w' := by
  have HY := Lib.hid hy
  have HB := Lib.hid hb
  clear hy hb
  go_enter Tryz.func150, Tryz.ntmps150
  go_wp2
  go_loopg [3, 8] l.length (fun gg s3 s8 wr => ∃ k : Nat, k + gg = l.length ∧ s8 = .int .i64 k ∧ s3 = .int .i64 (val (l.take k)) ∧ w = wr)
  case atStart => exact ⟨0, by omega, rfl, by rw [List.take_zero]; rfl, rfl⟩
  case round =>
    obtain ⟨k, hkg, rfl, rfl, rfl⟩ := hrel
    by_cases hk : k < l.length
    · rcases HB.out with hnil | ⟨b, off, rfl, hc⟩
      · rw [hnil] at hk; simp at hk
      have hki : (k : Int) < (l.length : Int) := by omega
      have hcx := hc k hk
      have hg := HY.out.getD k
      have HU := Lib.hid (val_next l k hk)
      have hV := val_in HY.out k (by omega) (by omega)
      have hV2 := hV.2.2 (by omega)
      have HO := or_next (val (l.take k)) (l.getD k 0) ⟨hV.1, hV2⟩ hg
      have hV1 := hV.1
      clear hc hV
      generalize val (l.take k) = X at *
      generalize l.getD k 0 = c at *
      go_wp2
      go_roundg (gk - 1)
      case rel => exact ⟨k + 1, by omega, by go_num, by rw [HU.out], rfl⟩
      case measure => omega
    · obtain rfl : k = l.length := by omega
      go_wp2
      go_ret
      exact ⟨ret_int (val_all l), rfl⟩
theorem readFour_any (a : Option Addr) (cap : Nat) (l : List Int) (w : World) (h4 : l.length = 4) (hy : Bytes l) (hb : IntsAt .u8 w a l) :
    Calls Tryz.prog 151 #[.slice a 4 cap] w fun e w' => e = .returned (.int .i64 (get4v l)) ∧ w = w' := by
  have C := read_any a cap l w (by omega) hy hb
  have hV := val_in hy l.length (Nat.le_refl _) (by omega)
  rw [val_all] at hV
  have HF := Lib.hid (val_four' h4)
  rw [h4] at C
  clear hy hb h4
  have hV1 := hV.1
  have hV2 := hV.2.1
  clear hV
  generalize val l = X at *
  by_cases hx : 2147483647 < X
  · have HD := Lib.hid (show X - 4294967296 = down X by unfold down; rw [if_pos (by omega)])
    have d : decide (2147483647 < X) = true := by simpa using hx
    go_enter Tryz.func151, Tryz.ntmps151
    go_wp2_with fail
    refine C.mono ?_; rintro e w1 ⟨rfl, rfl⟩
    go_wp2
    go_ret
    exact ⟨ret_int (HD.out.trans HF.out), rfl⟩
  · have HD := Lib.hid (show X = down X by unfold down; rw [if_neg (by omega)])
    have d : decide (2147483647 < X) = false := by simpa using hx
    go_enter Tryz.func151, Tryz.ntmps151
    go_wp2_with fail
    refine C.mono ?_; rintro e w1 ⟨rfl, rfl⟩
    go_wp2
    go_ret
    exact ⟨ret_int (HD.out.trans HF.out), rfl⟩
theorem get2_any (a : Option Addr) (cap : Nat) (l : List Int) (w : World) (_hl : l.length ≤ 9223372036854775807) (hy : Bytes l) (hb : IntsAt .u8 w a l) :
    Calls Tryz.prog 103 #[.slice a l.length cap] w fun e w' => e = .returned (.tuple #[.int .i64 (get2v l), .bool (get2b l)]) ∧ w = w' := by
  by_cases h : l.length = 2
  · have C := read_any a cap l w (by omega) hy hb
    have HF := Lib.hid (val_two h)
    have HG := Lib.hid ((get2b_iff l).2 h)
    rw [h] at C ⊢
    clear hy hb
    go_enter Tryz.func103, Tryz.ntmps103
    go_wp2_with fail
    refine C.mono ?_; rintro e w1 ⟨rfl, rfl⟩
    go_wp2
    go_ret2
    exact ⟨ret_ib HF.out HG.out.symm, rfl⟩
  · have HF := Lib.hid (get2v_no h)
    have HG := Lib.hid (show get2b l = false by cases e : get2b l; rfl; exact absurd ((get2b_iff l).1 e) h)
    have d : ((l.length : Int) != 2) = true := by simp; omega
    have d2 : ((l.length : Int) == 2) = false := by simp; omega
    clear hy hb
    go_enter Tryz.func103, Tryz.ntmps103
    go_wp2
    go_ret2
    exact ⟨ret_ib HF.out.symm HG.out.symm, rfl⟩
end Wd
end Go.Proofs.YtpoededbmdffpaaGreatDoor
