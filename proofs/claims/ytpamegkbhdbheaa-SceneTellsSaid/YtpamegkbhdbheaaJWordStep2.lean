/-
  What the small functions of package word do (counted, told, read, readFour, Next, After, Get2, Get4): contracts by walking the Go text. Their conditions: where the bytes lie.
  What Right of package frame does: its contract by walking the Go text. No conditions.
-/
import Derived.Test.YtpamegkbhdbheaaJWordMath22
import Derived.Test.YtpamegkbhdbheaaJKept3
import Derived.Deep.LoopGhost
import Derived.IntWalk
import Derived.WalkSmall
import Derived.Laws.BitsAll
namespace Go.Proofs.Ytpamegkbhdbheaa
set_option maxRecDepth 100000
open Go.ChangeShapes Go.WideShapes Go.ChangeAt Go.RowKit Go.Deep
namespace Wd
open Cr (Bytes)

theorem ret_int {k : IntKind} {n m : Int} (h : n = m) : Ending.returned (.int k n) = .returned (.int k m) := by rw [h]
theorem ret_bool {a b : Bool} (h : a = b) : Ending.returned (.bool a) = .returned (.bool b) := by rw [h]
theorem ret_ib {n m : Int} {a b : Bool} (h : n = m) (k : a = b) : Ending.returned (.tuple #[.int .i64 n, .bool a]) = .returned (.tuple #[.int .i64 m, .bool b]) := by rw [h, k]

theorem counted_any (n : Int) (w : World) :
    Calls Try.prog 36 #[.int .i64 n] w fun e w' => e = .returned (.bool (in2 n)) ∧ w = w' := by
  by_cases h1 : 0 ≤ n
  · by_cases h2 : n ≤ 65535
    · have HF := Lib.hid ((in2_iff n).2 ⟨h1, h2⟩)
      have d : decide (n < 65536) = true := by simp; omega
      go_enter Try.func36, Try.ntmps36
      go_wp2
      go_ret
      exact ⟨ret_bool HF.out.symm, rfl⟩
    · have HF := Lib.hid (in2_no (n := n) (by omega))
      have d : decide (n < 65536) = false := by simp; omega
      go_enter Try.func36, Try.ntmps36
      go_wp2
      go_ret
      exact ⟨ret_bool HF.out.symm, rfl⟩
  · have HF := Lib.hid (in2_no (n := n) (by omega))
    have d : decide (0 ≤ n) = false := by simpa using h1
    go_enter Try.func36, Try.ntmps36
    go_wp2
    go_ret
    exact ⟨ret_bool HF.out.symm, rfl⟩
theorem told_any (n : Int) (w : World) :
    Calls Try.prog 70 #[.int .i64 n] w fun e w' => e = .returned (.bool (in4 n)) ∧ w = w' := by
  by_cases h1 : -2147483648 ≤ n
  · by_cases h2 : n ≤ 2147483647
    · have HF := Lib.hid ((in4_iff n).2 ⟨h1, h2⟩)
      go_enter Try.func70, Try.ntmps70
      go_wp2
      go_ret
      exact ⟨ret_bool HF.out.symm, rfl⟩
    · have HF := Lib.hid (in4_no (n := n) (by omega))
      have d : decide (n ≤ 2147483647) = false := by simpa using h2
      go_enter Try.func70, Try.ntmps70
      go_wp2
      go_ret
      exact ⟨ret_bool HF.out.symm, rfl⟩
  · have HF := Lib.hid (in4_no (n := n) (by omega))
    have d : decide (-2147483648 ≤ n) = false := by simpa using h1
    go_enter Try.func70, Try.ntmps70
    go_wp2
    go_ret
    exact ⟨ret_bool HF.out.symm, rfl⟩

theorem next_any (n : Int) (w : World) :
    Calls Try.prog 18 #[.int .i64 n] w fun e w' => e = .returned (.int .i64 (next n)) ∧ w = w' := by
  have C := counted_any n w
  cases h : in2 n
  · rw [h] at C
    have HF := Lib.hid (show next n = 0 by
      unfold next
      rw [if_neg (fun q => by rw [(in2_iff n).2 ⟨q.1, by omega⟩] at h; cases h)])
    go_enter Try.func18, Try.ntmps18
    go_wp2_with fail
    refine C.mono ?_; rintro e w1 ⟨rfl, rfl⟩
    go_wp2
    go_ret
    exact ⟨ret_int HF.out.symm, rfl⟩
  · rw [h] at C
    have hn := (in2_iff n).1 h
    have HF := Lib.hid (next_mod hn)
    go_enter Try.func18, Try.ntmps18
    go_wp2_with fail
    refine C.mono ?_; rintro e w1 ⟨rfl, rfl⟩
    go_wp2
    go_ret
    exact ⟨ret_int HF.out.symm, rfl⟩
set_option maxHeartbeats 800000 in
theorem read_any (a : Option Addr) (cap : Nat) (l : List Int) (w : World) (hl : l.length ≤ 4) (hy : Bytes l) (hb : IntsAt .u8 w a l) :
    Calls Try.prog 63 #[.slice a l.length cap] w fun e w' => e = .returned (.int .i64 (val l)) ∧ w = w' := by
  have HY := Lib.hid hy
  have HB := Lib.hid hb
  clear hy hb
  go_enter Try.func63, Try.ntmps63
  go_wp2
  go_loopg [3, 8] l.length (fun gg s3 s8 wr => ∃ k : Nat, k + gg = l.length ∧ s8 = .int .i64 k ∧ s3 = .int .i64 (val (l.take k)) ∧ w = wr)
  case atStart => exact ⟨0, by omega, rfl, by rw [List.take_zero]; rfl, rfl⟩
  case round =>
    obtain ⟨k, hkg, rfl, rfl, rfl⟩ := hrel
    by_cases hk : k < l.length
    · rcases HB.out with hnil | ⟨b, off, rfl, hc⟩
      · rw [hnil] at hk; simp at hk
      have hki : (k : Int) < (l.length : Int) := by omega
      have hcx := hc k hk
      have hg := HY.out.getD k
      have HU := Lib.hid (val_next l k hk)
      have hV := val_in HY.out k (by omega) (by omega)
      have hV2 := hV.2.2 (by omega)
      have HO := or_next (val (l.take k)) (l.getD k 0) ⟨hV.1, hV2⟩ hg
      have hV1 := hV.1
      clear hc hV
      generalize val (l.take k) = X at *
      generalize l.getD k 0 = c at *
      go_wp2
      go_roundg (gk - 1)
      case rel => exact ⟨k + 1, by omega, by go_num, by rw [HU.out], rfl⟩
      case measure => omega
    · obtain rfl : k = l.length := by omega
      go_wp2
      go_ret
      exact ⟨ret_int (val_all l), rfl⟩

theorem readFour_any (a : Option Addr) (cap : Nat) (l : List Int) (w : World) (h4 : l.length = 4) (hy : Bytes l) (hb : IntsAt .u8 w a l) :
    Calls Try.prog 65 #[.slice a 4 cap] w fun e w' => e = .returned (.int .i64 (get4v l)) ∧ w = w' := by
  have C := read_any a cap l w (by omega) hy hb
  have hV := val_in hy l.length (Nat.le_refl _) (by omega)
  rw [val_all] at hV
  have HF := Lib.hid (val_four' h4)
  rw [h4] at C
  clear hy hb h4
  have hV1 := hV.1
  have hV2 := hV.2.1
  clear hV
  generalize val l = X at *
  by_cases hx : 2147483647 < X
  · have HD := Lib.hid (show X - 4294967296 = down X by unfold down; rw [if_pos (by omega)])
    have d : decide (2147483647 < X) = true := by simpa using hx
    go_enter Try.func65, Try.ntmps65
    go_wp2_with fail
    refine C.mono ?_; rintro e w1 ⟨rfl, rfl⟩
    go_wp2
    go_ret
    exact ⟨ret_int (HD.out.trans HF.out), rfl⟩
  · have HD := Lib.hid (show X = down X by unfold down; rw [if_neg (by omega)])
    have d : decide (2147483647 < X) = false := by simpa using hx
    go_enter Try.func65, Try.ntmps65
    go_wp2_with fail
    refine C.mono ?_; rintro e w1 ⟨rfl, rfl⟩
    go_wp2
    go_ret
    exact ⟨ret_int (HD.out.trans HF.out), rfl⟩

theorem get2_any (a : Option Addr) (cap : Nat) (l : List Int) (w : World) (_hl : l.length ≤ 9223372036854775807) (hy : Bytes l) (hb : IntsAt .u8 w a l) :
    Calls Try.prog 52 #[.slice a l.length cap] w fun e w' => e = .returned (.tuple #[.int .i64 (get2v l), .bool (get2b l)]) ∧ w = w' := by
  by_cases h : l.length = 2
  · have C := read_any a cap l w (by omega) hy hb
    have HF := Lib.hid (val_two h)
    have HG := Lib.hid ((get2b_iff l).2 h)
    rw [h] at C ⊢
    clear hy hb
    go_enter Try.func52, Try.ntmps52
    go_wp2_with fail
    refine C.mono ?_; rintro e w1 ⟨rfl, rfl⟩
    go_wp2
    go_ret2
    exact ⟨ret_ib HF.out HG.out.symm, rfl⟩
  · have HF := Lib.hid (get2v_no h)
    have HG := Lib.hid (show get2b l = false by cases e : get2b l; rfl; exact absurd ((get2b_iff l).1 e) h)
    have d : ((l.length : Int) != 2) = true := by simp; omega
    have d2 : ((l.length : Int) == 2) = false := by simp; omega
    clear hy hb
    go_enter Try.func52, Try.ntmps52
    go_wp2
    go_ret2
    exact ⟨ret_ib HF.out.symm HG.out.symm, rfl⟩
end Wd
end Go.Proofs.Ytpamegkbhdbheaa

namespace Go.Proofs.Ytpamegkbhdbheaa
set_option maxRecDepth 100000
open Go.ChangeShapes Go.WideShapes Go.ChangeAt Go.RowKit Go.Deep
namespace Fm
open Wd
open Cr (Bytes)

theorem nine (l : List Int) (h : l.length = 9) : ∃ s v0 v1 v2 v3 v4 v5 v6 v7, l = [s, v0, v1, v2, v3, v4, v5, v6, v7] := by
  match l, h with
  | [s, v0, v1, v2, v3, v4, v5, v6, v7], _ => exact ⟨s, v0, v1, v2, v3, v4, v5, v6, v7, rfl⟩
theorem eight (l : List Int) (h : l.length = 8) : ∃ v0 v1 v2 v3 v4 v5 v6 v7, l = [v0, v1, v2, v3, v4, v5, v6, v7] := by
  match l, h with
  | [v0, v1, v2, v3, v4, v5, v6, v7], _ => exact ⟨v0, v1, v2, v3, v4, v5, v6, v7, rfl⟩
theorem lt8 {k : Nat} (h : k < 8) : k = 0 ∨ k = 1 ∨ k = 2 ∨ k = 3 ∨ k = 4 ∨ k = 5 ∨ k = 6 ∨ k = 7 := by omega
/-- An element of an array of eight numbers, by value. -/
theorem at8 (v0 v1 v2 v3 v4 v5 v6 v7 : Int) (k : Nat) (h : k < 8) (w : World) : (Instr.index 50 (.agg #[.int .i64 v0, .int .i64 v1, .int .i64 v2, .int .i64 v3, .int .i64 v4, .int .i64 v5, .int .i64 v6, .int .i64 v7]) (.int .i64 k)).run Try.prog w = .ok (.int .i64 ([v0, v1, v2, v3, v4, v5, v6, v7].getD k 0)) w := by
  rcases lt8 h with rfl | rfl | rfl | rfl | rfl | rfl | rfl | rfl <;> kernel_rfl
theorem right_seq {s : Int} (vs : List Int) (h : ¬ (0 ≤ s ∧ s ≤ 65535)) : right s vs = false := by
  cases e : right s vs
  · rfl
  · exact absurd ((in2_iff s).1 ((right_iff s vs).1 e).2) h
theorem right_val {s : Int} {vs : List Int} (k : Nat) (hk : k < vs.length) (h : in4 (vs.getD k 0) = false) : right s vs = false := by
  cases e : right s vs
  · rfl
  · have := List.all_eq_true.1 ((right_iff s vs).1 e).1 (vs[k]) (List.getElem_mem _)
    rw [List.getD_eq_getElem?_getD, List.getElem?_eq_getElem hk] at h
    simp at h this
    rw [h] at this; cases this
theorem all_next {vs : List Int} (k : Nat) (hk : k < vs.length) (h : (vs.take k).all in4 = true) (h1 : in4 (vs.getD k 0) = true) : (vs.take (k + 1)).all in4 = true := by
  rw [List.take_add_one, List.all_append, h]
  rw [List.getD_eq_getElem?_getD] at h1
  rw [List.getElem?_eq_getElem hk] at h1 ⊢
  simpa using h1

set_option maxHeartbeats 800000 in
theorem right_any (s v0 v1 v2 v3 v4 v5 v6 v7 : Int) (w : World) :
    Calls Try.prog 56 #[.agg #[.int .i64 s, .int .i64 v0, .int .i64 v1, .int .i64 v2, .int .i64 v3, .int .i64 v4, .int .i64 v5, .int .i64 v6, .int .i64 v7]] w fun e w' => e = .returned (.bool (right s [v0, v1, v2, v3, v4, v5, v6, v7])) ∧ Below w.heap.size w w' := by
  have BA := Lib.hid ((Below.refl w.heap.size w).alloc (Nat.le_refl _) (.cells #[.int .i64 s, .int .i64 v0, .int .i64 v1, .int .i64 v2, .int .i64 v3, .int .i64 v4, .int .i64 v5, .int .i64 v6, .int .i64 v7] 52))
  by_cases h1 : 0 ≤ s
  · by_cases h2 : s ≤ 65535
    · have IX := at8 v0 v1 v2 v3 v4 v5 v6 v7
      have d1 : decide (s < 0) = false := by simp; omega
      have d2 : decide (65536 ≤ s) = false := by simp; omega
      have H2 := Lib.hid ((in2_iff s).2 ⟨h1, h2⟩)
      go_enter Try.func56, Try.ntmps56
      go_wp2
      go_loopg [15] 8 (fun gg s15 wr => ∃ k : Nat, k + gg = 8 ∧ s15 = .int .i64 k ∧ Hid (([v0, v1, v2, v3, v4, v5, v6, v7].take k).all in4 = true) ∧ Hid (Below w.heap.size w wr))
      case atStart => exact ⟨0, by omega, rfl, Lib.hid rfl, BA⟩
      case round =>
        obtain ⟨k, hkg, rfl, HA, HB⟩ := hrel
        by_cases hk : k < 8
        · have hx := fun W => IX k hk W
          have hki : (k : Int) < 8 := by omega
          have HN := Lib.hid (fun h1 => all_next (vs := [v0, v1, v2, v3, v4, v5, v6, v7]) k (by simpa using hk) HA.out h1)
          have HV := Lib.hid (fun h1 => right_val (s := s) (vs := [v0, v1, v2, v3, v4, v5, v6, v7]) k (by simpa using hk) h1)
          clear IX
          generalize [v0, v1, v2, v3, v4, v5, v6, v7].getD k 0 = c at *
          by_cases c1 : -2147483648 ≤ c
          · by_cases c2 : c ≤ 2147483647
            · have e1 : decide (c < -2147483648) = false := by simp; omega
              have e2 : decide (2147483647 < c) = false := by simp; omega
              have H4 := Lib.hid ((in4_iff c).2 ⟨c1, c2⟩)
              go_wp2
              go_roundg (gk - 1)
              case rel => exact ⟨k + 1, by omega, by go_num, Lib.hid (HN.out H4.out), HB⟩
              case measure => omega
            · have e1 : decide (c < -2147483648) = false := by simp; omega
              have e2 : decide (2147483647 < c) = true := by simp; omega
              have H4 := Lib.hid (in4_no (n := c) (by omega))
              go_wp2
              go_ret
              exact ⟨ret_bool (HV.out H4.out).symm, HB.out⟩
          · have e1 : decide (c < -2147483648) = true := by simp; omega
            have H4 := Lib.hid (in4_no (n := c) (by omega))
            go_wp2
            go_ret
            exact ⟨ret_bool (HV.out H4.out).symm, HB.out⟩
        · obtain rfl : k = 8 := by omega
          go_wp2
          go_ret
          exact ⟨ret_bool ((right_iff s [v0, v1, v2, v3, v4, v5, v6, v7]).2 ⟨HA.out, H2.out⟩).symm, HB.out⟩
    · have d1 : decide (s < 0) = false := by simp; omega
      have d2 : decide (65536 ≤ s) = true := by simp; omega
      have HF := Lib.hid (right_seq (s := s) [v0, v1, v2, v3, v4, v5, v6, v7] (by omega))
      go_enter Try.func56, Try.ntmps56
      go_wp2
      go_ret
      exact ⟨ret_bool HF.out.symm, BA.out⟩
  · have d1 : decide (s < 0) = true := by simp; omega
    have HF := Lib.hid (right_seq (s := s) [v0, v1, v2, v3, v4, v5, v6, v7] (by omega))
    go_enter Try.func56, Try.ntmps56
    go_wp2
    go_ret
    exact ⟨ret_bool HF.out.symm, BA.out⟩
end Fm
end Go.Proofs.Ytpamegkbhdbheaa
