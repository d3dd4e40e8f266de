/-
  What Right of package frame does: its contract by walking the Go text. No conditions.
-/
import Derived.Test.YtpoededbmdffpaaGreatDoorFrameMath
import Derived.Test.YtpoededbmdffpaaGreatDoorWordStep
namespace Go.Proofs.YtpoededbmdffpaaGreatDoor
set_option maxRecDepth 100000
open Go.ChangeShapes Go.WideShapes Go.ChangeAt Go.RowKit Go.Deep
namespace Fm
open Wd
open Cr (Bytes)
theorem nine (l : List Int) (h : l.length = 9) : ∃ s v0 v1 v2 v3 v4 v5 v6 v7, l = [s, v0, v1, v2, v3, v4, v5, v6, v7] := by
  match l, h with
  | [s, v0, v1, v2, v3, v4, v5, v6, v7], _ => exact ⟨s, v0, v1, v2, v3, v4, v5, v6, v7, rfl⟩
theorem eight (l : List Int) (h : l.length = 8) : ∃ v0 v1 v2 v3 v4 v5 v6 v7, l = [v0, v1, v2, v3, v4, v5, v6, v7] := by
  match l, h with
  | [v0, v1, v2, v3, v4, v5, v6, v7], _ => exact ⟨v0, v1, v2, v3, v4, v5, v6, v7, rfl⟩
theorem lt8 {k : Nat} (h : k < 8) : k = 0 ∨ k = 1 ∨ k = 2 ∨ k = 3 ∨ k = 4 ∨ k = 5 ∨ k = 6 ∨ k = 7 := by omega
/-- An element of an array of eight numbers, by value. -/
theorem at8 (v0 v1 v2 v3 v4 v5 v6 v7 : Int) (k : Nat) (h : k < 8) (w : World) : (Instr.index 35 (.agg #[.int .i64 v0, .int .i64 v1, .int .i64 v2, .int .i64 v3, .int .i64 v4, .int .i64 v5, .int .i64 v6, .int .i64 v7]) (.int .i64 k)).run Tryz.prog w = .ok (.int .i64 ([v0, v1, v2, v3, v4, v5, v6, v7].getD k 0)) w := by
  rcases lt8 h with rfl | rfl | rfl | rfl | rfl | rfl | rfl | rfl <;> kernel_rfl
theorem right_seq {s : Int} (vs : List Int) (h : ¬ (0 ≤ s ∧ s ≤ 65535)) : right s vs = false := by
  cases e : right s vs
  · rfl
  · exact absurd ((in2_iff s).1 ((right_iff s vs).1 e).2) h
theorem right_val {s : Int} {vs : List Int} (k : Nat) (hk : k < vs.length) (h : in4 (vs.getD k 0) = false) : right s vs = false := by
  cases e : right s vs
  · rfl
  · have := List.all_eq_true.1 ((right_iff s vs).1 e).1 (vs[k]) (List.getElem_mem _)
    rw [List.getD_eq_getElem?_getD, List.getElem?_eq_getElem hk] at h
    simp at h this
    rw [h] at this; cases this
theorem all_next {vs : List Int} (k : Nat) (hk : k < vs.length) (h : (vs.take k).all in4 = true) (h1 : in4 (vs.getD k 0) = true) : (vs.take (k + 1)).all in4 = true := by
  rw [List.take_add_one, List.all_append, h]
  rw [List.getD_eq_getElem?_getD] at h1
  rw [List.getElem?_eq_getElem hk] at h1 ⊢
  simpa using h1
set_option maxHeartbeats 800000 in
theorem right_any (s v0 v1 v2 v3 v4 v5 v6 v7 : Int) (w : World) :
    Calls Tryz.prog 109 #[.agg #[.int .i64 s, .int .i64 v0, .int .i64 v1, .int .i64 v2, .int .i64 v3, .int .i64 v4, .int .i64 v5, .int .i64 v6, .int .i64 v7]] w fun e w' => e = .returned (.bool (right s [v0, v1, v2, v3, v4, v5, v6, v7])) ∧ Below w.heap.size w w' := by
  have BA := Lib.hid ((Below.refl w.heap.size w).alloc (Nat.le_refl _) (.cells #[.int .i64 s, .int .i64 v0, .int .i64 v1, .int .i64 v2, .int .i64 v3, .int .i64 v4, .int .i64 v5, .int .i64 v6, .int .i64 v7] 123))
  by_cases h1 : 0 ≤ s
  · by_cases h2 : s ≤ 65535
    · have IX := at8 v0 v1 v2 v3 v4 v5 v6 v7
      have d1 : decide (s < 0) = false := by simp; omega
      have d2 : decide (65536 ≤ s) = false := by simp; omega
      have H2 := Lib.hid ((in2_iff s).2 ⟨h1, h2⟩)
      go_enter Tryz.func109, Tryz.ntmps109
      go_wp2
      go_loopg [15] 8 (fun gg s15 wr => ∃ k : Nat, k + gg = 8 ∧ s15 = .int .i64 k ∧ Hid (([v0, v1, v2, v3, v4, v5, v6, v7].take k).all in4 = true) ∧ Hid (Below w.heap.size w wr))
      case atStart => exact ⟨0, by omega, rfl, Lib.hid rfl, BA⟩
      case round =>
        obtain ⟨k, hkg, rfl, HA, HB⟩ := hrel
        by_cases hk : k < 8
        · have hx := fun W => IX k hk W
          have hki : (k : Int) < 8 := by omega
          have HN := Lib.hid (fun h1 => all_next (vs := [v0, v1, v2, v3, v4, v5, v6, v7]) k (by simpa using hk) HA.out h1)
          have HV := Lib.hid (fun h1 => right_val (s := s) (vs := [v0, v1, v2, v3, v4, v5, v6, v7]) k (by simpa using hk) h1)
          clear IX
          generalize [v0, v1, v2, v3, v4, v5, v6, v7].getD k 0 = c at *
          by_cases c1 : -2147483648 ≤ c
          · by_cases c2 : c ≤ 2147483647
            · have e1 : decide (c < -2147483648) = false := by simp; omega
              have e2 : decide (2147483647 < c) = false := by simp; omega
              have H4 := Lib.hid ((in4_iff c).2 ⟨c1, c2⟩)
              go_wp2
              go_roundg (gk - 1)
              case rel => exact ⟨k + 1, by omega, by go_num, Lib.hid (HN.out H4.out), HB⟩
              case measure => omega
            · have e1 : decide (c < -2147483648) = false := by simp; omega
              have e2 : decide (2147483647 < c) = true := by simp; omega
              have H4 := Lib.hid (in4_no (n := c) (by omega))
              go_wp2
              go_ret
              exact ⟨ret_bool (HV.out H4.out).symm, HB.out⟩
          · have e1 : decide (c < -2147483648) = true := by simp; omega
            have H4 := Lib.hid (in4_no (n := c) (by omega))
            go_wp2
            go_ret
            exact ⟨ret_bool (HV.out H4.out).symm, HB.out⟩
        · obtain rfl : k = 8 := by omega
          go_wp2
          go_ret
          exact ⟨ret_bool ((right_iff s [v0, v1, v2, v3, v4, v5, v6, v7]).2 ⟨HA.out, H2.out⟩).symm, HB.out⟩
    · have d1 : decide (s < 0) = false := by simp; omega
      have d2 : decide (65536 ≤ s) = true := by simp; omega
      have HF := Lib.hid (right_seq (s := s) [v0, v1, v2, v3, v4, v5, v6, v7] (by omega))
      go_enter Tryz.func109, Tryz.ntmps109
      go_wp2
      go_ret
      exact ⟨ret_bool HF.out.symm, BA.out⟩
  · have d1 : decide (s < 0) = true := by simp; omega
    have HF := Lib.hid (right_seq (s := s) [v0, v1, v2, v3, v4, v5, v6, v7] (by omega))
    go_enter Tryz.func109, Tryz.ntmps109
    go_wp2
    go_ret
    exact ⟨ret_bool HF.out.symm, BA.out⟩
end Fm
end Go.Proofs.YtpoededbmdffpaaGreatDoor
