/-
  What Come of package jump does: its contract by walking the Go text. Conditions: where the watch lies; that a value that came may be one.
-/
import Derived.Test.YtpoededbmdffpaaGreatDoorJumpWalks
import Derived.Test.YtpoededbmdffpaaGreatDoorTail
namespace Go.Proofs.YtpoededbmdffpaaGreatDoor
set_option maxRecDepth 100000
open Go.ChangeShapes Go.WideShapes Go.ChangeAt Go.RowKit Go.Deep
namespace Jp
open Fx (ret_bool)
/-- What the closure leaves, named. -/
theorem tell_to (g : Nat) (s t x : Int) (b : Bool) (w : World) (hs : 0 ≤ s ∧ s ≤ 1000) (ht : 0 ≤ t ∧ t ≤ 1000) (hx : (s + if b = true then t else 0) = x) (hg : IRow .i64 w g 3 [s]) :
    Calls Tryz.prog 194 #[.int .i64 t, .bool b, .pointer (some ⟨g, 0, none⟩)] w fun e w' => e = .returned (.tuple #[]) ∧ IRow .i64 w' g 3 [x] ∧ Below g w w' := hx ▸ tell_any g s t b w hs ht hg
/-- Behind both stores into the watch. -/
theorem come_end {w w2 : World} {g : Nat} {lo hi step last : Int} {has : Bool} (n : Int) (T : VRow w2 g 266 (wat lo hi step last has)) (b : Below w.heap.size w w2) :
    VRow ((w2.setCell ⟨g, 3, none⟩ (.int .i64 n)).setCell ⟨g, 4, none⟩ (.bool true)) g 266 (wat lo hi step n true) ∧ Only g w ((w2.setCell ⟨g, 3, none⟩ (.int .i64 n)).setCell ⟨g, 4, none⟩ (.bool true)) :=
  ⟨(T.set 3 (.int .i64 n)).set 4 (.bool true), ((show But (· = g) w w2 from But.of_below b).setCell (p := ⟨g, 3, none⟩) (Or.inl rfl) _).setCell (p := ⟨g, 4, none⟩) (Or.inl rfl) _⟩
set_option maxHeartbeats 3200000 in
theorem come_yes (g : Nat) (lo hi step last : Int) (has : Bool) (n : Int) (w : World) (hT : VRow w g 266 (wat lo hi step last has)) (hl : has = true → val last = true) (hs : 0 ≤ step) (hn : val n = true) :
    Calls Tryz.prog 159 #[.pointer (some ⟨g, 0, none⟩), .int .i64 n] w fun e w' => e = .returned (.tuple #[.int .i64 (trips lo hi step last has n), .int .i64 0]) ∧ VRow w' g 266 (wat lo hi step n true) ∧ Only g w w' := by
  have V := fun W => value_any n W
  rw [hn] at V
  have T := Lib.hid hT
  have c0 := (hT.alloc (.cells #[.int .i64 0] 3)).cell 0 (v := .int .i64 lo) rfl
  have c1 := (hT.alloc (.cells #[.int .i64 0] 3)).cell 1 (v := .int .i64 hi) rfl
  have R0 := Lib.hid (show IRow .i64 (w.alloc (.cells #[.int .i64 0] 3)) w.heap.size 3 [0] from heap_alloc_new w _)
  have B0 := Lib.hid ((Below.refl w.heap.size w).alloc (Nat.le_refl _) (.cells #[.int .i64 0] 3))
  have ng : w.heap.size ≠ g := by have := hT.lt; omega
  obtain ⟨S, hS⟩ : ∃ S, (if out lo hi n = true then (2 : Int) else 0) = S := ⟨_, rfl⟩
  have hSb : 0 ≤ S ∧ S ≤ 1000 := by rw [← hS]; split <;> decide
  have hF := fun (h : has = true) (hL : val last = true) => far_apart hn hL hs
  have hX : trips lo hi step last has n = S + if far step last has n = true then 4 else 0 := by unfold trips; rw [hS]
  generalize trips lo hi step last has n = x at *
  have CA := fun W => Fx.apart_any n last W
  generalize Fx.apart n last = D at *
  clear hT hn hs
  by_cases d : n < lo
  · cases has
    · have C1 := fun W h => tell_to w.heap.size 0 2 S true W (by omega) (by omega) (by rw [← hS]; unfold out; simp [d]) h
      have C2 := fun W h => tell_to w.heap.size S 4 x false W hSb (by omega) (by rw [hX, far_none]) h
      clear hS hSb hF hX hl
      go_enter Tryz.func159, Tryz.ntmps159
      go_wp2_with (first | (go_at_call 154; (refine (V _).mono ?_; rintro e w' ⟨rfl, rfl⟩)) | (go_at_call 194; refine (C1 _ R0.out).mono ?_; rintro e w1 ⟨rfl, r1, b1⟩))
      have T1 := Lib.hid ((T.out.alloc (.cells #[.int .i64 0] 3)).below b1 T.out.lt)
      have R1 := Lib.hid r1
      have B1 := Lib.hid (B0.out.trans b1)
      have c2 := T1.out.cell 2 (v := .int .i64 step) rfl
      have c3 := T1.out.cell 3 (v := .int .i64 last) rfl
      have c4 := T1.out.cell 4 (v := .bool false) rfl
      clear c0 c1 r1 b1 C1 B0 R0 V
      refine Tail.wp_region_quiet_tail 18 (by kernel_rfl) (by kernel_rfl) ?_
      simp only [List.take_succ_cons, List.take_zero, List.drop_succ_cons, List.drop_zero]
      repeat (first | go_big_quiet_step (fail) | (go_big_quiet_want; go_big_quiet_op; refine ⟨_, (CA _).mono (fun e w' q => ⟨q.1, q.2.symm⟩), ?_⟩; go_big_quiet_on))
      refine wpQuiet_nil ?_
      clear c2 c3 c4 CA
      go_wp2_with (go_at_call 194; refine (C2 _ R1.out.drew).mono ?_; rintro e w2 ⟨rfl, r2, b2⟩; have T2 := Lib.hid (T1.out.drew.below b2 T.out.lt); have B2 := Lib.hid (B1.out.drew.trans b2); have c3 := T2.out.cell 3 (v := .int .i64 last) rfl; have c4 := T2.out.cell 4 (v := .bool false) rfl; have f3 := T2.out.frozen 3; have f4 := T2.out.frozen 4; have z := r2.cell 0 (by simp); rw [show ([x] : List Int).getD 0 0 = x from rfl] at z)
      go_ret2
      exact ⟨rfl, come_end n T2.out B2.out⟩
    · have C1 := fun W h => tell_to w.heap.size 0 2 S true W (by omega) (by omega) (by rw [← hS]; unfold out; simp [d]) h
      have C2 := fun W h => tell_to w.heap.size S 4 x (decide (step < D)) W hSb (by omega) (by rw [hX, hF rfl (hl rfl)]) h
      clear hS hSb hF hX hl
      go_enter Tryz.func159, Tryz.ntmps159
      go_wp2_with (first | (go_at_call 154; (refine (V _).mono ?_; rintro e w' ⟨rfl, rfl⟩)) | (go_at_call 194; refine (C1 _ R0.out).mono ?_; rintro e w1 ⟨rfl, r1, b1⟩))
      have T1 := Lib.hid ((T.out.alloc (.cells #[.int .i64 0] 3)).below b1 T.out.lt)
      have R1 := Lib.hid r1
      have B1 := Lib.hid (B0.out.trans b1)
      have c2 := T1.out.cell 2 (v := .int .i64 step) rfl
      have c3 := T1.out.cell 3 (v := .int .i64 last) rfl
      have c4 := T1.out.cell 4 (v := .bool true) rfl
      clear c0 c1 r1 b1 C1 B0 R0 V
      refine Tail.wp_region_quiet_tail 18 (by kernel_rfl) (by kernel_rfl) ?_
      simp only [List.take_succ_cons, List.take_zero, List.drop_succ_cons, List.drop_zero]
      repeat (first | go_big_quiet_step (fail) | (go_big_quiet_want; go_big_quiet_op; refine ⟨_, (CA _).mono (fun e w' q => ⟨q.1, q.2.symm⟩), ?_⟩; go_big_quiet_on))
      refine wpQuiet_nil ?_
      clear c2 c3 c4 CA
      go_wp2_with (go_at_call 194; refine (C2 _ R1.out.drew).mono ?_; rintro e w2 ⟨rfl, r2, b2⟩; have T2 := Lib.hid (T1.out.drew.below b2 T.out.lt); have B2 := Lib.hid (B1.out.drew.trans b2); have c3 := T2.out.cell 3 (v := .int .i64 last) rfl; have c4 := T2.out.cell 4 (v := .bool true) rfl; have f3 := T2.out.frozen 3; have f4 := T2.out.frozen 4; have z := r2.cell 0 (by simp); rw [show ([x] : List Int).getD 0 0 = x from rfl] at z)
      go_ret2
      exact ⟨rfl, come_end n T2.out B2.out⟩
  · have dd : decide (n < lo) = false := by simpa using d
    cases has
    · have C1 := fun W h => tell_to w.heap.size 0 2 S (decide (hi < n)) W (by omega) (by omega) (by rw [← hS]; unfold out; simp [d]) h
      have C2 := fun W h => tell_to w.heap.size S 4 x false W hSb (by omega) (by rw [hX, far_none]) h
      clear d hS hSb hF hX hl
      go_enter Tryz.func159, Tryz.ntmps159
      go_wp2_with (first | (go_at_call 154; (refine (V _).mono ?_; rintro e w' ⟨rfl, rfl⟩)) | (go_at_call 194; refine (C1 _ R0.out).mono ?_; rintro e w1 ⟨rfl, r1, b1⟩))
      have T1 := Lib.hid ((T.out.alloc (.cells #[.int .i64 0] 3)).below b1 T.out.lt)
      have R1 := Lib.hid r1
      have B1 := Lib.hid (B0.out.trans b1)
      have c2 := T1.out.cell 2 (v := .int .i64 step) rfl
      have c3 := T1.out.cell 3 (v := .int .i64 last) rfl
      have c4 := T1.out.cell 4 (v := .bool false) rfl
      clear c0 c1 r1 b1 C1 B0 R0 V
      refine Tail.wp_region_quiet_tail 18 (by kernel_rfl) (by kernel_rfl) ?_
      simp only [List.take_succ_cons, List.take_zero, List.drop_succ_cons, List.drop_zero]
      repeat (first | go_big_quiet_step (fail) | (go_big_quiet_want; go_big_quiet_op; refine ⟨_, (CA _).mono (fun e w' q => ⟨q.1, q.2.symm⟩), ?_⟩; go_big_quiet_on))
      refine wpQuiet_nil ?_
      clear c2 c3 c4 CA
      go_wp2_with (go_at_call 194; refine (C2 _ R1.out.drew).mono ?_; rintro e w2 ⟨rfl, r2, b2⟩; have T2 := Lib.hid (T1.out.drew.below b2 T.out.lt); have B2 := Lib.hid (B1.out.drew.trans b2); have c3 := T2.out.cell 3 (v := .int .i64 last) rfl; have c4 := T2.out.cell 4 (v := .bool false) rfl; have f3 := T2.out.frozen 3; have f4 := T2.out.frozen 4; have z := r2.cell 0 (by simp); rw [show ([x] : List Int).getD 0 0 = x from rfl] at z)
      go_ret2
      exact ⟨rfl, come_end n T2.out B2.out⟩
    · have C1 := fun W h => tell_to w.heap.size 0 2 S (decide (hi < n)) W (by omega) (by omega) (by rw [← hS]; unfold out; simp [d]) h
      have C2 := fun W h => tell_to w.heap.size S 4 x (decide (step < D)) W hSb (by omega) (by rw [hX, hF rfl (hl rfl)]) h
      clear d hS hSb hF hX hl
      go_enter Tryz.func159, Tryz.ntmps159
      go_wp2_with (first | (go_at_call 154; (refine (V _).mono ?_; rintro e w' ⟨rfl, rfl⟩)) | (go_at_call 194; refine (C1 _ R0.out).mono ?_; rintro e w1 ⟨rfl, r1, b1⟩))
      have T1 := Lib.hid ((T.out.alloc (.cells #[.int .i64 0] 3)).below b1 T.out.lt)
      have R1 := Lib.hid r1
      have B1 := Lib.hid (B0.out.trans b1)
      have c2 := T1.out.cell 2 (v := .int .i64 step) rfl
      have c3 := T1.out.cell 3 (v := .int .i64 last) rfl
      have c4 := T1.out.cell 4 (v := .bool true) rfl
      clear c0 c1 r1 b1 C1 B0 R0 V
      refine Tail.wp_region_quiet_tail 18 (by kernel_rfl) (by kernel_rfl) ?_
      simp only [List.take_succ_cons, List.take_zero, List.drop_succ_cons, List.drop_zero]
      repeat (first | go_big_quiet_step (fail) | (go_big_quiet_want; go_big_quiet_op; refine ⟨_, (CA _).mono (fun e w' q => ⟨q.1, q.2.symm⟩), ?_⟩; go_big_quiet_on))
      refine wpQuiet_nil ?_
      clear c2 c3 c4 CA
      go_wp2_with (go_at_call 194; refine (C2 _ R1.out.drew).mono ?_; rintro e w2 ⟨rfl, r2, b2⟩; have T2 := Lib.hid (T1.out.drew.below b2 T.out.lt); have B2 := Lib.hid (B1.out.drew.trans b2); have c3 := T2.out.cell 3 (v := .int .i64 last) rfl; have c4 := T2.out.cell 4 (v := .bool true) rfl; have f3 := T2.out.frozen 3; have f4 := T2.out.frozen 4; have z := r2.cell 0 (by simp); rw [show ([x] : List Int).getD 0 0 = x from rfl] at z)
      go_ret2
      exact ⟨rfl, come_end n T2.out B2.out⟩
end Jp
end Go.Proofs.YtpoededbmdffpaaGreatDoor
