/-
  What the calls of package jump do: their contracts by walking the Go text. Conditions: where the watch lies; that a value that came may be one.
-/
import Derived.Test.YtpoededbmdffpaaGreatDoorJumpMath
import Derived.Test.YtpoededbmdffpaaGreatDoorFixWalks
import Derived.RegionTactic
import Derived.StillTailTactics
import Derived.BigQuiet
namespace Go.Proofs.YtpoededbmdffpaaGreatDoor
set_option maxRecDepth 100000
open Go.ChangeShapes Go.WideShapes Go.ChangeAt Go.RowKit Go.Deep
namespace Jp
open Fx (ret_bool)
theorem value_any (n : Int) (w : World) :
    Calls Tryz.prog 154 #[.int .i64 n] w fun e w' => e = .returned (.bool (val n)) ∧ w = w' := by
  have HF := Lib.hid (show val n = (decide (-2147483648 ≤ n) && decide (n ≤ 2147483647)) from rfl)
  by_cases h1 : -2147483648 ≤ n
  · rw [show decide (-2147483648 ≤ n) = true by simpa using h1, Bool.true_and] at HF
    go_enter Tryz.func154, Tryz.ntmps154
    go_wp2
    go_ret
    exact ⟨ret_bool HF.out.symm, rfl⟩
  · have d1 : decide (-2147483648 ≤ n) = false := by simpa using h1
    rw [d1, Bool.false_and] at HF
    go_enter Tryz.func154, Tryz.ntmps154
    go_wp2
    go_ret
    exact ⟨ret_bool HF.out.symm, rfl⟩
set_option maxHeartbeats 800000 in
theorem new_yes (lo hi step : Int) (w : World) (h : may lo hi step = true) :
    Calls Tryz.prog 110 #[.int .i64 lo, .int .i64 hi, .int .i64 step] w fun e w' => e = .returned (.tuple #[.pointer (some ⟨w.heap.size, 0, none⟩), .int .i64 0]) ∧ w' = w.alloc (.cells (wat lo hi step 0 false).toArray 266) := by
  obtain ⟨h1, h2, h3, h4, h5⟩ := (may_iff _ _ _).1 h
  have d3 : decide (hi < lo) = false := by simpa using h3
  have d4 : decide (step < 0) = false := by simpa using h4
  have d5 : decide (2147483647 < step) = false := by simpa using h5
  clear h h3 h4 h5
  go_enter Tryz.func110, Tryz.ntmps110
  go_wp2_with (go_at_call 154; refine (value_any _ _).mono ?_; rintro e w' ⟨rfl, rfl⟩)
  go_ret2
  exact ⟨rfl, rfl⟩
theorem tell_any (g : Nat) (s t : Int) (b : Bool) (w : World) (hs : 0 ≤ s ∧ s ≤ 1000) (ht : 0 ≤ t ∧ t ≤ 1000) (hg : IRow .i64 w g 3 [s]) :
    Calls Tryz.prog 194 #[.int .i64 t, .bool b, .pointer (some ⟨g, 0, none⟩)] w fun e w' => e = .returned (.tuple #[]) ∧ IRow .i64 w' g 3 [s + if b = true then t else 0] ∧ Below g w w' := by
  have hcell : w.cell? ⟨g, 0, none⟩ = some (.int .i64 s) := hg.cell 0 (by simp)
  have hfr := hg.frozen 0
  have G := Lib.hid hg
  have d1 : s + t ≤ 9223372036854775807 := by omega
  have d2 : -9223372036854775808 ≤ s + t := by omega
  clear hg
  cases b
  · go_enter Tryz.func194, Tryz.ntmps194
    go_wp2
    go_end0
    exact ⟨rfl, G.out, Below.refl _ _⟩
  · go_enter Tryz.func194, Tryz.ntmps194
    go_wp2
    go_end0
    exact ⟨rfl, G.out.set 0 _, (Below.refl g w).setCell (Nat.le_refl _) _⟩
set_option maxHeartbeats 3200000 in
theorem new_no (lo hi step : Int) (w : World) (h : may lo hi step = false) :
    Calls Tryz.prog 110 #[.int .i64 lo, .int .i64 hi, .int .i64 step] w fun e w' => e = .returned (.tuple #[.pointer none, .int .i64 1]) ∧ w = w' := by
  unfold may at h
  cases h1 : val lo
  · clear h
    go_enter Tryz.func110, Tryz.ntmps110
    go_wp2_with (go_at_call 154; refine (value_any _ _).mono ?_; rintro e w' ⟨rfl, rfl⟩)
    go_ret2
    exact ⟨rfl, rfl⟩
  · cases h2 : val hi
    · clear h
      go_enter Tryz.func110, Tryz.ntmps110
      go_wp2_with (go_at_call 154; refine (value_any _ _).mono ?_; rintro e w' ⟨rfl, rfl⟩)
      go_ret2
      exact ⟨rfl, rfl⟩
    · rw [h1, h2, Bool.true_and, Bool.true_and] at h
      cases d3 : decide (hi < lo)
      · rw [show decide (lo ≤ hi) = true by simpa using d3, Bool.true_and] at h
        cases d4 : decide (step < 0)
        · have d5 : decide (2147483647 < step) = true := by
            rw [show decide (0 ≤ step) = true by simpa using d4, Bool.true_and] at h
            simpa using h
          clear h
          go_enter Tryz.func110, Tryz.ntmps110
          go_wp2_with (go_at_call 154; refine (value_any _ _).mono ?_; rintro e w' ⟨rfl, rfl⟩)
          go_ret2
          exact ⟨rfl, rfl⟩
        · clear h
          go_enter Tryz.func110, Tryz.ntmps110
          go_wp2_with (go_at_call 154; refine (value_any _ _).mono ?_; rintro e w' ⟨rfl, rfl⟩)
          go_ret2
          exact ⟨rfl, rfl⟩
      · clear h
        go_enter Tryz.func110, Tryz.ntmps110
        go_wp2_with (go_at_call 154; refine (value_any _ _).mono ?_; rintro e w' ⟨rfl, rfl⟩)
        go_ret2
        exact ⟨rfl, rfl⟩
theorem miss_any (g : Nat) (lo hi step last : Int) (has : Bool) (w : World) (hT : VRow w g 266 (wat lo hi step last has)) :
    Calls Tryz.prog 192 #[.pointer (some ⟨g, 0, none⟩)] w fun e w' => e = .returned (.tuple #[]) ∧ VRow w' g 266 (wat lo hi step 0 false) ∧ Only g w w' := by
  have T := Lib.hid hT
  have c3 := hT.cell 3 (v := .int .i64 last) rfl
  have c4 := hT.cell 4 (v := .bool has) rfl
  have f3 := hT.frozen 3
  have f4 := hT.frozen 4
  clear hT
  go_enter Tryz.func192, Tryz.ntmps192
  go_wp2
  go_end0
  exact ⟨rfl, (T.out.set 3 (.int .i64 0)).set 4 (.bool false), ((But.refl (· = g) w).setCell (p := ⟨g, 3, none⟩) (Or.inl rfl) _).setCell (p := ⟨g, 4, none⟩) (Or.inl rfl) _⟩
end Jp
end Go.Proofs.YtpoededbmdffpaaGreatDoor
